/-
  BitmapTells, walked.
-/
import Derived.Test.YtlpniacffahnkabDoorBitTells
namespace Go.Proofs.YtlpniacffahnkabDoor
open Go.RowKit
set_option linter.unusedVariables false

theorem op_cells {w : World} {A : Option Addr} {len cap : Nat} {rows : List (List Value)} (h : RowOf [some .u8, some .i64] w A len cap rows) {j : Nat} (hj : j < len) :
    ∃ (a : Addr) (kd : Nat) (ni : Int), A = some a ∧ kd < 256 ∧ (-9223372036854775808 ≤ ni ∧ ni ≤ 9223372036854775807) ∧ ∀ W, Below w.heap.size w W →
      W.cell? (a.add (j * 2)) = some (.int .u8 (kd : Int)) ∧ W.cell? ⟨(a.add (j * 2)).block, (a.add (j * 2)).off + 1, none⟩ = some (.int .i64 ni) := by
  obtain ⟨h1, _, h3⟩ := h
  obtain ⟨hf, a, rfl, hc⟩ := h3 j (by omega)
  obtain ⟨x, y, e⟩ : ∃ x y, rows[j] = [x, y] := by
    have := hf.length
    match hr : rows[j], this with
    | [x, y], _ => exact ⟨x, y, rfl⟩
  rw [e] at hf hc
  obtain ⟨⟨n0, rfl, w0⟩, ⟨n1, rfl, w1⟩, _⟩ := hf
  obtain ⟨kd, rfl, hkd⟩ := nat_u8 w0
  have c0 := hc 0 _ rfl
  have c1 := hc 1 _ rfl
  refine ⟨a, kd, n1, rfl, hkd, ?_, fun W b => ⟨?_, ?_⟩⟩
  · simp [Lit.wf, IntKind.min, IntKind.max, IntKind.signed, IntKind.bits] at w1
    omega
  · exact (b.cell (World.block_lt_of_cell? w _ c0)).trans c0
  · have e1 : a.add (j * 2 + 1) = ⟨(a.add (j * 2)).block, (a.add (j * 2)).off + 1, none⟩ := add_at a (j * 2) 0
    rw [← e1]
    exact (b.cell (World.block_lt_of_cell? w _ c1)).trans c1

theorem turns_true {n : Nat} {m : Nat → Bool} {i : Int} : turnsB n m i true = newB ⟨n, m⟩ i := by
  show (decide (0 ≤ i) && decide (i < n) && (m i.toNat != true)) = (decide (0 ≤ i) && decide (i < n) && !m i.toNat)
  cases m i.toNat <;> rfl
theorem turns_false {n : Nat} {m : Nat → Bool} {i : Int} : turnsB n m i false = hasB ⟨n, m⟩ i := by
  show (decide (0 ≤ i) && decide (i < n) && (m i.toNat != false)) = (decide (0 ≤ i) && decide (i < n) && m i.toNat)
  cases m i.toNat <;> rfl
set_option maxHeartbeats 4000000 in
set_option maxRecDepth 100000 in
theorem tells_none (n : Int) (a1 : Option Addr) (len1 cap1 : Nat) (w : World) (hT : Tab w) (hn : n < 1 ∨ 65536 < n) :
    Calls Tryd.prog 3 #[.int .i64 n, .slice a1 len1 cap1] w fun e w' => e = .returned (.bool true) ∧ Below w.heap.size w w' := by
  have HT := Lib.hid hT
  have K1 := Lib.hid (bit_new_no n hn w)
  have fin : ∀ W1, Below w.heap.size w W1 → Hid (∀ o, Calls Tryd.prog 11 #[] (W1.alloc o) fun e w' => e = .returned (.bool true) ∧ Below w.heap.size w w') := fun W1 b => Lib.hid fun o => by
    have b1 := below_tr b ((Below.refl _ W1).alloc (Nat.le_refl _) o)
    refine (awake8 _ (hT.below b1)).mono ?_
    rintro e w2 ⟨rfl, b2⟩
    exact ⟨rfl, below_tr b1 b2⟩
  have HF := Lib.hid fin
  clear fin hT
  by_cases h1 : n < 1
  · have h2 : ¬ (65537 : Int) < n := by omega
    have K2 := Lib.hid (ref_new_no n (.inl h1) w)
    clear hn h1
    go_enter Tryd.func3, Tryd.ntmps3
    go_wp2_with fail
    refine K1.out.mono ?_
    rintro e W0 ⟨rfl, rfl⟩
    go_wp2_with fail
    refine K2.out.mono ?_
    rintro e W1 ⟨rfl, b1⟩
    have HF1 := HF.out W1 b1
    clear b1 K1 K2
    go_wp2_with fail
    refine (HF1.out _).mono ?_
    rintro e W2 ⟨rfl, b2⟩
    go_wp2_with fail
    go_ret
    exact ⟨rfl, b2⟩
  · by_cases h2 : (65537 : Int) < n
    · have K2 := Lib.hid (ref_new_no 65537 (.inr (by decide)) w)
      clear hn h1
      go_enter Tryd.func3, Tryd.ntmps3
      go_wp2_with fail
      refine K1.out.mono ?_
      rintro e W0 ⟨rfl, rfl⟩
      go_wp2_with fail
      refine K2.out.mono ?_
      rintro e W1 ⟨rfl, b1⟩
      have HF1 := HF.out W1 b1
      clear b1 K1 K2
      go_wp2_with fail
      refine (HF1.out _).mono ?_
      rintro e W2 ⟨rfl, b2⟩
      go_wp2_with fail
      go_ret
      exact ⟨rfl, b2⟩
    · have K2 := Lib.hid (ref_new_no n hn w)
      clear hn h1
      go_enter Tryd.func3, Tryd.ntmps3
      go_wp2_with fail
      refine K1.out.mono ?_
      rintro e W0 ⟨rfl, rfl⟩
      go_wp2_with fail
      refine K2.out.mono ?_
      rintro e W1 ⟨rfl, b1⟩
      have HF1 := HF.out W1 b1
      clear b1 K1 K2
      go_wp2_with fail
      refine (HF1.out _).mono ?_
      rintro e W2 ⟨rfl, b2⟩
      go_wp2_with fail
      go_ret
      exact ⟨rfl, b2⟩

set_option maxHeartbeats 16000000 in
set_option maxRecDepth 100000 in
theorem tells_some (n : Nat) (a1 : Option Addr) (len1 cap1 : Nat) (z1 : List (List Value)) (w : World) (w1 : RowOf [some .u8, some .i64] w a1 len1 cap1 z1) (hT : Tab w) (hn1 : 1 ≤ n) (hn2 : n ≤ 65536) :
    Calls Tryd.prog 3 #[.int .i64 (n : Int), .slice a1 len1 cap1] w fun e w' => e = .returned (.bool true) ∧ Below w.heap.size w w' := by
  have HT := Lib.hid hT
  have HRow := Lib.hid w1
  obtain ⟨hlc, hcm⟩ := row_fit w1
  have K1 := Lib.hid (c_new n hn1 hn2 w)
  have h2 : ¬ (65537 : Int) < (n : Int) := by omega
  clear hT w1
  go_enter Tryd.func3, Tryd.ntmps3
  go_wp2_with fail
  refine K1.out.mono ?_
  rintro e W0 ⟨a, N, rfl, k1, k2, k3⟩
  have K2 := Lib.hid (ref_new n hn1 hn2 W0)
  have HK := Lib.hid (And.intro k1 (And.intro k2 k3))
  clear k1 k2 k3 K1
  go_upto_region 3 with (go_at_call 10; refine K2.out.mono ?_; rintro e W1 ⟨b, c, rfl, r1, b1⟩)
  have HS : Hid (TStN N w (W1.alloc (.cells #[.slice (some ⟨b, 0, none⟩) n c] 29)) a n W1.heap.size b c (fun _ => false) (fun _ => false)) := by
    obtain ⟨k1, k2, k3⟩ := HK.out
    have b2 := (Below.refl _ W1).alloc (Nat.le_refl _) (.cells #[.slice (some ⟨b, 0, none⟩) n c] 29)
    have b3 := below_tr b1 b2
    have hb := (r1.own.lt b rfl).1
    refine Lib.hid ⟨k1.below b3, k2, below_tr k3 b3, Box.new W1 _ _, fun hN => ?_, Nat.le_trans k3.size b1.size, ⟨own_low (r1.below b2).own k3.size, hn1, hn2⟩, fun hN => ?_⟩
    · have := k1.lt _ hN
      have := b1.size
      omega
    · have := k1.lt _ hN
      omega
  clear r1 b1 K2 HK
  obtain ⟨W2, HW2⟩ : ∃ W2, Hid (W1.alloc (.cells #[.slice (some ⟨b, 0, none⟩) n c] 29) = W2) := ⟨_, Lib.hid rfl⟩
  obtain ⟨B, HBd⟩ : ∃ B, Hid (W1.heap.size = B) := ⟨_, Lib.hid rfl⟩
  rw [HW2.out, HBd.out] at HS
  rw [HW2.out, HBd.out]
  clear HW2 HBd
  have KA := Lib.hid (fun W (lo : Below w.heap.size w W) => awake8 W (HT.out.below lo))
  by_cases hbig : 9000 < n
  · have hb' : (9000 : Int) < (n : Int) := by omega
    have K3 := Lib.hid (KA.out _ HS.out.lo)
    go_wp2_with fail
    refine K3.out.mono ?_
    rintro e W3 ⟨rfl, b3⟩
    go_wp2_with fail
    go_ret
    exact ⟨rfl, below_tr HS.out.lo b3⟩
  have hb' : ¬ (9000 : Int) < (n : Int) := by omega
  by_cases hl40 : 40 < len1
  · have hl' : (40 : Int) < (len1 : Int) := by omega
    have K3 := Lib.hid (KA.out _ HS.out.lo)
    go_wp2_with fail
    refine K3.out.mono ?_
    rintro e W3 ⟨rfl, b3⟩
    go_wp2_with fail
    go_ret
    exact ⟨rfl, below_tr HS.out.lo b3⟩
  have hl' : ¬ (40 : Int) < (len1 : Int) := by omega
  go_upto_region 8 with fail
  clear hbig hb' hl' h2
  go_loopg [64] len1 (fun s v64 wx => ∃ (j b c : Nat) (m : Nat → Bool), len1 - j = s ∧ j ≤ len1 ∧ v64 = .int .i64 (j : Int) ∧ Hid (TStN N w wx a n B b c m m))
  case atStart => exact ⟨0, b, c, _, rfl, by omega, rfl, HS⟩
  case round =>
    clear HS
    obtain ⟨j, b, c, m, rfl, hj, rfl, HS⟩ := hrel
    by_cases hjl : j = len1
    · have hz : ¬ (j : Int) < (len1 : Int) := by omega
      have d0 := HS.out.box.cell 0
      have K3 := Lib.hid (ref_all HS.out.ref)
      obtain ⟨l, HLl⟩ : ∃ l, Hid (markL n m = l) := ⟨_, Lib.hid rfl⟩
      have hle : l.length ≤ 65536 := by rw [← HLl.out]; exact Nat.le_trans (markL_le _ _) hn2
      rw [HLl.out] at K3
      go_wp2_with fail
      refine K3.out.mono ?_
      rintro e W3 ⟨p3, c3, rfl, r3, b3⟩
      have H3 := Lib.hid (HS.out.below b3)
      have HR3 := Lib.hid r3
      have K4 := Lib.hid (H3.out.bst.all HT.out)
      rw [show Bg.l ⟨n, m⟩ = l from HLl.out] at K4
      clear r3 b3 K3 d0 HS
      go_wp2_with fail
      refine K4.out.mono ?_
      rintro e W4 ⟨p4, c4, rfl, r4, b4⟩
      have H4 := Lib.hid (H3.out.below b4)
      have K5 := Lib.hid (law_ints p4 p3 c4 c3 _ _ l l W4 hle hle r4 (owns_below HR3.out b4))
      clear r4 b4 K4 H3 HR3
      go_wp2_with fail
      refine K5.out.mono ?_
      rintro e W5 ⟨rfl, b5⟩
      have H5 := Lib.hid (H4.out.below b5)
      have K6 := Lib.hid H5.out.bst.len
      rw [show Bg.l ⟨n, m⟩ = l from HLl.out] at K6
      simp only [decide_true]
      clear b5 K5 H4
      go_wp2_with fail
      refine K6.out.mono ?_
      rintro e W6 ⟨rfl, rfl⟩
      have K7 := Lib.hid (KA.out _ H5.out.lo)
      clear K6
      go_wp2_with fail
      refine K7.out.mono ?_
      rintro e W7 ⟨rfl, b7⟩
      go_wp2_with fail
      go_ret
      exact ⟨rfl, below_tr H5.out.lo b7⟩
    · have hz : (j : Int) < (len1 : Int) := by omega
      obtain ⟨ad, kd, ni, rfl, hkd, ⟨hi1, hi2⟩, HO⟩ := op_cells HRow.out (j := j) (by omega)
      obtain ⟨o0, o1⟩ := HO wr HS.out.lo
      clear HO hjl
      have bO := (Below.refl _ wr).alloc (Nat.le_refl _) (.cells #[.int .u8 (kd : Int), .int .i64 ni] 34)
      have HSO := Lib.hid (HS.out.below bO)
      have XO := Lib.hid (Box.new wr 34 #[.int .u8 (kd : Int), .int .i64 ni])
      have hNO : ¬ N wr.heap.size := fun hN => Nat.lt_irrefl _ (HS.out.at_.lt _ hN)
      clear bO HS
      go_upto_region 10 with fail
      clear o0 o1
      obtain ⟨WO, HWO⟩ : ∃ WO, Hid (wr.alloc (.cells #[.int .u8 (kd : Int), .int .i64 ni] 34) = WO) := ⟨_, Lib.hid rfl⟩
      obtain ⟨O, HOd⟩ : ∃ O, Hid (wr.heap.size = O) := ⟨_, Lib.hid rfl⟩
      rw [HWO.out, HOd.out] at XO
      rw [HOd.out] at hNO
      rw [HWO.out] at HSO
      rw [HWO.out, HOd.out]
      clear HWO HOd
      have o0 := XO.out.cell 0
      have o1 := XO.out.cell 1
      have d0 := HSO.out.box.cell 0
      have hm := HSO.out.at_.in_
      replace hm : ∀ q, m q = true → q < n := hm
      have hTO := HT.out.below HSO.out.lo
      by_cases k1 : kd = 1
      · skip
        subst k1
        cases ht : turnsB n m ni true with
        | true =>
          obtain ⟨p, rfl⟩ : ∃ p : Nat, ni = (p : Int) := ⟨ni.toNat, by simp [turnsB] at ht; omega⟩
          have hp : p < n := by simp [turnsB] at ht; omega
          have hmp : m p = false := by
            simp [turnsB, hp] at ht
            exact ht
          have K3 := Lib.hid (ref_with HSO.out.ref p true hp (by rw [hmp]; decide))
          clear ht
          go_wp2_with fail
          refine K3.out.mono ?_
          rintro e W3 ⟨b', c', rfl, r3, b3⟩
          have ba := (Below.refl _ W3).alloc (Nat.le_refl _) (.cells #[.slice (some ⟨b', 0, none⟩) n c'] 29)
          have b4 := below_tr b3 ba
          have H4 := Lib.hid (HSO.out.put b3 r3 (.cells #[.slice (some ⟨b', 0, none⟩) n c'] 29))
          have xs := Box.new W3 29 #[.slice (some ⟨b', 0, none⟩) n c']
          have s0 := xs.cell 0
          have xB := HSO.out.box.below b4 HSO.out.box.lt
          have q0 := xB.cell 0
          have qf := xB.frozen 0
          have xO := (XO.out.below b4 XO.out.lt).other (c := B) (i := 0) (XO.out.ne HSO.out.box (by decide)) (.slice (some ⟨b', 0, none⟩) n c')
          clear r3 b3 ba b4 K3 o0 o1 d0 HSO XO
          obtain ⟨W4, HW4⟩ : ∃ W4, Hid (W3.alloc (.cells #[.slice (some ⟨b', 0, none⟩) n c'] 29) = W4) := ⟨_, Lib.hid rfl⟩
          go_upto_region 14 with fail
          rw [HW4.out] at H4 s0 xB q0 qf xO ⊢
          clear xs HW4 xB
          go_upto_region 15 with fail
          obtain ⟨W5, HW5⟩ : ∃ W5, Hid (W4.setCell ⟨B, 0, none⟩ (.slice (some ⟨b', 0, none⟩) n c') = W5) := ⟨_, Lib.hid rfl⟩
          rw [HW5.out] at H4 xO ⊢
          clear HW5 s0 q0 qf
          have o0 := xO.cell 0
          have o1 := xO.cell 1
          have K4 := Lib.hid (H4.out.set_yes hp hmp)
          clear xO H4 hmp
          go_wp2_with fail
          refine K4.out.mono ?_
          rintro e W6 ⟨rfl, h6⟩
          have H6 := Lib.hid h6
          clear h6 K4 o0 o1
          go_wp2_with fail
          go_roundg (len1 - (j + 1))
          case measure => omega
          case rel => exact ⟨j + 1, b', c', _, rfl, by omega, by go_num, H6⟩
        | false =>
          have hno : newB ⟨n, m⟩ ni = false := by
            rw [← turns_true]
            exact ht
          have K3 := Lib.hid (ref_with_no HSO.out.ref ni true ht)
          clear ht
          go_wp2_with fail
          refine K3.out.mono ?_
          rintro e W3 ⟨rfl, b3⟩
          have ba := (Below.refl _ W3).alloc (Nat.le_refl _) (.cells #[.slice (some ⟨b, 0, none⟩) n c] 29)
          have b4 := below_tr b3 ba
          have H4 := Lib.hid (HSO.out.below b4).again
          have xs := Box.new W3 29 #[.slice (some ⟨b, 0, none⟩) n c]
          have s0 := xs.cell 0
          have xB := HSO.out.box.below b4 HSO.out.box.lt
          have q0 := xB.cell 0
          have qf := xB.frozen 0
          have xO := (XO.out.below b4 XO.out.lt).other (c := B) (i := 0) (XO.out.ne HSO.out.box (by decide)) (.slice (some ⟨b, 0, none⟩) n c)
          clear b3 ba b4 K3 o0 o1 d0 HSO XO
          obtain ⟨W4, HW4⟩ : ∃ W4, Hid (W3.alloc (.cells #[.slice (some ⟨b, 0, none⟩) n c] 29) = W4) := ⟨_, Lib.hid rfl⟩
          go_upto_region 14 with fail
          rw [HW4.out] at H4 s0 xB q0 qf xO ⊢
          clear xs HW4 xB
          go_upto_region 15 with fail
          obtain ⟨W5, HW5⟩ : ∃ W5, Hid (W4.setCell ⟨B, 0, none⟩ (.slice (some ⟨b, 0, none⟩) n c) = W5) := ⟨_, Lib.hid rfl⟩
          rw [HW5.out] at H4 xO ⊢
          clear HW5 s0 q0 qf
          have XO5 := Lib.hid xO
          have o0 := xO.cell 0
          have o1 := xO.cell 1
          have K4 := Lib.hid (H4.out.set_no hno)
          clear xO H4 hno
          go_wp2_with fail
          refine K4.out.mono ?_
          rintro e W6 ⟨rfl, h6, t6⟩
          have H6 := Lib.hid h6
          have o6 := (XO5.out.turned t6 hNO).cell 0
          clear h6 K4 o0 o1
          go_wp2_with fail
          go_roundg (len1 - (j + 1))
          case measure => omega
          case rel => exact ⟨j + 1, b, c, _, rfl, by omega, by go_num, H6⟩
      by_cases k2 : kd = 2
      · skip
        subst k2
        cases ht : turnsB n m ni false with
        | true =>
          obtain ⟨p, rfl⟩ : ∃ p : Nat, ni = (p : Int) := ⟨ni.toNat, by simp [turnsB] at ht; omega⟩
          have hp : p < n := by simp [turnsB] at ht; omega
          have hmp : m p = true := by
            simp [turnsB, hp] at ht
            exact ht
          have K3 := Lib.hid (ref_with HSO.out.ref p false hp (by rw [hmp]; decide))
          clear ht
          go_wp2_with fail
          refine K3.out.mono ?_
          rintro e W3 ⟨b', c', rfl, r3, b3⟩
          have ba := (Below.refl _ W3).alloc (Nat.le_refl _) (.cells #[.slice (some ⟨b', 0, none⟩) n c'] 29)
          have b4 := below_tr b3 ba
          have H4 := Lib.hid (HSO.out.put b3 r3 (.cells #[.slice (some ⟨b', 0, none⟩) n c'] 29))
          have xs := Box.new W3 29 #[.slice (some ⟨b', 0, none⟩) n c']
          have s0 := xs.cell 0
          have xB := HSO.out.box.below b4 HSO.out.box.lt
          have q0 := xB.cell 0
          have qf := xB.frozen 0
          have xO := (XO.out.below b4 XO.out.lt).other (c := B) (i := 0) (XO.out.ne HSO.out.box (by decide)) (.slice (some ⟨b', 0, none⟩) n c')
          clear r3 b3 ba b4 K3 o0 o1 d0 HSO XO
          obtain ⟨W4, HW4⟩ : ∃ W4, Hid (W3.alloc (.cells #[.slice (some ⟨b', 0, none⟩) n c'] 29) = W4) := ⟨_, Lib.hid rfl⟩
          go_upto_region 14 with fail
          rw [HW4.out] at H4 s0 xB q0 qf xO ⊢
          clear xs HW4 xB
          go_upto_region 15 with fail
          obtain ⟨W5, HW5⟩ : ∃ W5, Hid (W4.setCell ⟨B, 0, none⟩ (.slice (some ⟨b', 0, none⟩) n c') = W5) := ⟨_, Lib.hid rfl⟩
          rw [HW5.out] at H4 xO ⊢
          clear HW5 s0 q0 qf
          have o0 := xO.cell 0
          have o1 := xO.cell 1
          have K4 := Lib.hid (H4.out.clear_yes hp hmp)
          clear xO H4 hmp
          go_wp2_with fail
          refine K4.out.mono ?_
          rintro e W6 ⟨rfl, h6⟩
          have H6 := Lib.hid h6
          clear h6 K4 o0 o1
          go_wp2_with fail
          go_roundg (len1 - (j + 1))
          case measure => omega
          case rel => exact ⟨j + 1, b', c', _, rfl, by omega, by go_num, H6⟩
        | false =>
          have hno : hasB ⟨n, m⟩ ni = false := by
            rw [← turns_false]
            exact ht
          have K3 := Lib.hid (ref_with_no HSO.out.ref ni false ht)
          clear ht
          go_wp2_with fail
          refine K3.out.mono ?_
          rintro e W3 ⟨rfl, b3⟩
          have ba := (Below.refl _ W3).alloc (Nat.le_refl _) (.cells #[.slice (some ⟨b, 0, none⟩) n c] 29)
          have b4 := below_tr b3 ba
          have H4 := Lib.hid (HSO.out.below b4).again
          have xs := Box.new W3 29 #[.slice (some ⟨b, 0, none⟩) n c]
          have s0 := xs.cell 0
          have xB := HSO.out.box.below b4 HSO.out.box.lt
          have q0 := xB.cell 0
          have qf := xB.frozen 0
          have xO := (XO.out.below b4 XO.out.lt).other (c := B) (i := 0) (XO.out.ne HSO.out.box (by decide)) (.slice (some ⟨b, 0, none⟩) n c)
          clear b3 ba b4 K3 o0 o1 d0 HSO XO
          obtain ⟨W4, HW4⟩ : ∃ W4, Hid (W3.alloc (.cells #[.slice (some ⟨b, 0, none⟩) n c] 29) = W4) := ⟨_, Lib.hid rfl⟩
          go_upto_region 14 with fail
          rw [HW4.out] at H4 s0 xB q0 qf xO ⊢
          clear xs HW4 xB
          go_upto_region 15 with fail
          obtain ⟨W5, HW5⟩ : ∃ W5, Hid (W4.setCell ⟨B, 0, none⟩ (.slice (some ⟨b, 0, none⟩) n c) = W5) := ⟨_, Lib.hid rfl⟩
          rw [HW5.out] at H4 xO ⊢
          clear HW5 s0 q0 qf
          have XO5 := Lib.hid xO
          have o0 := xO.cell 0
          have o1 := xO.cell 1
          have K4 := Lib.hid (H4.out.clear_no hno)
          clear xO H4 hno
          go_wp2_with fail
          refine K4.out.mono ?_
          rintro e W6 ⟨rfl, h6⟩
          have H6 := Lib.hid h6
          skip
          clear h6 K4 o0 o1
          go_wp2_with fail
          go_roundg (len1 - (j + 1))
          case measure => omega
          case rel => exact ⟨j + 1, b, c, _, rfl, by omega, by go_num, H6⟩
      have k1z : ((kd : Int) == 1) = false := by simpa using (by omega : ¬ (kd : Int) = 1)
      have k2z : ((kd : Int) == 2) = false := by simpa using (by omega : ¬ (kd : Int) = 2)
      by_cases k3 : kd = 3
      · skip
        subst k3
        clear k1z k2z
        have K3 := Lib.hid (c_next HSO.out.at_ hTO ni hi1 hi2)
        have K4 := Lib.hid (fun W (bl : Below WO.heap.size WO W) => ref_next (HSO.out.ref.below bl) hm ni)
        go_wp2_with fail
        refine K3.out.mono ?_
        rintro e W3 ⟨⟨x1, hx1, rfl⟩, b3⟩
        have K5 := Lib.hid (K4.out _ b3)
        have o1' := (XO.out.below b3 XO.out.lt).cell 1
        have d0' := (HSO.out.box.below b3 HSO.out.box.lt).cell 0
        have H3 := Lib.hid (HSO.out.below b3)
        have HX1 := Lib.hid hx1
        clear b3 K3 K4 o0 o1 d0 HSO XO hx1
        go_wp2_with fail
        refine K5.out.mono ?_
        rintro e W4 ⟨⟨x2, hx2, rfl⟩, b4⟩
        obtain rfl := next_one HX1.out hx2
        have H4 := Lib.hid (H3.out.below b4)
        clear hx2 HX1 b4 K5 o1' d0' H3
        go_wp2_with fail
        go_roundg (len1 - (j + 1))
        case measure => omega
        case rel => exact ⟨j + 1, b, c, m, rfl, by omega, by go_num, H4⟩
      by_cases k4 : kd = 4
      · skip
        subst k4
        clear k1z k2z
        have K3 := Lib.hid (c_round HSO.out.at_ hTO ni hi1 hi2)
        have K4 := Lib.hid (fun W (bl : Below WO.heap.size WO W) => ref_round (HSO.out.ref.below bl) hm ni)
        go_wp2_with fail
        refine K3.out.mono ?_
        rintro e W3 ⟨⟨x1, hx1, rfl⟩, b3⟩
        have K5 := Lib.hid (K4.out _ b3)
        have o1' := (XO.out.below b3 XO.out.lt).cell 1
        have d0' := (HSO.out.box.below b3 HSO.out.box.lt).cell 0
        have H3 := Lib.hid (HSO.out.below b3)
        have HX1 := Lib.hid hx1
        clear b3 K3 K4 o0 o1 d0 HSO XO hx1
        go_wp2_with fail
        refine K5.out.mono ?_
        rintro e W4 ⟨⟨x2, hx2, rfl⟩, b4⟩
        obtain rfl := round_one HX1.out hx2
        have H4 := Lib.hid (H3.out.below b4)
        clear hx2 HX1 b4 K5 o1' d0' H3
        go_wp2_with fail
        go_roundg (len1 - (j + 1))
        case measure => omega
        case rel => exact ⟨j + 1, b, c, m, rfl, by omega, by go_num, H4⟩
      have k3z : ((kd : Int) == 3) = false := by simpa using (by omega : ¬ (kd : Int) = 3)
      have k4z : ((kd : Int) == 4) = false := by simpa using (by omega : ¬ (kd : Int) = 4)
      by_cases k5 : kd = 5
      · skip
        subst k5
        clear k1z k2z k3z k4z
        obtain ⟨t, HTt⟩ : ∃ t, Hid (hasB ⟨n, m⟩ ni = t) := ⟨_, Lib.hid rfl⟩
        have hiff : t = true ↔ 0 ≤ ni ∧ ni < n ∧ m ni.toNat = true := by rw [← HTt.out]; exact hasB_iff
        have K3 := Lib.hid (fun W (h : TStN N w W a n B b c m m) => c_has h.at_ ni)
        rw [HTt.out] at K3
        have K4 := Lib.hid (fun W (h : TStN N w W a n B b c m m) => ref_has h.ref ni t hiff)
        have HC : Hid (∀ wy, Below WO.heap.size WO wy → wy.cell? ⟨O, 1, none⟩ = some (.int .i64 ni) ∧ wy.cell? ⟨B, 0, none⟩ = some (.slice (some ⟨b, 0, none⟩) n c)) := Lib.hid fun wy bl => ⟨(XO.out.below bl XO.out.lt).cell 1, (HSO.out.box.below bl HSO.out.box.lt).cell 0⟩
        have HY : Hid (∀ wy, Below WO.heap.size WO wy → TStN N w wy a n B b c m m) := Lib.hid fun wy bl => HSO.out.below bl
        clear hiff HTt
        go_upto_region 29 with fail
        go_region_held3 (fun wy => wy.cell? ⟨O, 1, none⟩ = some (.int .i64 ni) ∧ wy.cell? ⟨B, 0, none⟩ = some (.slice (some ⟨b, 0, none⟩) n c))
          (first | exact HC.out _ (Below.refl _ _).drew | exact HC.out _ (by assumption))
          (first
            | (go_at_call 19; (first | (refine Calls.mono (K3.out _ (HY.out _ (Below.refl _ _).drew)) ?_; rintro e W3 ⟨rfl, b3⟩; have b4 := below_tr (Below.refl _ WO).drew b3) | (refine Calls.mono (K3.out _ (HY.out _ (by assumption))) ?_; rintro e W3 ⟨rfl, b3⟩; have b5 := below_tr (by assumption) b3)))
            | (go_at_call 20; (first | (refine Calls.mono (K4.out _ (HY.out _ (Below.refl _ _).drew)) ?_; rintro e W3 ⟨rfl, b3⟩; have b4 := below_tr (Below.refl _ WO).drew b3) | (refine Calls.mono (K4.out _ (HY.out _ (by assumption))) ?_; rintro e W3 ⟨rfl, b3⟩; have b5 := below_tr (by assumption) b3))))
        · have H4 := Lib.hid (HY.out _ b5)
          clear b3 b4 b5 K3 K4 HC HY HSO XO o0 o1 d0
          go_wp2_with fail
          go_roundg (len1 - (j + 1))
          case measure => omega
          case rel => exact ⟨j + 1, b, c, m, rfl, by omega, by go_num, H4⟩
      have k5z : ((kd : Int) == 5) = false := by simpa using (by omega : ¬ (kd : Int) = 5)
      go_wp2_with fail
      go_roundg (len1 - (j + 1))
      case measure => omega
      case rel => exact ⟨j + 1, b, c, m, rfl, by omega, by go_num, HSO⟩

/-- Below w.heap.size w w' -/
theorem bitmapTells_walk (a0 : Int) (a1 : Option Addr) (len1 cap1 : Nat) (z1 : List (List Value)) (w : World) (w0 : (Lit.int .i64 a0).wf = true) (w1 : RowOf [some .u8, some .i64] w a1 len1 cap1 z1) (hT : Tab w) :
    Calls Tryd.prog 3 #[.int .i64 a0, .slice a1 len1 cap1] w fun e w' => e = .returned (.bool true) ∧ Below w.heap.size w w' := by
  by_cases h : a0 < 1 ∨ 65536 < a0
  · exact tells_none a0 a1 len1 cap1 w hT h
  · obtain ⟨n, rfl⟩ : ∃ n : Nat, a0 = (n : Int) := ⟨a0.toNat, by omega⟩
    exact tells_some n a1 len1 cap1 z1 w w1 hT (by omega) (by omega)

end Go.Proofs.YtlpniacffahnkabDoor
