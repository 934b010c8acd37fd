/-
  FifoRoom, walked.
-/
import Derived.Test.YtkiibobpejoaeabFifoSt
import Derived.StillTailTactics
import Derived.Shelf.Abstract
namespace Go.Proofs.Ytkiibobpejoaeab
open Go.RowKit
set_option linter.unusedVariables false
set_option linter.unusedSimpArgs false

/-- The i-th key of n: in order, or the other way round. -/
def roomK (n : Nat) (back : Bool) (i : Nat) : Ky := ⟨if back then n - i else i, 0⟩
theorem roomK_fits {n i : Nat} {back : Bool} (hn : n ≤ 100) (hi : i ≤ n) : (roomK n back i).Fits := by
  unfold roomK Ky.Fits
  cases back
  · simp only [Bool.false_eq_true, if_false]
    exact ⟨by omega, by decide⟩
  · simp only [if_true]
    exact ⟨by omega, by decide⟩
theorem roomK_inj {n i j : Nat} {back : Bool} (hi : i ≤ n) (hj : j ≤ n) (h : roomK n back i = roomK n back j) : i = j := by
  unfold roomK at h
  have e := congrArg Ky.at_ h
  cases back
  · simpa using e
  · simp at e
    omega
/-- The keys that came by then, and no other ones. -/
structure RoomL (n : Nat) (back : Bool) (i : Nat) (l : List En) : Prop where
  len : l.length = i
  has : ∀ j, j < i → (getL (roomK n back j) l).isSome = true
  only : ∀ e, e ∈ l → ∃ j, j < i ∧ e.key = roomK n back j
theorem roomL_next {n i : Nat} {back : Bool} {l : List En} {v : Int} (h : RoomL n back i l) (hi : i < n) : putE n l (roomK n back i) = 0 ∧ RoomL n back (i + 1) (putL n l (roomK n back i) v) := by
  have hn : (getL (roomK n back i) l).isSome = false := by
    cases hs : (getL (roomK n back i) l).isSome with
    | false => rfl
    | true =>
      obtain ⟨e, he, hk⟩ := getL_isSome.1 hs
      obtain ⟨j, hj, e2⟩ := h.only e he
      have := roomK_inj (n := n) (back := back) (i := i) (j := j) (by omega) (by omega) (by rw [← hk, e2])
      omega
  have h0 : putE n l (roomK n back i) = 0 := by
    unfold putE
    rw [hn]
    simp only [Bool.false_eq_true, if_false]
    rw [if_neg (by rw [h.len]; omega)]
  refine ⟨h0, ?_⟩
  unfold putL
  rw [if_pos h0]
  refine ⟨by rw [insL_length, h.len], fun j hj => ?_, fun e he => ?_⟩
  · rw [getL_isSome]
    rcases Nat.lt_or_eq_of_le (Nat.le_of_lt_succ hj) with h1 | h1
    · obtain ⟨e, he, hk⟩ := getL_isSome.1 (h.has j h1)
      exact ⟨e, insL_mem.2 (.inr he), hk⟩
    · subst h1
      exact ⟨_, insL_mem.2 (.inl rfl), rfl⟩
  · rcases insL_mem.1 he with rfl | he
    · exact ⟨i, by omega, rfl⟩
    · obtain ⟨j, hj, e2⟩ := h.only e he
      exact ⟨j, by omega, e2⟩
theorem roomL_full {n : Nat} {back : Bool} {l : List En} (h : RoomL n back n l) (hn : 1 ≤ n) : putE n l ⟨0, 9⟩ = 4 ∧ putE n l (roomK n back 0) = 60 := by
  constructor
  · unfold putE
    have hx : (getL (⟨0, 9⟩ : Ky) l).isSome = false := by
      cases hs : (getL (⟨0, 9⟩ : Ky) l).isSome with
      | false => rfl
      | true =>
        obtain ⟨e, he, hk⟩ := getL_isSome.1 hs
        obtain ⟨j, hj, e2⟩ := h.only e he
        rw [hk] at e2
        have := congrArg Ky.seq e2
        simp [roomK] at this
    rw [hx]
    simp only [Bool.false_eq_true, if_false]
    rw [if_pos (by rw [h.len]; exact Nat.le_refl _)]
  · unfold putE
    rw [if_pos (h.has 0 (by omega))]
set_option maxHeartbeats 4000000 in
set_option maxRecDepth 100000 in
theorem room_key {W : World} {xb xn n : Nat} {back : Bool} (hb : W.cell? ⟨xb, 0, none⟩ = some (.bool back)) (hn : W.cell? ⟨xn, 0, none⟩ = some (.int .i64 (n : Int))) (i : Nat) (hi : i ≤ n) (hn1 : n ≤ 100) :
    Calls Try.prog 15 (#[.int .i64 (i : Int)] ++ #[.pointer (some ⟨xb, 0, none⟩), .pointer (some ⟨xn, 0, none⟩)]) W fun e w' => e = .returned (kyV (roomK n back i)) ∧ Below W.heap.size W w' := by
  have b1 := (Below.refl _ W).alloc (Nat.le_refl _) (.cells #[.int .u64 0, .int .u64 0] 33)
  have y1 := Box.new W 33 #[.int .u64 0, .int .u64 0]
  have hb1 := (b1.cell (World.block_lt_of_cell? _ _ hb)).trans hb
  have hn2 := (b1.cell (World.block_lt_of_cell? _ _ hn)).trans hn
  obtain ⟨kb, HKb⟩ : ∃ kb, Hid (W.heap.size = kb) := ⟨_, Lib.hid rfl⟩
  obtain ⟨W1, HW⟩ : ∃ W1, Hid (W.alloc (.cells #[.int .u64 0, .int .u64 0] 33) = W1) := ⟨_, Lib.hid rfl⟩
  rw [HW.out] at y1 b1 hb1 hn2
  rw [HKb.out] at y1
  have hkb : W.heap.size ≤ kb := by rw [HKb.out]; exact Nat.le_refl _
  have c0 := y1.cell 0
  have c1 := y1.cell 1
  have q0 := y1.frozen 0
  have q1 := y1.frozen 1
  obtain ⟨kk, Hkk⟩ : ∃ k, Hid ((if back then n - i else i) = k) := ⟨_, Lib.hid rfl⟩
  have hkk : kk ≤ 100 := by have := Hkk.out; cases back <;> simp at this <;> omega
  have hku : IntKind.u64.wrap (kk : Int) = (kk : Int) := by rw [IntKind.wrap_u64]; omega
  have HE := Lib.hid ((b1.setCell (p := ⟨kb, 0, none⟩) hkb (.int .u64 (kk : Int))).setCell (p := ⟨kb, 1, none⟩) hkb (.int .u64 0))
  have HF := Lib.hid ((y1.set 0 (.int .u64 (kk : Int))).set 1 (.int .u64 0))
  have HR : Hid (kyV (roomK n back i) = .agg #[.int .u64 (kk : Int), .int .u64 0]) := Lib.hid (by unfold kyV roomK; rw [Hkk.out]; rfl)
  clear b1 y1 hkb hb hn
  cases back with
  | true =>
    have hs : (n : Int) - (i : Int) = (kk : Int) := by have := Hkk.out; simp at this; omega
    have hsw : IntKind.i64.wrap ((n : Int) - (i : Int)) = (kk : Int) := by rw [IntKind.wrap_i64]; omega
    go_enter Try.func15, Try.ntmps15
    go_upto_region 1 with fail
    rw [HW.out, HKb.out]
    go_wp2_with fail
    change bodyPost _ _ _ _ _ ((W1.setCell ⟨kb, 0, none⟩ (.int .u64 (kk : Int))).setCell ⟨kb, 1, none⟩ (.int .u64 0))
    obtain ⟨W3, HW3⟩ : ∃ W3, Hid ((W1.setCell ⟨kb, 0, none⟩ (.int .u64 (kk : Int))).setCell ⟨kb, 1, none⟩ (.int .u64 0) = W3) := ⟨_, Lib.hid rfl⟩
    have HF' : Hid (Box ((W1.setCell ⟨kb, 0, none⟩ (.int .u64 (kk : Int))).setCell ⟨kb, 1, none⟩ (.int .u64 0)) kb 33 #[.int .u64 (kk : Int), .int .u64 0]) := Lib.hid HF.out
    rw [HW3.out] at HE HF' ⊢
    have k0 := HF'.out.cell 0
    have k1 := HF'.out.cell 1
    simp only [List.getElem?_toArray, List.getElem?_cons_zero, List.getElem?_cons_succ] at k0 k1
    rw [HR.out]
    refine bodyPost_ret (v := .agg #[.int .u64 (kk : Int), .int .u64 0]) ?_ rfl ⟨rfl, HE.out⟩
    simp [results, Try.f15, go_sem, k0, k1]
  | false =>
    obtain rfl : i = kk := by have := Hkk.out; simpa using this
    go_enter Try.func15, Try.ntmps15
    go_upto_region 1 with fail
    rw [HW.out, HKb.out]
    go_wp2_with fail
    change bodyPost _ _ _ _ _ ((W1.setCell ⟨kb, 0, none⟩ (.int .u64 (i : Int))).setCell ⟨kb, 1, none⟩ (.int .u64 0))
    obtain ⟨W3, HW3⟩ : ∃ W3, Hid ((W1.setCell ⟨kb, 0, none⟩ (.int .u64 (i : Int))).setCell ⟨kb, 1, none⟩ (.int .u64 0) = W3) := ⟨_, Lib.hid rfl⟩
    have HF' : Hid (Box ((W1.setCell ⟨kb, 0, none⟩ (.int .u64 (i : Int))).setCell ⟨kb, 1, none⟩ (.int .u64 0)) kb 33 #[.int .u64 (i : Int), .int .u64 0]) := Lib.hid HF.out
    rw [HW3.out] at HE HF' ⊢
    have k0 := HF'.out.cell 0
    have k1 := HF'.out.cell 1
    simp only [List.getElem?_toArray, List.getElem?_cons_zero, List.getElem?_cons_succ] at k0 k1
    rw [HR.out]
    refine bodyPost_ret (v := .agg #[.int .u64 (i : Int), .int .u64 0]) ?_ rfl ⟨rfl, HE.out⟩
    simp [results, Try.f15, go_sem, k0, k1]

set_option maxHeartbeats 8000000 in
set_option maxRecDepth 100000 in
/-- Below w.heap.size w w' -/
theorem fifoRoom_walk (a0 : Int) (a1 : Bool) (w : World) (w0 : (Lit.int .u8 a0).wf = true) :
    Calls Try.prog 5 #[.int .u8 a0, .bool a1] w fun e w' => e = .returned (.bool true) ∧ Below w.heap.size w w' := by
  obtain ⟨rm, rfl, hrm⟩ := nat_u8 w0
  clear w0
  obtain ⟨r0, Hr0⟩ : ∃ a, Hid (rm % 100 = a) := ⟨_, Lib.hid rfl⟩
  have hr0 : r0 < 100 := by rw [← Hr0.out]; exact Nat.mod_lt _ (by omega)
  have hr3 : Int.tmod (rm : Int) 100 = (r0 : Int) := by rw [← Hr0.out]; rfl
  have hr4 : (rm : Int) % 100 = (r0 : Int) := by rw [← Hr0.out]; rfl
  obtain ⟨n, Hn⟩ : ∃ n, Hid (1 + r0 = n) := ⟨_, Lib.hid rfl⟩
  have hn1 : 1 ≤ n ∧ n ≤ 100 := by have := Hn.out; omega
  have hnz : (1 : Int) + (r0 : Int) = (n : Int) := by have := Hn.out; omega
  have b1 := ((Below.refl _ w).alloc (Nat.le_refl _) (.cells #[.bool a1] 4)).alloc (by rw [World.size_alloc]; omega) (.cells #[.int .i64 (n : Int)] 3)
  have x1 := (Box.new w 4 #[.bool a1]).alloc (.cells #[.int .i64 (n : Int)] 3)
  have x2 := Box.new (w.alloc (.cells #[.bool a1] 4)) 3 #[.int .i64 (n : Int)]
  rw [World.size_alloc] at x2
  obtain ⟨xb, HXb⟩ : ∃ xb, Hid (w.heap.size = xb) := ⟨_, Lib.hid rfl⟩
  obtain ⟨W1, HW1⟩ : ∃ W1, Hid ((w.alloc (.cells #[.bool a1] 4)).alloc (.cells #[.int .i64 (n : Int)] 3) = W1) := ⟨_, Lib.hid rfl⟩
  rw [HW1.out] at b1 x1 x2
  rw [HXb.out] at x1 x2
  have KN := Lib.hid (FSt.new_ n (by omega) (by omega) W1 W1 (Below.refl _ _))
  have HA := Lib.hid awake11
  have HB1 := Lib.hid b1
  have HX1 := Lib.hid x1
  have HX2 := Lib.hid x2
  have KK : Hid (∀ wy, Below W1.heap.size W1 wy → ∀ i : Nat, i ≤ n → Calls Try.prog 15 #[.int .i64 (i : Int), .pointer (some ⟨xb, 0, none⟩), .pointer (some ⟨xb + 1, 0, none⟩)] wy fun e w' => e = .returned (kyV (roomK n a1 i)) ∧ Below wy.heap.size wy w') := Lib.hid fun wy bl i hi => room_key (xb := xb) (xn := xb + 1) (back := a1) ((x1.below bl x1.lt).cell 0) ((x2.below bl x2.lt).cell 0) i hi hn1.2
  have eg : ∀ args w, (callFunc 15 args).run Try.prog w = .ok (.enter 15 args) w := enters_of Try.func15 (by kernel_rfl) rfl
  have c0 := x2.cell 0
  clear b1 x1 x2 Hr0
  go_enter Try.func5, Try.ntmps5
  go_upto_region 2 with fail
  rw [HXb.out, HW1.out]
  go_upto_region 6 with (go_at_call 7; refine KN.out.mono ?_; rintro e W2 ⟨a, rfl, S2⟩)
  clear c0 KN
  have c2 := (HX2.out.below S2.out.lo HX2.out.lt).cell 0
  go_wp2_with fail
  go_loopg [26] n (fun k v26 wx => ∃ (i : Nat) (l : List En), i + k = n ∧ v26 = .int .i64 (i : Int) ∧ Hid (RoomL n a1 i l) ∧ Hid (FSt W1 wx a ⟨n, l⟩ [] []))
  case atStart => exact ⟨0, [], by omega, rfl, Lib.hid ⟨rfl, fun j hj => by omega, fun e he => by cases he⟩, S2⟩
  case round =>
  clear S2 c2
  obtain ⟨i, l, hik, rfl, HL, HS⟩ := hrel
  by_cases hin : i = n
  · have hiz : ¬ (i : Int) < (n : Int) := by omega
    have HFull : Hid (putE n l ⟨0, 9⟩ = 4 ∧ putE n l (roomK n a1 0) = 60) := Lib.hid (by
      have h := HL.out
      rw [hin] at h
      exact roomL_full h hn1.1)
    have hln : l.length = n := by rw [← hin]; exact HL.out.len
    have HLn := Lib.hid hln
    have hp1 : putL n l ⟨0, 9⟩ 0 = l := by unfold putL; rw [if_neg (by rw [HFull.out.1]; decide)]
    have hp2 : putL n l (roomK n a1 0) 0 = l := by unfold putL; rw [if_neg (by rw [HFull.out.2]; decide)]
    have K1 : Hid (∀ W, FSt W1 W a ⟨n, l⟩ [] [] → Calls Try.prog 8 #[.pointer (some a), .int .u64 0, .agg #[.int .u64 0, .int .u64 9]] W fun e W' => e = .returned (.int .i64 4) ∧ Hid (FSt W1 W' a ⟨n, l⟩ [] [])) := Lib.hid fun W s => by
      have h := s.push 0 ⟨by decide, by decide⟩ ⟨0, 9⟩ (ky_fits _ _ (by decide) (by decide))
      rw [show putE (⟨n, l⟩ : Fg).room (⟨n, l⟩ : Fg).l ⟨0, 9⟩ = 4 from HFull.out.1, show putL (⟨n, l⟩ : Fg).room (⟨n, l⟩ : Fg).l ⟨0, 9⟩ 0 = l from hp1] at h
      exact h
    have K2 : Hid (∀ W, FSt W1 W a ⟨n, l⟩ [] [] → Calls Try.prog 8 #[.pointer (some a), .int .u64 0, kyV (roomK n a1 0)] W fun e W' => e = .returned (.int .i64 60) ∧ Hid (FSt W1 W' a ⟨n, l⟩ [] [])) := Lib.hid fun W s => by
      have h := s.push 0 ⟨by decide, by decide⟩ (roomK n a1 0) (roomK_fits hn1.2 (by omega))
      rw [show putE (⟨n, l⟩ : Fg).room (⟨n, l⟩ : Fg).l (roomK n a1 0) = 60 from HFull.out.2, show putL (⟨n, l⟩ : Fg).room (⟨n, l⟩ : Fg).l (roomK n a1 0) 0 = l from hp2] at h
      exact h
    have K3 : Hid (∀ W, FSt W1 W a ⟨n, l⟩ [] [] → Calls Try.prog 10 #[.pointer (some a)] W fun e W' => e = .returned (.int .i64 (n : Int)) ∧ Hid (FSt W1 W' a ⟨n, l⟩ [] [])) := Lib.hid fun W s => by
      have h := s.len
      rw [show (⟨n, l⟩ : Fg).l.length = n from hln] at h
      exact h
    have HC : Hid (∀ W, FSt W1 W a ⟨n, l⟩ [] [] → W.cell? ⟨xb + 1, 0, none⟩ = some (.int .i64 (n : Int))) := Lib.hid fun W s => (HX2.out.below s.lo HX2.out.lt).cell 0
    have S0 : Hid (FSt W1 wr.drew a ⟨n, l⟩ [] []) := Lib.hid (HS.out.below (Below.refl _ _).drew)
    obtain ⟨ky, Hky⟩ : ∃ k, Hid (kyV (roomK n a1 0) = k) := ⟨_, Lib.hid rfl⟩
    have KK0 : Hid (∀ W, FSt W1 W a ⟨n, l⟩ [] [] → Calls Try.prog 15 #[.int .i64 0, .pointer (some ⟨xb, 0, none⟩), .pointer (some ⟨xb + 1, 0, none⟩)] W fun e w' => e = .returned ky ∧ Below W.heap.size W w') := Lib.hid fun W s => by
      have h := KK.out W s.lo 0 (by omega)
      rw [Hky.out] at h
      exact h
    rw [Hky.out] at K2
    clear hln hp1 hp2 HL hin
    go_upto_region 12 with fail
    go_cut [54] (fun v54 wx => ∃ V : World, V = wx ∧ v54 = .bool false ∧ Hid (FSt W1 V a ⟨n, l⟩ [] []))
    case first =>
      first
      | (go_region_held3 (fun wy => wy.cell? ⟨xb + 1, 0, none⟩ = some (.int .i64 (n : Int)))
          (first | exact HC.out _ S0.out | exact HC.out _ SA.out | exact HC.out _ S9.out | exact HC.out _ S8.out | exact HC.out _ S7.out)
          (first
            | (go_at_call 10; refine (K3.out _ S9.out).mono ?_; rintro e W9 ⟨rfl, SA⟩)
            | (go_at_call 8; refine (K2.out _ S8.out).mono ?_; rintro e W8 ⟨rfl, S9⟩)
            | (go_at_call 15; refine (KK0.out _ S7.out).mono ?_; rintro e W8 ⟨rfl, b8⟩; have S8 := Lib.hid (S7.out.below b8))
            | (go_at_call 8; refine (K1.out _ S0.out).mono ?_; rintro e W7 ⟨rfl, S7⟩)))
      | fail
      all_goals
        have HF := SA
        clear SA S9 S8 S7 S0 b8
        go_wp2_with fail
        go_meet
        exact ⟨_, rfl, rfl, HF⟩
    case rest =>
    obtain ⟨V, rfl, rfl, SV⟩ := hcut
    have c3 := HC.out _ SV.out
    clear HC K1 K2 K3 S0 HFull
    go_wp2_with fail
    go_loopg [56] n (fun k v56 wx => ∃ (j : Nat) (m : List En), j + k = n ∧ m.length + j = n ∧ v56 = .int .i64 (j : Int) ∧ Hid (FSt W1 wx a ⟨n, m⟩ [] []))
    case atStart => exact ⟨0, l, by omega, HLn.out, rfl, SV⟩
    case round =>
    clear SV c3
    obtain ⟨j, m, hjk, hmj, rfl, HS2⟩ := hrel
    by_cases hjn : j = n
    · have hjz : ¬ (j : Int) < (n : Int) := by omega
      obtain rfl : m = [] := List.eq_nil_of_length_eq_zero (by omega)
      have K4 : Hid (Calls Try.prog 10 #[.pointer (some a)] wr fun e W' => e = .returned (.int .i64 0) ∧ Hid (FSt W1 W' a ⟨n, []⟩ [] [])) := Lib.hid HS2.out.len
      clear HS2
      go_wp2_with fail
      refine K4.out.mono ?_
      rintro e W5 ⟨rfl, S5⟩
      have K5 := Lib.hid (KK.out _ S5.out.lo 0 (by omega))
      clear K4
      go_wp2_with fail
      refine K5.out.mono ?_
      rintro e W6 ⟨rfl, b6⟩
      have K60 := (S5.out.below b6).push 3 ⟨by decide, by decide⟩ (roomK n a1 0) (roomK_fits hn1.2 (by omega))
      rw [show putE (⟨n, []⟩ : Fg).room (⟨n, []⟩ : Fg).l (roomK n a1 0) = 0 from by unfold putE; simp only [getL, List.find?_nil, Option.map_none, Option.isSome_none, Bool.false_eq_true, if_false, List.length_nil]; rw [if_neg (by omega)]] at K60
      have K6 := Lib.hid K60
      clear K60 K5 b6 S5
      go_wp2_with fail
      refine K6.out.mono ?_
      rintro e W7 ⟨rfl, S7⟩
      have HAw := Lib.hid (HA.out W7)
      have HLo := Lib.hid (below_tr HB1.out S7.out.lo)
      clear K6 S7
      go_wp2_with fail
      refine HAw.out.mono ?_
      rintro e W8 ⟨rfl, b8⟩
      have HE := Lib.hid (below_tr HLo.out b8)
      clear b8 HAw
      go_wp2_with fail
      go_ret
      exact ⟨rfl, HE.out⟩
    · have hjz : (j : Int) < (n : Int) := by omega
      have hwj : IntKind.i64.wrap ((j : Int) + 1) = ((j + 1 : Nat) : Int) := by rw [IntKind.wrap_i64]; omega
      obtain ⟨x, m', rfl⟩ : ∃ x m', m = x :: m' := by
        cases m with
        | nil => rw [List.length_nil] at hmj; omega
        | cons x m' => exact ⟨x, m', rfl⟩
      have K4 : Hid (Calls Try.prog 9 #[.pointer (some a)] wr fun e W' => e = .returned (.tuple #[.int .u64 x.val, kyV x.key, .bool true]) ∧ Hid (FSt W1 W' a ⟨n, m'⟩ [] [])) := Lib.hid HS2.out.pop
      unfold kyV at K4
      have hm' : m'.length + (j + 1) = n := by rw [List.length_cons] at hmj; omega
      clear HS2
      go_wp2_with fail
      refine K4.out.mono ?_
      rintro e W5 ⟨rfl, S5⟩
      have S6 := Lib.hid (S5.out.below ((Below.refl _ W5).alloc (Nat.le_refl _) (.cells #[.int .u64 (x.key.at_ : Int), .int .u64 (x.key.seq : Int)] 33)))
      clear K4 S5
      go_wp2_with fail
      go_roundg (n - (j + 1))
      case measure => omega
      case rel => exact ⟨j + 1, m', by omega, hm', by go_num, S6⟩
  · have hiz : (i : Int) < (n : Int) := by omega
    have hiu : IntKind.u64.wrap (i : Int) = (i : Int) := by rw [IntKind.wrap_u64]; omega
    have hwi : IntKind.i64.wrap ((i : Int) + 1) = ((i + 1 : Nat) : Int) := by rw [IntKind.wrap_i64]; omega
    have hnx := roomL_next (v := (i : Int)) HL.out (show i < n by omega)
    have KQ := Lib.hid (KK.out wr HS.out.lo i (by omega))
    have HNx := Lib.hid hnx
    clear hnx
    go_wp2_with fail
    refine KQ.out.mono ?_
    rintro e W5 ⟨rfl, b5⟩
    have KP0 := (HS.out.below b5).push (i : Int) ⟨by omega, by omega⟩ (roomK n a1 i) (roomK_fits hn1.2 (by omega))
    rw [show putE (⟨n, l⟩ : Fg).room (⟨n, l⟩ : Fg).l (roomK n a1 i) = 0 from HNx.out.1] at KP0
    have KP := Lib.hid KP0
    clear KP0 b5 KQ HS
    go_wp2_with fail
    refine KP.out.mono ?_
    rintro e W6 ⟨rfl, S6⟩
    clear KP
    go_wp2_with fail
    go_roundg (n - (i + 1))
    case measure => omega
    case rel => exact ⟨i + 1, _, by omega, by go_num, Lib.hid HNx.out.2, S6⟩

end Go.Proofs.Ytkiibobpejoaeab
