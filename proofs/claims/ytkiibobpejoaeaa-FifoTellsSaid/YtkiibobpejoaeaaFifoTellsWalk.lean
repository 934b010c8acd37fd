/-
  FifoTells, walked.
-/
import Derived.Test.YtkiibobpejoaeaaFifoTellsFacts
namespace Go.Proofs.Ytkiibobpejoaeaa
open Go.RowKit
set_option linter.unusedVariables false
set_option linter.unusedSimpArgs false

theorem handles_same {W : World} {b1 b2 c d n : Nat} {p q : Option Addr} {l : List En} (hn : l.length = n) (hl : n ≤ 65536) (h1 : W.ownsRow b1 32 1 (.slice p n c) n (l.map hV)) (h2 : W.ownsRow b2 32 1 (.slice q n d) n (l.map hV)) :
    Calls Try.prog 30 #[.slice p n c, .slice q n d] W fun e w' => e = .returned (.bool true) ∧ Below W.heap.size W w' := by
  subst hn
  have e1 : l.map hV = (l.map En.val).map uV := by rw [List.map_map]; rfl
  rw [e1] at h1 h2
  have h := law_handles p q c d b1 b2 (l.map En.val) (l.map En.val) W (by rw [List.length_map]; exact hl) (by rw [List.length_map]; exact hl) (by rw [List.length_map]; exact h1) (by rw [List.length_map]; exact h2)
  rw [List.length_map] at h
  simpa using h
set_option maxHeartbeats 16000000 in
set_option maxRecDepth 100000 in
/-- Below w.heap.size w w' -/
theorem fifoTells_walk (a0 : Int) (a1 : Option Addr) (len1 cap1 : Nat) (z1 : List (List Value)) (w : World) (w0 : (Lit.int .i64 a0).wf = true) (w1 : RowOf [some .u8, some .u64, some .u64, some .u64] w a1 len1 cap1 z1) :
    Calls Try.prog 5 #[.int .i64 a0, .slice a1 len1 cap1] w fun e w' => e = .returned (.bool true) ∧ Below w.heap.size w w' := by
  obtain ⟨hlo1, hco1⟩ := row_fit w1
  have HR1 := Lib.hid w1
  have HA := Lib.hid awake11
  clear w0 w1
  by_cases hroom : 1 ≤ a0 ∧ a0 ≤ 65536
  · obtain ⟨room, rfl⟩ : ∃ n : Nat, a0 = (n : Int) := ⟨a0.toNat, by omega⟩
    have hr1 : 1 ≤ room := by omega
    have hr2 : room ≤ 65536 := by omega
    have KN := Lib.hid (FSt.new_ room hr1 hr2 w w (Below.refl _ _))
    have KR := Lib.hid (fun W => ref_new (room : Int) W)
    rw [decide_eq_true hroom] at KR
    clear hroom
    go_enter Try.func5, Try.ntmps5
    go_upto_region 2 with (go_at_call 20; refine KN.out.mono ?_; rintro e W1 ⟨a, rfl, S1⟩)
    go_wp2_with fail
    refine (KR.out _).mono ?_
    rintro e W2 ⟨rfl, b2⟩
    have b3 := (Below.refl _ W2).alloc (Nat.le_refl _) (.cells #[.int .i64 (room : Int), .slice none 0 0] 64)
    have Q3 := ((OSt.of S1.out).below b2).add b3 (by rw [World.size_alloc]; omega)
    have T3 : Hid (TlF w (W2.alloc (.cells #[.int .i64 (room : Int), .slice none 0 0] 64)) a W2.heap.size room [] (.slice none 0 0) [] [W2.heap.size]) := Lib.hid ⟨Q3, List.mem_cons_self, Box.new _ _ _, ⟨none, 0, rfl, Nat.le_refl _, by omega, fun i e he => by simp at he⟩, .inl rfl, fun k hk => by simp [Value.ownBlock] at hk⟩
    clear KN KR S1 b2 b3 Q3
    go_upto_region 3 with fail
    obtain ⟨rb, HRB⟩ : ∃ x, Hid (W2.heap.size = x) := ⟨_, Lib.hid rfl⟩
    obtain ⟨W3, HW3⟩ : ∃ V, Hid (W2.alloc (.cells #[.int .i64 (room : Int), .slice none 0 0] 64) = V) := ⟨_, Lib.hid rfl⟩
    rw [HW3.out, HRB.out] at T3
    rw [HW3.out, HRB.out]
    clear HW3 HRB
    go_upto_region 5 with fail
    have KA3 := Lib.hid (HA.out W3)
    have HL3 := Lib.hid T3.out.q.lo
    by_cases h40 : 40 < room
    · have h40z : (40 : Int) < (room : Int) := by omega
      go_wp2_with fail
      refine KA3.out.mono ?_
      rintro e W9 ⟨rfl, b9⟩
      have HE := Lib.hid (below_tr HL3.out b9)
      clear b9 KA3
      go_wp2_with fail
      go_ret
      exact ⟨rfl, HE.out⟩
    have h40z : ¬ (40 : Int) < (room : Int) := by omega
    by_cases h80 : 80 < len1
    · have h80z : (80 : Int) < (len1 : Int) := by omega
      go_wp2_with fail
      refine KA3.out.mono ?_
      rintro e W9 ⟨rfl, b9⟩
      have HE := Lib.hid (below_tr HL3.out b9)
      clear b9 KA3
      go_wp2_with fail
      go_ret
      exact ⟨rfl, HE.out⟩
    have h80z : ¬ (80 : Int) < (len1 : Int) := by omega
    clear KA3 HL3
    go_upto_region 7 with fail
    go_wp2_with fail
    go_loopg [67] len1 (fun s v67 wx => ∃ (i : Nat) (X : List Nat) (v : Value) (l : List En), len1 - i = s ∧ i ≤ len1 ∧ v67 = .int .i64 (i : Int) ∧ Hid (TlF w wx a rb room l v l X))
    case atStart => exact ⟨0, _, _, _, rfl, by omega, rfl, T3⟩
    case round =>
    clear T3
    obtain ⟨i, X, v, l, rfl, hi, rfl, HT⟩ := hrel
    by_cases hin : i = len1
    · have hiz : ¬ (i : Int) < (len1 : Int) := by omega
      have KA3 := Lib.hid (HA.out wr)
      have HL3 := Lib.hid HT.out.q.lo
      clear HT
      go_wp2_with fail
      refine KA3.out.mono ?_
      rintro e W9 ⟨rfl, b9⟩
      have HE := Lib.hid (below_tr HL3.out b9)
      clear b9 KA3
      go_wp2_with fail
      go_ret
      exact ⟨rfl, HE.out⟩
    · have hiz : (i : Int) < (len1 : Int) := by omega
      obtain ⟨ad, o, rfl, hof, HO⟩ := op_cellsF HR1.out (show i < len1 by omega)
      obtain ⟨o0, o1, o2, o3⟩ := HO wr HT.out.q.lo
      obtain ⟨kd, u, ⟨ka, kq⟩⟩ := o
      have HOf := Lib.hid hof
      simp only at o0 o1 o2 o3
      have b5 := (Below.refl _ wr).alloc (Nat.le_refl _) (.cells #[.int .u8 (kd : Int), .int .u64 u, .int .u64 (ka : Int), .int .u64 (kq : Int)] 70)
      have T5 := Lib.hid (HT.out.addk b5 (Nat.le_refl _) (by rw [World.size_alloc]; omega))
      have BX := Lib.hid (Box.new wr 70 #[.int .u8 (kd : Int), .int .u64 u, .int .u64 (ka : Int), .int .u64 (kq : Int)])
      clear HO hof b5 HT
      go_upto_region 10 with fail
      obtain ⟨ob, HOB⟩ : ∃ x, Hid (wr.heap.size = x) := ⟨_, Lib.hid rfl⟩
      obtain ⟨W5, HW5⟩ : ∃ V, Hid (wr.alloc (.cells #[.int .u8 (kd : Int), .int .u64 u, .int .u64 (ka : Int), .int .u64 (kq : Int)] 70) = V) := ⟨_, Lib.hid rfl⟩
      rw [HW5.out, HOB.out] at T5 BX
      rw [HW5.out, HOB.out]
      clear HW5 HOB o0 o1 o2 o3
      have c0 : W5.cell? ⟨ob, 0, none⟩ = some (.int .u8 (kd : Int)) := BX.out.cell 0
      have c1 : W5.cell? ⟨ob, 1, none⟩ = some (.int .u64 u) := BX.out.cell 1
      have c2 : W5.cell? ⟨ob, 2, none⟩ = some (.int .u64 (ka : Int)) := BX.out.cell 2
      have c3 : W5.cell? ⟨ob, 3, none⟩ = some (.int .u64 (kq : Int)) := BX.out.cell 3
      have hwi : IntKind.i64.wrap ((i : Int) + 1) = ((i + 1 : Nat) : Int) := by rw [IntKind.wrap_i64]; omega
      obtain ⟨pv, cv, rfl, _⟩ := T5.out.row
      have hl6 : l.length ≤ 65536 := Nat.le_trans T5.out.q.ok.room hr2
      go_upto_block 2 with fail
      go_cut [] (fun wx => ∃ (V : World) (X : List Nat) (v : Value) (l : List En), V = wx ∧ Hid (TlF w V a rb room l v l X))
      case first =>
        by_cases h1 : kd = 1
        · subst h1
          have KP0 := T5.out.push u HOf.out.2.1 ⟨ka, kq⟩ HOf.out.2.2
          have HRi := Lib.hid T5.out.q.ok.rises
          obtain ⟨ee, hee⟩ : ∃ x, putE room l ⟨ka, kq⟩ = x := ⟨_, rfl⟩
          have KR := Lib.hid (fun W (T : TlF w W a rb room (putL room l ⟨ka, kq⟩ u) (.slice pv l.length cv) l (ob :: X)) => T.rpush HRi.out hl6 hr2 u ⟨ka, kq⟩)
          rw [hee] at KP0 KR
          unfold kyV at KP0 KR
          have KP := Lib.hid KP0
          clear KP0 hee
          go_upto_region 13 with (go_at_call 23; refine KP.out.mono ?_; rintro e W6 ⟨rfl, T6, X6⟩)
          have BX6 := Lib.hid (box_same BX.out (X6.out ob (by simp)))
          clear c0 c1 c2 c3 KP X6 BX T5
          have c1 : W6.cell? ⟨ob, 1, none⟩ = some (.int .u64 u) := BX6.out.cell 1
          have c2 : W6.cell? ⟨ob, 2, none⟩ = some (.int .u64 (ka : Int)) := BX6.out.cell 2
          have c3 : W6.cell? ⟨ob, 3, none⟩ = some (.int .u64 (kq : Int)) := BX6.out.cell 3
          have y0 : W6.cell? ⟨rb, 0, none⟩ = some (.int .i64 (room : Int)) := T6.out.box.cell 0
          have y1 : W6.cell? ⟨rb, 1, none⟩ = some (.slice pv l.length cv) := T6.out.box.cell 1
          go_wp2_with fail
          refine (KR.out _ T6.out).mono ?_
          rintro e W7 ⟨v', X7, rfl, T7, N7⟩
          obtain ⟨p', c', rfl, _⟩ := N7.out.1
          have b8 := (Below.refl _ W7).alloc (Nat.le_refl _) (.cells #[.int .i64 (room : Int), .slice p' (putL room l ⟨ka, kq⟩ u).length c'] 64)
          have T8 := Lib.hid (T7.out.below b8)
          have N8 := Lib.hid (N7.out.below b8)
          have BY := Lib.hid (Box.new W7 64 #[.int .i64 (room : Int), .slice p' (putL room l ⟨ka, kq⟩ u).length c'])
          clear c1 c2 c3 y0 y1 b8 KR T6 BX6 T7 N7
          go_upto_region 14 with fail
          obtain ⟨kb, HKB⟩ : ∃ x, Hid (W7.heap.size = x) := ⟨_, Lib.hid rfl⟩
          obtain ⟨V8, HV8⟩ : ∃ V, Hid (W7.alloc (.cells #[.int .i64 (room : Int), .slice p' (putL room l ⟨ka, kq⟩ u).length c'] 64) = V) := ⟨_, Lib.hid rfl⟩
          rw [HV8.out] at T8 N8 BY
          rw [HKB.out] at BY
          rw [HV8.out, HKB.out]
          clear HV8 HKB
          have g0 : V8.cell? ⟨kb, 0, none⟩ = some (.int .i64 (room : Int)) := BY.out.cell 0
          have g1 : V8.cell? ⟨kb, 1, none⟩ = some (.slice p' (putL room l ⟨ka, kq⟩ u).length c') := BY.out.cell 1
          have y0 : V8.cell? ⟨rb, 0, none⟩ = some (.int .i64 (room : Int)) := T8.out.box.cell 0
          have y1 : V8.cell? ⟨rb, 1, none⟩ = some (.slice pv l.length cv) := T8.out.box.cell 1
          have q0 := T8.out.box.frozen 0
          have q1 := T8.out.box.frozen 1
          have T9 := Lib.hid (T8.out.set N8.out)
          clear T8 N8 BY
          go_wp2_with fail
          go_meet
          exact ⟨_, _, _, _, rfl, T9⟩
        · have h1z : ((kd : Int) == 1) = false := by rw [beq_eq_false_iff_ne]; omega
          have h1n : ¬ (kd : Int) = 1 := by omega
          by_cases h2 : kd = 2
          · subst h2
            have KP := Lib.hid T5.out.pop
            obtain ⟨y, Hy⟩ : ∃ y, Hid (l.head?.getD noEn = y) := ⟨_, Lib.hid rfl⟩
            obtain ⟨ok, Hok⟩ : ∃ b, Hid (l.head?.isSome = b) := ⟨_, Lib.hid rfl⟩
            have KR := Lib.hid (fun W (T : TlF w W a rb room l.tail (.slice pv l.length cv) l (ob :: X)) => T.rpop)
            unfold popV at KP
            unfold kyV at KP KR
            obtain ⟨tl, Htl⟩ : ∃ t, Hid (l.tail = t) := ⟨_, Lib.hid rfl⟩
            rw [Hy.out, Hok.out, Htl.out] at KP KR
            clear T5 BX
            go_wp2_with fail
            refine KP.out.mono ?_
            rintro e W6 ⟨rfl, T6, X6⟩
            have b7 := (Below.refl _ W6).alloc (Nat.le_refl _) (.cells #[.int .u64 (y.key.at_ : Int), .int .u64 (y.key.seq : Int)] 68)
            have T7 := Lib.hid (T6.out.below b7)
            have BK := Lib.hid (Box.new W6 68 #[.int .u64 (y.key.at_ : Int), .int .u64 (y.key.seq : Int)])
            have hk5 : W6.heap.size ≠ rb := fun e => by have := T6.out.box.lt; omega
            have hrl := T6.out.box.lt
            clear c0 c1 c2 c3 KP X6 b7 T6
            go_upto_region 19 with fail
            obtain ⟨k5, HK5⟩ : ∃ x, Hid (W6.heap.size = x) := ⟨_, Lib.hid rfl⟩
            obtain ⟨V7, HV7⟩ : ∃ V, Hid (W6.alloc (.cells #[.int .u64 (y.key.at_ : Int), .int .u64 (y.key.seq : Int)] 68) = V) := ⟨_, Lib.hid rfl⟩
            rw [HV7.out] at T7 BK
            rw [HK5.out] at BK hk5
            rw [HK5.out] at hrl
            rw [HV7.out, HK5.out]
            clear HV7 HK5
            have y0 : V7.cell? ⟨rb, 0, none⟩ = some (.int .i64 (room : Int)) := T7.out.box.cell 0
            have y1 : V7.cell? ⟨rb, 1, none⟩ = some (.slice pv l.length cv) := T7.out.box.cell 1
            have hkl := BK.out.lt
            go_wp2_with fail
            refine (KR.out _ T7.out).mono ?_
            rintro e W8 ⟨v', rfl, T8, N8, B8⟩
            obtain ⟨p', c', rfl, _⟩ := N8.out.1
            obtain ⟨W9, HW9⟩ : ∃ W9, Hid ((W8.alloc (.cells #[.int .i64 (room : Int), .slice p' tl.length c'] 64)).alloc (.cells #[.int .u64 (y.key.at_ : Int), .int .u64 (y.key.seq : Int)] 68) = W9) := ⟨_, Lib.hid rfl⟩
            obtain ⟨xa, xb, b9⟩ := two_box HW9.out
            have T9 := Lib.hid (T8.out.below b9)
            have N9 := Lib.hid (N8.out.below b9)
            have BK9 := Lib.hid (BK.out.below (below_tr B8.out b9) BK.out.lt)
            have hsz := B8.out.size
            clear y0 y1 KR T7 T8 N8 b9 B8 BK
            obtain ⟨kb, HKB⟩ : ∃ x, Hid (W8.heap.size = x) := ⟨_, Lib.hid rfl⟩
            rw [HKB.out] at xa xb hsz
            have XA := Lib.hid xa
            have XB := Lib.hid xb
            clear xa xb
            go_upto_region 20 with fail
            rw [HW9.out, HKB.out]
            clear HW9 HKB
            have g0 : W9.cell? ⟨kb, 0, none⟩ = some (.int .i64 (room : Int)) := XA.out.cell 0
            have g1 : W9.cell? ⟨kb, 1, none⟩ = some (.slice p' tl.length c') := XA.out.cell 1
            have y0 : W9.cell? ⟨rb, 0, none⟩ = some (.int .i64 (room : Int)) := T9.out.box.cell 0
            have y1 : W9.cell? ⟨rb, 1, none⟩ = some (.slice pv l.length cv) := T9.out.box.cell 1
            have q0 := T9.out.box.frozen 0
            have q1 := T9.out.box.frozen 1
            have hkb : kb + 1 ≠ rb := by omega
            have T10 := Lib.hid (T9.out.set N9.out)
            have BK10 := Lib.hid ((BK9.out.other hk5 (i := 0) (.int .i64 (room : Int))).other hk5 (i := 1) (.slice p' tl.length c'))
            have XB10 := Lib.hid ((XB.out.other hkb (i := 0) (.int .i64 (room : Int))).other hkb (i := 1) (.slice p' tl.length c'))
            clear T9 N9 BK9 XB XA
            go_upto_region 21 with fail
            clear g0 g1 y0 y1 q0 q1
            obtain ⟨V9, HV9⟩ : ∃ V, Hid ((W9.setCell ⟨rb, 0, none⟩ (.int .i64 (room : Int))).setCell ⟨rb, 1, none⟩ (.slice p' tl.length c') = V) := ⟨_, Lib.hid rfl⟩
            rw [HV9.out] at T10 BK10 XB10
            rw [HV9.out]
            have c0 : V9.cell? ⟨k5, 0, none⟩ = some (.int .u64 (y.key.at_ : Int)) := BK10.out.cell 0
            have c1 : V9.cell? ⟨k5, 1, none⟩ = some (.int .u64 (y.key.seq : Int)) := BK10.out.cell 1
            have d0 : V9.cell? ⟨kb + 1, 0, none⟩ = some (.int .u64 (y.key.at_ : Int)) := XB10.out.cell 0
            have d1 : V9.cell? ⟨kb + 1, 1, none⟩ = some (.int .u64 (y.key.seq : Int)) := XB10.out.cell 1
            have hE := fun W => key_neq_self y.key W
            clear BK10 XB10 HV9 hkb hk5
            go_wp2_with fail
            go_meet
            exact ⟨_, _, _, _, rfl, T10⟩
          · have h2z : ((kd : Int) == 2) = false := by rw [beq_eq_false_iff_ne]; omega
            have h2n : ¬ (kd : Int) = 2 := by omega
            go_wp2_with fail
            go_meet
            exact ⟨_, _, _, _, rfl, T5⟩
      case rest =>
      obtain ⟨V, X, v, l, rfl, T⟩ := hcut
      clear T5 BX c0 c1 c2 c3
      obtain ⟨pv, cv, rfl, _⟩ := T.out.row
      have hl6 : l.length ≤ 65536 := Nat.le_trans T.out.q.ok.room hr2
      have KH := Lib.hid T.out.q.head
      obtain ⟨y, Hy⟩ : ∃ y, Hid (l.head?.getD noEn = y) := ⟨_, Lib.hid rfl⟩
      obtain ⟨ok, Hok⟩ : ∃ b, Hid (l.head?.isSome = b) := ⟨_, Lib.hid rfl⟩
      obtain ⟨n, HN⟩ : ∃ n, Hid (l.length = n) := ⟨_, Lib.hid rfl⟩
      have KG := Lib.hid (fun W (r : RowAt W (.slice pv l.length cv) l) => ref_head (room : Int) W r)
      unfold popV kyV at KH KG
      rw [Hy.out, Hok.out] at KH KG
      go_wp2_with fail
      refine KH.out.mono ?_
      rintro e V1 ⟨rfl, b1⟩
      have b2 := below_tr b1.out ((Below.refl _ V1).alloc (Nat.le_refl _) (.cells #[.int .u64 (y.key.at_ : Int), .int .u64 (y.key.seq : Int)] 68))
      have T2 := Lib.hid (T.out.below b2)
      have BA := Lib.hid (Box.new V1 68 #[.int .u64 (y.key.at_ : Int), .int .u64 (y.key.seq : Int)])
      clear KH b1 b2 T
      go_upto_region 24 with fail
      obtain ⟨k1, HK1⟩ : ∃ x, Hid (V1.heap.size = x) := ⟨_, Lib.hid rfl⟩
      obtain ⟨V2, HV2⟩ : ∃ W, Hid (V1.alloc (.cells #[.int .u64 (y.key.at_ : Int), .int .u64 (y.key.seq : Int)] 68) = W) := ⟨_, Lib.hid rfl⟩
      rw [HV2.out] at T2 BA
      rw [HK1.out] at BA
      rw [HV2.out, HK1.out]
      clear HV2 HK1
      have y0 : V2.cell? ⟨rb, 0, none⟩ = some (.int .i64 (room : Int)) := T2.out.box.cell 0
      have y1 : V2.cell? ⟨rb, 1, none⟩ = some (.slice pv l.length cv) := T2.out.box.cell 1
      go_wp2_with fail
      refine (KG.out _ T2.out.row).mono ?_
      rintro e V3 ⟨rfl, b3⟩
      have b4 := below_tr b3 ((Below.refl _ V3).alloc (Nat.le_refl _) (.cells #[.int .u64 (y.key.at_ : Int), .int .u64 (y.key.seq : Int)] 68))
      have T4 := Lib.hid (T2.out.below b4)
      have BA4 := Lib.hid (BA.out.below b4 BA.out.lt)
      have BB4 := Lib.hid (Box.new V3 68 #[.int .u64 (y.key.at_ : Int), .int .u64 (y.key.seq : Int)])
      clear y0 y1 KG b3 b4 T2 BA
      go_upto_region 25 with fail
      obtain ⟨k2, HK2⟩ : ∃ x, Hid (V3.heap.size = x) := ⟨_, Lib.hid rfl⟩
      obtain ⟨V4, HV4⟩ : ∃ W, Hid (V3.alloc (.cells #[.int .u64 (y.key.at_ : Int), .int .u64 (y.key.seq : Int)] 68) = W) := ⟨_, Lib.hid rfl⟩
      rw [HV4.out] at T4 BA4 BB4
      rw [HK2.out] at BB4
      rw [HV4.out, HK2.out]
      clear HV4 HK2
      have HC : Hid (∀ wy, Below V4.heap.size V4 wy → wy.cell? ⟨k1, 0, none⟩ = some (.int .u64 (y.key.at_ : Int)) ∧ wy.cell? ⟨k1, 1, none⟩ = some (.int .u64 (y.key.seq : Int)) ∧ wy.cell? ⟨k2, 0, none⟩ = some (.int .u64 (y.key.at_ : Int)) ∧ wy.cell? ⟨k2, 1, none⟩ = some (.int .u64 (y.key.seq : Int)) ∧ wy.cell? ⟨rb, 0, none⟩ = some (.int .i64 (room : Int)) ∧ wy.cell? ⟨rb, 1, none⟩ = some (.slice pv n cv)) := Lib.hid fun wy bb => by
        have h1 := BA4.out.below bb BA4.out.lt
        have h2 := BB4.out.below bb BB4.out.lt
        have h3 := T4.out.box.below bb T4.out.box.lt
        rw [HN.out] at h3
        exact ⟨h1.cell 0, h1.cell 1, h2.cell 0, h2.cell 1, h3.cell 0, h3.cell 1⟩
      have KLn : Hid (∀ wy, Below V4.heap.size V4 wy → Calls Try.prog 29 #[.pointer (some a)] wy fun e W' => e = .returned (.int .i64 (n : Nat)) ∧ Hid (Below wy.heap.size wy W')) := Lib.hid fun wy bb => by
        have h := (T4.out.below bb).q.len
        rw [show (⟨room, l⟩ : Fg).l.length = n from HN.out] at h
        exact h
      have KAl : Hid (∀ wy, Below V4.heap.size V4 wy → Calls Try.prog 31 #[.pointer (some a)] wy fun e W' => ∃ p c, e = .returned (.slice p n c) ∧ Hid (W'.ownsRow wy.heap.size 32 1 (.slice p n c) n (l.map hV)) ∧ Hid (Below wy.heap.size wy W')) := Lib.hid fun wy bb => by
        have h := (T4.out.below bb).q.all
        rw [show (⟨room, l⟩ : Fg).l.length = n from HN.out] at h
        exact h
      have KRa : Hid (∀ wy, Below V4.heap.size V4 wy → Calls Try.prog 32 #[.agg #[.int .i64 (room : Int), .slice pv n cv]] wy fun e W' => ∃ p c, e = .returned (.slice p n c) ∧ W'.ownsRow wy.heap.size 32 1 (.slice p n c) n (l.map hV) ∧ Below wy.heap.size wy W') := Lib.hid fun wy bb => by
        have h := ref_all (room : Int) wy ((T4.out.below bb).row) hl6
        rw [HN.out] at h
        exact h
      have hE := fun W => key_neq_self y.key W
      obtain ⟨m0, m1, m2, m3, m4, m5⟩ := HC.out V4 (Below.refl _ _)
      have hn6 : n ≤ 65536 := by rw [← HN.out]; exact hl6
      clear BA4 BB4 Hy Hok
      go_region_held3 (fun wy => wy.cell? ⟨k1, 0, none⟩ = some (.int .u64 (y.key.at_ : Int)) ∧ wy.cell? ⟨k1, 1, none⟩ = some (.int .u64 (y.key.seq : Int)) ∧ wy.cell? ⟨k2, 0, none⟩ = some (.int .u64 (y.key.at_ : Int)) ∧ wy.cell? ⟨k2, 1, none⟩ = some (.int .u64 (y.key.seq : Int)) ∧ wy.cell? ⟨rb, 0, none⟩ = some (.int .i64 (room : Int)) ∧ wy.cell? ⟨rb, 1, none⟩ = some (.slice pv n cv))
        (first | exact HC.out _ (Below.refl _ _).drew | exact HC.out _ bD | exact HC.out _ bC | exact HC.out _ bB | exact HC.out _ bA)
        (first
          | (go_at_call 30; refine Calls.mono (handles_same HN.out hn6 o1 o2) ?_; rintro e W9 ⟨rfl, b9⟩; have bD := below_tr bC b9)
          | (go_at_call 32; refine Calls.mono (KRa.out _ bB) ?_; rintro e W8 ⟨p2, c2, rfl, o2, b8⟩; have o1 := owns_below o0.out b8; have bC := below_tr bB b8)
          | (go_at_call 31; refine Calls.mono (KAl.out _ bA) ?_; rintro e W7 ⟨p1, c1, rfl, o0, b7⟩; have bB := below_tr bA b7.out)
          | (go_at_call 29; refine Calls.mono (KLn.out _ (Below.refl _ V4).drew) ?_; rintro e W6 ⟨rfl, b6⟩; have bA := below_tr (Below.refl _ V4).drew b6.out))
      all_goals
        have T9 := Lib.hid (T4.out.below bD)
        clear bA bB bC bD b6 b7 b8 b9 o0 o1 o2 m0 m1 m2 m3 m4 m5 hE T4 HC KLn KAl KRa
        go_wp2_with fail
        go_roundg (len1 - (i + 1))
        case measure => omega
        case rel => exact ⟨i + 1, X, _, l, rfl, by omega, by go_num, T9⟩
  · have KN := Lib.hid (f_new_no a0 (by omega) w)
    have KR := Lib.hid (fun W => ref_new a0 W)
    rw [decide_eq_false hroom] at KR
    clear hroom
    go_enter Try.func5, Try.ntmps5
    go_upto_region 2 with (go_at_call 20; refine KN.out.mono ?_; rintro e W1 ⟨rfl, b1⟩)
    go_wp2_with fail
    refine (KR.out _).mono ?_
    rintro e W2 ⟨rfl, b2⟩
    have b3 := below_tr (below_tr b1 b2) ((Below.refl _ W2).alloc (Nat.le_refl _) (.cells #[.int .i64 a0, .slice none 0 0] 64))
    have HB3 := Lib.hid b3
    have KA3 := Lib.hid (HA.out (W2.alloc (.cells #[.int .i64 a0, .slice none 0 0] 64)))
    clear KN KR b1 b2 b3
    go_wp2_with fail
    refine KA3.out.mono ?_
    rintro e W9 ⟨rfl, b9⟩
    have HE := Lib.hid (below_tr HB3.out b9)
    clear b9 KA3
    go_wp2_with fail
    go_ret
    exact ⟨rfl, HE.out⟩

end Go.Proofs.Ytkiibobpejoaeaa
