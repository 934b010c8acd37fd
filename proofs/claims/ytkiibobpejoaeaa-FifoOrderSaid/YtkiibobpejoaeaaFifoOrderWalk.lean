/-
  FifoOrder, walked.
-/
import Derived.Test.YtkiibobpejoaeaaFifoOrderFacts
namespace Go.Proofs.Ytkiibobpejoaeaa
open Go.RowKit Go.Maps Go.WideMaps
set_option linter.unusedVariables false
set_option linter.unusedSimpArgs false

set_option maxHeartbeats 16000000 in
set_option maxRecDepth 100000 in
/-- Below w.heap.size w w' -/
theorem fifoOrder_walk (a0 : Option Addr) (len0 cap0 : Nat) (z0 : List (List Value)) (a1 : Option Addr) (len1 cap1 : Nat) (z1 : List (List Value)) (w : World) (w0 : RowOf [some .u8, some .u64, some .u64, some .u64] w a0 len0 cap0 z0) (w1 : RowOf [some .u8, some .u64, some .u64, some .u64] w a1 len1 cap1 z1) :
    Calls Try.prog 6 #[.slice a0 len0 cap0, .slice a1 len1 cap1] w fun e w' => e = .returned (.bool true) ∧ Below w.heap.size w w' := by
  have hfit0 := row_fit w0
  obtain ⟨hlo1, hco1⟩ := row_fit w1
  have HR0 := Lib.hid w0
  have HR1 := Lib.hid w1
  have HA := Lib.hid awake11
  obtain ⟨l0, HL0⟩ : ∃ l, Hid (madeF z0 (min len0 60) = ⟨40, l⟩) := by
    obtain ⟨l, h⟩ := madeF_eq z0 (min len0 60)
    exact ⟨l, Lib.hid h⟩
  have KP10 := law_made a0 len0 cap0 z0 w w w hfit0 HR0 (Below.refl _ _) len0 (Nat.le_refl _) (Below.refl _ _)
  rw [HL0.out] at KP10
  have KP1 := Lib.hid KP10
  obtain ⟨m1, Hm1⟩ : ∃ n, Hid (min len1 20 = n) := ⟨_, Lib.hid rfl⟩
  have hm20 : m1 ≤ 20 := by have := Hm1.out; omega
  have hm1 : m1 ≤ len1 := by have := Hm1.out; omega
  clear w0 w1 KP10
  go_enter Try.func6, Try.ntmps6
  go_upto_region 4 with (go_at_call 33; refine KP1.out.mono ?_; rintro e W1 ⟨a, rfl, S1⟩)
  have HO0 := Lib.hid S1.out.ok
  have hlen : l0.length ≤ 40 := HO0.out.room
  have KA : Hid (Calls Try.prog 31 #[.pointer (some a)] W1 fun e W' => ∃ p c, e = .returned (.slice p l0.length c) ∧ Hid (FSt w W' a ⟨40, l0⟩ [] [(.slice p l0.length c, l0.map hV)])) := Lib.hid S1.out.all
  clear KP1 S1
  go_wp2_with fail
  refine KA.out.mono ?_
  rintro e W2 ⟨p, c, rfl, S2⟩
  clear KA
  have KP20 := law_made a0 len0 cap0 z0 w W2 W2 hfit0 HR0 S2.out.lo len0 (Nat.le_refl _) (Below.refl _ _)
  rw [HL0.out] at KP20
  have KP2 := Lib.hid KP20
  clear KP20
  go_upto_region 6 with (go_at_call 33; refine KP2.out.mono ?_; rintro e W3 ⟨b, rfl, S3⟩)
  clear KP2 HR0 HL0
  have SB0 : Hid (OSt [W3.heap.size] W2 (W3.alloc (.cells #[.int .u64 0, .int .u64 0] 68)) b ⟨40, l0⟩) := Lib.hid ((OSt.of S3.out).add ((Below.refl _ W3).alloc (Nat.le_refl _) _) (by rw [World.size_alloc]; omega))
  have BX0 : Hid (Box (W3.alloc (.cells #[.int .u64 0, .int .u64 0] 68)) W3.heap.size 68 #[.int .u64 ((⟨0, 0⟩ : Ky).at_ : Int), .int .u64 ((⟨0, 0⟩ : Ky).seq : Int)]) := Lib.hid (Box.new W3 _ _)
  clear S3
  go_upto_region 7 with fail
  obtain ⟨lb, HLB⟩ : ∃ x, Hid (W3.heap.size = x) := ⟨_, Lib.hid rfl⟩
  obtain ⟨W4, HW4⟩ : ∃ V, Hid (W3.alloc (.cells #[.int .u64 0, .int .u64 0] 68) = V) := ⟨_, Lib.hid rfl⟩
  rw [HW4.out, HLB.out] at SB0 BX0
  rw [HW4.out, HLB.out]
  clear HW4 HLB
  have HROW : Hid (∀ (j : Nat) (h : j < l0.length), ∃ gb, p = some ⟨gb, 0, none⟩ ∧ ∀ W, Below W2.heap.size W2 W → W.cell? ⟨gb, j, none⟩ = some (.int .u64 (l0[j]).val)) := Lib.hid (by
    intro j h
    have hrow : W2.ownsRow w.heap.size 32 1 (.slice p (l0.map En.val).length c) (l0.map En.val).length ((l0.map En.val).map uV) := by
      have hr := S2.out.rowed List.mem_cons_self
      rw [List.length_map] at hr
      rw [List.length_map, List.map_map]
      exact hr
    obtain ⟨_, hq⟩ := owns_u hrow
    rcases hq with ⟨_, e⟩ | ⟨gb, rfl, hg, hc⟩
    · have := congrArg List.length e
      simp at this
      rw [this] at h
      simp at h
    · exact ⟨gb, rfl, fun W bw => (bw.cell (p := ⟨gb, j, none⟩) hg).trans (by rw [hc j (by simpa using h)]; simp)⟩)
  have HQ2 := Lib.hid (OSt.of S2.out)
  clear S2
  obtain ⟨n, HN⟩ : ∃ n, Hid (l0.length = n) := ⟨_, Lib.hid rfl⟩
  have hn40 : n ≤ 40 := by have := HN.out; omega
  rw [HN.out]
  go_wp2_with fail
  go_loopg [45] n (fun s v45 wx => ∃ (i : Nat) (m : List En) (lk : Ky), n - i = s ∧ i ≤ n ∧ v45 = .int .i64 (i : Int) ∧ Hid (l0.drop i = m) ∧ Hid (OSt [lb] W2 wx b ⟨40, m⟩) ∧ Hid (Box wx lb 68 #[.int .u64 (lk.at_ : Int), .int .u64 (lk.seq : Int)]) ∧ Hid (i = 0 ∨ ∀ e, e ∈ m → lk.lt e.key))
  case atStart => exact ⟨0, l0, ⟨0, 0⟩, rfl, by omega, rfl, Lib.hid rfl, SB0, BX0, Lib.hid (.inl rfl)⟩
  case round =>
  clear SB0 BX0
  obtain ⟨i, m, lk, rfl, hi, rfl, HD, HS, HBx, HLt⟩ := hrel
  by_cases hin : i = n
  · have hiz : ¬ (i : Int) < (n : Int) := by omega
    obtain rfl : m = [] := by rw [← HD.out, hin, ← HN.out, List.drop_length]
    have K4 : Hid (Calls Try.prog 29 #[.pointer (some b)] wr fun e W' => e = .returned (.int .i64 0) ∧ Hid (Below wr.heap.size wr W')) := Lib.hid HS.out.len
    have SQ0 := Lib.hid (HQ2.out.below HS.out.lo)
    clear HD HS HBx HLt HQ2 HROW HN hin
    go_upto_region 17 with (go_at_call 29; refine K4.out.mono ?_; rintro e W5 ⟨rfl, b5⟩)
    clear K4
    have SQ1 := SQ0.out.below b5.out
    have SQ : Hid (OSt [W5.heap.size] w (W5.alloc (.map #[] 0)) a ⟨40, l0⟩) := Lib.hid (SQ1.add ((Below.refl _ W5).alloc (Nat.le_refl _) _) (by rw [World.size_alloc]; omega))
    have HM0 : Hid (MapQ (W5.alloc (.map #[] 0)) W5.heap.size 0 (.map [])) := Lib.hid (World.ownsMap_made W5 _ _ _)
    clear SQ0 SQ1 b5
    have hmm := @run_makeMap Try.prog
    go_upto_region 18 with fail
    clear hmm
    obtain ⟨W6, HW6⟩ : ∃ V, Hid (W5.alloc (.map #[] 0) = V) := ⟨_, Lib.hid rfl⟩
    obtain ⟨mb, HMB⟩ : ∃ x, Hid (W5.heap.size = x) := ⟨_, Lib.hid rfl⟩
    rw [HW6.out, HMB.out] at SQ HM0
    rw [HW6.out, HMB.out]
    clear HW6 HMB
    go_upto_region 20 with fail
    go_loopg [17, 18] 100 (fun s v17 v18 wx => ∃ (st pu nn : Nat) (l : List En) (D : DataW Unit) (K : List Ky), 100 - st = s ∧ st + l.length ≤ 40 + pu ∧ pu ≤ m1 ∧ nn ≤ pu ∧ v17 = .int .i64 (pu : Int) ∧ v18 = .int .i64 (st : Int) ∧ Hid (OSt [mb] w wx a ⟨40, l⟩) ∧ Hid (MapQ wx mb nn D) ∧ Hid (InQ D l K))
    case atStart => exact ⟨0, 0, 0, l0, _, [], rfl, by omega, by omega, Nat.le_refl _, rfl, rfl, SQ, HM0, Lib.hid (inQ_none l0)⟩
    case round =>
    clear SQ HM0 HO0 hlen
    obtain ⟨st, pu, nn, l, D, K, rfl, hst, hpu, hnn, rfl, rfl, SQ, HMp, HIn⟩ := hrel
    have KL := Lib.hid SQ.out.len
    cases l with
    | nil =>
      have HSz := Lib.hid (inQ_end HIn.out)
      clear HIn
      go_wp2_with fail
      refine KL.out.mono ?_
      rintro e W7 ⟨rfl, b7⟩
      have SQ7 := Lib.hid (SQ.out.below b7.out)
      have HM7 := Lib.hid (mapQ_same HMp.out (SQ.out.block b7.out mb (by simp)))
      have KL7 := Lib.hid SQ7.out.len
      clear KL SQ HMp b7
      go_wp2_with fail
      refine KL7.out.mono ?_
      rintro e W8 ⟨rfl, b8⟩
      have SQ8 := Lib.hid (SQ7.out.below b8.out)
      have HM8 := mapQ_same HM7.out (SQ7.out.block b8.out mb (by simp))
      have hml := fun ty => HM8.len (t := 84) (e := 32) Try.underlying84 ty
      rw [HSz.out] at hml
      have HAw := Lib.hid (HA.out W8)
      have HLo := Lib.hid SQ8.out.lo
      clear KL7 SQ7 HM7 b8 SQ8 HM8 HSz
      go_wp2_with fail
      refine HAw.out.mono ?_
      rintro e W9 ⟨rfl, b9⟩
      have HE := Lib.hid (below_tr HLo.out b9)
      clear b9 HAw
      go_wp2_with fail
      go_ret
      exact ⟨rfl, HE.out⟩
    | cons y0 t0 =>
    have hlp : (0 : Int) < ((y0 :: t0).length : Int) := by rw [List.length_cons]; omega
    have hlp1 : 0 < (y0 :: t0).length := by rw [List.length_cons]; omega
    have hs200 : (st : Int) < 200 := by omega
    obtain ⟨l, Hl⟩ : ∃ l, Hid (y0 :: t0 = l) := ⟨_, Lib.hid rfl⟩
    have KL2 : Hid (Calls Try.prog 29 #[.pointer (some a)] wr fun e W' => e = .returned (.int .i64 ((y0 :: t0).length : Nat)) ∧ Hid (Below wr.heap.size wr W')) := KL
    rw [Hl.out] at hlp hlp1 hst KL2 SQ HIn
    obtain ⟨ll, Hll⟩ : ∃ x, Hid (l.length = x) := ⟨_, Lib.hid rfl⟩
    rw [Hll.out] at hlp hlp1 hst KL2
    clear KL Hl
    go_upto_region 22 with (go_at_call 29; refine KL2.out.mono ?_; rintro e W7 ⟨rfl, b7⟩)
    have SQ7 := Lib.hid (SQ.out.below b7.out)
    have HM7 := Lib.hid (mapQ_same HMp.out (SQ.out.block b7.out mb (by simp)))
    clear KL2 SQ HMp b7 hlp
    go_cut [92] (fun v92 wx => v92 = .bool (decide (pu < m1)) ∧ W7 = wx)
    case first =>
      by_cases h20 : 20 < len1
      · have h20z : (20 : Int) < (len1 : Int) := by omega
        obtain rfl : m1 = 20 := by have := Hm1.out; omega
        by_cases hp : pu < 20
        · have hpz : (pu : Int) < 20 := by omega
          go_wp2_with fail
          go_meet
          exact ⟨by rw [decide_eq_true hp], rfl⟩
        · have hpz : ¬ (pu : Int) < 20 := by omega
          go_wp2_with fail
          go_meet
          exact ⟨by rw [decide_eq_false hp], rfl⟩
      · have h20z : ¬ (20 : Int) < (len1 : Int) := by omega
        obtain rfl : m1 = len1 := by have := Hm1.out; omega
        by_cases hp : pu < m1
        · have hpz : (pu : Int) < (m1 : Int) := by omega
          go_wp2_with fail
          go_meet
          exact ⟨by rw [decide_eq_true hp], rfl⟩
        · have hpz : ¬ (pu : Int) < (m1 : Int) := by omega
          go_wp2_with fail
          go_meet
          exact ⟨by rw [decide_eq_false hp], rfl⟩
    case rest =>
    obtain ⟨rfl, rfl⟩ := hcut
    go_upto_if 92 with fail
    go_cut [17] (fun v17 wx => ∃ (V : World) (pu' nn' : Nat) (x : En) (t : List En) (D' : DataW Unit) (K' : List Ky), V = wx ∧ v17 = .int .i64 (pu' : Int) ∧ st + (t.length + 1) ≤ 40 + pu' ∧ pu' ≤ m1 ∧ nn' ≤ pu' ∧ Hid (OSt [mb] w V a ⟨40, x :: t⟩) ∧ Hid (MapQ V mb nn' D') ∧ Hid (InQ D' (x :: t) K'))
    case first =>
      by_cases hp : pu < m1
      · rw [decide_eq_true hp]
        obtain ⟨ad, o, rfl, hof, HO⟩ := op_cellsF HR1.out (show pu < len1 by omega)
        obtain ⟨o0, o1, o2, o3⟩ := HO W7 SQ7.out.lo
        obtain ⟨kd, v, ⟨ka, kq⟩⟩ := o
        have HOf := Lib.hid hof
        simp only at o0 o1 o2 o3
        have hw1 : IntKind.i64.wrap ((pu : Int) + 1) = ((pu + 1 : Nat) : Int) := by rw [IntKind.wrap_i64]; omega
        have b8 := (Below.refl _ W7).alloc (Nat.le_refl _) (.cells #[.int .u8 (kd : Int), .int .u64 v, .int .u64 (ka : Int), .int .u64 (kq : Int)] 70)
        have SQ8 := Lib.hid (SQ7.out.add b8 (by rw [World.size_alloc]; omega))
        have HM8 := Lib.hid (mapQ_same HM7.out (SQ7.out.block b8 mb (by simp)))
        have BX8 := Lib.hid (Box.new W7 70 #[.int .u8 (kd : Int), .int .u64 v, .int .u64 (ka : Int), .int .u64 (kq : Int)])
        clear HO hof b8 SQ7 HM7
        go_upto_region 24 with fail
        obtain ⟨ob, HOB⟩ : ∃ x, Hid (W7.heap.size = x) := ⟨_, Lib.hid rfl⟩
        obtain ⟨W8, HW8⟩ : ∃ V, Hid (W7.alloc (.cells #[.int .u8 (kd : Int), .int .u64 v, .int .u64 (ka : Int), .int .u64 (kq : Int)] 70) = V) := ⟨_, Lib.hid rfl⟩
        rw [HW8.out, HOB.out] at SQ8
        rw [HW8.out] at HM8 BX8
        rw [HOB.out] at BX8
        rw [HW8.out, HOB.out]
        clear HW8 HOB o0 o1 o2 o3
        have c1 : W8.cell? ⟨ob, 1, none⟩ = some (.int .u64 v) := BX8.out.cell 1
        have c2 : W8.cell? ⟨ob, 2, none⟩ = some (.int .u64 (ka : Int)) := BX8.out.cell 2
        have c3 : W8.cell? ⟨ob, 3, none⟩ = some (.int .u64 (kq : Int)) := BX8.out.cell 3
        have KP0 := SQ8.out.push v HOf.out.2.1 ⟨ka, kq⟩ HOf.out.2.2
        unfold kyV at KP0
        have HKey := Lib.hid (q_key HOf.out.2.2)
        have HFt : Hid (∀ e, e ∈ l → e.key.Fits) := Lib.hid fun e he => (SQ8.out.ok.fits e he).1
        have HRm : Hid (l.length ≤ 40) := Lib.hid SQ8.out.ok.room
        by_cases h0 : putE 40 l ⟨ka, kq⟩ = 0
        · have hg : (getL (⟨ka, kq⟩ : Ky) l).isSome = false := by
            unfold putE at h0
            cases h : (getL (⟨ka, kq⟩ : Ky) l).isSome with
            | false => rfl
            | true => rw [h] at h0; simp at h0
          have hpl : putL 40 l ⟨ka, kq⟩ v = insL ⟨ka, kq⟩ v l := by unfold putL; rw [if_pos h0]
          have HIn2 := Lib.hid (inQ_put (v := v) HIn.out HOf.out.2.2 HFt.out hg)
          rw [show putE (⟨40, l⟩ : Fg).room (⟨40, l⟩ : Fg).l ⟨ka, kq⟩ = 0 from h0, show putL (⟨40, l⟩ : Fg).room (⟨40, l⟩ : Fg).l ⟨ka, kq⟩ v = _ from hpl] at KP0
          have hvw : (Lit.int .u64 v).wf = true := by
            have := HOf.out.2.1
            unfold Hw at this
            simp [Lit.wf, IntKind.min, IntKind.max, IntKind.signed, IntKind.bits]
            simp only at this
            omega
          have HWf := Lib.hid hvw
          obtain ⟨l2, Hl2⟩ : ∃ x, Hid (insL ⟨ka, kq⟩ v l = x) := ⟨_, Lib.hid rfl⟩
          have hl2 : l2.length = ll + 1 := by rw [← Hl2.out, insL_length, Hll.out]
          rw [Hl2.out] at KP0 HIn2
          have KP := Lib.hid KP0
          clear h0 hg hpl KP0 hvw HIn HRm HFt Hl2
          go_wp2_with (first | (go_at_call 23; refine KP.out.mono ?_; rintro e W9 ⟨rfl, S9, X9⟩; have BX9 := box_same BX8.out (X9.out ob (by simp)); have HM9 := Lib.hid (mapQ_same HM8.out (X9.out mb (by simp))); clear c1 c2 c3; have c1 : W9.cell? ⟨ob, 1, none⟩ = some (.int .u64 v) := BX9.cell 1; have c2 : W9.cell? ⟨ob, 2, none⟩ = some (.int .u64 (ka : Int)) := BX9.cell 2; have c3 : W9.cell? ⟨ob, 3, none⟩ = some (.int .u64 (kq : Int)) := BX9.cell 3; clear BX9 X9 BX8 HM8 SQ8 KP) | (at_mapUpdate; refine wpList_mapUpdate_own _ rfl _ _ _ 84 rfl 68 32 lawQ Try.underlying84 _ mb nn D rfl HM9.out (by unfold maxLen; omega) _ _ _ rfl rfl HKey.out (.lit (.int .u64 v)) [] (plainElem_int Try.underlying32 HWf.out) ?_; intro w4 own4 gr4; have SQ4 := Lib.hid (S9.out.put (x := mb) (by simp) gr4); have HM4 := Lib.hid own4; clear own4 gr4 c1 c2 c3))
          go_meet
          cases l2 with
          | nil => simp at hl2
          | cons x t =>
            rw [List.length_cons] at hl2
            exact ⟨_, pu + 1, nn + 1, x, t, _, _, rfl, by go_num, by omega, by omega, by omega, Lib.hid (SQ4.out.sub (by simp)), HM4, HIn2⟩
        · have hpl : putL 40 l ⟨ka, kq⟩ v = l := by unfold putL; rw [if_neg h0]
          obtain ⟨ee, hee⟩ : ∃ y, putE 40 l ⟨ka, kq⟩ = y := ⟨_, rfl⟩
          rw [hee] at h0
          rw [show putE (⟨40, l⟩ : Fg).room (⟨40, l⟩ : Fg).l ⟨ka, kq⟩ = ee from hee, show putL (⟨40, l⟩ : Fg).room (⟨40, l⟩ : Fg).l ⟨ka, kq⟩ v = _ from hpl] at KP0
          have hez : ((ee : Int) == 0) = false := by rw [beq_eq_false_iff_ne]; omega
          have hez2 : ¬ (ee : Int) = 0 := by omega
          have KP := Lib.hid KP0
          clear h0 hpl KP0 hee HRm HFt
          go_wp2_with (go_at_call 23; refine KP.out.mono ?_; rintro e W9 ⟨rfl, S9, X9⟩; have HM9 := Lib.hid (mapQ_same HM8.out (X9.out mb (by simp))); clear c1 c2 c3 X9 BX8 HM8 SQ8 KP)
          go_meet
          cases l with
          | nil => have := Hll.out; simp at this; omega
          | cons x t =>
            have := Hll.out
            rw [List.length_cons] at this
            exact ⟨_, pu + 1, nn, x, t, _, _, rfl, by go_num, by omega, by omega, by omega, Lib.hid (S9.out.sub (by simp)), HM9, HIn⟩
      · rw [decide_eq_false hp]
        go_wp2_with fail
        go_meet
        cases l with
        | nil => have := Hll.out; simp at this; omega
        | cons x t =>
          have := Hll.out
          rw [List.length_cons] at this
          exact ⟨_, pu, nn, x, t, _, _, rfl, rfl, by omega, hpu, hnn, SQ7, HM7, HIn⟩
    case rest =>
    obtain ⟨V, pu2, nn2, x, t, D2, K2, rfl, rfl, hst2, hpu2, hnn2, SV, HMV, HIV⟩ := hcut
    clear SQ7 HM7 HIn Hll hst hpu hnn
    have HRi := Lib.hid SV.out.ok.rises
    have HFi : Hid (∀ y, y ∈ x :: t → y.key.Fits) := Lib.hid fun y hy => (SV.out.ok.fits y hy).1
    have KH : Hid (Calls Try.prog 27 #[.pointer (some a)] V fun e W' => e = .returned (.tuple #[.int .u64 x.val, kyV x.key, .bool true]) ∧ Hid (Below V.heap.size V W')) := Lib.hid SV.out.head
    unfold kyV at KH
    go_wp2_with fail
    refine KH.out.mono ?_
    rintro e V1 ⟨rfl, b1⟩
    have b2 := below_tr b1.out ((Below.refl _ V1).alloc (Nat.le_refl _) (.cells #[.int .u64 (x.key.at_ : Int), .int .u64 (x.key.seq : Int)] 68))
    have S2 := Lib.hid ((SV.out.below b1.out).add ((Below.refl _ V1).alloc (Nat.le_refl _) (.cells #[.int .u64 (x.key.at_ : Int), .int .u64 (x.key.seq : Int)] 68)) (by rw [World.size_alloc]; omega))
    have HM2 := Lib.hid (mapQ_same HMV.out (SV.out.block b2 mb (by simp)))
    have BX2 := Lib.hid (Box.new V1 68 #[.int .u64 (x.key.at_ : Int), .int .u64 (x.key.seq : Int)])
    clear KH b1 b2 SV HMV
    go_upto_region 28 with fail
    obtain ⟨k1, HK1⟩ : ∃ x, Hid (V1.heap.size = x) := ⟨_, Lib.hid rfl⟩
    obtain ⟨V2, HV2⟩ : ∃ W, Hid (V1.alloc (.cells #[.int .u64 (x.key.at_ : Int), .int .u64 (x.key.seq : Int)] 68) = W) := ⟨_, Lib.hid rfl⟩
    rw [HV2.out] at S2 HM2 BX2
    rw [HK1.out] at S2 BX2
    rw [HV2.out, HK1.out]
    clear HV2 HK1
    have KO : Hid (Calls Try.prog 25 #[.pointer (some a)] V2 fun e W' => e = .returned (.tuple #[.int .u64 x.val, kyV x.key, .bool true]) ∧ Hid (OSt [k1, mb] w W' a ⟨40, t⟩) ∧ Hid (∀ z, z ∈ [k1, mb] → W'.heap[z]? = V2.heap[z]?)) := Lib.hid S2.out.pop
    unfold kyV at KO
    go_wp2_with fail
    refine KO.out.mono ?_
    rintro e V3 ⟨rfl, S3, X3⟩
    have b3 := (Below.refl _ V3).alloc (Nat.le_refl _) (.cells #[.int .u64 (x.key.at_ : Int), .int .u64 (x.key.seq : Int)] 68)
    have S4 := Lib.hid (S3.out.below b3)
    have HM4 := Lib.hid (mapQ_same HM2.out ((S3.out.block b3 mb (by simp)).trans (X3.out mb (by simp))))
    have BX4 := Lib.hid (box_same BX2.out ((S3.out.block b3 k1 (by simp)).trans (X3.out k1 (by simp))))
    have BY4 := Lib.hid (Box.new V3 68 #[.int .u64 (x.key.at_ : Int), .int .u64 (x.key.seq : Int)])
    clear KO S2 HM2 BX2 S3 X3 b3
    go_upto_region 29 with fail
    obtain ⟨k2, HK2⟩ : ∃ x, Hid (V3.heap.size = x) := ⟨_, Lib.hid rfl⟩
    obtain ⟨V4, HV4⟩ : ∃ W, Hid (V3.alloc (.cells #[.int .u64 (x.key.at_ : Int), .int .u64 (x.key.seq : Int)] 68) = W) := ⟨_, Lib.hid rfl⟩
    rw [HV4.out] at S4 HM4 BX4 BY4
    rw [HK2.out] at BY4
    rw [HV4.out, HK2.out]
    clear HV4 HK2
    have c0 : V4.cell? ⟨k1, 0, none⟩ = some (.int .u64 (x.key.at_ : Int)) := BX4.out.cell 0
    have c1 : V4.cell? ⟨k1, 1, none⟩ = some (.int .u64 (x.key.seq : Int)) := BX4.out.cell 1
    have d0 : V4.cell? ⟨k2, 0, none⟩ = some (.int .u64 (x.key.at_ : Int)) := BY4.out.cell 0
    have d1 : V4.cell? ⟨k2, 1, none⟩ = some (.int .u64 (x.key.seq : Int)) := BY4.out.cell 1
    have hE := fun W => key_neq_self x.key W
    go_upto_region 31 with fail
    clear c0 c1 d0 d1 hE BY4
    obtain ⟨rb, HRB⟩ : ∃ rb, Hid (V4.heap.size = rb) := ⟨_, Lib.hid rfl⟩
    go_wp2_with (at_range; refine wpList_range_own _ rfl _ 84 rfl 68 32 lawQ Try.underlying84 _ mb nn2 D2 rfl HM4.out ?_; intro w3 hrg0 hg0 hs0)
    go_frame
    have HB3 : Below V4.heap.size V4 w3 := ⟨hg0.os, hg0.tape, hg0.output, hg0.size, fun k hk => hg0.block k hk (by simp)⟩
    have S5 := Lib.hid (S4.out.add HB3 (by omega))
    have BX5 := Lib.hid (box_same BX4.out (S4.out.block HB3 k1 (by simp)))
    rw [HRB.out] at S5 hrg0
    rw [HRB.out]
    have HR5 := Lib.hid hrg0
    clear hrg0 hg0 hs0 HB3 S4 HM4 BX4 HRB
    go_loopg [26] (Maps.size D2) (fun s v26 wx => ∃ (left : Lit → Bool) (cnt : Nat), cnt = s ∧ Hid (OSt [rb, k1, mb] w wx a ⟨40, t⟩) ∧ Hid (RngQ wx mb rb nn2 D2 left cnt) ∧ Hid (∀ kl, left kl = true → Maps.has D2 kl = true) ∧ Hid (Box wx k1 68 #[.int .u64 (x.key.at_ : Int), .int .u64 (x.key.seq : Int)]))
    case atStart => exact ⟨_, _, rfl, S5, HR5, Lib.hid fun kl h => h, BX5⟩
    case round =>
    clear S5 HR5 BX5
    obtain ⟨left, cnt, rfl, S6, HRg, HLf, BX6⟩ := hrel
    go_wp2_with (at_next; refine wpList_next_ranges _ rfl _ rfl 68 lawQ (plainElem Try.prog 32) (fun v : Value => v) (Value.int .u64) (fun key kl _ => ⟨key, rfl⟩) (fun v y hv => by obtain ⟨c, rfl, _⟩ := plainElem_int_inv Try.underlying32 hv; exact ⟨c, rfl⟩) mb rb nn2 D2 left cnt rfl HRg.out ?_ ?_)
    · intro hc0 hl0
      have HM6 := Lib.hid HRg.out.owns
      have HKey := Lib.hid (q_key (HFi.out x List.mem_cons_self))
      have hIP := inQ_pop HIV.out HFi.out
      have HIP := Lib.hid hIP
      have c0 : wr.cell? ⟨k1, 0, none⟩ = some (.int .u64 (x.key.at_ : Int)) := BX6.out.cell 0
      have c1 : wr.cell? ⟨k1, 1, none⟩ = some (.int .u64 (x.key.seq : Int)) := BX6.out.cell 1
      have hws : IntKind.i64.wrap ((st : Int) + 1) = ((st + 1 : Nat) : Int) := by rw [IntKind.wrap_i64]; omega
      by_cases hmem : x.key ∈ K2
      · have HHas := Lib.hid ((HIV.out.has _ (HFi.out x List.mem_cons_self)).2 hmem)
        have HVal := Lib.hid (inQ_val HIV.out HRi.out hmem)
        clear hc0 hl0 hIP HRg HLf HIV HRi hmem
        go_upto_region 37 with (at_lookup; refine wpList_lookup_own_ok_int _ rfl _ _ 84 rfl 68 32 .u64 lawQ Try.underlying84 Try.underlying32 (zeroQ _) mb nn2 D2 rfl HM6.out _ _ rfl HKey.out ?_; intro cc hat hwc; obtain rfl : cc = x.val := (by have := hat.symm.trans HVal.out; simpa using this); rw [HHas.out])
        go_wp2_with (at_delete; refine wpList_delete_own _ rfl _ _ 84 68 rfl 32 lawQ Try.underlying84 _ mb nn2 D2 rfl HM6.out _ _ rfl HKey.out ?_; intro w4 own4 turn4; have S7 := Lib.hid (S6.out.put (x := mb) (by simp) turn4.grown); have HM7 := Lib.hid own4; clear own4 turn4 c0 c1)
        go_roundg (100 - (st + 1))
        case measure => omega
        case rel => exact ⟨st + 1, pu2, nn2, t, _, _, rfl, by omega, hpu2, hnn2, rfl, by go_num, Lib.hid (S7.out.sub (by simp)), HM7, HIP⟩
      · have HHas : Hid (Maps.has D2 (qlit x.key) = false) := by
          cases hd : Maps.has D2 (qlit x.key) with
          | false => exact Lib.hid rfl
          | true => exact absurd ((HIV.out.has _ (HFi.out x List.mem_cons_self)).1 hd) hmem
        clear hc0 hl0 hIP HRg HLf HIV HRi hmem
        go_upto_region 37 with (at_lookup; refine wpList_lookup_own_ok_int _ rfl _ _ 84 rfl 68 32 .u64 lawQ Try.underlying84 Try.underlying32 (zeroQ _) mb nn2 D2 rfl HM6.out _ _ rfl HKey.out ?_; intro cc hat hwc; rw [HHas.out])
        go_wp2_with (at_delete; refine wpList_delete_own _ rfl _ _ 84 68 rfl 32 lawQ Try.underlying84 _ mb nn2 D2 rfl HM6.out _ _ rfl HKey.out ?_; intro w4 own4 turn4; have S7 := Lib.hid (S6.out.put (x := mb) (by simp) turn4.grown); have HM7 := Lib.hid own4; clear own4 turn4 c0 c1)
        go_roundg (100 - (st + 1))
        case measure => omega
        case rel => exact ⟨st + 1, pu2, nn2, t, _, _, rfl, by omega, hpu2, hnn2, rfl, by go_num, Lib.hid (S7.out.sub (by simp)), HM7, HIP⟩
    · intro xv cc kl y y2 w' cnt' hkey hlk hv hat hrg hlt hg1 hs1 hen
      obtain ⟨k, hkf, hkm, rfl⟩ := HIV.out.only kl (HLf.out _ hlk)
      obtain rfl : xv = .agg #[.int .u64 (k.at_ : Int), .int .u64 (k.seq : Int)] := lawQ.inj hkey (q_key hkf)
      have HLeast : Hid (decide (k.lt x.key) = false) := Lib.hid (decide_eq_false (inQ_least HIV.out HRi.out hkm))
      have HLf' : Hid (∀ z, (left z && !z.sameKey (qlit k)) = true → Maps.has D2 z = true) := Lib.hid fun z h => HLf.out z (by simp at h; exact h.1)
      have S7 := S6.out.put (x := rb) (by simp) hg1
      have BX7 : Box w' k1 68 #[.int .u64 (x.key.at_ : Int), .int .u64 (x.key.seq : Int)] := box_same BX6.out (hg1.block k1 BX6.out.lt (fun e => rng_not_box HRg.out BX6.out (Option.some.inj e)))
      have b8 := (Below.refl _ w').alloc (Nat.le_refl _) (.cells #[.int .u64 (k.at_ : Int), .int .u64 (k.seq : Int)] 68)
      have S8 := Lib.hid (S7.below b8)
      have R8 := Lib.hid (rngQ_same hrg (S7.block b8 mb (by simp)) (S7.block b8 rb (by simp)))
      have BX8 := Lib.hid (box_same BX7 (S7.block b8 k1 (by simp)))
      have BY8 := Lib.hid (Box.new w' 68 #[.int .u64 (k.at_ : Int), .int .u64 (k.seq : Int)])
      clear hkey hlk hv hat hrg hg1 hs1 HRg HLf BX6 S6 S7 BX7 b8 hkm
      go_upto_region 34 with fail
      clear hen
      obtain ⟨k3, HK3⟩ : ∃ x, Hid (w'.heap.size = x) := ⟨_, Lib.hid rfl⟩
      obtain ⟨V8, HV8⟩ : ∃ W, Hid (w'.alloc (.cells #[.int .u64 (k.at_ : Int), .int .u64 (k.seq : Int)] 68) = W) := ⟨_, Lib.hid rfl⟩
      rw [HV8.out] at S8 R8 BX8 BY8
      rw [HK3.out] at BY8
      rw [HV8.out, HK3.out]
      clear HV8 HK3
      have c0 : V8.cell? ⟨k1, 0, none⟩ = some (.int .u64 (x.key.at_ : Int)) := BX8.out.cell 0
      have c1 : V8.cell? ⟨k1, 1, none⟩ = some (.int .u64 (x.key.seq : Int)) := BX8.out.cell 1
      have d0 : V8.cell? ⟨k3, 0, none⟩ = some (.int .u64 (k.at_ : Int)) := BY8.out.cell 0
      have d1 : V8.cell? ⟨k3, 1, none⟩ = some (.int .u64 (k.seq : Int)) := BY8.out.cell 1
      have KA0 := law_ahead k x.key V8
      rw [HLeast.out] at KA0
      unfold kyV at KA0
      have KA := Lib.hid KA0
      clear KA0 BY8 HLeast
      go_wp2_with (go_at_call 34; refine KA.out.mono ?_; rintro e V9 ⟨rfl, b9⟩; have S9 := Lib.hid (S8.out.below b9); have R9 := Lib.hid (rngQ_same R8.out (S8.out.block b9 mb (by simp)) (S8.out.block b9 rb (by simp))); have BX9 := Lib.hid (box_same BX8.out (S8.out.block b9 k1 (by simp))); clear c0 c1 d0 d1 b9 KA)
      go_roundg cnt'
      case measure => exact hlt
      case rel => exact ⟨_, cnt', rfl, S9, R9, HLf', BX9⟩
  · have hiz : (i : Int) < (n : Int) := by omega
    have hil : i < l0.length := by have := HN.out; omega
    obtain ⟨x, m', hxm⟩ : ∃ x m', m = x :: m' := ⟨l0[i], l0.drop (i + 1), by rw [← HD.out]; exact List.drop_eq_getElem_cons hil⟩
    have hd2 : l0[i] = x ∧ l0.drop (i + 1) = m' := by
      have h := HD.out
      rw [List.drop_eq_getElem_cons hil, hxm] at h
      exact List.cons.inj h
    subst hxm
    have HD2 := Lib.hid hd2.2
    obtain ⟨gb, rfl, hcell⟩ := HROW.out i hil
    rw [hd2.1] at hcell
    have r0 := hcell wr HS.out.lo
    have HRi := Lib.hid HS.out.ok.rises
    have hwi : IntKind.i64.wrap ((i : Int) + 1) = ((i + 1 : Nat) : Int) := by rw [IntKind.wrap_i64]; omega
    have K4 : Hid (Calls Try.prog 25 #[.pointer (some b)] wr fun e W' => e = .returned (.tuple #[.int .u64 x.val, kyV x.key, .bool true]) ∧ Hid (OSt [lb] W2 W' b ⟨40, m'⟩) ∧ Hid (∀ z, z ∈ [lb] → W'.heap[z]? = wr.heap[z]?)) := Lib.hid HS.out.pop
    unfold kyV at K4
    clear hd2 hcell HS HD
    go_upto_region 10 with fail
    clear r0
    go_wp2_with fail
    refine K4.out.mono ?_
    rintro e W5 ⟨rfl, S5, X5⟩
    have b6 := (Below.refl _ W5).alloc (Nat.le_refl _) (.cells #[.int .u64 (x.key.at_ : Int), .int .u64 (x.key.seq : Int)] 68)
    have S6 := Lib.hid (S5.out.below b6)
    have BL6 := Lib.hid (box_same HBx.out ((S5.out.block b6 lb (by simp)).trans (X5.out lb (by simp))))
    have BK6 := Lib.hid (Box.new W5 68 #[.int .u64 (x.key.at_ : Int), .int .u64 (x.key.seq : Int)])
    clear K4 S5 X5 b6 HBx
    go_upto_region 11 with fail
    obtain ⟨kb, HKb⟩ : ∃ x, Hid (W5.heap.size = x) := ⟨_, Lib.hid rfl⟩
    obtain ⟨V5, HV5⟩ : ∃ V, Hid (W5.alloc (.cells #[.int .u64 (x.key.at_ : Int), .int .u64 (x.key.seq : Int)] 68) = V) := ⟨_, Lib.hid rfl⟩
    rw [HV5.out] at S6 BL6 BK6
    rw [HKb.out] at BK6
    rw [HV5.out, HKb.out]
    clear HV5 HKb
    have c0 : V5.cell? ⟨lb, 0, none⟩ = some (.int .u64 (lk.at_ : Int)) := BL6.out.cell 0
    have c1 : V5.cell? ⟨lb, 1, none⟩ = some (.int .u64 (lk.seq : Int)) := BL6.out.cell 1
    have d0 : V5.cell? ⟨kb, 0, none⟩ = some (.int .u64 (x.key.at_ : Int)) := BK6.out.cell 0
    have d1 : V5.cell? ⟨kb, 1, none⟩ = some (.int .u64 (x.key.seq : Int)) := BK6.out.cell 1
    have KA0 := law_ahead lk x.key V5
    go_cut [72] (fun v72 wx => ∃ V : World, V = wx ∧ v72 = .bool false ∧ Hid (Below V5.heap.size V5 V))
    case first =>
      by_cases hi0 : i = 0
      · obtain rfl := hi0
        clear KA0
        go_wp2_with fail
        go_meet
        exact ⟨_, rfl, rfl, Lib.hid (Below.refl _ _)⟩
      · have hi0z : (0 : Int) < (i : Int) := by omega
        rw [show decide (lk.lt x.key) = true from decide_eq_true (HLt.out.resolve_left hi0 x List.mem_cons_self)] at KA0
        unfold kyV at KA0
        have KA := Lib.hid KA0
        clear KA0
        go_wp2_with (go_at_call 34; refine KA.out.mono ?_; rintro e V9 ⟨rfl, b9⟩; have HB9 := Lib.hid b9; clear b9)
        go_meet
        exact ⟨_, rfl, rfl, HB9⟩
    case rest =>
    obtain ⟨V, rfl, rfl, HBV⟩ := hcut
    have S7 := Lib.hid (S6.out.below HBV.out)
    have BL7 := Lib.hid (BL6.out.below HBV.out BL6.out.lt)
    have BK7 := Lib.hid (BK6.out.below HBV.out BK6.out.lt)
    clear c0 c1 d0 d1 KA0 S6 BL6 BK6 HBV
    have d0 : V.cell? ⟨kb, 0, none⟩ = some (.int .u64 (x.key.at_ : Int)) := BK7.out.cell 0
    have d1 : V.cell? ⟨kb, 1, none⟩ = some (.int .u64 (x.key.seq : Int)) := BK7.out.cell 1
    have f0 : V.frozen? ⟨lb, 0, none⟩ = false := BL7.out.frozen 0
    have f1 : V.frozen? ⟨lb, 1, none⟩ = false := BL7.out.frozen 1
    have c0 : V.cell? ⟨lb, 0, none⟩ = some (.int .u64 (lk.at_ : Int)) := BL7.out.cell 0
    have c1 : V.cell? ⟨lb, 1, none⟩ = some (.int .u64 (lk.seq : Int)) := BL7.out.cell 1
    have S8 := Lib.hid ((S7.out.put (x := lb) (by simp) (grownBy_set V lb 0 (.int .u64 (x.key.at_ : Int)))).put (x := lb) (by simp) (grownBy_set _ lb 1 (.int .u64 (x.key.seq : Int))))
    have BL8 : Hid (Box ((V.setCell ⟨lb, 0, none⟩ (.int .u64 (x.key.at_ : Int))).setCell ⟨lb, 1, none⟩ (.int .u64 (x.key.seq : Int))) lb 68 #[.int .u64 (x.key.at_ : Int), .int .u64 (x.key.seq : Int)]) := Lib.hid ((BL7.out.set 0 (.int .u64 (x.key.at_ : Int))).set 1 (.int .u64 (x.key.seq : Int)))
    have HLt2 : Hid (i + 1 = 0 ∨ ∀ e, e ∈ m' → x.key.lt e.key) := Lib.hid (.inr fun e he => (List.pairwise_cons.1 HRi.out).1 e he)
    clear S7 BL7 BK7 HLt HRi
    go_wp2_with fail
    go_roundg (n - (i + 1))
    case measure => omega
    case rel => exact ⟨i + 1, m', x.key, rfl, by omega, by go_num, HD2, S8, BL8, HLt2⟩

end Go.Proofs.Ytkiibobpejoaeaa
