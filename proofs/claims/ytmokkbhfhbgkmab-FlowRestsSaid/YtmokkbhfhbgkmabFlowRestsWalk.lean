/-
  FlowRests' walk.
-/
import Derived.Test.YtmokkbhfhbgkmabFlowEq
namespace Go.Proofs.Ytmokkbhfhbgkmab
open Go.RowKit
set_option linter.unusedVariables false
set_option linter.unusedSimpArgs false
set_option maxRecDepth 100000

/-- What a flow is behind a rest that was long enough. -/
def Fl.woken (f : Fl) (frm : Int) (p : Pc) : Fl := ⟨f.so, f.ck, f.rate, max f.cr p.q, if 0 < f.by p ∧ 0 < f.db then max f.nx (Num.add frm (Num.time f.db (f.by p))) else f.nx, 0, frm⟩
theorem wake_woken {f : Fl} {frm now : Int} {p : Pc} (h : ¬ now < Num.add frm p.refill) : (f.rest frm).wake now p = f.woken frm p := by
  unfold Fl.wake
  rw [if_neg (show ¬ now < Num.add (f.rest frm).ag p.refill from h)]
  unfold Fl.woken
  by_cases c : 0 < f.by p ∧ 0 < f.db
  · rw [if_pos (show 0 < (f.rest frm).by p ∧ 0 < (f.rest frm).db from c), if_pos c]
    rfl
  · rw [if_neg (show ¬ (0 < (f.rest frm).by p ∧ 0 < (f.rest frm).db) from c), if_neg c]
    rfl
theorem wake_again {f : Fl} {frm now : Int} {p : Pc} (h : ¬ now < Num.add frm p.refill) : (f.woken frm p).wake now p = f.woken frm p := by
  unfold Fl.wake
  rw [if_neg (show ¬ now < Num.add (f.woken frm p).ag p.refill from h), if_neg (fun c => absurd c.2 (Int.lt_irrefl 0))]
  have : max (max f.cr p.q) p.q = max f.cr p.q := by omega
  show (⟨_, _, _, max (max f.cr p.q) p.q, _, _, _⟩ : Fl) = _
  rw [this]
  rfl
theorem wake_short {f : Fl} {frm now : Int} {p : Pc} (h : now < Num.add frm p.refill) : (f.rest frm).wake now p = f.rest frm := by
  unfold Fl.wake
  rw [if_pos (show now < Num.add (f.rest frm).ag p.refill from h)]

set_option maxHeartbeats 4000000 in
theorem flowRests_walk (a0 a1 : List Value) (a2 a3 : Int) (w : World) (w0 : Fits [some .i64, some .i64, some .u64, some .u64, some .u64] a0) (w1 : Fits [some .u64, some .u64, some .u64, some .i64, some .u64, some .u64, some .u64] a1) (w2 : (Lit.int .u64 a2).wf = true) (w3 : (Lit.int .u64 a3).wf = true) :
    Calls Try.prog 3 #[.agg a0.toArray, .agg a1.toArray, .int .u64 a2, .int .u64 a3] w fun e w' => e = .returned (.bool true) ∧ Below w.heap.size w w' := by
  obtain ⟨p, hp, e⟩ := pc_of w0
  obtain ⟨f, hf, e'⟩ := fl_of w1
  rw [e, e']
  clear e e' w0 w1
  have h2 := word_of_wf w2
  have h3 := word_of_wf w3
  clear w2 w3
  have LO := Lib.hid (Below.refl w.heap.size w)
  have KR := Lib.hid fun W => flow_right p W
  have KT := Lib.hid fun W => flow_rest f a2 hf h2 W
  have KW := Lib.hid fun W => flow_wake (f.rest a2) a3 p (hf.rest h2) hp h3 W
  have KB := Lib.hid fun W => flow_rate_b f p hf hp W
  have KS := Lib.hid fun W => sat_add a2 p.refill W h2 hp.refill
  have KA := Lib.hid fun W => awake12 W
  have KTi := Lib.hid fun r (hr : Num.Word r) W => time_b f.db r W hf.db hr
  have KAd := Lib.hid fun x (hx : Num.Word x) W => sat_add a2 x W h2 hx
  have HDB := Lib.hid hf.db
  have HNX := Lib.hid hf.nx
  have hby := Fl.by_word hf hp
  obtain ⟨r, hr⟩ : ∃ r, Hid (f.by p = r) := ⟨_, Lib.hid rfl⟩
  obtain ⟨s, hs⟩ : ∃ s, Hid (Num.add a2 p.refill = s) := ⟨_, Lib.hid rfl⟩
  rw [hr.out] at KB hby
  rw [hs.out] at KS
  have HF := Lib.hid hf
  have HP := Lib.hid hp
  have H2 := Lib.hid h2
  have H3 := Lib.hid h3
  have HR := Lib.hid hby
  clear hf hp h2 h3 hby
  simp only [Fl.v, Pc.v, Fl.c, Pc.c, Fl.rest] at KR KT KB
  simp only [Fl.c, Pc.c]
  go_enter Try.func3, Try.ntmps3
  go_upto_region 1 with fail
  obtain ⟨W1, bp, hW, hb, XP, LO5⟩ := one_more w (Pc.c p) 24
  obtain ⟨W2, bf, hW2, hb2, XF, LO6⟩ := one_more W1 (Fl.c f) 26
  simp only [Fl.c, Pc.c] at hW hW2
  have hbf : Hid (bp + 1 = bf) := by
    refine Lib.hid ?_
    rw [← hb2.out, ← hb.out, ← hW.out, World.size_alloc]
  have NPF : Hid (bp < bf) := Lib.hid (by have := hbf.out; omega)
  have hlo : Hid (w.heap.size ≤ bp) := Lib.hid (Nat.le_of_eq hb.out)
  have BP : Hid (PBox W2 bp p) := Lib.hid ((show PBox W1 bp p from XP.out).below LO6.out (show PBox W1 bp p from XP.out).lt)
  have BF : Hid (FBox W2 bf 26 f) := XF
  replace LO := Lib.hid (below_tr LO5.out LO6.out)
  rw [hW.out, hW2.out, hb.out, hbf.out]
  clear hW hW2 hb hb2 hbf XP XF LO5 LO6
  cases hrt : p.right with
  | false =>
    rw [hrt] at KR
    obtain ⟨cF0, cF1, cF2, cF3, cF4, cF5, cF6⟩ := (BF.out : FBox _ _ _ _).cells
    obtain ⟨cP0, cP1, cP2, cP3, cP4⟩ := (BP.out : PBox _ _ _).cells
    go_wp2_with (first | (go_at_call 5; refine (KR.out _).mono ?_; rintro e W5 ⟨rfl, g5⟩; replace BP := Lib.hid (BP.out.below g5 BP.out.lt); replace BF := Lib.hid (BF.out.below g5 BF.out.lt); replace LO := Lib.hid (below_tr LO.out g5); clear g5 cP0 cP1 cP2 cP3 cP4 cF0 cF1 cF2 cF3 cF4 cF5 cF6; obtain ⟨cF0, cF1, cF2, cF3, cF4, cF5, cF6⟩ := (BF.out : FBox _ _ _ _).cells; obtain ⟨cP0, cP1, cP2, cP3, cP4⟩ := (BP.out : PBox _ _ _).cells) | (go_at_call 6; refine (KA.out _).mono ?_; rintro e W6 ⟨rfl, g6⟩; replace LO := Lib.hid (below_tr LO.out g6); clear g6))
    go_ret
    exact ⟨rfl, LO.out⟩
  | true =>
    rw [hrt] at KR
    clear hrt
    by_cases hq0 : 1099511627776 < f.rate
    · skip
      obtain ⟨cF0, cF1, cF2, cF3, cF4, cF5, cF6⟩ := (BF.out : FBox _ _ _ _).cells
      obtain ⟨cP0, cP1, cP2, cP3, cP4⟩ := (BP.out : PBox _ _ _).cells
      go_wp2_with (first | (go_at_call 5; refine (KR.out _).mono ?_; rintro e W5 ⟨rfl, g5⟩; replace BP := Lib.hid (BP.out.below g5 BP.out.lt); replace BF := Lib.hid (BF.out.below g5 BF.out.lt); replace LO := Lib.hid (below_tr LO.out g5); clear g5 cP0 cP1 cP2 cP3 cP4 cF0 cF1 cF2 cF3 cF4 cF5 cF6; obtain ⟨cF0, cF1, cF2, cF3, cF4, cF5, cF6⟩ := (BF.out : FBox _ _ _ _).cells; obtain ⟨cP0, cP1, cP2, cP3, cP4⟩ := (BP.out : PBox _ _ _).cells) | (go_at_call 6; refine (KA.out _).mono ?_; rintro e W6 ⟨rfl, g6⟩; replace LO := Lib.hid (below_tr LO.out g6); clear g6))
      go_ret
      exact ⟨rfl, LO.out⟩
    have hn0 : decide (1099511627776 < f.rate) = false := by simpa using hq0
    clear hq0
    by_cases hq1 : 1048576 < f.cr
    · skip
      obtain ⟨cF0, cF1, cF2, cF3, cF4, cF5, cF6⟩ := (BF.out : FBox _ _ _ _).cells
      obtain ⟨cP0, cP1, cP2, cP3, cP4⟩ := (BP.out : PBox _ _ _).cells
      go_wp2_with (first | (go_at_call 5; refine (KR.out _).mono ?_; rintro e W5 ⟨rfl, g5⟩; replace BP := Lib.hid (BP.out.below g5 BP.out.lt); replace BF := Lib.hid (BF.out.below g5 BF.out.lt); replace LO := Lib.hid (below_tr LO.out g5); clear g5 cP0 cP1 cP2 cP3 cP4 cF0 cF1 cF2 cF3 cF4 cF5 cF6; obtain ⟨cF0, cF1, cF2, cF3, cF4, cF5, cF6⟩ := (BF.out : FBox _ _ _ _).cells; obtain ⟨cP0, cP1, cP2, cP3, cP4⟩ := (BP.out : PBox _ _ _).cells) | (go_at_call 6; refine (KA.out _).mono ?_; rintro e W6 ⟨rfl, g6⟩; replace LO := Lib.hid (below_tr LO.out g6); clear g6))
      go_ret
      exact ⟨rfl, LO.out⟩
    have hn1 : decide (1048576 < f.cr) = false := by simpa using hq1
    clear hq1
    by_cases hq2 : f.cr < -1048576
    · skip
      obtain ⟨cF0, cF1, cF2, cF3, cF4, cF5, cF6⟩ := (BF.out : FBox _ _ _ _).cells
      obtain ⟨cP0, cP1, cP2, cP3, cP4⟩ := (BP.out : PBox _ _ _).cells
      go_wp2_with (first | (go_at_call 5; refine (KR.out _).mono ?_; rintro e W5 ⟨rfl, g5⟩; replace BP := Lib.hid (BP.out.below g5 BP.out.lt); replace BF := Lib.hid (BF.out.below g5 BF.out.lt); replace LO := Lib.hid (below_tr LO.out g5); clear g5 cP0 cP1 cP2 cP3 cP4 cF0 cF1 cF2 cF3 cF4 cF5 cF6; obtain ⟨cF0, cF1, cF2, cF3, cF4, cF5, cF6⟩ := (BF.out : FBox _ _ _ _).cells; obtain ⟨cP0, cP1, cP2, cP3, cP4⟩ := (BP.out : PBox _ _ _).cells) | (go_at_call 6; refine (KA.out _).mono ?_; rintro e W6 ⟨rfl, g6⟩; replace LO := Lib.hid (below_tr LO.out g6); clear g6))
      go_ret
      exact ⟨rfl, LO.out⟩
    have hn2 : decide (f.cr < -1048576) = false := by simpa using hq2
    clear hq2
    by_cases hq3 : 1048576 < f.db
    · skip
      obtain ⟨cF0, cF1, cF2, cF3, cF4, cF5, cF6⟩ := (BF.out : FBox _ _ _ _).cells
      obtain ⟨cP0, cP1, cP2, cP3, cP4⟩ := (BP.out : PBox _ _ _).cells
      go_wp2_with (first | (go_at_call 5; refine (KR.out _).mono ?_; rintro e W5 ⟨rfl, g5⟩; replace BP := Lib.hid (BP.out.below g5 BP.out.lt); replace BF := Lib.hid (BF.out.below g5 BF.out.lt); replace LO := Lib.hid (below_tr LO.out g5); clear g5 cP0 cP1 cP2 cP3 cP4 cF0 cF1 cF2 cF3 cF4 cF5 cF6; obtain ⟨cF0, cF1, cF2, cF3, cF4, cF5, cF6⟩ := (BF.out : FBox _ _ _ _).cells; obtain ⟨cP0, cP1, cP2, cP3, cP4⟩ := (BP.out : PBox _ _ _).cells) | (go_at_call 6; refine (KA.out _).mono ?_; rintro e W6 ⟨rfl, g6⟩; replace LO := Lib.hid (below_tr LO.out g6); clear g6))
      go_ret
      exact ⟨rfl, LO.out⟩
    have hn3 : decide (1048576 < f.db) = false := by simpa using hq3
    clear hq3
    obtain ⟨cF0, cF1, cF2, cF3, cF4, cF5, cF6⟩ := (BF.out : FBox _ _ _ _).cells
    obtain ⟨cP0, cP1, cP2, cP3, cP4⟩ := (BP.out : PBox _ _ _).cells
    go_upto_region 3 with (first | (go_at_call 5; refine (KR.out _).mono ?_; rintro e W5 ⟨rfl, g5⟩; replace BP := Lib.hid (BP.out.below g5 BP.out.lt); replace BF := Lib.hid (BF.out.below g5 BF.out.lt); replace LO := Lib.hid (below_tr LO.out g5); clear g5 cP0 cP1 cP2 cP3 cP4 cF0 cF1 cF2 cF3 cF4 cF5 cF6; obtain ⟨cF0, cF1, cF2, cF3, cF4, cF5, cF6⟩ := (BF.out : FBox _ _ _ _).cells; obtain ⟨cP0, cP1, cP2, cP3, cP4⟩ := (BP.out : PBox _ _ _).cells) | (go_at_call 6; refine (KA.out _).mono ?_; rintro e W6 ⟨rfl, g6⟩; replace LO := Lib.hid (below_tr LO.out g6); clear g6))
    clear hn0 hn1 hn2 hn3
    clear cF0 cF1 cF2 cF3 cF4 cF5 cF6 cP0 cP1 cP2 cP3 cP4
    obtain ⟨cF0, cF1, cF2, cF3, cF4, cF5, cF6⟩ := (BF.out : FBox _ _ _ _).cells
    go_upto_region 4 with (go_at_call 7; refine (KT.out _).mono ?_; rintro e W5 ⟨rfl, g5⟩)
    clear cF0 cF1 cF2 cF3 cF4 cF5 cF6
    obtain ⟨V1, br, hW, hb, XR, LO6⟩ := one_more W5 (Fl.c ⟨f.so, f.ck, f.rate, f.cr, f.nx, f.db, a2⟩) 26
    simp only [Fl.c, Pc.c] at hW
    have NPR : Hid (bp < br) := Lib.hid (by have h1 := BP.out.lt; have h3 := hb.out; have h2 := g5.size; omega)
    have NFR : Hid (bf < br) := Lib.hid (by have h1 := BF.out.lt; have h3 := hb.out; have h2 := g5.size; omega)
    rw [hW.out, hb.out]
    have L6 := Lib.hid (below_tr g5 LO6.out)
    replace BP := Lib.hid (BP.out.below L6.out BP.out.lt)
    replace BF := Lib.hid (BF.out.below L6.out BF.out.lt)
    replace LO := Lib.hid (below_tr LO.out L6.out)
    have BR : Hid (FBox V1 br 26 ⟨f.so, f.ck, f.rate, f.cr, f.nx, f.db, a2⟩) := XR
    clear hW hb LO6 L6 XR g5
    by_cases hc : a3 < s
    · have e1 : (f.rest a2).wake a3 p = ⟨f.so, f.ck, f.rate, f.cr, f.nx, f.db, a2⟩ := wake_short (by rw [hs.out]; exact hc)
      simp only [Fl.v, Fl.c, Pc.c, e1] at KW
      simp only [Fl.rest] at KW
      clear e1
      obtain ⟨cR0, cR1, cR2, cR3, cR4, cR5, cR6⟩ := (BR.out : FBox _ _ _ _).cells
      obtain ⟨cP0, cP1, cP2, cP3, cP4⟩ := (BP.out : PBox _ _ _).cells
      go_upto_region 5 with (go_at_call 8; refine (KW.out _).mono ?_; rintro e W5 ⟨rfl, g5⟩)
      clear cR0 cR1 cR2 cR3 cR4 cR5 cR6 cP0 cP1 cP2 cP3 cP4
      obtain ⟨V2, bw, hW, hb, XW, LO6⟩ := one_more W5 (Fl.c ⟨f.so, f.ck, f.rate, f.cr, f.nx, f.db, a2⟩) 26
      simp only [Fl.c, Pc.c] at hW
      have NPW : Hid (bp < bw) := Lib.hid (by have h1 := BP.out.lt; have h3 := hb.out; have h2 := g5.size; omega)
      have NFW : Hid (bf < bw) := Lib.hid (by have h1 := BF.out.lt; have h3 := hb.out; have h2 := g5.size; omega)
      have NRW : Hid (br < bw) := Lib.hid (by have h1 := BR.out.lt; have h3 := hb.out; have h2 := g5.size; omega)
      rw [hW.out, hb.out]
      have L6 := Lib.hid (below_tr g5 LO6.out)
      replace BP := Lib.hid (BP.out.below L6.out BP.out.lt)
      replace BF := Lib.hid (BF.out.below L6.out BF.out.lt)
      replace BR := Lib.hid (BR.out.below L6.out BR.out.lt)
      replace LO := Lib.hid (below_tr LO.out L6.out)
      have BW : Hid (FBox V2 bw 26 ⟨f.so, f.ck, f.rate, f.cr, f.nx, f.db, a2⟩) := XW
      clear hW hb LO6 L6 XW g5
      obtain ⟨cP0, cP1, cP2, cP3, cP4⟩ := (BP.out : PBox _ _ _).cells
      obtain ⟨cR0, cR1, cR2, cR3, cR4, cR5, cR6⟩ := (BR.out : FBox _ _ _ _).cells
      obtain ⟨cW0, cW1, cW2, cW3, cW4, cW5, cW6⟩ := (BW.out : FBox _ _ _ _).cells
      go_wp2_with (first | (go_at_call 9; refine (KS.out _).mono ?_; rintro e w' ⟨rfl, rfl⟩) | (go_at_call 6; refine (KA.out _).mono ?_; rintro e W6 ⟨rfl, g6⟩; replace LO := Lib.hid (below_tr LO.out g6); clear g6))
      go_ret
      exact ⟨rfl, LO.out⟩
    have hcn : decide (a3 < s) = false := by simpa using hc
    have HC := Lib.hid hc
    clear hc
    by_cases hr0 : 0 < r
    · by_cases hd0 : 0 < f.db
      · skip
        have e1 : (f.rest a2).wake a3 p = ⟨f.so, f.ck, f.rate, max f.cr p.q, (max f.nx (Num.add a2 (Num.time f.db r))), 0, a2⟩ := by
          rw [wake_woken (by rw [hs.out]; exact HC.out)]
          unfold Fl.woken
          rw [hr.out, if_pos ⟨hr0, hd0⟩]
        have e2 : Fl.wake ⟨f.so, f.ck, f.rate, max f.cr p.q, (max f.nx (Num.add a2 (Num.time f.db r))), 0, a2⟩ a3 p = ⟨f.so, f.ck, f.rate, max f.cr p.q, (max f.nx (Num.add a2 (Num.time f.db r))), 0, a2⟩ := by
          have h := wake_again (f := f) (frm := a2) (now := a3) (p := p) (by rw [hs.out]; exact HC.out)
          have e3 : f.woken a2 p = ⟨f.so, f.ck, f.rate, max f.cr p.q, (max f.nx (Num.add a2 (Num.time f.db r))), 0, a2⟩ := by
            unfold Fl.woken
            rw [hr.out, if_pos ⟨hr0, hd0⟩]
          rw [e3] at h
          exact h
        have KW2 := Lib.hid fun W => flow_wake ⟨f.so, f.ck, f.rate, max f.cr p.q, (max f.nx (Num.add a2 (Num.time f.db r))), 0, a2⟩ a3 p (by have h := (HF.out.rest H2.out).wake HP.out a3; rw [e1] at h; exact h) HP.out H3.out W
        simp only [Fl.v, Fl.c, Pc.c, e1] at KW
        simp only [Fl.v, Fl.c, Pc.c, e2] at KW2
        simp only [Fl.rest] at KW
        clear e1 e2
        obtain ⟨cR0, cR1, cR2, cR3, cR4, cR5, cR6⟩ := (BR.out : FBox _ _ _ _).cells
        obtain ⟨cP0, cP1, cP2, cP3, cP4⟩ := (BP.out : PBox _ _ _).cells
        go_upto_region 5 with (go_at_call 8; refine (KW.out _).mono ?_; rintro e W5 ⟨rfl, g5⟩)
        clear cR0 cR1 cR2 cR3 cR4 cR5 cR6 cP0 cP1 cP2 cP3 cP4
        obtain ⟨V2, bw, hW, hb, XW, LO6⟩ := one_more W5 (Fl.c ⟨f.so, f.ck, f.rate, max f.cr p.q, (max f.nx (Num.add a2 (Num.time f.db r))), 0, a2⟩) 26
        simp only [Fl.c, Pc.c] at hW
        have NPW : Hid (bp < bw) := Lib.hid (by have h1 := BP.out.lt; have h3 := hb.out; have h2 := g5.size; omega)
        have NFW : Hid (bf < bw) := Lib.hid (by have h1 := BF.out.lt; have h3 := hb.out; have h2 := g5.size; omega)
        have NRW : Hid (br < bw) := Lib.hid (by have h1 := BR.out.lt; have h3 := hb.out; have h2 := g5.size; omega)
        rw [hW.out, hb.out]
        have L6 := Lib.hid (below_tr g5 LO6.out)
        replace BP := Lib.hid (BP.out.below L6.out BP.out.lt)
        replace BF := Lib.hid (BF.out.below L6.out BF.out.lt)
        replace BR := Lib.hid (BR.out.below L6.out BR.out.lt)
        replace LO := Lib.hid (below_tr LO.out L6.out)
        have BW : Hid (FBox V2 bw 26 ⟨f.so, f.ck, f.rate, max f.cr p.q, (max f.nx (Num.add a2 (Num.time f.db r))), 0, a2⟩) := XW
        clear hW hb LO6 L6 XW g5
        obtain ⟨cP0, cP1, cP2, cP3, cP4⟩ := (BP.out : PBox _ _ _).cells
        obtain ⟨cR0, cR1, cR2, cR3, cR4, cR5, cR6⟩ := (BR.out : FBox _ _ _ _).cells
        go_upto_region 8 with (go_at_call 9; refine (KS.out _).mono ?_; rintro e w' ⟨rfl, rfl⟩)
        clear cP0 cP1 cP2 cP3 cP4 cR0 cR1 cR2 cR3 cR4 cR5 cR6
        obtain ⟨V3, bx, hW, hb, XX, LO6⟩ := one_more V2 (Fl.c ⟨f.so, f.ck, f.rate, f.cr, f.nx, f.db, a2⟩) 26
        simp only [Fl.c, Pc.c] at hW
        have NPX : Hid (bp < bx) := Lib.hid (by have h1 := BP.out.lt; have h3 := hb.out; omega)
        have NFX : Hid (bf < bx) := Lib.hid (by have h1 := BF.out.lt; have h3 := hb.out; omega)
        have NRX : Hid (br < bx) := Lib.hid (by have h1 := BR.out.lt; have h3 := hb.out; omega)
        have NWX : Hid (bw < bx) := Lib.hid (by have h1 := BW.out.lt; have h3 := hb.out; omega)
        rw [hW.out, hb.out]
        have L6 := Lib.hid LO6.out
        replace BP := Lib.hid (BP.out.below L6.out BP.out.lt)
        replace BF := Lib.hid (BF.out.below L6.out BF.out.lt)
        replace BR := Lib.hid (BR.out.below L6.out BR.out.lt)
        replace BW := Lib.hid (BW.out.below L6.out BW.out.lt)
        replace LO := Lib.hid (below_tr LO.out L6.out)
        have BX : Hid (FBox V3 bx 26 ⟨f.so, f.ck, f.rate, f.cr, f.nx, f.db, a2⟩) := XX
        clear hW hb LO6 L6 XX
        obtain ⟨cP0, cP1, cP2, cP3, cP4⟩ := (BP.out : PBox _ _ _).cells
        obtain ⟨cF0, cF1, cF2, cF3, cF4, cF5, cF6⟩ := (BF.out : FBox _ _ _ _).cells
        obtain ⟨cX0, cX1, cX2, cX3, cX4, cX5, cX6⟩ := (BX.out : FBox _ _ _ _).cells
        have fx3 := (BX.out : FBox _ _ _ _).frozen.2.2.2.1
        have fx5 := (BX.out : FBox _ _ _ _).frozen.2.2.2.2.2.1
        simp only at cX0 cX1 cX2 cX3 cX4 cX5 cX6
        have nxf : bx ≠ bf := by have := NFX.out; omega
        have nfx : bf ≠ bx := by have := NFX.out; omega
        have nxp : bx ≠ bp := by have := NPX.out; omega
        have npx : bp ≠ bx := by have := NPX.out; omega
        have nxw : bx ≠ bw := by have := NWX.out; omega
        have nwx : bw ≠ bx := by have := NWX.out; omega
        go_upto_region 9 with fail
        obtain ⟨V4, hV4⟩ : ∃ V4, Hid ((V3.setCell ⟨bx, 3, none⟩ (.int .i64 (max f.cr p.q))).setCell ⟨bx, 5, none⟩ (.int .u64 0) = V4) := ⟨_, Lib.hid rfl⟩
        have hx0 : FBox ((V3.setCell ⟨bx, 3, none⟩ (.int .i64 (max f.cr p.q))).setCell ⟨bx, 5, none⟩ (.int .u64 0)) bx 26 ⟨f.so, f.ck, f.rate, max f.cr p.q, f.nx, 0, a2⟩ := ((show Box _ bx _ _ from BX.out).set 3 (.int .i64 (max f.cr p.q))).set 5 (.int .u64 0)
        replace BX := Lib.hid hx0
        replace BF := Lib.hid ((BF.out.other (c := bx) (i := 3) nfx (.int .i64 (max f.cr p.q))).other (c := bx) (i := 5) nfx (.int .u64 0))
        replace BW := Lib.hid ((BW.out.other (c := bx) (i := 3) nwx (.int .i64 (max f.cr p.q))).other (c := bx) (i := 5) nwx (.int .u64 0))
        have hp0 : PBox ((V3.setCell ⟨bx, 3, none⟩ (.int .i64 (max f.cr p.q))).setCell ⟨bx, 5, none⟩ (.int .u64 0)) bp p := Box.other (Box.other (show Box _ bp _ _ from BP.out) (c := bx) (i := 3) npx (.int .i64 (max f.cr p.q))) (c := bx) (i := 5) npx (.int .u64 0)
        replace BP := Lib.hid hp0
        have hbx : w.heap.size ≤ bx := by have := NPX.out; have := hlo.out; omega
        replace LO := Lib.hid ((LO.out.setCell (p := ⟨bx, 3, none⟩) hbx (.int .i64 (max f.cr p.q))).setCell (p := ⟨bx, 5, none⟩) hbx (.int .u64 0))
        rw [hV4.out] at BX BF BW BP LO ⊢
        clear hx0 hp0 fx3 fx5 hV4 BR
        clear cP0 cP1 cP2 cP3 cP4 cF0 cF1 cF2 cF3 cF4 cF5 cF6 cX0 cX1 cX2 cX3 cX4 cX5 cX6
        obtain ⟨cF0, cF1, cF2, cF3, cF4, cF5, cF6⟩ := (BF.out : FBox _ _ _ _).cells
        obtain ⟨cP0, cP1, cP2, cP3, cP4⟩ := (BP.out : PBox _ _ _).cells
        go_upto_region 10 with (go_at_call 10; refine (KB.out _).mono ?_; rintro e W5 ⟨rfl, g5⟩)
        clear cF0 cF1 cF2 cF3 cF4 cF5 cF6 cP0 cP1 cP2 cP3 cP4
        replace BP := Lib.hid (BP.out.below g5 BP.out.lt)
        replace BF := Lib.hid (BF.out.below g5 BF.out.lt)
        replace BW := Lib.hid (BW.out.below g5 BW.out.lt)
        replace BX := Lib.hid (BX.out.below g5 BX.out.lt)
        replace LO := Lib.hid (below_tr LO.out g5)
        clear g5
        obtain ⟨cF0, cF1, cF2, cF3, cF4, cF5, cF6⟩ := (BF.out : FBox _ _ _ _).cells
        have HT1 := Lib.hid fun W => KTi.out r HR.out W
        have HT2 := Lib.hid fun W => KAd.out _ (Num.time_word HDB.out HR.out) W
        have hnx0 := HNX.out.1
        have hnx1 := HNX.out.2
        have haw : Num.Word (Num.add a2 (Num.time f.db r)) := Num.add_word H2.out (Num.time_word HDB.out HR.out)
        obtain ⟨haw0, haw1⟩ := haw
        go_upto_region 11 with fail
        have fx4 := (BX.out : FBox _ _ _ _).frozen.2.2.2.2.1
        go_cut [] (fun wx => ∃ V : World, V = wx ∧ Hid (FBox V bx 26 ⟨f.so, f.ck, f.rate, max f.cr p.q, (max f.nx (Num.add a2 (Num.time f.db r))), 0, a2⟩ ∧ FBox V bw 26 ⟨f.so, f.ck, f.rate, max f.cr p.q, (max f.nx (Num.add a2 (Num.time f.db r))), 0, a2⟩ ∧ PBox V bp p ∧ Below w.heap.size w V))
        case first =>
          go_region_held3 (fun w' => w'.cell? ⟨bf, 4, none⟩ = some (.int .u64 f.nx) ∧ w'.cell? ⟨bf, 5, none⟩ = some (.int .u64 f.db)) (first | exact ⟨cF4, cF5⟩ | exact ⟨y4, y5⟩ | exact ⟨z4, z5⟩)
            (first
              | (go_at_call 11; refine (HT1.out _).mono ?_; rintro e W7 ⟨rfl, g7⟩; have G7 := Lib.hid (below_tr (Below.refl _ _).drew g7); have y4 : W7.cell? ⟨bf, 4, none⟩ = some (.int .u64 f.nx) := (BF.out.below G7.out BF.out.lt).cells.2.2.2.2.1; have y5 : W7.cell? ⟨bf, 5, none⟩ = some (.int .u64 f.db) := (BF.out.below G7.out BF.out.lt).cells.2.2.2.2.2.1; have z4 : (W7.setCell ⟨bx, 4, none⟩ (.int .u64 (max f.nx (Num.add a2 (Num.time f.db r))))).cell? ⟨bf, 4, none⟩ = some (.int .u64 f.nx) := ((BF.out.below G7.out BF.out.lt).other (c := bx) (i := 4) nfx _).cells.2.2.2.2.1; have z5 : (W7.setCell ⟨bx, 4, none⟩ (.int .u64 (max f.nx (Num.add a2 (Num.time f.db r))))).cell? ⟨bf, 5, none⟩ = some (.int .u64 f.db) := ((BF.out.below G7.out BF.out.lt).other (c := bx) (i := 4) nfx _).cells.2.2.2.2.2.1; have x4 : W7.frozen? ⟨bx, 4, none⟩ = false := (BX.out.below G7.out BX.out.lt).frozen.2.2.2.2.1; have x5 := (BX.out.below G7.out BX.out.lt).cells.2.2.2.2.1; clear g7)
              | (go_at_call 9; refine (HT2.out _).mono ?_; rintro e w' ⟨rfl, rfl⟩))
          all_goals
            go_wp2_with fail
            go_meet
            exact ⟨_, rfl, Lib.hid ⟨(show Box _ bx _ _ from BX.out.below G7.out BX.out.lt).set 4 _, (BW.out.below G7.out BW.out.lt).other nwx _, Box.other (show Box _ bp _ _ from BP.out.below G7.out BP.out.lt) npx _, (below_tr LO.out G7.out).setCell (p := ⟨bx, 4, none⟩) hbx _⟩⟩
        case rest =>
          obtain ⟨V, rfl, HV⟩ := hcut
          replace BX := Lib.hid HV.out.1
          replace BW := Lib.hid HV.out.2.1
          replace BP := Lib.hid HV.out.2.2.1
          replace LO := Lib.hid HV.out.2.2.2
          go_upto_region 12 with fail
          clear cF0 cF1 cF2 cF3 cF4 cF5 cF6
          have HK : Hid (∀ (W V : World), FBox W bw 26 ⟨f.so, f.ck, f.rate, max f.cr p.q, (max f.nx (Num.add a2 (Num.time f.db r))), 0, a2⟩ → FBox W bx 26 ⟨f.so, f.ck, f.rate, max f.cr p.q, (max f.nx (Num.add a2 (Num.time f.db r))), 0, a2⟩ → PBox W bp p → Below W.heap.size W V → (V.cell? ⟨bw, 0, none⟩ = some (.int .u64 f.so) ∧ V.cell? ⟨bw, 1, none⟩ = some (.int .u64 f.ck) ∧ V.cell? ⟨bw, 2, none⟩ = some (.int .u64 f.rate) ∧ V.cell? ⟨bw, 3, none⟩ = some (.int .i64 (max f.cr p.q)) ∧ V.cell? ⟨bw, 4, none⟩ = some (.int .u64 (max f.nx (Num.add a2 (Num.time f.db r)))) ∧ V.cell? ⟨bw, 5, none⟩ = some (.int .u64 0) ∧ V.cell? ⟨bw, 6, none⟩ = some (.int .u64 a2) ∧ V.cell? ⟨bx, 0, none⟩ = some (.int .u64 f.so) ∧ V.cell? ⟨bx, 1, none⟩ = some (.int .u64 f.ck) ∧ V.cell? ⟨bx, 2, none⟩ = some (.int .u64 f.rate) ∧ V.cell? ⟨bx, 3, none⟩ = some (.int .i64 (max f.cr p.q)) ∧ V.cell? ⟨bx, 4, none⟩ = some (.int .u64 (max f.nx (Num.add a2 (Num.time f.db r)))) ∧ V.cell? ⟨bx, 5, none⟩ = some (.int .u64 0) ∧ V.cell? ⟨bx, 6, none⟩ = some (.int .u64 a2) ∧ V.cell? ⟨bp, 0, none⟩ = some (.int .i64 p.q) ∧ V.cell? ⟨bp, 1, none⟩ = some (.int .i64 p.first) ∧ V.cell? ⟨bp, 2, none⟩ = some (.int .u64 p.refill) ∧ V.cell? ⟨bp, 3, none⟩ = some (.int .u64 p.most) ∧ V.cell? ⟨bp, 4, none⟩ = some (.int .u64 p.low))) := Lib.hid (fun W V h1 h2 h3 g => by
            obtain ⟨a0, a1, a2, a3, a4, a5, a6⟩ := (h1.below g h1.lt).cells
            obtain ⟨b0, b1, b2, b3, b4, b5, b6⟩ := (h2.below g h2.lt).cells
            obtain ⟨c0, c1, c2, c3, c4⟩ := (h3.below g h3.lt).cells
            exact ⟨a0, a1, a2, a3, a4, a5, a6, b0, b1, b2, b3, b4, b5, b6, c0, c1, c2, c3, c4⟩)
          obtain ⟨u0, u1, u2, u3, u4, u5, u6, v0, v1, v2, v3, v4, v5, v6, x0, x1, x2, x3, x4⟩ := HK.out _ _ BW.out BX.out BP.out (Below.refl _ _)
          have KW3 := Lib.hid fun W => KW2.out W
          go_region_held3 (fun w' => w'.cell? ⟨bw, 0, none⟩ = some (.int .u64 f.so) ∧ w'.cell? ⟨bw, 1, none⟩ = some (.int .u64 f.ck) ∧ w'.cell? ⟨bw, 2, none⟩ = some (.int .u64 f.rate) ∧ w'.cell? ⟨bw, 3, none⟩ = some (.int .i64 (max f.cr p.q)) ∧ w'.cell? ⟨bw, 4, none⟩ = some (.int .u64 (max f.nx (Num.add a2 (Num.time f.db r)))) ∧ w'.cell? ⟨bw, 5, none⟩ = some (.int .u64 0) ∧ w'.cell? ⟨bw, 6, none⟩ = some (.int .u64 a2) ∧ w'.cell? ⟨bx, 0, none⟩ = some (.int .u64 f.so) ∧ w'.cell? ⟨bx, 1, none⟩ = some (.int .u64 f.ck) ∧ w'.cell? ⟨bx, 2, none⟩ = some (.int .u64 f.rate) ∧ w'.cell? ⟨bx, 3, none⟩ = some (.int .i64 (max f.cr p.q)) ∧ w'.cell? ⟨bx, 4, none⟩ = some (.int .u64 (max f.nx (Num.add a2 (Num.time f.db r)))) ∧ w'.cell? ⟨bx, 5, none⟩ = some (.int .u64 0) ∧ w'.cell? ⟨bx, 6, none⟩ = some (.int .u64 a2) ∧ w'.cell? ⟨bp, 0, none⟩ = some (.int .i64 p.q) ∧ w'.cell? ⟨bp, 1, none⟩ = some (.int .i64 p.first) ∧ w'.cell? ⟨bp, 2, none⟩ = some (.int .u64 p.refill) ∧ w'.cell? ⟨bp, 3, none⟩ = some (.int .u64 p.most) ∧ w'.cell? ⟨bp, 4, none⟩ = some (.int .u64 p.low)) (first | exact HK.out _ _ BW.out BX.out BP.out ((Below.refl _ _).drew) | exact HK.out _ _ BW.out BX.out BP.out G7.out | exact HK.out _ _ BW.out BX.out BP.out G8.out)
            (first
              | (go_at_call 8; refine (KW3.out _).mono ?_; rintro e W7 ⟨rfl, g7⟩; have G7 := Lib.hid (below_tr (Below.refl _ _).drew g7); clear g7)
              | (go_at_call 6; refine (KA.out _).mono ?_; rintro e W8 ⟨rfl, g8⟩; have G8 := Lib.hid (below_tr G7.out g8); clear g8))
          all_goals
            go_wp2_with fail
            go_ret
            exact ⟨rfl, below_tr LO.out G8.out⟩
      · have hd1 : decide (0 < f.db) = false := by simpa using hd0
        have e1 : (f.rest a2).wake a3 p = ⟨f.so, f.ck, f.rate, max f.cr p.q, f.nx, 0, a2⟩ := by
          rw [wake_woken (by rw [hs.out]; exact HC.out)]
          unfold Fl.woken
          rw [hr.out, if_neg (fun h => hd0 h.2)]
        have e2 : Fl.wake ⟨f.so, f.ck, f.rate, max f.cr p.q, f.nx, 0, a2⟩ a3 p = ⟨f.so, f.ck, f.rate, max f.cr p.q, f.nx, 0, a2⟩ := by
          have h := wake_again (f := f) (frm := a2) (now := a3) (p := p) (by rw [hs.out]; exact HC.out)
          have e3 : f.woken a2 p = ⟨f.so, f.ck, f.rate, max f.cr p.q, f.nx, 0, a2⟩ := by
            unfold Fl.woken
            rw [hr.out, if_neg (fun h => hd0 h.2)]
          rw [e3] at h
          exact h
        have KW2 := Lib.hid fun W => flow_wake ⟨f.so, f.ck, f.rate, max f.cr p.q, f.nx, 0, a2⟩ a3 p (by have h := (HF.out.rest H2.out).wake HP.out a3; rw [e1] at h; exact h) HP.out H3.out W
        simp only [Fl.v, Fl.c, Pc.c, e1] at KW
        simp only [Fl.v, Fl.c, Pc.c, e2] at KW2
        simp only [Fl.rest] at KW
        clear e1 e2
        obtain ⟨cR0, cR1, cR2, cR3, cR4, cR5, cR6⟩ := (BR.out : FBox _ _ _ _).cells
        obtain ⟨cP0, cP1, cP2, cP3, cP4⟩ := (BP.out : PBox _ _ _).cells
        go_upto_region 5 with (go_at_call 8; refine (KW.out _).mono ?_; rintro e W5 ⟨rfl, g5⟩)
        clear cR0 cR1 cR2 cR3 cR4 cR5 cR6 cP0 cP1 cP2 cP3 cP4
        obtain ⟨V2, bw, hW, hb, XW, LO6⟩ := one_more W5 (Fl.c ⟨f.so, f.ck, f.rate, max f.cr p.q, f.nx, 0, a2⟩) 26
        simp only [Fl.c, Pc.c] at hW
        have NPW : Hid (bp < bw) := Lib.hid (by have h1 := BP.out.lt; have h3 := hb.out; have h2 := g5.size; omega)
        have NFW : Hid (bf < bw) := Lib.hid (by have h1 := BF.out.lt; have h3 := hb.out; have h2 := g5.size; omega)
        have NRW : Hid (br < bw) := Lib.hid (by have h1 := BR.out.lt; have h3 := hb.out; have h2 := g5.size; omega)
        rw [hW.out, hb.out]
        have L6 := Lib.hid (below_tr g5 LO6.out)
        replace BP := Lib.hid (BP.out.below L6.out BP.out.lt)
        replace BF := Lib.hid (BF.out.below L6.out BF.out.lt)
        replace BR := Lib.hid (BR.out.below L6.out BR.out.lt)
        replace LO := Lib.hid (below_tr LO.out L6.out)
        have BW : Hid (FBox V2 bw 26 ⟨f.so, f.ck, f.rate, max f.cr p.q, f.nx, 0, a2⟩) := XW
        clear hW hb LO6 L6 XW g5
        obtain ⟨cP0, cP1, cP2, cP3, cP4⟩ := (BP.out : PBox _ _ _).cells
        obtain ⟨cR0, cR1, cR2, cR3, cR4, cR5, cR6⟩ := (BR.out : FBox _ _ _ _).cells
        go_upto_region 8 with (go_at_call 9; refine (KS.out _).mono ?_; rintro e w' ⟨rfl, rfl⟩)
        clear cP0 cP1 cP2 cP3 cP4 cR0 cR1 cR2 cR3 cR4 cR5 cR6
        obtain ⟨V3, bx, hW, hb, XX, LO6⟩ := one_more V2 (Fl.c ⟨f.so, f.ck, f.rate, f.cr, f.nx, f.db, a2⟩) 26
        simp only [Fl.c, Pc.c] at hW
        have NPX : Hid (bp < bx) := Lib.hid (by have h1 := BP.out.lt; have h3 := hb.out; omega)
        have NFX : Hid (bf < bx) := Lib.hid (by have h1 := BF.out.lt; have h3 := hb.out; omega)
        have NRX : Hid (br < bx) := Lib.hid (by have h1 := BR.out.lt; have h3 := hb.out; omega)
        have NWX : Hid (bw < bx) := Lib.hid (by have h1 := BW.out.lt; have h3 := hb.out; omega)
        rw [hW.out, hb.out]
        have L6 := Lib.hid LO6.out
        replace BP := Lib.hid (BP.out.below L6.out BP.out.lt)
        replace BF := Lib.hid (BF.out.below L6.out BF.out.lt)
        replace BR := Lib.hid (BR.out.below L6.out BR.out.lt)
        replace BW := Lib.hid (BW.out.below L6.out BW.out.lt)
        replace LO := Lib.hid (below_tr LO.out L6.out)
        have BX : Hid (FBox V3 bx 26 ⟨f.so, f.ck, f.rate, f.cr, f.nx, f.db, a2⟩) := XX
        clear hW hb LO6 L6 XX
        obtain ⟨cP0, cP1, cP2, cP3, cP4⟩ := (BP.out : PBox _ _ _).cells
        obtain ⟨cF0, cF1, cF2, cF3, cF4, cF5, cF6⟩ := (BF.out : FBox _ _ _ _).cells
        obtain ⟨cX0, cX1, cX2, cX3, cX4, cX5, cX6⟩ := (BX.out : FBox _ _ _ _).cells
        have fx3 := (BX.out : FBox _ _ _ _).frozen.2.2.2.1
        have fx5 := (BX.out : FBox _ _ _ _).frozen.2.2.2.2.2.1
        simp only at cX0 cX1 cX2 cX3 cX4 cX5 cX6
        have nxf : bx ≠ bf := by have := NFX.out; omega
        have nfx : bf ≠ bx := by have := NFX.out; omega
        have nxp : bx ≠ bp := by have := NPX.out; omega
        have npx : bp ≠ bx := by have := NPX.out; omega
        have nxw : bx ≠ bw := by have := NWX.out; omega
        have nwx : bw ≠ bx := by have := NWX.out; omega
        go_upto_region 9 with fail
        obtain ⟨V4, hV4⟩ : ∃ V4, Hid ((V3.setCell ⟨bx, 3, none⟩ (.int .i64 (max f.cr p.q))).setCell ⟨bx, 5, none⟩ (.int .u64 0) = V4) := ⟨_, Lib.hid rfl⟩
        have hx0 : FBox ((V3.setCell ⟨bx, 3, none⟩ (.int .i64 (max f.cr p.q))).setCell ⟨bx, 5, none⟩ (.int .u64 0)) bx 26 ⟨f.so, f.ck, f.rate, max f.cr p.q, f.nx, 0, a2⟩ := ((show Box _ bx _ _ from BX.out).set 3 (.int .i64 (max f.cr p.q))).set 5 (.int .u64 0)
        replace BX := Lib.hid hx0
        replace BF := Lib.hid ((BF.out.other (c := bx) (i := 3) nfx (.int .i64 (max f.cr p.q))).other (c := bx) (i := 5) nfx (.int .u64 0))
        replace BW := Lib.hid ((BW.out.other (c := bx) (i := 3) nwx (.int .i64 (max f.cr p.q))).other (c := bx) (i := 5) nwx (.int .u64 0))
        have hp0 : PBox ((V3.setCell ⟨bx, 3, none⟩ (.int .i64 (max f.cr p.q))).setCell ⟨bx, 5, none⟩ (.int .u64 0)) bp p := Box.other (Box.other (show Box _ bp _ _ from BP.out) (c := bx) (i := 3) npx (.int .i64 (max f.cr p.q))) (c := bx) (i := 5) npx (.int .u64 0)
        replace BP := Lib.hid hp0
        have hbx : w.heap.size ≤ bx := by have := NPX.out; have := hlo.out; omega
        replace LO := Lib.hid ((LO.out.setCell (p := ⟨bx, 3, none⟩) hbx (.int .i64 (max f.cr p.q))).setCell (p := ⟨bx, 5, none⟩) hbx (.int .u64 0))
        rw [hV4.out] at BX BF BW BP LO ⊢
        clear hx0 hp0 fx3 fx5 hV4 BR
        clear cP0 cP1 cP2 cP3 cP4 cF0 cF1 cF2 cF3 cF4 cF5 cF6 cX0 cX1 cX2 cX3 cX4 cX5 cX6
        obtain ⟨cF0, cF1, cF2, cF3, cF4, cF5, cF6⟩ := (BF.out : FBox _ _ _ _).cells
        obtain ⟨cP0, cP1, cP2, cP3, cP4⟩ := (BP.out : PBox _ _ _).cells
        go_upto_region 10 with (go_at_call 10; refine (KB.out _).mono ?_; rintro e W5 ⟨rfl, g5⟩)
        clear cF0 cF1 cF2 cF3 cF4 cF5 cF6 cP0 cP1 cP2 cP3 cP4
        replace BP := Lib.hid (BP.out.below g5 BP.out.lt)
        replace BF := Lib.hid (BF.out.below g5 BF.out.lt)
        replace BW := Lib.hid (BW.out.below g5 BW.out.lt)
        replace BX := Lib.hid (BX.out.below g5 BX.out.lt)
        replace LO := Lib.hid (below_tr LO.out g5)
        clear g5
        obtain ⟨cF0, cF1, cF2, cF3, cF4, cF5, cF6⟩ := (BF.out : FBox _ _ _ _).cells
        go_upto_region 12 with fail
        clear cF0 cF1 cF2 cF3 cF4 cF5 cF6
        have HK : Hid (∀ (W V : World), FBox W bw 26 ⟨f.so, f.ck, f.rate, max f.cr p.q, f.nx, 0, a2⟩ → FBox W bx 26 ⟨f.so, f.ck, f.rate, max f.cr p.q, f.nx, 0, a2⟩ → PBox W bp p → Below W.heap.size W V → (V.cell? ⟨bw, 0, none⟩ = some (.int .u64 f.so) ∧ V.cell? ⟨bw, 1, none⟩ = some (.int .u64 f.ck) ∧ V.cell? ⟨bw, 2, none⟩ = some (.int .u64 f.rate) ∧ V.cell? ⟨bw, 3, none⟩ = some (.int .i64 (max f.cr p.q)) ∧ V.cell? ⟨bw, 4, none⟩ = some (.int .u64 f.nx) ∧ V.cell? ⟨bw, 5, none⟩ = some (.int .u64 0) ∧ V.cell? ⟨bw, 6, none⟩ = some (.int .u64 a2) ∧ V.cell? ⟨bx, 0, none⟩ = some (.int .u64 f.so) ∧ V.cell? ⟨bx, 1, none⟩ = some (.int .u64 f.ck) ∧ V.cell? ⟨bx, 2, none⟩ = some (.int .u64 f.rate) ∧ V.cell? ⟨bx, 3, none⟩ = some (.int .i64 (max f.cr p.q)) ∧ V.cell? ⟨bx, 4, none⟩ = some (.int .u64 f.nx) ∧ V.cell? ⟨bx, 5, none⟩ = some (.int .u64 0) ∧ V.cell? ⟨bx, 6, none⟩ = some (.int .u64 a2) ∧ V.cell? ⟨bp, 0, none⟩ = some (.int .i64 p.q) ∧ V.cell? ⟨bp, 1, none⟩ = some (.int .i64 p.first) ∧ V.cell? ⟨bp, 2, none⟩ = some (.int .u64 p.refill) ∧ V.cell? ⟨bp, 3, none⟩ = some (.int .u64 p.most) ∧ V.cell? ⟨bp, 4, none⟩ = some (.int .u64 p.low))) := Lib.hid (fun W V h1 h2 h3 g => by
          obtain ⟨a0, a1, a2, a3, a4, a5, a6⟩ := (h1.below g h1.lt).cells
          obtain ⟨b0, b1, b2, b3, b4, b5, b6⟩ := (h2.below g h2.lt).cells
          obtain ⟨c0, c1, c2, c3, c4⟩ := (h3.below g h3.lt).cells
          exact ⟨a0, a1, a2, a3, a4, a5, a6, b0, b1, b2, b3, b4, b5, b6, c0, c1, c2, c3, c4⟩)
        obtain ⟨u0, u1, u2, u3, u4, u5, u6, v0, v1, v2, v3, v4, v5, v6, x0, x1, x2, x3, x4⟩ := HK.out _ _ BW.out BX.out BP.out (Below.refl _ _)
        have KW3 := Lib.hid fun W => KW2.out W
        go_region_held3 (fun w' => w'.cell? ⟨bw, 0, none⟩ = some (.int .u64 f.so) ∧ w'.cell? ⟨bw, 1, none⟩ = some (.int .u64 f.ck) ∧ w'.cell? ⟨bw, 2, none⟩ = some (.int .u64 f.rate) ∧ w'.cell? ⟨bw, 3, none⟩ = some (.int .i64 (max f.cr p.q)) ∧ w'.cell? ⟨bw, 4, none⟩ = some (.int .u64 f.nx) ∧ w'.cell? ⟨bw, 5, none⟩ = some (.int .u64 0) ∧ w'.cell? ⟨bw, 6, none⟩ = some (.int .u64 a2) ∧ w'.cell? ⟨bx, 0, none⟩ = some (.int .u64 f.so) ∧ w'.cell? ⟨bx, 1, none⟩ = some (.int .u64 f.ck) ∧ w'.cell? ⟨bx, 2, none⟩ = some (.int .u64 f.rate) ∧ w'.cell? ⟨bx, 3, none⟩ = some (.int .i64 (max f.cr p.q)) ∧ w'.cell? ⟨bx, 4, none⟩ = some (.int .u64 f.nx) ∧ w'.cell? ⟨bx, 5, none⟩ = some (.int .u64 0) ∧ w'.cell? ⟨bx, 6, none⟩ = some (.int .u64 a2) ∧ w'.cell? ⟨bp, 0, none⟩ = some (.int .i64 p.q) ∧ w'.cell? ⟨bp, 1, none⟩ = some (.int .i64 p.first) ∧ w'.cell? ⟨bp, 2, none⟩ = some (.int .u64 p.refill) ∧ w'.cell? ⟨bp, 3, none⟩ = some (.int .u64 p.most) ∧ w'.cell? ⟨bp, 4, none⟩ = some (.int .u64 p.low)) (first | exact HK.out _ _ BW.out BX.out BP.out ((Below.refl _ _).drew) | exact HK.out _ _ BW.out BX.out BP.out G7.out | exact HK.out _ _ BW.out BX.out BP.out G8.out)
          (first
            | (go_at_call 8; refine (KW3.out _).mono ?_; rintro e W7 ⟨rfl, g7⟩; have G7 := Lib.hid (below_tr (Below.refl _ _).drew g7); clear g7)
            | (go_at_call 6; refine (KA.out _).mono ?_; rintro e W8 ⟨rfl, g8⟩; have G8 := Lib.hid (below_tr G7.out g8); clear g8))
        all_goals
          go_wp2_with fail
          go_ret
          exact ⟨rfl, below_tr LO.out G8.out⟩
    · have hr1 : decide (0 < r) = false := by simpa using hr0
      have e1 : (f.rest a2).wake a3 p = ⟨f.so, f.ck, f.rate, max f.cr p.q, f.nx, 0, a2⟩ := by
        rw [wake_woken (by rw [hs.out]; exact HC.out)]
        unfold Fl.woken
        rw [hr.out, if_neg (fun h => hr0 h.1)]
      have e2 : Fl.wake ⟨f.so, f.ck, f.rate, max f.cr p.q, f.nx, 0, a2⟩ a3 p = ⟨f.so, f.ck, f.rate, max f.cr p.q, f.nx, 0, a2⟩ := by
        have h := wake_again (f := f) (frm := a2) (now := a3) (p := p) (by rw [hs.out]; exact HC.out)
        have e3 : f.woken a2 p = ⟨f.so, f.ck, f.rate, max f.cr p.q, f.nx, 0, a2⟩ := by
          unfold Fl.woken
          rw [hr.out, if_neg (fun h => hr0 h.1)]
        rw [e3] at h
        exact h
      have KW2 := Lib.hid fun W => flow_wake ⟨f.so, f.ck, f.rate, max f.cr p.q, f.nx, 0, a2⟩ a3 p (by have h := (HF.out.rest H2.out).wake HP.out a3; rw [e1] at h; exact h) HP.out H3.out W
      simp only [Fl.v, Fl.c, Pc.c, e1] at KW
      simp only [Fl.v, Fl.c, Pc.c, e2] at KW2
      simp only [Fl.rest] at KW
      clear e1 e2
      obtain ⟨cR0, cR1, cR2, cR3, cR4, cR5, cR6⟩ := (BR.out : FBox _ _ _ _).cells
      obtain ⟨cP0, cP1, cP2, cP3, cP4⟩ := (BP.out : PBox _ _ _).cells
      go_upto_region 5 with (go_at_call 8; refine (KW.out _).mono ?_; rintro e W5 ⟨rfl, g5⟩)
      clear cR0 cR1 cR2 cR3 cR4 cR5 cR6 cP0 cP1 cP2 cP3 cP4
      obtain ⟨V2, bw, hW, hb, XW, LO6⟩ := one_more W5 (Fl.c ⟨f.so, f.ck, f.rate, max f.cr p.q, f.nx, 0, a2⟩) 26
      simp only [Fl.c, Pc.c] at hW
      have NPW : Hid (bp < bw) := Lib.hid (by have h1 := BP.out.lt; have h3 := hb.out; have h2 := g5.size; omega)
      have NFW : Hid (bf < bw) := Lib.hid (by have h1 := BF.out.lt; have h3 := hb.out; have h2 := g5.size; omega)
      have NRW : Hid (br < bw) := Lib.hid (by have h1 := BR.out.lt; have h3 := hb.out; have h2 := g5.size; omega)
      rw [hW.out, hb.out]
      have L6 := Lib.hid (below_tr g5 LO6.out)
      replace BP := Lib.hid (BP.out.below L6.out BP.out.lt)
      replace BF := Lib.hid (BF.out.below L6.out BF.out.lt)
      replace BR := Lib.hid (BR.out.below L6.out BR.out.lt)
      replace LO := Lib.hid (below_tr LO.out L6.out)
      have BW : Hid (FBox V2 bw 26 ⟨f.so, f.ck, f.rate, max f.cr p.q, f.nx, 0, a2⟩) := XW
      clear hW hb LO6 L6 XW g5
      obtain ⟨cP0, cP1, cP2, cP3, cP4⟩ := (BP.out : PBox _ _ _).cells
      obtain ⟨cR0, cR1, cR2, cR3, cR4, cR5, cR6⟩ := (BR.out : FBox _ _ _ _).cells
      go_upto_region 8 with (go_at_call 9; refine (KS.out _).mono ?_; rintro e w' ⟨rfl, rfl⟩)
      clear cP0 cP1 cP2 cP3 cP4 cR0 cR1 cR2 cR3 cR4 cR5 cR6
      obtain ⟨V3, bx, hW, hb, XX, LO6⟩ := one_more V2 (Fl.c ⟨f.so, f.ck, f.rate, f.cr, f.nx, f.db, a2⟩) 26
      simp only [Fl.c, Pc.c] at hW
      have NPX : Hid (bp < bx) := Lib.hid (by have h1 := BP.out.lt; have h3 := hb.out; omega)
      have NFX : Hid (bf < bx) := Lib.hid (by have h1 := BF.out.lt; have h3 := hb.out; omega)
      have NRX : Hid (br < bx) := Lib.hid (by have h1 := BR.out.lt; have h3 := hb.out; omega)
      have NWX : Hid (bw < bx) := Lib.hid (by have h1 := BW.out.lt; have h3 := hb.out; omega)
      rw [hW.out, hb.out]
      have L6 := Lib.hid LO6.out
      replace BP := Lib.hid (BP.out.below L6.out BP.out.lt)
      replace BF := Lib.hid (BF.out.below L6.out BF.out.lt)
      replace BR := Lib.hid (BR.out.below L6.out BR.out.lt)
      replace BW := Lib.hid (BW.out.below L6.out BW.out.lt)
      replace LO := Lib.hid (below_tr LO.out L6.out)
      have BX : Hid (FBox V3 bx 26 ⟨f.so, f.ck, f.rate, f.cr, f.nx, f.db, a2⟩) := XX
      clear hW hb LO6 L6 XX
      obtain ⟨cP0, cP1, cP2, cP3, cP4⟩ := (BP.out : PBox _ _ _).cells
      obtain ⟨cF0, cF1, cF2, cF3, cF4, cF5, cF6⟩ := (BF.out : FBox _ _ _ _).cells
      obtain ⟨cX0, cX1, cX2, cX3, cX4, cX5, cX6⟩ := (BX.out : FBox _ _ _ _).cells
      have fx3 := (BX.out : FBox _ _ _ _).frozen.2.2.2.1
      have fx5 := (BX.out : FBox _ _ _ _).frozen.2.2.2.2.2.1
      simp only at cX0 cX1 cX2 cX3 cX4 cX5 cX6
      have nxf : bx ≠ bf := by have := NFX.out; omega
      have nfx : bf ≠ bx := by have := NFX.out; omega
      have nxp : bx ≠ bp := by have := NPX.out; omega
      have npx : bp ≠ bx := by have := NPX.out; omega
      have nxw : bx ≠ bw := by have := NWX.out; omega
      have nwx : bw ≠ bx := by have := NWX.out; omega
      go_upto_region 9 with fail
      obtain ⟨V4, hV4⟩ : ∃ V4, Hid ((V3.setCell ⟨bx, 3, none⟩ (.int .i64 (max f.cr p.q))).setCell ⟨bx, 5, none⟩ (.int .u64 0) = V4) := ⟨_, Lib.hid rfl⟩
      have hx0 : FBox ((V3.setCell ⟨bx, 3, none⟩ (.int .i64 (max f.cr p.q))).setCell ⟨bx, 5, none⟩ (.int .u64 0)) bx 26 ⟨f.so, f.ck, f.rate, max f.cr p.q, f.nx, 0, a2⟩ := ((show Box _ bx _ _ from BX.out).set 3 (.int .i64 (max f.cr p.q))).set 5 (.int .u64 0)
      replace BX := Lib.hid hx0
      replace BF := Lib.hid ((BF.out.other (c := bx) (i := 3) nfx (.int .i64 (max f.cr p.q))).other (c := bx) (i := 5) nfx (.int .u64 0))
      replace BW := Lib.hid ((BW.out.other (c := bx) (i := 3) nwx (.int .i64 (max f.cr p.q))).other (c := bx) (i := 5) nwx (.int .u64 0))
      have hp0 : PBox ((V3.setCell ⟨bx, 3, none⟩ (.int .i64 (max f.cr p.q))).setCell ⟨bx, 5, none⟩ (.int .u64 0)) bp p := Box.other (Box.other (show Box _ bp _ _ from BP.out) (c := bx) (i := 3) npx (.int .i64 (max f.cr p.q))) (c := bx) (i := 5) npx (.int .u64 0)
      replace BP := Lib.hid hp0
      have hbx : w.heap.size ≤ bx := by have := NPX.out; have := hlo.out; omega
      replace LO := Lib.hid ((LO.out.setCell (p := ⟨bx, 3, none⟩) hbx (.int .i64 (max f.cr p.q))).setCell (p := ⟨bx, 5, none⟩) hbx (.int .u64 0))
      rw [hV4.out] at BX BF BW BP LO ⊢
      clear hx0 hp0 fx3 fx5 hV4 BR
      clear cP0 cP1 cP2 cP3 cP4 cF0 cF1 cF2 cF3 cF4 cF5 cF6 cX0 cX1 cX2 cX3 cX4 cX5 cX6
      obtain ⟨cF0, cF1, cF2, cF3, cF4, cF5, cF6⟩ := (BF.out : FBox _ _ _ _).cells
      obtain ⟨cP0, cP1, cP2, cP3, cP4⟩ := (BP.out : PBox _ _ _).cells
      go_upto_region 10 with (go_at_call 10; refine (KB.out _).mono ?_; rintro e W5 ⟨rfl, g5⟩)
      clear cF0 cF1 cF2 cF3 cF4 cF5 cF6 cP0 cP1 cP2 cP3 cP4
      replace BP := Lib.hid (BP.out.below g5 BP.out.lt)
      replace BF := Lib.hid (BF.out.below g5 BF.out.lt)
      replace BW := Lib.hid (BW.out.below g5 BW.out.lt)
      replace BX := Lib.hid (BX.out.below g5 BX.out.lt)
      replace LO := Lib.hid (below_tr LO.out g5)
      clear g5
      obtain ⟨cF0, cF1, cF2, cF3, cF4, cF5, cF6⟩ := (BF.out : FBox _ _ _ _).cells
      go_upto_region 12 with fail
      clear cF0 cF1 cF2 cF3 cF4 cF5 cF6
      have HK : Hid (∀ (W V : World), FBox W bw 26 ⟨f.so, f.ck, f.rate, max f.cr p.q, f.nx, 0, a2⟩ → FBox W bx 26 ⟨f.so, f.ck, f.rate, max f.cr p.q, f.nx, 0, a2⟩ → PBox W bp p → Below W.heap.size W V → (V.cell? ⟨bw, 0, none⟩ = some (.int .u64 f.so) ∧ V.cell? ⟨bw, 1, none⟩ = some (.int .u64 f.ck) ∧ V.cell? ⟨bw, 2, none⟩ = some (.int .u64 f.rate) ∧ V.cell? ⟨bw, 3, none⟩ = some (.int .i64 (max f.cr p.q)) ∧ V.cell? ⟨bw, 4, none⟩ = some (.int .u64 f.nx) ∧ V.cell? ⟨bw, 5, none⟩ = some (.int .u64 0) ∧ V.cell? ⟨bw, 6, none⟩ = some (.int .u64 a2) ∧ V.cell? ⟨bx, 0, none⟩ = some (.int .u64 f.so) ∧ V.cell? ⟨bx, 1, none⟩ = some (.int .u64 f.ck) ∧ V.cell? ⟨bx, 2, none⟩ = some (.int .u64 f.rate) ∧ V.cell? ⟨bx, 3, none⟩ = some (.int .i64 (max f.cr p.q)) ∧ V.cell? ⟨bx, 4, none⟩ = some (.int .u64 f.nx) ∧ V.cell? ⟨bx, 5, none⟩ = some (.int .u64 0) ∧ V.cell? ⟨bx, 6, none⟩ = some (.int .u64 a2) ∧ V.cell? ⟨bp, 0, none⟩ = some (.int .i64 p.q) ∧ V.cell? ⟨bp, 1, none⟩ = some (.int .i64 p.first) ∧ V.cell? ⟨bp, 2, none⟩ = some (.int .u64 p.refill) ∧ V.cell? ⟨bp, 3, none⟩ = some (.int .u64 p.most) ∧ V.cell? ⟨bp, 4, none⟩ = some (.int .u64 p.low))) := Lib.hid (fun W V h1 h2 h3 g => by
        obtain ⟨a0, a1, a2, a3, a4, a5, a6⟩ := (h1.below g h1.lt).cells
        obtain ⟨b0, b1, b2, b3, b4, b5, b6⟩ := (h2.below g h2.lt).cells
        obtain ⟨c0, c1, c2, c3, c4⟩ := (h3.below g h3.lt).cells
        exact ⟨a0, a1, a2, a3, a4, a5, a6, b0, b1, b2, b3, b4, b5, b6, c0, c1, c2, c3, c4⟩)
      obtain ⟨u0, u1, u2, u3, u4, u5, u6, v0, v1, v2, v3, v4, v5, v6, x0, x1, x2, x3, x4⟩ := HK.out _ _ BW.out BX.out BP.out (Below.refl _ _)
      have KW3 := Lib.hid fun W => KW2.out W
      go_region_held3 (fun w' => w'.cell? ⟨bw, 0, none⟩ = some (.int .u64 f.so) ∧ w'.cell? ⟨bw, 1, none⟩ = some (.int .u64 f.ck) ∧ w'.cell? ⟨bw, 2, none⟩ = some (.int .u64 f.rate) ∧ w'.cell? ⟨bw, 3, none⟩ = some (.int .i64 (max f.cr p.q)) ∧ w'.cell? ⟨bw, 4, none⟩ = some (.int .u64 f.nx) ∧ w'.cell? ⟨bw, 5, none⟩ = some (.int .u64 0) ∧ w'.cell? ⟨bw, 6, none⟩ = some (.int .u64 a2) ∧ w'.cell? ⟨bx, 0, none⟩ = some (.int .u64 f.so) ∧ w'.cell? ⟨bx, 1, none⟩ = some (.int .u64 f.ck) ∧ w'.cell? ⟨bx, 2, none⟩ = some (.int .u64 f.rate) ∧ w'.cell? ⟨bx, 3, none⟩ = some (.int .i64 (max f.cr p.q)) ∧ w'.cell? ⟨bx, 4, none⟩ = some (.int .u64 f.nx) ∧ w'.cell? ⟨bx, 5, none⟩ = some (.int .u64 0) ∧ w'.cell? ⟨bx, 6, none⟩ = some (.int .u64 a2) ∧ w'.cell? ⟨bp, 0, none⟩ = some (.int .i64 p.q) ∧ w'.cell? ⟨bp, 1, none⟩ = some (.int .i64 p.first) ∧ w'.cell? ⟨bp, 2, none⟩ = some (.int .u64 p.refill) ∧ w'.cell? ⟨bp, 3, none⟩ = some (.int .u64 p.most) ∧ w'.cell? ⟨bp, 4, none⟩ = some (.int .u64 p.low)) (first | exact HK.out _ _ BW.out BX.out BP.out ((Below.refl _ _).drew) | exact HK.out _ _ BW.out BX.out BP.out G7.out | exact HK.out _ _ BW.out BX.out BP.out G8.out)
        (first
          | (go_at_call 8; refine (KW3.out _).mono ?_; rintro e W7 ⟨rfl, g7⟩; have G7 := Lib.hid (below_tr (Below.refl _ _).drew g7); clear g7)
          | (go_at_call 6; refine (KA.out _).mono ?_; rintro e W8 ⟨rfl, g8⟩; have G8 := Lib.hid (below_tr G7.out g8); clear g8))
      all_goals
        go_wp2_with fail
        go_ret
        exact ⟨rfl, below_tr LO.out G8.out⟩

end Go.Proofs.Ytmokkbhfhbgkmab
