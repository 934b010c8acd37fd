/-
  FlowWrong's walk.
-/
import Derived.Test.YtmokkbhfhbgkmabFlowEq
namespace Go.Proofs.Ytmokkbhfhbgkmab
open Go.RowKit
set_option linter.unusedVariables false
set_option linter.unusedSimpArgs false
set_option maxRecDepth 100000

set_option maxHeartbeats 4000000 in
theorem flowWrong_walk (a0 : List Value) (a1 a2 a3 a4 : Int) (w : World) (w0 : Fits [some .i64, some .i64, some .u64, some .u64, some .u64] a0) (w1 : (Lit.int .u64 a1).wf = true) (w2 : (Lit.int .u64 a2).wf = true) (w3 : (Lit.int .i64 a3).wf = true) (w4 : (Lit.int .u64 a4).wf = true) :
    Calls Try.prog 4 #[.agg a0.toArray, .int .u64 a1, .int .u64 a2, .int .i64 a3, .int .u64 a4] w fun e w' => e = .returned (.bool true) ∧ Below w.heap.size w w' := by
  obtain ⟨p, hp, e⟩ := pc_of w0
  rw [e]
  clear e w0
  have h1 := word_of_wf w1
  have h2 := word_of_wf w2
  have h4 := word_of_wf w4
  clear w1 w2 w3 w4
  have hf : (Fl.born a1 a2 p).Fits := Fl.Fits.born h1 h2 hp
  have LO := Lib.hid (Below.refl w.heap.size w)
  have KR := Lib.hid fun W => flow_right p W
  have KB := Lib.hid fun W => flow_born a1 a2 p W
  have KF := Lib.hid fun W => flow_fill _ p hf hp W
  have KY := Lib.hid fun W => flow_ready _ a4 hf h4 W
  have KC1 := Lib.hid fun (h : 1 ≤ a3 ∧ a3 ≤ 65536) W => flow_charge _ a3 a4 p hf hp h h4 W
  have KC2 := Lib.hid fun (h : ¬ (1 ≤ a3 ∧ a3 ≤ 65536)) W => flow_refused (Fl.born a1 a2 p) a3 a4 p h W
  have KA := Lib.hid fun W => awake12 W
  have HQ : ∀ w : World, (binOp .eql 26 (.agg #[.int .u64 (Fl.born a1 a2 p).so, .int .u64 (Fl.born a1 a2 p).ck, .int .u64 (Fl.born a1 a2 p).rate, .int .i64 (Fl.born a1 a2 p).cr, .int .u64 (Fl.born a1 a2 p).nx, .int .u64 (Fl.born a1 a2 p).db, .int .u64 (Fl.born a1 a2 p).ag]) (.agg #[.int .u64 a1, .int .u64 a2, .int .u64 0, .int .i64 p.first, .int .u64 0, .int .u64 0, .int .u64 0])).run Try.prog w = .ok (.bool true) w := fun w => fl_eql (Fl.born a1 a2 p) w
  have HM : Hid (max a4 (Fl.born a1 a2 p).nx = a4) := by
    refine Lib.hid ?_
    show max a4 0 = a4
    have := h4.1
    omega
  obtain ⟨f, hf0⟩ : ∃ f, Hid (Fl.born a1 a2 p = f) := ⟨_, Lib.hid rfl⟩
  rw [HM.out] at KY
  rw [hf0.out] at KB KF KY KC1 KC2 hf HQ
  have HCR : Hid (wrap64 (wrap64 (f.cr + p.q) - p.q) = f.cr) := by
    have := hf.cr
    refine Lib.hid ?_
    unfold Half at this
    unfold wrap64
    omega
  have HE : ∀ w : World, (binOp .eql 26 (.agg #[.int .u64 f.so, .int .u64 f.ck, .int .u64 f.rate, .int .i64 (wrap64 (wrap64 (f.cr + p.q) - p.q)), .int .u64 f.nx, .int .u64 f.db, .int .u64 f.ag]) (.agg #[.int .u64 f.so, .int .u64 f.ck, .int .u64 f.rate, .int .i64 f.cr, .int .u64 f.nx, .int .u64 f.db, .int .u64 f.ag])).run Try.prog w = .ok (.bool true) w := fun w => by
    rw [HCR.out]
    exact fl_eql f w
  have HN := fun w => fl_neq f w
  clear hp h1 h2 h4 hf hf0 HM HCR
  simp only [Fl.v, Pc.v, Fl.c, Pc.c, Fl.fill] at KR KB KF KY KC1 KC2
  simp only [Pc.c]
  go_enter Try.func4, Try.ntmps4
  go_upto_region 1 with fail
  have HSZ := Lib.hid (Nat.le_refl w.heap.size)
  obtain ⟨V1, b1, hW, hb, XP, LO6⟩ := one_more w (Pc.c p) 24
  simp only [Fl.c, Pc.c] at hW
  rw [hW.out, hb.out]
  have hB1 : Hid (w.heap.size ≤ b1) := Lib.hid (Nat.le_of_eq hb.out)
  have L6 := Lib.hid LO6.out
  replace LO := Lib.hid (below_tr LO.out L6.out)
  have BP : Hid (PBox V1 b1 p) := XP
  clear hW hb LO6 L6 XP
  replace HSZ : Hid (w.heap.size ≤ b1) := hB1
  cases hr : p.right with
  | false =>
    rw [hr] at KR
    obtain ⟨cP0, cP1, cP2, cP3, cP4⟩ := (BP.out : PBox _ _ _).cells
    go_wp2_with (first | (go_at_call 5; refine (KR.out _).mono ?_; rintro e W5 ⟨rfl, g5⟩; replace LO := Lib.hid (below_tr LO.out g5); clear g5) | (go_at_call 6; refine (KA.out _).mono ?_; rintro e W6 ⟨rfl, g6⟩; replace LO := Lib.hid (below_tr LO.out g6); clear g6))
    go_ret
    exact ⟨rfl, LO.out⟩
  | true =>
    rw [hr] at KR
    clear hr
    obtain ⟨cP0, cP1, cP2, cP3, cP4⟩ := (BP.out : PBox _ _ _).cells
    go_upto_region 3 with (go_at_call 5; refine (KR.out _).mono ?_; rintro e W5 ⟨rfl, g5⟩)
    clear cP0 cP1 cP2 cP3 cP4
    replace BP := Lib.hid (BP.out.below g5 BP.out.lt)
    replace LO := Lib.hid (below_tr LO.out g5)
    clear g5
    obtain ⟨cP0, cP1, cP2, cP3, cP4⟩ := (BP.out : PBox _ _ _).cells
    go_upto_region 4 with (go_at_call 12; refine (KB.out _).mono ?_; rintro e W5 ⟨rfl, g5⟩)
    clear cP0 cP1 cP2 cP3 cP4
    obtain ⟨V2, b2, hW, hb, XF, LO6⟩ := one_more W5 (Fl.c f) 26
    simp only [Fl.c, Pc.c] at hW
    have NPF : Hid (b1 < b2) := Lib.hid (by have h1 := BP.out.lt; have h3 := hb.out; have h2 := g5.size; omega)
    rw [hW.out, hb.out]
    have L6 := Lib.hid (below_tr g5 LO6.out)
    replace BP := Lib.hid (BP.out.below L6.out BP.out.lt)
    replace LO := Lib.hid (below_tr LO.out L6.out)
    have BF : Hid (FBox V2 b2 26 f) := XF
    clear hW hb LO6 L6 XF g5
    have hlo : Hid (w.heap.size ≤ b2) := Lib.hid (by have := HSZ.out; have := NPF.out; omega)
    by_cases ha : 1 ≤ a3 ∧ a3 ≤ 65536
    · obtain ⟨G, hG⟩ : ∃ G, Hid (f.charge a3 a4 p = G) := ⟨_, Lib.hid rfl⟩
      replace KC1 := Lib.hid (KC1.out ha)
      rw [hG.out] at KC1
      obtain ⟨ha1, ha2⟩ := ha
      clear hG
      obtain ⟨cF0, cF1, cF2, cF3, cF4, cF5, cF6⟩ := (BF.out : FBox _ _ _ _).cells
      obtain ⟨cP0, cP1, cP2, cP3, cP4⟩ := (BP.out : PBox _ _ _).cells
      go_upto_region 5 with (go_at_call 13; refine (KC1.out _).mono ?_; rintro e W5 ⟨rfl, g5⟩)
      clear cF0 cF1 cF2 cF3 cF4 cF5 cF6 cP0 cP1 cP2 cP3 cP4
      obtain ⟨V3, b3, hW, hb, XG, LO6⟩ := one_more W5 (Fl.c G) 26
      simp only [Fl.c, Pc.c] at hW
      have NPG : Hid (b1 < b3) := Lib.hid (by have h1 := BP.out.lt; have h3 := hb.out; have h2 := g5.size; omega)
      have NFG : Hid (b2 < b3) := Lib.hid (by have h1 := BF.out.lt; have h3 := hb.out; have h2 := g5.size; omega)
      rw [hW.out, hb.out]
      have L6 := Lib.hid (below_tr g5 LO6.out)
      replace BP := Lib.hid (BP.out.below L6.out BP.out.lt)
      replace BF := Lib.hid (BF.out.below L6.out BF.out.lt)
      replace LO := Lib.hid (below_tr LO.out L6.out)
      have BG : Hid (FBox V3 b3 26 G) := XG
      clear hW hb LO6 L6 XG g5
      obtain ⟨cF0, cF1, cF2, cF3, cF4, cF5, cF6⟩ := (BF.out : FBox _ _ _ _).cells
      obtain ⟨cG0, cG1, cG2, cG3, cG4, cG5, cG6⟩ := (BG.out : FBox _ _ _ _).cells
      go_upto_region 7 with fail
      clear cF0 cF1 cF2 cF3 cF4 cF5 cF6 cG0 cG1 cG2 cG3 cG4 cG5 cG6
      obtain ⟨cF0, cF1, cF2, cF3, cF4, cF5, cF6⟩ := (BF.out : FBox _ _ _ _).cells
      obtain ⟨cP0, cP1, cP2, cP3, cP4⟩ := (BP.out : PBox _ _ _).cells
      go_upto_region 8 with (go_at_call 14; refine (KF.out _).mono ?_; rintro e W5 ⟨rfl, g5⟩)
      clear cF0 cF1 cF2 cF3 cF4 cF5 cF6 cP0 cP1 cP2 cP3 cP4
      obtain ⟨V4, b4, hW, hb, XH, LO6⟩ := one_more W5 (Fl.c ⟨f.so, f.ck, f.rate, wrap64 (f.cr + p.q), f.nx, f.db, f.ag⟩) 26
      simp only [Fl.c, Pc.c] at hW
      have NPH : Hid (b1 < b4) := Lib.hid (by have h1 := BP.out.lt; have h3 := hb.out; have h2 := g5.size; omega)
      have NFH : Hid (b2 < b4) := Lib.hid (by have h1 := BF.out.lt; have h3 := hb.out; have h2 := g5.size; omega)
      have NGH : Hid (b3 < b4) := Lib.hid (by have h1 := BG.out.lt; have h3 := hb.out; have h2 := g5.size; omega)
      rw [hW.out, hb.out]
      have L6 := Lib.hid (below_tr g5 LO6.out)
      replace BP := Lib.hid (BP.out.below L6.out BP.out.lt)
      replace BF := Lib.hid (BF.out.below L6.out BF.out.lt)
      replace BG := Lib.hid (BG.out.below L6.out BG.out.lt)
      replace LO := Lib.hid (below_tr LO.out L6.out)
      have BH : Hid (FBox V4 b4 26 ⟨f.so, f.ck, f.rate, wrap64 (f.cr + p.q), f.nx, f.db, f.ag⟩) := XH
      clear hW hb LO6 L6 XH g5
      obtain ⟨cF0, cF1, cF2, cF3, cF4, cF5, cF6⟩ := (BF.out : FBox _ _ _ _).cells
      obtain ⟨cP0, cP1, cP2, cP3, cP4⟩ := (BP.out : PBox _ _ _).cells
      obtain ⟨cH0, cH1, cH2, cH3, cH4, cH5, cH6⟩ := (BH.out : FBox _ _ _ _).cells
      simp only at cH0 cH1 cH2 cH3 cH4 cH5 cH6
      have fH := (BH.out : FBox _ _ _ _).frozen.2.2.2.1
      go_upto_region 9 with fail
      have hx : Box _ b4 _ _ := (show Box _ b4 _ _ from BH.out).set 3 (.int .i64 (wrap64 (wrap64 (f.cr + p.q) - p.q)))
      have HX := Lib.hid hx
      have hy : FBox _ b2 _ _ := (BF.out).other (c := b4) (i := 3) (by have := NFH.out; omega) (.int .i64 (wrap64 (wrap64 (f.cr + p.q) - p.q)))
      have hz : PBox _ b1 _ := Box.other (show Box _ b1 _ _ from BP.out) (c := b4) (i := 3) (by have := NPH.out; omega) (.int .i64 (wrap64 (wrap64 (f.cr + p.q) - p.q)))
      replace LO := Lib.hid (LO.out.setCell (p := ⟨b4, 3, none⟩) (by simp; have := NFH.out; have := hlo.out; omega) (.int .i64 (wrap64 (wrap64 (f.cr + p.q) - p.q))))
      have HY := Lib.hid hy
      have HZ := Lib.hid hz
      clear hx hy hz BG BF BP BH fH
      clear cF0 cF1 cF2 cF3 cF4 cF5 cF6 cP0 cP1 cP2 cP3 cP4 cH0 cH1 cH2 cH3 cH4 cH5 cH6
      obtain ⟨V9, hV9⟩ : ∃ V9, Hid (V4.setCell ⟨b4, 3, none⟩ (.int .i64 (wrap64 (wrap64 (f.cr + p.q) - p.q))) = V9) := ⟨_, Lib.hid rfl⟩
      rw [hV9.out] at HX HY HZ LO ⊢
      obtain ⟨c0, c1, c2, c3, c4, c5, c6⟩ := HY.out.cells
      obtain ⟨d0, d1, d2, d3, d4⟩ := HZ.out.cells
      have e0 := HX.out.cell 0
      have e1 := HX.out.cell 1
      have e2 := HX.out.cell 2
      have e3 := HX.out.cell 3
      have e4 := HX.out.cell 4
      have e5 := HX.out.cell 5
      have e6 := HX.out.cell 6
      simp [Fl.c] at e0 e1 e2 e3 e4 e5 e6
      clear hV9
      go_wp2_with (first | (go_at_call 15; refine (KY.out _).mono ?_; rintro e W5 ⟨rfl, g5⟩; replace LO := Lib.hid (below_tr LO.out g5); clear g5) | (go_at_call 6; refine (KA.out _).mono ?_; rintro e W6 ⟨rfl, g6⟩; replace LO := Lib.hid (below_tr LO.out g6); clear g6))
      go_ret
      exact ⟨rfl, LO.out⟩
    · replace KC2 := Lib.hid (KC2.out ha)
      by_cases ha1 : 1 ≤ a3
      · have ha2 : ¬ a3 ≤ 65536 := fun h => ha ⟨ha1, h⟩
        have ha3 : decide (a3 ≤ 65536) = false := by simpa using ha2
        clear ha
        obtain ⟨cF0, cF1, cF2, cF3, cF4, cF5, cF6⟩ := (BF.out : FBox _ _ _ _).cells
        obtain ⟨cP0, cP1, cP2, cP3, cP4⟩ := (BP.out : PBox _ _ _).cells
        go_upto_region 5 with (go_at_call 13; refine (KC2.out _).mono ?_; rintro e W5 ⟨rfl, g5⟩)
        clear cF0 cF1 cF2 cF3 cF4 cF5 cF6 cP0 cP1 cP2 cP3 cP4
        obtain ⟨V3, b3, hW, hb, XG, LO6⟩ := one_more W5 (Fl.c f) 26
        simp only [Fl.c, Pc.c] at hW
        have NPG : Hid (b1 < b3) := Lib.hid (by have h1 := BP.out.lt; have h3 := hb.out; have h2 := g5.size; omega)
        have NFG : Hid (b2 < b3) := Lib.hid (by have h1 := BF.out.lt; have h3 := hb.out; have h2 := g5.size; omega)
        rw [hW.out, hb.out]
        have L6 := Lib.hid (below_tr g5 LO6.out)
        replace BP := Lib.hid (BP.out.below L6.out BP.out.lt)
        replace BF := Lib.hid (BF.out.below L6.out BF.out.lt)
        replace LO := Lib.hid (below_tr LO.out L6.out)
        have BG : Hid (FBox V3 b3 26 f) := XG
        clear hW hb LO6 L6 XG g5
        obtain ⟨cF0, cF1, cF2, cF3, cF4, cF5, cF6⟩ := (BF.out : FBox _ _ _ _).cells
        obtain ⟨cG0, cG1, cG2, cG3, cG4, cG5, cG6⟩ := (BG.out : FBox _ _ _ _).cells
        go_upto_region 7 with fail
        clear cF0 cF1 cF2 cF3 cF4 cF5 cF6 cG0 cG1 cG2 cG3 cG4 cG5 cG6
        obtain ⟨cF0, cF1, cF2, cF3, cF4, cF5, cF6⟩ := (BF.out : FBox _ _ _ _).cells
        obtain ⟨cP0, cP1, cP2, cP3, cP4⟩ := (BP.out : PBox _ _ _).cells
        go_upto_region 8 with (go_at_call 14; refine (KF.out _).mono ?_; rintro e W5 ⟨rfl, g5⟩)
        clear cF0 cF1 cF2 cF3 cF4 cF5 cF6 cP0 cP1 cP2 cP3 cP4
        obtain ⟨V4, b4, hW, hb, XH, LO6⟩ := one_more W5 (Fl.c ⟨f.so, f.ck, f.rate, wrap64 (f.cr + p.q), f.nx, f.db, f.ag⟩) 26
        simp only [Fl.c, Pc.c] at hW
        have NPH : Hid (b1 < b4) := Lib.hid (by have h1 := BP.out.lt; have h3 := hb.out; have h2 := g5.size; omega)
        have NFH : Hid (b2 < b4) := Lib.hid (by have h1 := BF.out.lt; have h3 := hb.out; have h2 := g5.size; omega)
        have NGH : Hid (b3 < b4) := Lib.hid (by have h1 := BG.out.lt; have h3 := hb.out; have h2 := g5.size; omega)
        rw [hW.out, hb.out]
        have L6 := Lib.hid (below_tr g5 LO6.out)
        replace BP := Lib.hid (BP.out.below L6.out BP.out.lt)
        replace BF := Lib.hid (BF.out.below L6.out BF.out.lt)
        replace BG := Lib.hid (BG.out.below L6.out BG.out.lt)
        replace LO := Lib.hid (below_tr LO.out L6.out)
        have BH : Hid (FBox V4 b4 26 ⟨f.so, f.ck, f.rate, wrap64 (f.cr + p.q), f.nx, f.db, f.ag⟩) := XH
        clear hW hb LO6 L6 XH g5
        obtain ⟨cF0, cF1, cF2, cF3, cF4, cF5, cF6⟩ := (BF.out : FBox _ _ _ _).cells
        obtain ⟨cP0, cP1, cP2, cP3, cP4⟩ := (BP.out : PBox _ _ _).cells
        obtain ⟨cH0, cH1, cH2, cH3, cH4, cH5, cH6⟩ := (BH.out : FBox _ _ _ _).cells
        simp only at cH0 cH1 cH2 cH3 cH4 cH5 cH6
        have fH := (BH.out : FBox _ _ _ _).frozen.2.2.2.1
        go_upto_region 9 with fail
        have hx : Box _ b4 _ _ := (show Box _ b4 _ _ from BH.out).set 3 (.int .i64 (wrap64 (wrap64 (f.cr + p.q) - p.q)))
        have HX := Lib.hid hx
        have hy : FBox _ b2 _ _ := (BF.out).other (c := b4) (i := 3) (by have := NFH.out; omega) (.int .i64 (wrap64 (wrap64 (f.cr + p.q) - p.q)))
        have hz : PBox _ b1 _ := Box.other (show Box _ b1 _ _ from BP.out) (c := b4) (i := 3) (by have := NPH.out; omega) (.int .i64 (wrap64 (wrap64 (f.cr + p.q) - p.q)))
        replace LO := Lib.hid (LO.out.setCell (p := ⟨b4, 3, none⟩) (by simp; have := NFH.out; have := hlo.out; omega) (.int .i64 (wrap64 (wrap64 (f.cr + p.q) - p.q))))
        have HY := Lib.hid hy
        have HZ := Lib.hid hz
        clear hx hy hz BG BF BP BH fH
        clear cF0 cF1 cF2 cF3 cF4 cF5 cF6 cP0 cP1 cP2 cP3 cP4 cH0 cH1 cH2 cH3 cH4 cH5 cH6
        obtain ⟨V9, hV9⟩ : ∃ V9, Hid (V4.setCell ⟨b4, 3, none⟩ (.int .i64 (wrap64 (wrap64 (f.cr + p.q) - p.q))) = V9) := ⟨_, Lib.hid rfl⟩
        rw [hV9.out] at HX HY HZ LO ⊢
        obtain ⟨c0, c1, c2, c3, c4, c5, c6⟩ := HY.out.cells
        obtain ⟨d0, d1, d2, d3, d4⟩ := HZ.out.cells
        have e0 := HX.out.cell 0
        have e1 := HX.out.cell 1
        have e2 := HX.out.cell 2
        have e3 := HX.out.cell 3
        have e4 := HX.out.cell 4
        have e5 := HX.out.cell 5
        have e6 := HX.out.cell 6
        simp [Fl.c] at e0 e1 e2 e3 e4 e5 e6
        clear hV9
        go_wp2_with (first | (go_at_call 15; refine (KY.out _).mono ?_; rintro e W5 ⟨rfl, g5⟩; replace LO := Lib.hid (below_tr LO.out g5); clear g5) | (go_at_call 6; refine (KA.out _).mono ?_; rintro e W6 ⟨rfl, g6⟩; replace LO := Lib.hid (below_tr LO.out g6); clear g6))
        go_ret
        exact ⟨rfl, LO.out⟩
      · have ha3 : decide (1 ≤ a3) = false := by simpa using ha1
        clear ha
        obtain ⟨cF0, cF1, cF2, cF3, cF4, cF5, cF6⟩ := (BF.out : FBox _ _ _ _).cells
        obtain ⟨cP0, cP1, cP2, cP3, cP4⟩ := (BP.out : PBox _ _ _).cells
        go_upto_region 5 with (go_at_call 13; refine (KC2.out _).mono ?_; rintro e W5 ⟨rfl, g5⟩)
        clear cF0 cF1 cF2 cF3 cF4 cF5 cF6 cP0 cP1 cP2 cP3 cP4
        obtain ⟨V3, b3, hW, hb, XG, LO6⟩ := one_more W5 (Fl.c f) 26
        simp only [Fl.c, Pc.c] at hW
        have NPG : Hid (b1 < b3) := Lib.hid (by have h1 := BP.out.lt; have h3 := hb.out; have h2 := g5.size; omega)
        have NFG : Hid (b2 < b3) := Lib.hid (by have h1 := BF.out.lt; have h3 := hb.out; have h2 := g5.size; omega)
        rw [hW.out, hb.out]
        have L6 := Lib.hid (below_tr g5 LO6.out)
        replace BP := Lib.hid (BP.out.below L6.out BP.out.lt)
        replace BF := Lib.hid (BF.out.below L6.out BF.out.lt)
        replace LO := Lib.hid (below_tr LO.out L6.out)
        have BG : Hid (FBox V3 b3 26 f) := XG
        clear hW hb LO6 L6 XG g5
        obtain ⟨cF0, cF1, cF2, cF3, cF4, cF5, cF6⟩ := (BF.out : FBox _ _ _ _).cells
        obtain ⟨cG0, cG1, cG2, cG3, cG4, cG5, cG6⟩ := (BG.out : FBox _ _ _ _).cells
        go_upto_region 7 with fail
        clear cF0 cF1 cF2 cF3 cF4 cF5 cF6 cG0 cG1 cG2 cG3 cG4 cG5 cG6
        obtain ⟨cF0, cF1, cF2, cF3, cF4, cF5, cF6⟩ := (BF.out : FBox _ _ _ _).cells
        obtain ⟨cP0, cP1, cP2, cP3, cP4⟩ := (BP.out : PBox _ _ _).cells
        go_upto_region 8 with (go_at_call 14; refine (KF.out _).mono ?_; rintro e W5 ⟨rfl, g5⟩)
        clear cF0 cF1 cF2 cF3 cF4 cF5 cF6 cP0 cP1 cP2 cP3 cP4
        obtain ⟨V4, b4, hW, hb, XH, LO6⟩ := one_more W5 (Fl.c ⟨f.so, f.ck, f.rate, wrap64 (f.cr + p.q), f.nx, f.db, f.ag⟩) 26
        simp only [Fl.c, Pc.c] at hW
        have NPH : Hid (b1 < b4) := Lib.hid (by have h1 := BP.out.lt; have h3 := hb.out; have h2 := g5.size; omega)
        have NFH : Hid (b2 < b4) := Lib.hid (by have h1 := BF.out.lt; have h3 := hb.out; have h2 := g5.size; omega)
        have NGH : Hid (b3 < b4) := Lib.hid (by have h1 := BG.out.lt; have h3 := hb.out; have h2 := g5.size; omega)
        rw [hW.out, hb.out]
        have L6 := Lib.hid (below_tr g5 LO6.out)
        replace BP := Lib.hid (BP.out.below L6.out BP.out.lt)
        replace BF := Lib.hid (BF.out.below L6.out BF.out.lt)
        replace BG := Lib.hid (BG.out.below L6.out BG.out.lt)
        replace LO := Lib.hid (below_tr LO.out L6.out)
        have BH : Hid (FBox V4 b4 26 ⟨f.so, f.ck, f.rate, wrap64 (f.cr + p.q), f.nx, f.db, f.ag⟩) := XH
        clear hW hb LO6 L6 XH g5
        obtain ⟨cF0, cF1, cF2, cF3, cF4, cF5, cF6⟩ := (BF.out : FBox _ _ _ _).cells
        obtain ⟨cP0, cP1, cP2, cP3, cP4⟩ := (BP.out : PBox _ _ _).cells
        obtain ⟨cH0, cH1, cH2, cH3, cH4, cH5, cH6⟩ := (BH.out : FBox _ _ _ _).cells
        simp only at cH0 cH1 cH2 cH3 cH4 cH5 cH6
        have fH := (BH.out : FBox _ _ _ _).frozen.2.2.2.1
        go_upto_region 9 with fail
        have hx : Box _ b4 _ _ := (show Box _ b4 _ _ from BH.out).set 3 (.int .i64 (wrap64 (wrap64 (f.cr + p.q) - p.q)))
        have HX := Lib.hid hx
        have hy : FBox _ b2 _ _ := (BF.out).other (c := b4) (i := 3) (by have := NFH.out; omega) (.int .i64 (wrap64 (wrap64 (f.cr + p.q) - p.q)))
        have hz : PBox _ b1 _ := Box.other (show Box _ b1 _ _ from BP.out) (c := b4) (i := 3) (by have := NPH.out; omega) (.int .i64 (wrap64 (wrap64 (f.cr + p.q) - p.q)))
        replace LO := Lib.hid (LO.out.setCell (p := ⟨b4, 3, none⟩) (by simp; have := NFH.out; have := hlo.out; omega) (.int .i64 (wrap64 (wrap64 (f.cr + p.q) - p.q))))
        have HY := Lib.hid hy
        have HZ := Lib.hid hz
        clear hx hy hz BG BF BP BH fH
        clear cF0 cF1 cF2 cF3 cF4 cF5 cF6 cP0 cP1 cP2 cP3 cP4 cH0 cH1 cH2 cH3 cH4 cH5 cH6
        obtain ⟨V9, hV9⟩ : ∃ V9, Hid (V4.setCell ⟨b4, 3, none⟩ (.int .i64 (wrap64 (wrap64 (f.cr + p.q) - p.q))) = V9) := ⟨_, Lib.hid rfl⟩
        rw [hV9.out] at HX HY HZ LO ⊢
        obtain ⟨c0, c1, c2, c3, c4, c5, c6⟩ := HY.out.cells
        obtain ⟨d0, d1, d2, d3, d4⟩ := HZ.out.cells
        have e0 := HX.out.cell 0
        have e1 := HX.out.cell 1
        have e2 := HX.out.cell 2
        have e3 := HX.out.cell 3
        have e4 := HX.out.cell 4
        have e5 := HX.out.cell 5
        have e6 := HX.out.cell 6
        simp [Fl.c] at e0 e1 e2 e3 e4 e5 e6
        clear hV9
        go_wp2_with (first | (go_at_call 15; refine (KY.out _).mono ?_; rintro e W5 ⟨rfl, g5⟩; replace LO := Lib.hid (below_tr LO.out g5); clear g5) | (go_at_call 6; refine (KA.out _).mono ?_; rintro e W6 ⟨rfl, g6⟩; replace LO := Lib.hid (below_tr LO.out g6); clear g6))
        go_ret
        exact ⟨rfl, LO.out⟩

end Go.Proofs.Ytmokkbhfhbgkmab
