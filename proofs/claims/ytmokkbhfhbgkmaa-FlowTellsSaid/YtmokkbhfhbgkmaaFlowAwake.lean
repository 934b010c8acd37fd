/-
  The examples of layer 12's chapter (the law's 'awake') answer true.
-/
import Derived.Test.YtmokkbhfhbgkmaaFlowCharge
namespace Go.Proofs.Ytmokkbhfhbgkmaa
open Go.RowKit
set_option linter.unusedVariables false
set_option linter.unusedSimpArgs false
set_option maxRecDepth 100000

/-- One more box: where it lies, and that all that lay lies as it lay. -/
theorem one_more (W : World) (c : Array Value) (T : TypeId) : ∃ W' b, Hid (W.alloc (.cells c T) = W') ∧ Hid (W.heap.size = b) ∧ Hid (Box W' b T c) ∧ Hid (Below W.heap.size W W') :=
  ⟨_, _, Lib.hid rfl, Lib.hid rfl, Lib.hid (Box.new _ _ _), Lib.hid ((Below.refl _ _).alloc (Nat.le_refl _) _)⟩

theorem pfits0 : (⟨1000, 1500, 0, 0, 10⟩ : Pc).Fits := by constructor <;> simp [Num.Word, Half]
theorem ch1 (W : World) : Calls Try.prog 26 #[.agg #[.int .u64 1, .int .u64 2, .int .u64 1000000, .int .i64 1500, .int .u64 0, .int .u64 0, .int .u64 0], .int .i64 1000, .int .u64 7, .agg #[.int .i64 1000, .int .i64 1500, .int .u64 0, .int .u64 0, .int .u64 10]] W fun e w' => e = .returned (.tuple #[.agg #[.int .u64 1, .int .u64 2, .int .u64 1000000, .int .i64 500, .int .u64 0, .int .u64 1000, .int .u64 0], .int .i64 0]) ∧ Below W.heap.size W w' := by
  have h := flow_charge ⟨1, 2, 1000000, 1500, 0, 0, 0⟩ 1000 7 ⟨1000, 1500, 0, 0, 10⟩ (by constructor <;> simp [Num.Word, Half]) pfits0 (by omega) (by simp [Num.Word]) W
  rw [show Fl.charge ⟨1, 2, 1000000, 1500, 0, 0, 0⟩ 1000 7 ⟨1000, 1500, 0, 0, 10⟩ = ⟨1, 2, 1000000, 500, 0, 1000, 0⟩ from by kernel_rfl] at h
  exact h
theorem ch2 (W : World) : Calls Try.prog 26 #[.agg #[.int .u64 1, .int .u64 2, .int .u64 1000000, .int .i64 500, .int .u64 0, .int .u64 1000, .int .u64 0], .int .i64 600, .int .u64 8, .agg #[.int .i64 1000, .int .i64 1500, .int .u64 0, .int .u64 0, .int .u64 10]] W fun e w' => e = .returned (.tuple #[.agg #[.int .u64 1, .int .u64 2, .int .u64 1000000, .int .i64 (-100), .int .u64 1600008, .int .u64 0, .int .u64 0], .int .i64 0]) ∧ Below W.heap.size W w' := by
  have h := flow_charge ⟨1, 2, 1000000, 500, 0, 1000, 0⟩ 600 8 ⟨1000, 1500, 0, 0, 10⟩ (by constructor <;> simp [Num.Word, Half]) pfits0 (by omega) (by simp [Num.Word]) W
  rw [show Fl.charge ⟨1, 2, 1000000, 500, 0, 1000, 0⟩ 600 8 ⟨1000, 1500, 0, 0, 10⟩ = ⟨1, 2, 1000000, (-100), 1600008, 0, 0⟩ from by kernel_rfl] at h
  exact h
theorem ch3 (W : World) : Calls Try.prog 26 #[.agg #[.int .u64 1, .int .u64 2, .int .u64 5, .int .i64 1500, .int .u64 0, .int .u64 0, .int .u64 0], .int .i64 10, .int .u64 100, .agg #[.int .i64 1000, .int .i64 1500, .int .u64 0, .int .u64 0, .int .u64 10]] W fun e w' => e = .returned (.tuple #[.agg #[.int .u64 1, .int .u64 2, .int .u64 5, .int .i64 0, .int .u64 2000000100, .int .u64 0, .int .u64 0], .int .i64 0]) ∧ Below W.heap.size W w' := by
  have h := flow_charge ⟨1, 2, 5, 1500, 0, 0, 0⟩ 10 100 ⟨1000, 1500, 0, 0, 10⟩ (by constructor <;> simp [Num.Word, Half]) pfits0 (by omega) (by simp [Num.Word]) W
  rw [show Fl.charge ⟨1, 2, 5, 1500, 0, 0, 0⟩ 10 100 ⟨1000, 1500, 0, 0, 10⟩ = ⟨1, 2, 5, 0, 2000000100, 0, 0⟩ from by kernel_rfl] at h
  exact h
theorem ch4 (W : World) : Calls Try.prog 26 #[.agg #[.int .u64 1, .int .u64 2, .int .u64 1000000, .int .i64 1500, .int .u64 0, .int .u64 0, .int .u64 0], .int .i64 0, .int .u64 0, .agg #[.int .i64 1000, .int .i64 1500, .int .u64 0, .int .u64 0, .int .u64 10]] W fun e w' => e = .returned (.tuple #[.agg #[.int .u64 1, .int .u64 2, .int .u64 1000000, .int .i64 1500, .int .u64 0, .int .u64 0, .int .u64 0], .int .i64 2]) ∧ Below W.heap.size W w' :=
  flow_refused ⟨1, 2, 1000000, 1500, 0, 0, 0⟩ 0 0 ⟨1000, 1500, 0, 0, 10⟩ (by omega) W
theorem fi1 (W : World) : Calls Try.prog 28 #[.agg #[.int .u64 1, .int .u64 2, .int .u64 1000000, .int .i64 (-100), .int .u64 1600008, .int .u64 0, .int .u64 0], .agg #[.int .i64 1000, .int .i64 1500, .int .u64 0, .int .u64 0, .int .u64 10]] W fun e w' => e = .returned (.agg #[.int .u64 1, .int .u64 2, .int .u64 1000000, .int .i64 900, .int .u64 1600008, .int .u64 0, .int .u64 0]) ∧ Below W.heap.size W w' := by
  have h := flow_fill ⟨1, 2, 1000000, (-100), 1600008, 0, 0⟩ ⟨1000, 1500, 0, 0, 10⟩ (by constructor <;> simp [Num.Word, Half]) pfits0 W
  rw [show Fl.fill ⟨1, 2, 1000000, (-100), 1600008, 0, 0⟩ ⟨1000, 1500, 0, 0, 10⟩ = ⟨1, 2, 1000000, 900, 1600008, 0, 0⟩ from by kernel_rfl] at h
  exact h
theorem bo1 (W : World) : Calls Try.prog 24 #[.int .u64 1, .int .u64 2, .agg #[.int .i64 1000, .int .i64 1500, .int .u64 0, .int .u64 0, .int .u64 10]] W fun e w' => e = .returned (.agg #[.int .u64 1, .int .u64 2, .int .u64 0, .int .i64 1500, .int .u64 0, .int .u64 0, .int .u64 0]) ∧ Below W.heap.size W w' := flow_born 1 2 ⟨1000, 1500, 0, 0, 10⟩ W

set_option maxHeartbeats 2000000 in
theorem awake12 (w : World) : Calls Try.prog 23 #[] w fun e w' => e = .returned (.bool true) ∧ Below w.heap.size w w' := by
  go_enter Try.func23, Try.ntmps23
  go_upto_region 2 with fail
  obtain ⟨W, b1, hW, hb, BP, LO⟩ := one_more w #[.int .i64 1000, .int .i64 1500, .int .u64 0, .int .u64 0, .int .u64 10] 59
  rw [hW.out, hb.out]
  clear hW hb
  have cP0 := BP.out.cell 0
  have cP1 := BP.out.cell 1
  have cP2 := BP.out.cell 2
  have cP3 := BP.out.cell 3
  have cP4 := BP.out.cell 4
  simp at cP0 cP1 cP2 cP3 cP4
  go_upto_region 4 with (go_at_call 24; refine (bo1 _).mono ?_; rintro e W5 ⟨rfl, g5⟩)
  clear cP0 cP1 cP2 cP3 cP4
  obtain ⟨W6b2, b2, hW, hb, BF, LO6⟩ := one_more W5 #[.int .u64 1, .int .u64 2, .int .u64 1000000, .int .i64 1500, .int .u64 0, .int .u64 0, .int .u64 0] 63
  rw [hW.out, hb.out]
  have L6 := Lib.hid (below_tr g5 LO6.out)
  replace BP := Lib.hid (BP.out.below L6.out BP.out.lt)
  replace LO := Lib.hid (below_tr LO.out L6.out)
  clear hW hb g5 LO6 L6
  have cF0 := BF.out.cell 0
  have cF1 := BF.out.cell 1
  have cF2 := BF.out.cell 2
  have cF3 := BF.out.cell 3
  have cF4 := BF.out.cell 4
  have cF5 := BF.out.cell 5
  have cF6 := BF.out.cell 6
  simp at cF0 cF1 cF2 cF3 cF4 cF5 cF6
  have cP0 := BP.out.cell 0
  have cP1 := BP.out.cell 1
  have cP2 := BP.out.cell 2
  have cP3 := BP.out.cell 3
  have cP4 := BP.out.cell 4
  simp at cP0 cP1 cP2 cP3 cP4
  go_upto_region 5 with (go_at_call 26; refine (ch1 _).mono ?_; rintro e W5 ⟨rfl, g5⟩)
  clear cF0 cF1 cF2 cF3 cF4 cF5 cF6 cP0 cP1 cP2 cP3 cP4
  obtain ⟨W6b3, b3, hW, hb, BG, LO6⟩ := one_more W5 #[.int .u64 1, .int .u64 2, .int .u64 1000000, .int .i64 500, .int .u64 0, .int .u64 1000, .int .u64 0] 63
  rw [hW.out, hb.out]
  have L6 := Lib.hid (below_tr g5 LO6.out)
  replace BP := Lib.hid (BP.out.below L6.out BP.out.lt)
  replace BF := Lib.hid (BF.out.below L6.out BF.out.lt)
  replace LO := Lib.hid (below_tr LO.out L6.out)
  clear hW hb g5 LO6 L6
  have cG0 := BG.out.cell 0
  have cG1 := BG.out.cell 1
  have cG2 := BG.out.cell 2
  have cG3 := BG.out.cell 3
  have cG4 := BG.out.cell 4
  have cG5 := BG.out.cell 5
  have cG6 := BG.out.cell 6
  simp at cG0 cG1 cG2 cG3 cG4 cG5 cG6
  have cP0 := BP.out.cell 0
  have cP1 := BP.out.cell 1
  have cP2 := BP.out.cell 2
  have cP3 := BP.out.cell 3
  have cP4 := BP.out.cell 4
  simp at cP0 cP1 cP2 cP3 cP4
  go_upto_region 6 with (go_at_call 26; refine (ch2 _).mono ?_; rintro e W5 ⟨rfl, g5⟩)
  clear cG0 cG1 cG2 cG3 cG4 cG5 cG6 cP0 cP1 cP2 cP3 cP4
  obtain ⟨W6b5, b5, hW, hb, BH, LO6⟩ := one_more W5 #[.int .u64 1, .int .u64 2, .int .u64 1000000, .int .i64 (-100), .int .u64 1600008, .int .u64 0, .int .u64 0] 63
  rw [hW.out, hb.out]
  have L6 := Lib.hid (below_tr g5 LO6.out)
  replace BP := Lib.hid (BP.out.below L6.out BP.out.lt)
  replace BF := Lib.hid (BF.out.below L6.out BF.out.lt)
  replace BG := Lib.hid (BG.out.below L6.out BG.out.lt)
  replace LO := Lib.hid (below_tr LO.out L6.out)
  clear hW hb g5 LO6 L6
  have cH0 := BH.out.cell 0
  have cH1 := BH.out.cell 1
  have cH2 := BH.out.cell 2
  have cH3 := BH.out.cell 3
  have cH4 := BH.out.cell 4
  have cH5 := BH.out.cell 5
  have cH6 := BH.out.cell 6
  simp at cH0 cH1 cH2 cH3 cH4 cH5 cH6
  have cP0 := BP.out.cell 0
  have cP1 := BP.out.cell 1
  have cP2 := BP.out.cell 2
  have cP3 := BP.out.cell 3
  have cP4 := BP.out.cell 4
  simp at cP0 cP1 cP2 cP3 cP4
  go_upto_region 7 with (go_at_call 28; refine (fi1 _).mono ?_; rintro e W5 ⟨rfl, g5⟩)
  clear cH0 cH1 cH2 cH3 cH4 cH5 cH6 cP0 cP1 cP2 cP3 cP4
  obtain ⟨W6b7, b7, hW, hb, BJ, LO6⟩ := one_more W5 #[.int .u64 1, .int .u64 2, .int .u64 1000000, .int .i64 900, .int .u64 1600008, .int .u64 0, .int .u64 0] 63
  rw [hW.out, hb.out]
  have L6 := Lib.hid (below_tr g5 LO6.out)
  replace BP := Lib.hid (BP.out.below L6.out BP.out.lt)
  replace BF := Lib.hid (BF.out.below L6.out BF.out.lt)
  replace BG := Lib.hid (BG.out.below L6.out BG.out.lt)
  replace BH := Lib.hid (BH.out.below L6.out BH.out.lt)
  replace LO := Lib.hid (below_tr LO.out L6.out)
  clear hW hb g5 LO6 L6
  have cP0 := BP.out.cell 0
  have cP1 := BP.out.cell 1
  have cP2 := BP.out.cell 2
  have cP3 := BP.out.cell 3
  have cP4 := BP.out.cell 4
  simp at cP0 cP1 cP2 cP3 cP4
  go_upto_region 9 with (go_at_call 24; refine (bo1 _).mono ?_; rintro e W5 ⟨rfl, g5⟩)
  clear cP0 cP1 cP2 cP3 cP4
  obtain ⟨W6b8, b8, hW, hb, BS, LO6⟩ := one_more W5 #[.int .u64 1, .int .u64 2, .int .u64 5, .int .i64 1500, .int .u64 0, .int .u64 0, .int .u64 0] 63
  rw [hW.out, hb.out]
  have L6 := Lib.hid (below_tr g5 LO6.out)
  replace BP := Lib.hid (BP.out.below L6.out BP.out.lt)
  replace BF := Lib.hid (BF.out.below L6.out BF.out.lt)
  replace BG := Lib.hid (BG.out.below L6.out BG.out.lt)
  replace BH := Lib.hid (BH.out.below L6.out BH.out.lt)
  replace BJ := Lib.hid (BJ.out.below L6.out BJ.out.lt)
  replace LO := Lib.hid (below_tr LO.out L6.out)
  clear hW hb g5 LO6 L6
  have cS0 := BS.out.cell 0
  have cS1 := BS.out.cell 1
  have cS2 := BS.out.cell 2
  have cS3 := BS.out.cell 3
  have cS4 := BS.out.cell 4
  have cS5 := BS.out.cell 5
  have cS6 := BS.out.cell 6
  simp at cS0 cS1 cS2 cS3 cS4 cS5 cS6
  have cP0 := BP.out.cell 0
  have cP1 := BP.out.cell 1
  have cP2 := BP.out.cell 2
  have cP3 := BP.out.cell 3
  have cP4 := BP.out.cell 4
  simp at cP0 cP1 cP2 cP3 cP4
  go_upto_region 10 with (go_at_call 26; refine (ch3 _).mono ?_; rintro e W5 ⟨rfl, g5⟩)
  clear cS0 cS1 cS2 cS3 cS4 cS5 cS6 cP0 cP1 cP2 cP3 cP4
  obtain ⟨W6b9, b9, hW, hb, BX, LO6⟩ := one_more W5 #[.int .u64 1, .int .u64 2, .int .u64 5, .int .i64 0, .int .u64 2000000100, .int .u64 0, .int .u64 0] 63
  rw [hW.out, hb.out]
  have L6 := Lib.hid (below_tr g5 LO6.out)
  replace BP := Lib.hid (BP.out.below L6.out BP.out.lt)
  replace BF := Lib.hid (BF.out.below L6.out BF.out.lt)
  replace BG := Lib.hid (BG.out.below L6.out BG.out.lt)
  replace BH := Lib.hid (BH.out.below L6.out BH.out.lt)
  replace BJ := Lib.hid (BJ.out.below L6.out BJ.out.lt)
  replace BS := Lib.hid (BS.out.below L6.out BS.out.lt)
  replace LO := Lib.hid (below_tr LO.out L6.out)
  clear hW hb g5 LO6 L6
  have cF0 := BF.out.cell 0
  have cF1 := BF.out.cell 1
  have cF2 := BF.out.cell 2
  have cF3 := BF.out.cell 3
  have cF4 := BF.out.cell 4
  have cF5 := BF.out.cell 5
  have cF6 := BF.out.cell 6
  simp at cF0 cF1 cF2 cF3 cF4 cF5 cF6
  have cP0 := BP.out.cell 0
  have cP1 := BP.out.cell 1
  have cP2 := BP.out.cell 2
  have cP3 := BP.out.cell 3
  have cP4 := BP.out.cell 4
  simp at cP0 cP1 cP2 cP3 cP4
  have cG0 := BG.out.cell 0
  have cG1 := BG.out.cell 1
  have cG2 := BG.out.cell 2
  have cG3 := BG.out.cell 3
  have cG4 := BG.out.cell 4
  have cG5 := BG.out.cell 5
  have cG6 := BG.out.cell 6
  simp at cG0 cG1 cG2 cG3 cG4 cG5 cG6
  have cH0 := BH.out.cell 0
  have cH1 := BH.out.cell 1
  have cH2 := BH.out.cell 2
  have cH3 := BH.out.cell 3
  have cH4 := BH.out.cell 4
  have cH5 := BH.out.cell 5
  have cH6 := BH.out.cell 6
  simp at cH0 cH1 cH2 cH3 cH4 cH5 cH6
  have cJ0 := BJ.out.cell 0
  have cJ1 := BJ.out.cell 1
  have cJ2 := BJ.out.cell 2
  have cJ3 := BJ.out.cell 3
  have cJ4 := BJ.out.cell 4
  have cJ5 := BJ.out.cell 5
  have cJ6 := BJ.out.cell 6
  simp at cJ0 cJ1 cJ2 cJ3 cJ4 cJ5 cJ6
  have cX0 := BX.out.cell 0
  have cX1 := BX.out.cell 1
  have cX2 := BX.out.cell 2
  have cX3 := BX.out.cell 3
  have cX4 := BX.out.cell 4
  have cX5 := BX.out.cell 5
  have cX6 := BX.out.cell 6
  simp at cX0 cX1 cX2 cX3 cX4 cX5 cX6
  go_wp2_with (go_at_call 26; refine (ch4 _).mono ?_; rintro e W5 ⟨rfl, g5⟩; clear cF0 cF1 cF2 cF3 cF4 cF5 cF6 cP0 cP1 cP2 cP3 cP4 cG0 cG1 cG2 cG3 cG4 cG5 cG6 cH0 cH1 cH2 cH3 cH4 cH5 cH6 cJ0 cJ1 cJ2 cJ3 cJ4 cJ5 cJ6 cX0 cX1 cX2 cX3 cX4 cX5 cX6; have QF := (BF.out.below g5 BF.out.lt).alloc (.cells #[.int .u64 1, .int .u64 2, .int .u64 1000000, .int .i64 1500, .int .u64 0, .int .u64 0, .int .u64 0] 63); have QP := (BP.out.below g5 BP.out.lt).alloc (.cells #[.int .u64 1, .int .u64 2, .int .u64 1000000, .int .i64 1500, .int .u64 0, .int .u64 0, .int .u64 0] 63); have QG := (BG.out.below g5 BG.out.lt).alloc (.cells #[.int .u64 1, .int .u64 2, .int .u64 1000000, .int .i64 1500, .int .u64 0, .int .u64 0, .int .u64 0] 63); have QH := (BH.out.below g5 BH.out.lt).alloc (.cells #[.int .u64 1, .int .u64 2, .int .u64 1000000, .int .i64 1500, .int .u64 0, .int .u64 0, .int .u64 0] 63); have QJ := (BJ.out.below g5 BJ.out.lt).alloc (.cells #[.int .u64 1, .int .u64 2, .int .u64 1000000, .int .i64 1500, .int .u64 0, .int .u64 0, .int .u64 0] 63); have QX := (BX.out.below g5 BX.out.lt).alloc (.cells #[.int .u64 1, .int .u64 2, .int .u64 1000000, .int .i64 1500, .int .u64 0, .int .u64 0, .int .u64 0] 63); have cF0 := QF.cell 0; have cF1 := QF.cell 1; have cF2 := QF.cell 2; have cF3 := QF.cell 3; have cF4 := QF.cell 4; have cF5 := QF.cell 5; have cF6 := QF.cell 6; simp only [List.getElem?_toArray, List.getElem?_cons_zero, List.getElem?_cons_succ] at cF0 cF1 cF2 cF3 cF4 cF5 cF6; have cP0 := QP.cell 0; have cP1 := QP.cell 1; have cP2 := QP.cell 2; have cP3 := QP.cell 3; have cP4 := QP.cell 4; simp only [List.getElem?_toArray, List.getElem?_cons_zero, List.getElem?_cons_succ] at cP0 cP1 cP2 cP3 cP4; have cG0 := QG.cell 0; have cG1 := QG.cell 1; have cG2 := QG.cell 2; have cG3 := QG.cell 3; have cG4 := QG.cell 4; have cG5 := QG.cell 5; have cG6 := QG.cell 6; simp only [List.getElem?_toArray, List.getElem?_cons_zero, List.getElem?_cons_succ] at cG0 cG1 cG2 cG3 cG4 cG5 cG6; have cH0 := QH.cell 0; have cH1 := QH.cell 1; have cH2 := QH.cell 2; have cH3 := QH.cell 3; have cH4 := QH.cell 4; have cH5 := QH.cell 5; have cH6 := QH.cell 6; simp only [List.getElem?_toArray, List.getElem?_cons_zero, List.getElem?_cons_succ] at cH0 cH1 cH2 cH3 cH4 cH5 cH6; have cJ0 := QJ.cell 0; have cJ1 := QJ.cell 1; have cJ2 := QJ.cell 2; have cJ3 := QJ.cell 3; have cJ4 := QJ.cell 4; have cJ5 := QJ.cell 5; have cJ6 := QJ.cell 6; simp only [List.getElem?_toArray, List.getElem?_cons_zero, List.getElem?_cons_succ] at cJ0 cJ1 cJ2 cJ3 cJ4 cJ5 cJ6; have cX0 := QX.cell 0; have cX1 := QX.cell 1; have cX2 := QX.cell 2; have cX3 := QX.cell 3; have cX4 := QX.cell 4; have cX5 := QX.cell 5; have cX6 := QX.cell 6; simp only [List.getElem?_toArray, List.getElem?_cons_zero, List.getElem?_cons_succ] at cX0 cX1 cX2 cX3 cX4 cX5 cX6; have g6 := Lib.hid (below_tr LO.out (below_tr g5 ((Below.refl _ _).alloc (Nat.le_refl _) (.cells #[.int .u64 1, .int .u64 2, .int .u64 1000000, .int .i64 1500, .int .u64 0, .int .u64 0, .int .u64 0] 63)))); clear g5 QF QP QG QH QJ QX)
  go_ret
  exact ⟨rfl, g6.out⟩

end Go.Proofs.Ytmokkbhfhbgkmaa
