/-
  What the program answers of a bitmap that is none.
-/
import Derived.Test.YtlpniacffahnkabDoorBitSt
namespace Go.Proofs.YtlpniacffahnkabDoor
open Go.RowKit
set_option linter.unusedVariables false

/-- No bitmap: nil, or one that New did not make. -/
def NotMade (p : Option Addr) (w : World) : Prop := ∀ b, p = some b → ∃ k, b = ⟨k, 0, none⟩ ∧ Box w k 54 #[.pointer none, .int .i64 0, .int .i64 0, .slice none 0 0]
theorem NotMade.none (w : World) : NotMade none w := fun b h => by cases h
theorem NotMade.below {p : Option Addr} {w w' : World} (h : NotMade p w) (b : Below w.heap.size w w') : NotMade p w' := fun q hq => by
  obtain ⟨k, e, hb⟩ := h q hq
  exact ⟨k, e, hb.below b hb.lt⟩
theorem run_eql_nil (w : World) (a : Addr) : (binOp .eql 23 (.pointer none) (.pointer (some a))).run Tryd.prog w = .ok (.bool false) w := by
  have h : ∀ d : Nat, (Op.equalIn (d + 1) 23 (.pointer none) (.pointer (some a))).run Tryd.prog w = .ok false w := fun d => by
    simp [Op.equalIn, run_underlying (P := Tryd.prog) (t := 23) rfl]
  simp only [binOp]
  simp [Op.equal, Op.maxDepth, h 9999]
theorem none_made {p : Option Addr} {w : World} (h : NotMade p w) :
    Calls Tryd.prog 29 #[.pointer p] w fun e w' => e = .returned (.bool false) ∧ w' = w := by
  cases p with
  | none =>
    go_enter Tryd.func29, Tryd.ntmps29
    go_wp2_with fail
    go_ret
    exact ⟨rfl, rfl⟩
  | some b =>
    obtain ⟨k, rfl, hb⟩ := h b rfl
    have c0 : w.cell? ⟨k, 0, .none⟩ = some (.pointer .none) := hb.cell 0
    clear h hb
    have hq := fun w : World => run_eql_nil w ⟨k, 0, .none⟩
    go_enter Tryd.func29, Tryd.ntmps29
    go_wp2_with fail
    go_ret
    exact ⟨rfl, rfl⟩
section
variable {p : Option Addr} {w : World} (h : NotMade p w)
include h
theorem none_there (i : Int) : Calls Tryd.prog 27 #[.pointer p, .int .i64 i] w fun e w' => e = .returned (.bool false) ∧ w' = w := by
  have HM := Lib.hid (none_made h)
  clear h
  go_enter Tryd.func27, Tryd.ntmps27
  go_wp2_with (go_at_call 29; refine HM.out.mono ?_; rintro e w1 ⟨rfl, rfl⟩)
  go_ret
  exact ⟨rfl, rfl⟩
theorem none_has (i : Int) : Calls Tryd.prog 19 #[.pointer p, .int .i64 i] w fun e w' => e = .returned (.bool false) ∧ Below w.heap.size w w' := by
  have HT := Lib.hid (fun d => none_there (h.below (below_drewN (Below.refl _ _) d)) i)
  clear h
  go_enter Tryd.func19, Tryd.ntmps19
  go_upto_region 1 with fail
  go_quiet (first | (go_at_call 27; exact Calls.quiet_of_same (HT.out _)))
  go_wp2_with fail
  go_ret
  exact ⟨rfl, below_drewN (Below.refl _ _) _⟩
theorem none_set (i : Int) : Calls Tryd.prog 13 #[.pointer p, .int .i64 i] w fun e w' => e = .returned (.bool false) ∧ Below w.heap.size w w' := by
  have HT := Lib.hid (none_there h i)
  clear h
  go_enter Tryd.func13, Tryd.ntmps13
  go_wp2_with fail
  refine HT.out.mono ?_
  rintro e w1 ⟨rfl, rfl⟩
  go_wp2_with fail
  go_ret
  exact ⟨rfl, Below.refl _ _⟩
theorem none_clear (i : Int) : Calls Tryd.prog 14 #[.pointer p, .int .i64 i] w fun e w' => e = .returned (.bool false) ∧ Below w.heap.size w w' := by
  have HT := Lib.hid (none_has h i)
  clear h
  go_enter Tryd.func14, Tryd.ntmps14
  go_wp2_with fail
  refine HT.out.mono ?_
  rintro e w1 ⟨rfl, b1⟩
  go_wp2_with fail
  go_ret
  exact ⟨rfl, b1⟩
theorem none_next (i : Int) : Calls Tryd.prog 15 #[.pointer p, .int .i64 i] w fun e w' => e = .returned (.tuple #[.int .i64 0, .bool false]) ∧ w' = w := by
  have HM := Lib.hid (none_made h)
  clear h
  go_enter Tryd.func15, Tryd.ntmps15
  go_wp2_with fail
  refine HM.out.mono ?_
  rintro e w1 ⟨rfl, rfl⟩
  go_wp2_with fail
  go_ret2
  exact ⟨rfl, rfl⟩
theorem none_round (i : Int) : Calls Tryd.prog 17 #[.pointer p, .int .i64 i] w fun e w' => e = .returned (.tuple #[.int .i64 0, .bool false]) ∧ w' = w := by
  have H1 := Lib.hid (none_next h i)
  have H2 := Lib.hid (none_next h 0)
  clear h
  go_enter Tryd.func17, Tryd.ntmps17
  go_wp2_with fail
  refine H1.out.mono ?_
  rintro e w1 ⟨rfl, rfl⟩
  go_wp2_with fail
  refine H2.out.mono ?_
  rintro e w1 ⟨rfl, rfl⟩
  go_wp2_with fail
  go_ret2
  exact ⟨rfl, rfl⟩
theorem none_len : Calls Tryd.prog 24 #[.pointer p] w fun e w' => e = .returned (.int .i64 0) ∧ w' = w := by
  have HM := Lib.hid (none_made h)
  clear h
  go_enter Tryd.func24, Tryd.ntmps24
  go_wp2_with fail
  refine HM.out.mono ?_
  rintro e w1 ⟨rfl, rfl⟩
  go_wp2_with fail
  go_ret
  exact ⟨rfl, rfl⟩
theorem none_all : Calls Tryd.prog 23 #[.pointer p] w fun e w' => ∃ q c, e = .returned (.slice q 0 c) ∧ Below w.heap.size w w' := by
  have HL := Lib.hid (none_len h)
  obtain ⟨inf, hi1, hi2, hi3, hi4⟩ := info_parts (P := Tryd.prog) (e := 3) (z := .int .i64 0) (size := 1) (bytes := 8) (by kernel_rfl)
  have r1 := run_make_room (P := Tryd.prog) 39 3 inf (.int .i64 0) rfl hi1 hi2 hi3 0 (by rw [hi4]; omega) (by omega)
  have HB := Lib.hid ((Below.refl _ w).alloc (Nat.le_refl _) (.cells (madeCells (Value.int .i64 0).cells (0 * 1)) 3))
  obtain ⟨W, HW⟩ : ∃ W, Hid (w.alloc (.cells (madeCells (Value.int .i64 0).cells (0 * 1)) 3) = W) := ⟨_, Lib.hid rfl⟩
  have r2 : (Instr.makeSlice 39 (.int .i64 0) (.int .i64 0)).run Tryd.prog w = .ok (.slice (some ⟨w.heap.size, 0, none⟩) 0 0) W := by
    rw [← HW.out]
    exact r1 w
  rw [HW.out] at HB
  have HN := Lib.hid (none_next (h.below HB.out) 0)
  clear h r1 HW
  go_enter Tryd.func23, Tryd.ntmps23
  go_wp2_with fail
  refine HL.out.mono ?_
  rintro e w1 ⟨rfl, rfl⟩
  go_wp2_with fail
  refine HN.out.mono ?_
  rintro e w2 ⟨rfl, rfl⟩
  go_upto_region 3 with fail
  go_loopg [3, 4, 5] 0 (fun s v3 v4 v5 wx => v3 = .slice (some ⟨w1.heap.size, 0, none⟩) 0 0 ∧ v5 = .bool false ∧ wx = w2)
  case atStart => exact ⟨rfl, rfl, rfl⟩
  case round =>
    obtain ⟨rfl, rfl, rfl⟩ := hrel
    go_wp2_with fail
    go_ret
    exact ⟨_, _, rfl, HB.out⟩
end

end Go.Proofs.YtlpniacffahnkabDoor
