/-
  The program's own tree: New.
-/
import Derived.Test.YtkiibobpejoaeaaTreeNextW
namespace Go.Proofs.Ytkiibobpejoaeaa
open Go.RowKit
set_option linter.unusedVariables false
set_option maxRecDepth 100000

def emptyG : Gr := ⟨fun _ => ⟨0, 0⟩, fun _ => 0, fun _ => false, fun _ => 0, fun _ _ => 0⟩
theorem empty_sits : Sits emptyG [] .leaf := ⟨rfl, trivial, fun _ => by simp [occZ, T.occ], rfl, rfl, rfl, rfl, rfl⟩
theorem tree_new (room : Nat) (w : World) (h1 : 1 ≤ room) (h2 : room ≤ 65536) : Calls Try.prog 47 #[.int .i64 (room : Int)] w (NewT AtT w room) := by
  have a1 : ¬ (room : Int) < 1 := by omega
  have a2 : ¬ (65536 : Int) < (room : Int) := by omega
  obtain ⟨inf, hi1, hi2, hi3, hi4⟩ := info_parts (P := Try.prog) (e := 143) (z := .agg #[.int .u64 0, .int .u64 0, .int .i64 0, .bool false, .int .i64 0, .int .i64 0, .int .i64 0]) (size := 7) (bytes := 56) (by kernel_rfl)
  have r1 := run_make_cells (P := Try.prog) 136 143 inf (.agg #[.int .u64 0, .int .u64 0, .int .i64 0, .bool false, .int .i64 0, .int .i64 0, .int .i64 0]) 7 rfl hi1 hi2 hi3 1 1 rfl (by rw [hi4]; omega) (by omega)
  obtain ⟨zc, HZ⟩ : ∃ z, Hid (madeCells (Value.agg #[.int .u64 0, .int .u64 0, .int .i64 0, .bool false, .int .i64 0, .int .i64 0, .int .i64 0]).cells (1 * 7) = z) := ⟨_, Lib.hid rfl⟩
  rw [HZ.out] at r1
  have HZC : Hid (zc.size = 1 * 7 ∧ ∀ p, p < 1 → ∀ j, j < 7 → zc[p * 7 + j]? = (ndC emptyG p)[j]?) := by
    rw [← HZ.out]
    refine Lib.hid ⟨by rw [size_madeCells], fun p hp j hj => ?_⟩
    obtain rfl : p = 0 := by omega
    rcases (by omega : j = 0 ∨ j = 1 ∨ j = 2 ∨ j = 3 ∨ j = 4 ∨ j = 5 ∨ j = 6) with rfl | rfl | rfl | rfl | rfl | rfl | rfl <;> simp [madeCells, Value.cells, ndC, emptyG]
  clear hi1 hi2 hi3 hi4 HZ
  go_enter Try.func47, Try.ntmps47
  go_upto_region 4 with fail
  obtain ⟨W, HW⟩ : ∃ W, Hid ((w.alloc (.cells zc 143)).alloc (.cells #[.pointer none, .int .i64 (room : Int), .slice (some ⟨w.heap.size, 0, none⟩) 1 1] 138) = W) := ⟨_, Lib.hid rfl⟩
  have HB : Hid (Below w.heap.size w W) := by
    rw [← HW.out]
    exact Lib.hid (((Below.refl _ _).alloc (Nat.le_refl _) _).alloc (by rw [World.size_alloc]; omega) _)
  have HX : Hid (Box W w.heap.size 143 zc) := by
    rw [← HW.out]
    exact Lib.hid ((Box.new _ _ _).alloc _)
  have HY : Hid (Box W (w.heap.size + 1) 138 #[.pointer none, .int .i64 (room : Int), .slice (some ⟨w.heap.size, 0, none⟩) 1 1]) := by
    have := Box.new (w.alloc (.cells zc 143)) 138 #[.pointer none, .int .i64 (room : Int), .slice (some ⟨w.heap.size, 0, none⟩) 1 1]
    rw [World.size_alloc, HW.out] at this
    exact Lib.hid this
  rw [HW.out]
  have e0 := HY.out.cell 0
  have f0 := HY.out.frozen 0
  have HE : Hid (NewT AtT w room (.returned (.tuple #[.pointer (some ⟨w.heap.size + 1, 0, none⟩), .int .i64 0])) (W.setCell ⟨w.heap.size + 1, 0, none⟩ (.pointer (some ⟨w.heap.size + 1, 0, none⟩)))) := by
    refine Lib.hid ⟨_, _, rfl, ⟨w.heap.size + 1, w.heap.size, 1, 1, emptyG, .leaf, rfl, rfl, ⟨⟨?_, ?_, ⟨fun _ _ _ => by simp [emptyG], fun _ _ _ _ => by simp [emptyG]⟩, by omega, by omega, by omega, by decide, h2⟩, empty_sits, fun x hx => absurd rfl hx⟩, rfl, fun x h0 hx => absurd hx (by omega), rfl⟩, ?_, HB.out.setCell (by show w.heap.size ≤ w.heap.size + 1; omega) _⟩
    · exact HY.out.set 0 _
    · exact RowG.other ⟨zc, HX.out, HZC.out.1, HZC.out.2⟩ (by omega) _
    · rintro k (rfl | rfl) <;> omega
  clear HW HB HX HY r1
  go_wp2_with fail
  go_ret2
  exact HE.out

end Go.Proofs.Ytkiibobpejoaeaa
