/-
  What the program answers of a tree that is none.
-/
import Derived.Test.YtagjgfmkfljneaaTreeProg
import Derived.LoopN
namespace Go.Proofs.Ytagjgfmkfljneaa
open Go.RowKit
set_option linter.unusedVariables false

/-- No tree: nil, or one that New did not make. -/
def NotMade (p : Option Addr) (w : World) : Prop := ∀ b, p = some b → ∃ k, b = ⟨k, 0, none⟩ ∧ Box w k 69 #[.pointer none, .int .i64 0, .slice none 0 0]
theorem NotMade.none (w : World) : NotMade none w := fun b h => by cases h
theorem NotMade.below {p : Option Addr} {w w' : World} (h : NotMade p w) (b : Below w.heap.size w w') : NotMade p w' := fun q hq => by
  obtain ⟨k, e, hb⟩ := h q hq
  exact ⟨k, e, hb.below b hb.lt⟩
theorem run_eql_nil (w : World) (a : Addr) : (binOp .eql 23 (.pointer none) (.pointer (some a))).run Try.prog w = .ok (.bool false) w := by
  have h : ∀ d : Nat, (Op.equalIn (d + 1) 23 (.pointer none) (.pointer (some a))).run Try.prog w = .ok false w := fun d => by
    simp [Op.equalIn, run_underlying (P := Try.prog) (t := 23) rfl]
  simp only [binOp]
  simp [Op.equal, Op.maxDepth, h 9999]
theorem none_made {p : Option Addr} {w : World} (h : NotMade p w) :
    Calls Try.prog 29 #[.pointer p] w fun e w' => e = .returned (.bool false) ∧ w' = w := by
  cases p with
  | none =>
    go_enter Try.func29, Try.ntmps29
    go_wp2_with fail
    go_ret
    exact ⟨rfl, rfl⟩
  | some b =>
    obtain ⟨k, rfl, hb⟩ := h b rfl
    have c0 : w.cell? ⟨k, 0, .none⟩ = some (.pointer .none) := hb.cell 0
    clear h hb
    have hq := fun w : World => run_eql_nil w ⟨k, 0, .none⟩
    go_enter Try.func29, Try.ntmps29
    go_wp2_with fail
    go_ret
    exact ⟨rfl, rfl⟩
section
variable {p : Option Addr} {w : World} (h : NotMade p w)
include h
theorem none_len : Calls Try.prog 22 #[.pointer p] w fun e w' => e = .returned (.int .i64 0) ∧ w' = w := by
  have HM := Lib.hid (none_made h)
  clear h
  go_enter Try.func22, Try.ntmps22
  go_wp2_with fail
  refine HM.out.mono ?_
  rintro e w1 ⟨rfl, rfl⟩
  go_wp2_with fail
  go_ret
  exact ⟨rfl, rfl⟩
theorem none_room : Calls Try.prog 23 #[.pointer p] w fun e w' => e = .returned (.int .i64 0) ∧ w' = w := by
  have HM := Lib.hid (none_made h)
  clear h
  go_enter Try.func23, Try.ntmps23
  go_wp2_with fail
  refine HM.out.mono ?_
  rintro e w1 ⟨rfl, rfl⟩
  go_wp2_with fail
  go_ret
  exact ⟨rfl, rfl⟩
theorem none_put (k : Ky) (v : Int) : Calls Try.prog 11 #[.pointer p, kyV k, .int .i64 v] w fun e w' => e = .returned (.int .i64 1) ∧ Below w.heap.size w w' := by
  unfold kyV
  have bl := (Below.refl w.heap.size w).alloc (Nat.le_refl _) (.cells #[.int .u64 (k.at_ : Int), .int .u64 (k.seq : Int)] 33)
  have HM := Lib.hid (none_made (h.below bl))
  have HB := Lib.hid bl
  clear h bl
  go_enter Try.func11, Try.ntmps11
  go_wp2_with fail
  refine HM.out.mono ?_
  rintro e w1 ⟨rfl, rfl⟩
  go_wp2_with fail
  go_ret
  exact ⟨rfl, HB.out⟩
theorem none_drop (k : Ky) : Calls Try.prog 13 #[.pointer p, kyV k] w fun e w' => e = .returned (.tuple #[.int .i64 0, .bool false]) ∧ Below w.heap.size w w' := by
  unfold kyV
  have bl := (Below.refl w.heap.size w).alloc (Nat.le_refl _) (.cells #[.int .u64 (k.at_ : Int), .int .u64 (k.seq : Int)] 33)
  have HM := Lib.hid (none_made (h.below bl))
  have HB := Lib.hid bl
  clear h bl
  go_enter Try.func13, Try.ntmps13
  go_wp2_with fail
  refine HM.out.mono ?_
  rintro e w1 ⟨rfl, rfl⟩
  go_wp2_with fail
  go_ret2
  exact ⟨rfl, HB.out⟩
theorem none_get (k : Ky) : Calls Try.prog 15 #[.pointer p, kyV k] w fun e w' => e = .returned (.tuple #[.int .i64 0, .bool false]) ∧ Below w.heap.size w w' := by
  unfold kyV
  have bl := (Below.refl w.heap.size w).alloc (Nat.le_refl _) (.cells #[.int .u64 (k.at_ : Int), .int .u64 (k.seq : Int)] 33)
  have HM := Lib.hid (none_made (h.below bl))
  have HB := Lib.hid bl
  clear h bl
  go_enter Try.func15, Try.ntmps15
  go_wp2_with fail
  refine HM.out.mono ?_
  rintro e w1 ⟨rfl, rfl⟩
  go_wp2_with fail
  go_ret2
  exact ⟨rfl, HB.out⟩
theorem none_first : Calls Try.prog 20 #[.pointer p] w fun e w' => e = .returned (.tuple #[.agg #[.int .u64 0, .int .u64 0, .int .i64 0], .bool false]) ∧ Below w.heap.size w w' := by
  obtain ⟨W, HW⟩ : ∃ W, Hid (w.alloc (.cells #[.int .u64 0, .int .u64 0, .int .i64 0] 44) = W) := ⟨_, Lib.hid rfl⟩
  have bl : Below w.heap.size w W := by
    rw [← HW.out]
    exact (Below.refl _ _).alloc (Nat.le_refl _) _
  have bx : Box W w.heap.size 44 #[.int .u64 0, .int .u64 0, .int .i64 0] := by
    rw [← HW.out]
    exact Box.new _ _ _
  have HM := Lib.hid (none_made (h.below bl))
  have HB := Lib.hid bl
  obtain ⟨H, HH⟩ : ∃ H, Hid (w.heap.size = H) := ⟨_, Lib.hid rfl⟩
  rw [HH.out] at bx
  have e0 := bx.cell 0
  have e1 := bx.cell 1
  have e2 := bx.cell 2
  have f0 := bx.frozen 0
  have f1 := bx.frozen 1
  have f2 := bx.frozen 2
  have bx3 := ((bx.set 0 (.int .u64 0)).set 1 (.int .u64 0)).set 2 (.int .i64 0)
  have g0 := bx3.cell 0
  have g1 := bx3.cell 1
  have g2 := bx3.cell 2
  simp at g0 g1 g2
  clear h bl bx bx3
  go_enter Try.func20, Try.ntmps20
  go_upto_region 1 with fail
  rw [HW.out, HH.out]
  go_wp2_with fail
  refine HM.out.mono ?_
  rintro e w1 ⟨rfl, rfl⟩
  clear HW HM
  go_wp2_with fail
  refine bodyPost_ret (v := .tuple #[.agg #[.int .u64 0, .int .u64 0, .int .i64 0], .bool false]) ?_ rfl ⟨rfl, ?_⟩
  · simp [results, Try.f20, go_sem, g0, g1, g2]
  · have hsz : w.heap.size ≤ H := by rw [HH.out]; exact Nat.le_refl _
    exact ((HB.out.setCell hsz _).setCell hsz _).setCell hsz _
theorem none_next (k : Ky) : Calls Try.prog 17 #[.pointer p, kyV k] w fun e w' => e = .returned (.tuple #[.agg #[.int .u64 0, .int .u64 0, .int .i64 0], .bool false]) ∧ Below w.heap.size w w' := by
  unfold kyV
  obtain ⟨W, HW⟩ : ∃ W, Hid ((w.alloc (.cells #[.int .u64 (k.at_ : Int), .int .u64 (k.seq : Int)] 33)).alloc (.cells #[.int .u64 0, .int .u64 0, .int .i64 0] 44) = W) := ⟨_, Lib.hid rfl⟩
  have bl : Below w.heap.size w W := by
    rw [← HW.out]
    exact ((Below.refl _ _).alloc (Nat.le_refl _) _).alloc (by rw [World.size_alloc]; omega) _
  have bx : Box W (w.heap.size + 1) 44 #[.int .u64 0, .int .u64 0, .int .i64 0] := by
    have := Box.new (w.alloc (.cells #[.int .u64 (k.at_ : Int), .int .u64 (k.seq : Int)] 33)) 44 #[.int .u64 0, .int .u64 0, .int .i64 0]
    rw [World.size_alloc, HW.out] at this
    exact this
  have HM := Lib.hid (none_made (h.below bl))
  have HB := Lib.hid bl
  obtain ⟨H, HH⟩ : ∃ H, Hid (w.heap.size = H) := ⟨_, Lib.hid rfl⟩
  rw [HH.out] at bx
  have e0 := bx.cell 0
  have e1 := bx.cell 1
  have e2 := bx.cell 2
  have f0 := bx.frozen 0
  have f1 := bx.frozen 1
  have f2 := bx.frozen 2
  have bx3 := ((bx.set 0 (.int .u64 0)).set 1 (.int .u64 0)).set 2 (.int .i64 0)
  have g0 := bx3.cell 0
  have g1 := bx3.cell 1
  have g2 := bx3.cell 2
  simp at g0 g1 g2
  clear h bl bx bx3
  go_enter Try.func17, Try.ntmps17
  go_upto_region 1 with fail
  rw [HW.out, HH.out]
  go_wp2_with fail
  refine HM.out.mono ?_
  rintro e w1 ⟨rfl, rfl⟩
  clear HW HM
  go_wp2_with fail
  refine bodyPost_ret (v := .tuple #[.agg #[.int .u64 0, .int .u64 0, .int .i64 0], .bool false]) ?_ rfl ⟨rfl, ?_⟩
  · simp [results, Try.f17, go_sem, g0, g1, g2]
  · have hsz : w.heap.size ≤ H + 1 := by rw [HH.out]; omega
    exact ((HB.out.setCell hsz _).setCell hsz _).setCell hsz _
theorem none_rising : Calls Try.prog 40 #[.pointer p] w fun e w' => e = .returned (.slice none 0 0) ∧ w' = w := by
  have HM := Lib.hid (none_len h)
  clear h
  go_enter Try.func40, Try.ntmps40
  go_wp2_with fail
  refine HM.out.mono ?_
  rintro e w1 ⟨rfl, rfl⟩
  go_wp2_with fail
  go_ret
  exact ⟨rfl, rfl⟩
theorem none_all : Calls Try.prog 19 #[.pointer p] w fun e w' => (∃ q c, e = .returned (.slice q 0 c)) ∧ Below w.heap.size w w' := by
  have HM := Lib.hid (none_rising h)
  obtain ⟨inf, hi1, hi2, hi3, hi4⟩ := info_parts (P := Try.prog) (e := 44) (z := .agg #[.int .u64 0, .int .u64 0, .int .i64 0]) (size := 3) (bytes := 24) (by kernel_rfl)
  have r1 := run_make_cells (P := Try.prog) 28 44 inf (.agg #[.int .u64 0, .int .u64 0, .int .i64 0]) 3 rfl hi1 hi2 hi3 0 0 rfl (by rw [hi4]; omega) (by omega)
  have HB := Lib.hid (fun o => (Below.refl w.heap.size w).alloc (Nat.le_refl _) o)
  clear h hi1 hi2 hi3 hi4
  go_enter Try.func19, Try.ntmps19
  go_wp2_with fail
  refine HM.out.mono ?_
  rintro e w1 ⟨rfl, rfl⟩
  go_wp2_with fail
  refine wp_loop_rounds 1 ?_
  rw [rounds_succ]
  go_wp2_with fail
  go_ret
  exact ⟨⟨_, _, rfl⟩, HB.out _⟩
theorem none_shape : Calls Try.prog 25 #[.pointer p] w fun e w' => (∃ q c, e = .returned (.slice q 0 c)) ∧ Below w.heap.size w w' := by
  have HM := Lib.hid (none_rising h)
  obtain ⟨inf, hi1, hi2, hi3, hi4⟩ := info_parts (P := Try.prog) (e := 3) (z := .int .i64 0) (size := 1) (bytes := 8) (by kernel_rfl)
  have r1 := run_make_cells (P := Try.prog) 81 3 inf (.int .i64 0) 1 rfl hi1 hi2 hi3 1 1 rfl (by rw [hi4]; omega) (by omega)
  obtain ⟨inw, hw1, hw2, hw3, hw4⟩ := info_parts (P := Try.prog) (e := 56) (z := .agg #[.int .u64 0, .int .u64 0, .bool false, .int .i64 0]) (size := 4) (bytes := 32) (by kernel_rfl)
  have r2 := run_make_cells (P := Try.prog) 53 56 inw (.agg #[.int .u64 0, .int .u64 0, .bool false, .int .i64 0]) 4 rfl hw1 hw2 hw3 0 0 rfl (by rw [hw4]; omega) (by omega)
  obtain ⟨zr, HZ⟩ : ∃ z, Hid (madeCells (Value.int .i64 0).cells (1 * 1) = z) := ⟨_, Lib.hid rfl⟩
  rw [HZ.out] at r1
  have HZR : Hid (zr.size = 1 ∧ ∀ i, i < 1 → zr[i]? = some (.int .i64 0)) := by
    rw [← HZ.out]
    exact Lib.hid ⟨by rw [size_madeCells], fun i hi => madeCells_get _ _ _ _ (fun j hj => (by
      have hj' : j < 1 := hj
      have : j = 0 := by omega
      subst this; rfl)) (by decide) (by omega)⟩
  have xb := Box.new w 3 zr
  have x0 : (w.alloc (.cells zr 3)).cell? ⟨w.heap.size, 0, none⟩ = some (.int .i64 0) := (xb.cell 0).trans (HZR.out.2 0 (by omega))
  have f0 := xb.frozen 0
  have HB := Lib.hid (fun o o' => ((Below.refl w.heap.size w).alloc (Nat.le_refl _) o).alloc (by rw [World.size_alloc]; omega) o')
  clear h hi1 hi2 hi3 hi4 hw1 hw2 hw3 hw4 HZ HZR xb
  go_enter Try.func25, Try.ntmps25
  go_wp2_with fail
  refine HM.out.mono ?_
  rintro e w1 ⟨rfl, rfl⟩
  go_wp2_with fail
  refine wp_loop_rounds 1 ?_
  rw [rounds_succ]
  go_wp2_with fail
  refine wp_loop_rounds 1 ?_
  rw [rounds_succ]
  go_wp2_with fail
  go_ret
  exact ⟨⟨_, _, rfl⟩, HB.out _ _⟩
end

end Go.Proofs.Ytagjgfmkfljneaa
