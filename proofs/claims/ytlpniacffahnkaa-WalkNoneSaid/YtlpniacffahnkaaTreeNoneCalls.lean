/-
  What the program answers of a tree that is none.
-/
import Derived.Test.YtlpniacffahnkaaTreeProg
import Derived.LoopN
namespace Go.Proofs.Ytlpniacffahnkaa
open Go.RowKit
set_option linter.unusedVariables false

/-- No tree: nil, or one that New did not make. -/
def NotMade (p : Option Addr) (w : World) : Prop := ∀ b, p = some b → ∃ k, b = ⟨k, 0, none⟩ ∧ Box w k 63 #[.pointer none, .int .i64 0, .slice none 0 0]
theorem NotMade.none (w : World) : NotMade none w := fun b h => by cases h
theorem NotMade.below {p : Option Addr} {w w' : World} (h : NotMade p w) (b : Below w.heap.size w w') : NotMade p w' := fun q hq => by
  obtain ⟨k, e, hb⟩ := h q hq
  exact ⟨k, e, hb.below b hb.lt⟩
theorem run_eql_nil (w : World) (a : Addr) : (binOp .eql 28 (.pointer none) (.pointer (some a))).run Try.prog w = .ok (.bool false) w := by
  have h : ∀ d : Nat, (Op.equalIn (d + 1) 28 (.pointer none) (.pointer (some a))).run Try.prog w = .ok false w := fun d => by
    simp [Op.equalIn, run_underlying (P := Try.prog) (t := 28) rfl]
  simp only [binOp]
  simp [Op.equal, Op.maxDepth, h 9999]
theorem none_made {p : Option Addr} {w : World} (h : NotMade p w) :
    Calls Try.prog 27 #[.pointer p] w fun e w' => e = .returned (.bool false) ∧ w' = w := by
  cases p with
  | none =>
    go_enter Try.func27, Try.ntmps27
    go_wp2_with fail
    go_ret
    exact ⟨rfl, rfl⟩
  | some b =>
    obtain ⟨k, rfl, hb⟩ := h b rfl
    have c0 : w.cell? ⟨k, 0, .none⟩ = some (.pointer .none) := hb.cell 0
    clear h hb
    have hq := fun w : World => run_eql_nil w ⟨k, 0, .none⟩
    go_enter Try.func27, Try.ntmps27
    go_wp2_with fail
    go_ret
    exact ⟨rfl, rfl⟩
section
variable {p : Option Addr} {w : World} (h : NotMade p w)
include h
theorem none_len : Calls Try.prog 29 #[.pointer p] w fun e w' => e = .returned (.int .i64 0) ∧ w' = w := by
  have HM := Lib.hid (none_made h)
  clear h
  go_enter Try.func29, Try.ntmps29
  go_wp2_with fail
  refine HM.out.mono ?_
  rintro e w1 ⟨rfl, rfl⟩
  go_wp2_with fail
  go_ret
  exact ⟨rfl, rfl⟩
theorem none_put (k : Ky) (v : Int) : Calls Try.prog 11 #[.pointer p, kyV k, .int .i64 v] w fun e w' => e = .returned (.int .i64 1) ∧ Below w.heap.size w w' := by
  unfold kyV
  have bl := (Below.refl w.heap.size w).alloc (Nat.le_refl _) (.cells #[.int .u64 (k.at_ : Int), .int .u64 (k.seq : Int)] 27)
  have HM := Lib.hid (none_made (h.below bl))
  have HB := Lib.hid bl
  clear h bl
  go_enter Try.func11, Try.ntmps11
  go_wp2_with fail
  refine HM.out.mono ?_
  rintro e w1 ⟨rfl, rfl⟩
  go_wp2_with fail
  go_ret
  exact ⟨rfl, HB.out⟩
theorem none_drop (k : Ky) : Calls Try.prog 12 #[.pointer p, kyV k] w fun e w' => e = .returned (.tuple #[.int .i64 0, .bool false]) ∧ Below w.heap.size w w' := by
  unfold kyV
  have bl := (Below.refl w.heap.size w).alloc (Nat.le_refl _) (.cells #[.int .u64 (k.at_ : Int), .int .u64 (k.seq : Int)] 27)
  have HM := Lib.hid (none_made (h.below bl))
  have HB := Lib.hid bl
  clear h bl
  go_enter Try.func12, Try.ntmps12
  go_wp2_with fail
  refine HM.out.mono ?_
  rintro e w1 ⟨rfl, rfl⟩
  go_wp2_with fail
  go_ret2
  exact ⟨rfl, HB.out⟩
theorem none_get (k : Ky) : Calls Try.prog 57 #[.pointer p, kyV k] w fun e w' => e = .returned (.tuple #[.int .i64 0, .bool false]) ∧ Below w.heap.size w w' := by
  unfold kyV
  have bl := (Below.refl w.heap.size w).alloc (Nat.le_refl _) (.cells #[.int .u64 (k.at_ : Int), .int .u64 (k.seq : Int)] 27)
  have HM := Lib.hid (none_made (h.below bl))
  have HB := Lib.hid bl
  clear h bl
  go_enter Try.func57, Try.ntmps57
  go_wp2_with fail
  refine HM.out.mono ?_
  rintro e w1 ⟨rfl, rfl⟩
  go_wp2_with fail
  go_ret2
  exact ⟨rfl, HB.out⟩
theorem none_first : Calls Try.prog 36 #[.pointer p] w fun e w' => e = .returned (.tuple #[.agg #[.int .u64 0, .int .u64 0, .int .i64 0], .bool false]) ∧ Below w.heap.size w w' := by
  obtain ⟨W, HW⟩ : ∃ W, Hid (w.alloc (.cells #[.int .u64 0, .int .u64 0, .int .i64 0] 52) = W) := ⟨_, Lib.hid rfl⟩
  have bl : Below w.heap.size w W := by
    rw [← HW.out]
    exact (Below.refl _ _).alloc (Nat.le_refl _) _
  have bx : Box W w.heap.size 52 #[.int .u64 0, .int .u64 0, .int .i64 0] := by
    rw [← HW.out]
    exact Box.new _ _ _
  have HM := Lib.hid (none_made (h.below bl))
  have HB := Lib.hid bl
  obtain ⟨H, HH⟩ : ∃ H, Hid (w.heap.size = H) := ⟨_, Lib.hid rfl⟩
  rw [HH.out] at bx
  have e0 := bx.cell 0
  have e1 := bx.cell 1
  have e2 := bx.cell 2
  have f0 := bx.frozen 0
  have f1 := bx.frozen 1
  have f2 := bx.frozen 2
  have bx3 := ((bx.set 0 (.int .u64 0)).set 1 (.int .u64 0)).set 2 (.int .i64 0)
  have g0 := bx3.cell 0
  have g1 := bx3.cell 1
  have g2 := bx3.cell 2
  simp at g0 g1 g2
  clear h bl bx bx3
  go_enter Try.func36, Try.ntmps36
  go_upto_region 1 with fail
  rw [HW.out, HH.out]
  go_wp2_with fail
  refine HM.out.mono ?_
  rintro e w1 ⟨rfl, rfl⟩
  clear HW HM
  go_wp2_with fail
  refine bodyPost_ret (v := .tuple #[.agg #[.int .u64 0, .int .u64 0, .int .i64 0], .bool false]) ?_ rfl ⟨rfl, ?_⟩
  · simp [results, Try.f36, go_sem, g0, g1, g2]
  · have hsz : w.heap.size ≤ H := by rw [HH.out]; exact Nat.le_refl _
    exact ((HB.out.setCell hsz _).setCell hsz _).setCell hsz _
theorem none_next (k : Ky) : Calls Try.prog 37 #[.pointer p, kyV k] w fun e w' => e = .returned (.tuple #[.agg #[.int .u64 0, .int .u64 0, .int .i64 0], .bool false]) ∧ Below w.heap.size w w' := by
  unfold kyV
  obtain ⟨W, HW⟩ : ∃ W, Hid ((w.alloc (.cells #[.int .u64 (k.at_ : Int), .int .u64 (k.seq : Int)] 27)).alloc (.cells #[.int .u64 0, .int .u64 0, .int .i64 0] 52) = W) := ⟨_, Lib.hid rfl⟩
  have bl : Below w.heap.size w W := by
    rw [← HW.out]
    exact ((Below.refl _ _).alloc (Nat.le_refl _) _).alloc (by rw [World.size_alloc]; omega) _
  have bx : Box W (w.heap.size + 1) 52 #[.int .u64 0, .int .u64 0, .int .i64 0] := by
    have := Box.new (w.alloc (.cells #[.int .u64 (k.at_ : Int), .int .u64 (k.seq : Int)] 27)) 52 #[.int .u64 0, .int .u64 0, .int .i64 0]
    rw [World.size_alloc, HW.out] at this
    exact this
  have HM := Lib.hid (none_made (h.below bl))
  have HB := Lib.hid bl
  obtain ⟨H, HH⟩ : ∃ H, Hid (w.heap.size = H) := ⟨_, Lib.hid rfl⟩
  rw [HH.out] at bx
  have e0 := bx.cell 0
  have e1 := bx.cell 1
  have e2 := bx.cell 2
  have f0 := bx.frozen 0
  have f1 := bx.frozen 1
  have f2 := bx.frozen 2
  have bx3 := ((bx.set 0 (.int .u64 0)).set 1 (.int .u64 0)).set 2 (.int .i64 0)
  have g0 := bx3.cell 0
  have g1 := bx3.cell 1
  have g2 := bx3.cell 2
  simp at g0 g1 g2
  clear h bl bx bx3
  go_enter Try.func37, Try.ntmps37
  go_upto_region 1 with fail
  rw [HW.out, HH.out]
  go_wp2_with fail
  refine HM.out.mono ?_
  rintro e w1 ⟨rfl, rfl⟩
  clear HW HM
  go_wp2_with fail
  refine bodyPost_ret (v := .tuple #[.agg #[.int .u64 0, .int .u64 0, .int .i64 0], .bool false]) ?_ rfl ⟨rfl, ?_⟩
  · simp [results, Try.f37, go_sem, g0, g1, g2]
  · have hsz : w.heap.size ≤ H + 1 := by rw [HH.out]; omega
    exact ((HB.out.setCell hsz _).setCell hsz _).setCell hsz _
theorem none_rising : Calls Try.prog 34 #[.pointer p] w fun e w' => e = .returned (.slice none 0 0) ∧ w' = w := by
  have HM := Lib.hid (none_len h)
  clear h
  go_enter Try.func34, Try.ntmps34
  go_wp2_with fail
  refine HM.out.mono ?_
  rintro e w1 ⟨rfl, rfl⟩
  go_wp2_with fail
  go_ret
  exact ⟨rfl, rfl⟩
theorem none_all : Calls Try.prog 13 #[.pointer p] w fun e w' => (∃ q c, e = .returned (.slice q 0 c)) ∧ Below w.heap.size w w' := by
  have HM := Lib.hid (none_rising h)
  obtain ⟨inf, hi1, hi2, hi3, hi4⟩ := info_parts (P := Try.prog) (e := 52) (z := .agg #[.int .u64 0, .int .u64 0, .int .i64 0]) (size := 3) (bytes := 24) (by kernel_rfl)
  have r1 := run_make_cells (P := Try.prog) 35 52 inf (.agg #[.int .u64 0, .int .u64 0, .int .i64 0]) 3 rfl hi1 hi2 hi3 0 0 rfl (by rw [hi4]; omega) (by omega)
  have HB := Lib.hid (fun o => (Below.refl w.heap.size w).alloc (Nat.le_refl _) o)
  clear h hi1 hi2 hi3 hi4
  go_enter Try.func13, Try.ntmps13
  go_wp2_with fail
  refine HM.out.mono ?_
  rintro e w1 ⟨rfl, rfl⟩
  go_wp2_with fail
  refine wp_loop_rounds 1 ?_
  rw [rounds_succ]
  go_wp2_with fail
  go_ret
  exact ⟨⟨_, _, rfl⟩, HB.out _⟩
end

end Go.Proofs.Ytlpniacffahnkaa
