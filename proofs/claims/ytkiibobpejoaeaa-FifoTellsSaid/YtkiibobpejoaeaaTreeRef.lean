/-
  The document's own tree (sandglassref06): Less.
-/
import Derived.Test.YtkiibobpejoaeaaTreeK
namespace Go.Proofs.Ytkiibobpejoaeaa
open Go.RowKit
set_option linter.unusedVariables false

theorem ref_less (a b : Ky) (w : World) : Calls Try.prog 53 #[kyV a, kyV b] w fun e w' => e = .returned (.bool (decide (a.lt b))) ∧ Below w.heap.size w w' := by
  unfold kyV
  have x1 := (Box.new w 68 #[.int .u64 (a.at_ : Int), .int .u64 (a.seq : Int)]).alloc (.cells #[.int .u64 (b.at_ : Int), .int .u64 (b.seq : Int)] 68)
  have x2 := Box.new (w.alloc (.cells #[.int .u64 (a.at_ : Int), .int .u64 (a.seq : Int)] 68)) 68 #[.int .u64 (b.at_ : Int), .int .u64 (b.seq : Int)]
  rw [World.size_alloc] at x2
  have HB := Lib.hid (((Below.refl _ w).alloc (Nat.le_refl _) (.cells #[.int .u64 (a.at_ : Int), .int .u64 (a.seq : Int)] 68)).alloc (by rw [World.size_alloc]; omega) (.cells #[.int .u64 (b.at_ : Int), .int .u64 (b.seq : Int)] 68))
  obtain ⟨W, HW⟩ : ∃ W, Hid (((w.alloc (.cells #[.int .u64 (a.at_ : Int), .int .u64 (a.seq : Int)] 68)).alloc (.cells #[.int .u64 (b.at_ : Int), .int .u64 (b.seq : Int)] 68)) = W) := ⟨_, Lib.hid rfl⟩
  rw [HW.out] at x1 x2 HB
  have c0 : W.cell? ⟨w.heap.size, 0, none⟩ = some (.int .u64 (a.at_ : Int)) := x1.cell 0
  have c1 : W.cell? ⟨w.heap.size, 1, none⟩ = some (.int .u64 (a.seq : Int)) := x1.cell 1
  have d0 : W.cell? ⟨w.heap.size + 1, 0, none⟩ = some (.int .u64 (b.at_ : Int)) := x2.cell 0
  have d1 : W.cell? ⟨w.heap.size + 1, 1, none⟩ = some (.int .u64 (b.seq : Int)) := x2.cell 1
  clear x1 x2
  by_cases h1 : a.at_ < b.at_
  · have h1z : (a.at_ : Int) < (b.at_ : Int) := by omega
    have h0z : ((a.at_ : Int) != (b.at_ : Int)) = true := by rw [bne_iff_ne]; omega
    have HE : Hid (decide (a.lt b) = true) := Lib.hid (decide_eq_true (.inl h1))
    clear h1
    go_enter Try.func53, Try.ntmps53
    go_upto_region 1 with fail
    rw [HW.out]
    go_wp2_with fail
    go_ret
    exact ⟨by rw [HE.out]; rfl, HB.out⟩
  · have h1z : ¬ (a.at_ : Int) < (b.at_ : Int) := by omega
    by_cases h2 : a.at_ = b.at_
    · have h2z : ((a.at_ : Int) != (b.at_ : Int)) = false := by simp [h2]
      by_cases h3 : a.seq < b.seq
      · have h3z : (a.seq : Int) < (b.seq : Int) := by omega
        have HE : Hid (decide (a.lt b) = true) := Lib.hid (decide_eq_true (.inr ⟨h2, h3⟩))
        clear h1 h2 h3
        go_enter Try.func53, Try.ntmps53
        go_upto_region 1 with fail
        rw [HW.out]
        go_wp2_with fail
        go_ret
        exact ⟨by rw [HE.out]; rfl, HB.out⟩
      · have h3z : ¬ (a.seq : Int) < (b.seq : Int) := by omega
        have HE : Hid (decide (a.lt b) = false) := Lib.hid (decide_eq_false (by unfold Ky.lt; omega))
        clear h1 h2 h3
        go_enter Try.func53, Try.ntmps53
        go_upto_region 1 with fail
        rw [HW.out]
        go_wp2_with fail
        go_ret
        exact ⟨by rw [HE.out]; rfl, HB.out⟩
    · have h2z : ((a.at_ : Int) != (b.at_ : Int)) = true := by rw [bne_iff_ne]; omega
      have HE : Hid (decide (a.lt b) = false) := Lib.hid (decide_eq_false (by unfold Ky.lt; omega))
      clear h1 h2
      go_enter Try.func53, Try.ntmps53
      go_upto_region 1 with fail
      rw [HW.out]
      go_wp2_with fail
      go_ret
      exact ⟨by rw [HE.out]; rfl, HB.out⟩


end Go.Proofs.Ytkiibobpejoaeaa
