/-
  The laws' own helpers of layer 6: ahead, deep, walk.
-/
import Derived.Test.YtagjgfmkfljneaaTreeK
namespace Go.Proofs.Ytagjgfmkfljneaa
open Go.RowKit
set_option linter.unusedVariables false

theorem law_ahead (a b : Ky) (w : World) : Calls Try.prog 26 #[kyV a, kyV b] w fun e w' => e = .returned (.bool (decide (a.lt b))) ∧ Below w.heap.size w w' := by
  unfold kyV
  have x1 := (Box.new w 33 #[.int .u64 (a.at_ : Int), .int .u64 (a.seq : Int)]).alloc (.cells #[.int .u64 (b.at_ : Int), .int .u64 (b.seq : Int)] 33)
  have x2 := Box.new (w.alloc (.cells #[.int .u64 (a.at_ : Int), .int .u64 (a.seq : Int)] 33)) 33 #[.int .u64 (b.at_ : Int), .int .u64 (b.seq : Int)]
  rw [World.size_alloc] at x2
  have HB := Lib.hid (((Below.refl _ w).alloc (Nat.le_refl _) (.cells #[.int .u64 (a.at_ : Int), .int .u64 (a.seq : Int)] 33)).alloc (by rw [World.size_alloc]; omega) (.cells #[.int .u64 (b.at_ : Int), .int .u64 (b.seq : Int)] 33))
  obtain ⟨W, HW⟩ : ∃ W, Hid (((w.alloc (.cells #[.int .u64 (a.at_ : Int), .int .u64 (a.seq : Int)] 33)).alloc (.cells #[.int .u64 (b.at_ : Int), .int .u64 (b.seq : Int)] 33)) = W) := ⟨_, Lib.hid rfl⟩
  rw [HW.out] at x1 x2 HB
  have c0 : W.cell? ⟨w.heap.size, 0, none⟩ = some (.int .u64 (a.at_ : Int)) := x1.cell 0
  have c1 : W.cell? ⟨w.heap.size, 1, none⟩ = some (.int .u64 (a.seq : Int)) := x1.cell 1
  have d0 : W.cell? ⟨w.heap.size + 1, 0, none⟩ = some (.int .u64 (b.at_ : Int)) := x2.cell 0
  have d1 : W.cell? ⟨w.heap.size + 1, 1, none⟩ = some (.int .u64 (b.seq : Int)) := x2.cell 1
  clear x1 x2
  by_cases h1 : a.at_ < b.at_
  · have h1z : (a.at_ : Int) < (b.at_ : Int) := by omega
    have HE : Hid (decide (a.lt b) = true) := Lib.hid (decide_eq_true (.inl h1))
    clear h1
    go_enter Try.func26, Try.ntmps26
    go_upto_region 1 with fail
    rw [HW.out]
    go_wp2_with fail
    go_ret
    exact ⟨by rw [HE.out]; rfl, HB.out⟩
  · have h1z : ¬ (a.at_ : Int) < (b.at_ : Int) := by omega
    by_cases h2 : a.at_ = b.at_
    · have h2z : ((a.at_ : Int) == (b.at_ : Int)) = true := by simp [h2]
      by_cases h3 : a.seq < b.seq
      · have h3z : (a.seq : Int) < (b.seq : Int) := by omega
        have HE : Hid (decide (a.lt b) = true) := Lib.hid (decide_eq_true (.inr ⟨h2, h3⟩))
        clear h1 h2 h3
        go_enter Try.func26, Try.ntmps26
        go_upto_region 1 with fail
        rw [HW.out]
        go_wp2_with fail
        go_ret
        exact ⟨by rw [HE.out]; rfl, HB.out⟩
      · have h3z : ¬ (a.seq : Int) < (b.seq : Int) := by omega
        have HE : Hid (decide (a.lt b) = false) := Lib.hid (decide_eq_false (by unfold Ky.lt; omega))
        clear h1 h2 h3
        go_enter Try.func26, Try.ntmps26
        go_upto_region 1 with fail
        rw [HW.out]
        go_wp2_with fail
        go_ret
        exact ⟨by rw [HE.out]; rfl, HB.out⟩
    · have h2z : ((a.at_ : Int) == (b.at_ : Int)) = false := by rw [beq_eq_false_iff_ne]; omega
      have HE : Hid (decide (a.lt b) = false) := Lib.hid (decide_eq_false (by unfold Ky.lt; omega))
      clear h1 h2
      go_enter Try.func26, Try.ntmps26
      go_upto_region 1 with fail
      rw [HW.out]
      go_wp2_with fail
      go_ret
      exact ⟨by rw [HE.out]; rfl, HB.out⟩

/-- deep: how deep a node is, by what is known of depths. -/
theorem law_deep (p : Option Addr) (c base : Nat) (l : List Tw) (w : World) (hl : l.length ≤ 65536) (h : w.ownsRow base 56 4 (.slice p l.length c) l.length (l.flatMap twC)) (dep : Nat → Nat) (H : Nat) (hH : H ≤ l.length)
    (hd : ∀ (i : Nat) (x : Tw), l[i]? = some x → 1 ≤ dep i ∧ dep i ≤ H ∧ ((x.up = -1 ∧ dep i = 1) ∨ ∃ u : Nat, u < l.length ∧ x.up = (u : Int) ∧ dep i = dep u + 1)) (i : Nat) (hi : i < l.length) :
    Calls Try.prog 27 #[.slice p l.length c, .int .i64 (i : Int)] w fun e w' => e = .returned (.int .i64 (dep i : Nat)) ∧ w' = w := by
  have HC : Hid (∀ j, j < l.length → ∃ B u, p = some ⟨B, 0, none⟩ ∧ w.cell? ⟨B, j * 4 + 3, none⟩ = some (.int .i64 u) ∧ 1 ≤ dep j ∧ dep j ≤ H ∧ ((u = -1 ∧ dep j = 1) ∨ ∃ v : Nat, v < l.length ∧ u = (v : Int) ∧ dep j = dep v + 1)) := by
    refine Lib.hid fun j hj => ?_
    obtain ⟨B, rfl, _, _, _, _, c3⟩ := tw_cells h hj
    obtain ⟨h1, h2, h3⟩ := hd j l[j] (List.getElem?_eq_getElem hj)
    exact ⟨B, _, rfl, c3, h1, h2, h3⟩
  clear h hd
  go_enter Try.func27, Try.ntmps27
  go_wp2_with fail
  go_loopg [1, 5] (dep i) (fun k v n wx => ∃ (j m : Nat), dep j = k ∧ j < l.length ∧ v = .int .i64 (j : Int) ∧ n = .int .i64 (m : Int) ∧ 1 ≤ m ∧ m + dep j = dep i + 1 ∧ dep i ≤ H ∧ wx = w)
  case atStart =>
    obtain ⟨_, _, _, _, h1, h2, _⟩ := HC.out i hi
    exact ⟨i, 1, rfl, hi, rfl, rfl, by omega, by omega, h2, rfl⟩
  case round =>
    obtain ⟨j, m, rfl, hj, rfl, rfl, hm, hmd, hdi, rfl⟩ := hrel
    obtain ⟨B, u, rfl, cu, k1, k2, k3⟩ := HC.out j hj
    have hjz : (j : Int) < (l.length : Int) := by omega
    rcases k3 with ⟨rfl, k3⟩ | ⟨v, k4, rfl, k5⟩
    · have HM : Hid (m = dep i) := Lib.hid (by omega)
      clear hmd
      go_wp2_with fail
      go_ret
      exact ⟨by rw [← HM.out]; rfl, rfl⟩
    · have hvz : (v : Int) < (l.length : Int) := by omega
      have hmz : (m : Int) ≤ (l.length : Int) := by omega
      have hmz2 : m ≤ 65536 := by omega
      go_wp2_with fail
      go_roundg (dep v)
      case measure => omega
      case rel => exact ⟨v, m + 1, rfl, k4, rfl, by go_num, by omega, by omega, hdi, rfl⟩

end Go.Proofs.Ytagjgfmkfljneaa
