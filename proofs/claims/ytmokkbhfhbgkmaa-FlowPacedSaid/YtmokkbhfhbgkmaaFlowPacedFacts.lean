/-
  A flow of an unchanging rate, from Low on: what leaves in any time is at most what the time is worth, and one burst (of no program).
-/
import Derived.Test.YtmokkbhfhbgkmaaFlowGhost
import Derived.Test.YtmokkbhfhbgkmaaSpanFacts
namespace Go.Proofs.Ytmokkbhfhbgkmaa
open Go.RowKit
set_option linter.unusedVariables false

/-- What the first k of a row of numbers are together; and the greatest of them. -/
def psum (n : Nat → Int) : Nat → Int
  | 0 => 0
  | k + 1 => psum n k + n k
def pmax (n : Nat → Int) : Nat → Int
  | 0 => 0
  | k + 1 => max (pmax n k) (n k)
theorem psum_succ (n : Nat → Int) (k : Nat) : psum n (k + 1) = psum n k + n k := rfl
theorem pmax_succ (n : Nat → Int) (k : Nat) : pmax n (k + 1) = max (pmax n k) (n k) := rfl
theorem pmax_nn (n : Nat → Int) (k : Nat) : 0 ≤ pmax n k := by
  induction k with
  | zero => exact Int.le_refl 0
  | succ k ih => rw [pmax_succ]; omega
theorem pmax_le {n : Nat → Int} {k : Nat} {b : Int} (hb : 0 ≤ b) (h : ∀ i, i < k → n i ≤ b) : pmax n k ≤ b := by
  induction k with
  | zero => exact hb
  | succ k ih =>
    have h1 := ih fun i hi => h i (Nat.lt_succ_of_lt hi)
    have h2 := h k (Nat.lt_succ_self k)
    rw [pmax_succ]
    omega
theorem psum_nn {n : Nat → Int} {k : Nat} (h : ∀ i, i < k → 0 ≤ n i) : 0 ≤ psum n k := by
  induction k with
  | zero => exact Int.le_refl 0
  | succ k ih =>
    have h1 := ih fun i hi => h i (Nat.lt_succ_of_lt hi)
    have h2 := h k (Nat.lt_succ_self k)
    rw [psum_succ]
    omega
theorem psum_le {n : Nat → Int} {k : Nat} {b : Int} (h : ∀ i, i < k → n i ≤ b) : psum n k ≤ (k : Int) * b := by
  induction k with
  | zero => show (0 : Int) ≤ _; rw [Int.natCast_zero, Int.zero_mul]; exact Int.le_refl 0
  | succ k ih =>
    have h1 := ih fun i hi => h i (Nat.lt_succ_of_lt hi)
    have h2 := h k (Nat.lt_succ_self k)
    rw [psum_succ, Int.natCast_succ, Int.add_mul, Int.one_mul]
    omega
def updI (t : Nat → Int) (m : Nat) (v : Int) : Nat → Int := fun k => if k = m then v else t k
theorem updI_at (t : Nat → Int) (m : Nat) (v : Int) : updI t m v m = v := if_pos rfl
theorem updI_ne {t : Nat → Int} {m k : Nat} {v : Int} (h : k ≠ m) : updI t m v k = t k := if_neg h

/-- Of the m that have left, of n bytes each, at t: what is there now (credit c, debt d, Next x, at now). -/
structure Burst (r M : Int) (n t : Nat → Int) (m : Nat) (c d x now : Int) : Prop where
  d0 : 0 ≤ d
  room : d + c ≤ M
  x0 : 0 ≤ x
  now0 : 0 ≤ now
  behind : 0 < d → x ≤ now
  t0 : ∀ i, i < m → 0 ≤ t i ∧ t i ≤ now
  rise : ∀ i j, i ≤ j → j < m → t i ≤ t j
  owed : ∀ i, i < m → psum n m - psum n i ≤ d ∨ (psum n m - psum n i - d) * 1000000000 ≤ (x - t i) * r
  told : ∀ i j, i ≤ j → j < m → psum n (j + 1) - psum n i ≤ (t j - t i) * r / 1000000000 + (M - 1 + pmax n m)

section
variable {r M : Int} {n t : Nat → Int} {m : Nat} {c d x now : Int}
theorem Burst.start (r : Int) {M c : Int} (n t : Nat → Int) (hc : c ≤ M) : Burst r M n t 0 c 0 0 0 :=
  ⟨Int.le_refl 0, by omega, Int.le_refl 0, Int.le_refl 0, fun h => absurd h (by omega), fun _ h => absurd h (Nat.not_lt_zero _), fun _ _ _ h => absurd h (Nat.not_lt_zero _), fun _ h => absurd h (Nat.not_lt_zero _), fun _ _ _ h => absurd h (Nat.not_lt_zero _)⟩
theorem Burst.later (h : Burst r M n t m c d x now) {now' : Int} (hn : now ≤ now') : Burst r M n t m c d x now' :=
  ⟨h.d0, h.room, h.x0, Int.le_trans h.now0 hn, fun hd => Int.le_trans (h.behind hd) hn, fun i hi => ⟨(h.t0 i hi).1, Int.le_trans (h.t0 i hi).2 hn⟩, h.rise, h.owed, h.told⟩
theorem Burst.credit (h : Burst r M n t m c d x now) {c' : Int} (hc : d + c' ≤ M) : Burst r M n t m c' d x now :=
  ⟨h.d0, hc, h.x0, h.now0, h.behind, h.t0, h.rise, h.owed, h.told⟩
/-- The debt is paid: from an instant on that is not ahead of Next, nor of what has left. -/
theorem Burst.pay (h : Burst r M n t m c d x now) (hr : 0 ≤ r) {at' T : Int} (hT : d * 1000000000 ≤ T * r) (hx : 0 < d → x ≤ at') (ht : ∀ i, i < m → t i ≤ at') (c' : Int) (hc : c' ≤ M) : Burst r M n t m c' 0 (max x (at' + T)) now := by
  refine ⟨Int.le_refl 0, by omega, by have := h.x0; omega, h.now0, fun hd => absurd hd (by omega), h.t0, h.rise, fun i hi => ?_, h.told⟩
  have hti := ht i hi
  have hd0 := h.d0
  have hS := h.owed i hi
  generalize psum n m - psum n i = S at *
  have key : ∀ y : Int, y ≤ max x (at' + T) → (y - t i) * r ≤ (max x (at' + T) - t i) * r := fun y hy => Int.mul_le_mul_of_nonneg_right (by omega) hr
  by_cases hS0 : S ≤ 0
  · exact .inl hS0
  right
  rw [Int.sub_zero]
  have k1 := key (at' + T) (by omega)
  have e1 : (at' + T - t i) * r = (at' - t i) * r + T * r := by rw [← Int.add_mul]; congr 1; omega
  have k2 : 0 ≤ (at' - t i) * r := Int.mul_nonneg (by omega) hr
  rcases hS with h1 | h1
  · omega
  · by_cases hd : 0 < d
    · have hx' := hx hd
      have k3 : (x - t i) * r ≤ (at' - t i) * r := Int.mul_le_mul_of_nonneg_right (by omega) hr
      omega
    · have k3 := key x (by omega)
      have : d = 0 := by omega
      subst this
      rw [Int.sub_zero] at h1
      omega
/-- One more leaves now. -/
theorem Burst.send (h : Burst r M n t m c d x now) (hr : 0 ≤ r) (hx : x ≤ now) (hc : 0 < c) (hn : 0 < n m) : Burst r M n (updI t m now) (m + 1) (c - n m) (d + n m) x now := by
  have hd0 := h.d0
  have hroom := h.room
  have hnow := h.now0
  have hpm := pmax_succ n m
  have hps := psum_succ n m
  have old : ∀ i, i < m → updI t m now i = t i := fun i hi => updI_ne (Nat.ne_of_lt hi)
  have new := updI_at t m now
  refine ⟨by omega, by omega, h.x0, hnow, fun _ => hx, fun i hi => ?_, fun i j hij hj => ?_, fun i hi => ?_, fun i j hij hj => ?_⟩
  · by_cases e : i = m
    · subst e; rw [new]; omega
    · rw [old i (by omega)]; exact h.t0 i (by omega)
  · by_cases e : j = m
    · subst e
      rw [new]
      by_cases e' : i = j
      · subst e'; rw [new]; omega
      · rw [old i (by omega)]; exact (h.t0 i (by omega)).2
    · rw [old j (by omega), old i (by omega)]; exact h.rise i j hij (by omega)
  · by_cases e : i = m
    · subst e; left; omega
    · rw [old i (by omega)]
      rcases h.owed i (by omega) with h1 | h1
      · left; omega
      · right
        rw [show psum n (m + 1) - psum n i - (d + n m) = psum n m - psum n i - d by omega]
        exact h1
  · by_cases e : j = m
    · subst e
      rw [new]
      by_cases e' : i = j
      · subst e'
        rw [new, show now - now = 0 by omega, Int.zero_mul]
        omega
      · rw [old i (by omega)]
        have hti := h.t0 i (by omega)
        rcases h.owed i (by omega) with h1 | h1
        · have : 0 ≤ (now - t i) * r / 1000000000 := Int.ediv_nonneg (Int.mul_nonneg (by omega) hr) (by omega)
          omega
        · have k3 : (x - t i) * r ≤ (now - t i) * r := Int.mul_le_mul_of_nonneg_right (by omega) hr
          have : psum n j - psum n i - d ≤ (now - t i) * r / 1000000000 := by
            rw [Int.le_ediv_iff_mul_le (by omega)]
            omega
          omega
    · rw [old j (by omega), old i (by omega)]
      have := h.told i j hij (by omega)
      omega
end

/-- The time that bytes take, where it is below Never, is worth as many. -/
theorem time_worth {d r : Int} (hd : 0 ≤ d) (hd' : d ≤ 1000000) (hr : 0 < r) (hr' : r < 18446744073709551616) : d * 1000000000 ≤ Num.time d r * r ∧ 0 ≤ Num.time d r ∧ Num.time d r ≤ 1000000000000000 := by
  have e : Num.time d r = Num.up d 1000000000 r := Num.time_pos (by omega)
  have hq : (d * 1000000000 + (r - 1)) / r ≤ 1000000000000000 := by
    have h1 : (d * 1000000000 + (r - 1)) / r ≤ d * 1000000000 := by
      rw [Num.up_iff hr]
      have := Int.mul_le_mul_of_nonneg_left (show (1 : Int) ≤ r by omega) (show 0 ≤ d * 1000000000 by omega)
      omega
    omega
  have hq0 : 0 ≤ (d * 1000000000 + (r - 1)) / r := Int.ediv_nonneg (by omega) (by omega)
  have e2 : Num.up d 1000000000 r = (d * 1000000000 + (r - 1)) / r := by
    unfold Num.up Num.byc Num.kept
    rw [if_neg (by omega), if_pos (by omega)]
  rw [e, e2]
  exact ⟨(Num.up_iff hr).1 (Int.le_refl _), hq0, hq⟩

end Go.Proofs.Ytmokkbhfhbgkmaa
