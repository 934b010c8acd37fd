/-
  Plain numbers, no program in sight: what follows for numbers that are kept.
-/
import Derived.Test.YtmokkbhfhbgkmaaNum
namespace Go.Proofs.Ytmokkbhfhbgkmaa.Num
set_option linter.unusedVariables false

theorem kept_mono {x y : Int} (h : x ≤ y) : kept x ≤ kept y := by unfold kept; split <;> split <;> omega
theorem kept_le (x : Int) : kept x ≤ x ∨ kept x = 18446744073709551615 := by unfold kept; split <;> omega
theorem kept_add {x y : Int} (hx : 0 ≤ x) (hy : 0 ≤ y) : kept (kept x + y) = kept (x + y) := by
  unfold kept; repeat' split
  all_goals omega
theorem kept_mul {x c : Int} (hx : 0 ≤ x) (hc : 0 < c) : kept (kept x * c) = kept (x * c) := by
  by_cases h : x < 18446744073709551616
  · rw [show kept x = x by unfold kept; rw [if_pos h]]
  · rw [show kept x = 18446744073709551615 by unfold kept; rw [if_neg h]]
    have h1 : 18446744073709551616 * c ≤ x * c := Int.mul_le_mul_of_nonneg_right (by omega) (by omega)
    unfold kept
    split
    · have : c = 1 := by omega
      subst this
      rw [if_neg (by omega)]; omega
    · rw [if_neg (by omega)]

theorem add_comm (a b : Int) : add a b = add b a := by unfold add; rw [Int.add_comm]
theorem mul_comm (a b : Int) : mul a b = mul b a := by unfold mul; rw [Int.mul_comm]
theorem add_assoc {a b c : Int} (ha : Word a) (hb : Word b) (hc : Word c) : add (add a b) c = add a (add b c) := by
  have := ha.1; have := hb.1; have := hc.1
  unfold add
  rw [kept_add (by omega) (by omega), Int.add_comm a (kept (b + c)), kept_add (by omega) (by omega)]
  congr 1; omega
theorem mul_zero (a : Int) : mul a 0 = 0 := by unfold mul; rw [Int.mul_zero]; rfl
theorem zero_mul (a : Int) : mul 0 a = 0 := by unfold mul; rw [Int.zero_mul]; rfl
theorem parted {a b c : Int} (ha : Word a) (hb : Word b) (hc : Word c) : mul a (add b c) = add (mul a b) (mul a c) := by
  by_cases h0 : a = 0
  · subst h0; rw [zero_mul, zero_mul, zero_mul]; rfl
  · have h1 := ha.1; have h2 := hb.1; have h3 := hc.1
    have hab := mul_nn ha hb
    have hac := mul_nn ha hc
    unfold mul add
    rw [Int.mul_comm, kept_mul (by omega) (by omega), kept_add hab (kept_word hac).1, Int.add_comm (a * b), kept_add hac hab]
    congr 1
    rw [Int.add_mul, Int.mul_comm b, Int.mul_comm c, Int.add_comm]
theorem mul_assoc {a b c : Int} (ha : Word a) (hb : Word b) (hc : Word c) (ha0 : 0 < a) (hc0 : 0 < c) : mul (mul a b) c = mul a (mul b c) := by
  unfold mul
  rw [kept_mul (mul_nn ha hb) hc0, Int.mul_comm a (kept (b * c)), kept_mul (mul_nn hb hc) ha0]
  congr 1
  rw [Int.mul_comm (b * c) a, Int.mul_assoc]
theorem back {a b : Int} (ha : Word a) (hb : Word b) : add a b = 18446744073709551615 ∨ sub (add a b) b = a := by
  have h1 := ha.1; have h2 := hb.1
  unfold add kept sub
  split
  · right; rw [if_neg (by omega)]; omega
  · left; rfl
theorem greater {a b : Int} (ha : Word a) (hb : Word b) : add (sub a b) b = max a b := by
  obtain ⟨h1, h2⟩ := ha; obtain ⟨h3, h4⟩ := hb
  unfold add kept sub
  repeat' split
  all_goals omega

theorem le_add {a x : Int} (ha : Word a) (hx : Word x) : a ≤ add a x := by
  obtain ⟨h1, h2⟩ := ha; obtain ⟨h3, h4⟩ := hx
  unfold add kept; split <;> omega
theorem add_mono {a b d e : Int} (h1 : a ≤ d) (h2 : b ≤ e) : add a b ≤ add d e := kept_mono (by omega)
theorem prod_mono {a b d e : Int} (ha : Word a) (he : Word e) (h1 : a ≤ d) (h2 : b ≤ e) : a * b ≤ d * e := by
  have h3 : a * b ≤ a * e := Int.mul_le_mul_of_nonneg_left h2 ha.1
  have h4 : a * e ≤ d * e := Int.mul_le_mul_of_nonneg_right h1 he.1
  omega
theorem mul_mono {a b d e : Int} (ha : Word a) (he : Word e) (h1 : a ≤ d) (h2 : b ≤ e) : mul a b ≤ mul d e := kept_mono (prod_mono ha he h1 h2)
theorem sub_mono {a d b : Int} (h : a ≤ d) : sub a b ≤ sub d b := by unfold sub; split <;> split <;> omega
theorem sub_anti {a b e : Int} (h : b ≤ e) : sub a e ≤ sub a b := by unfold sub; split <;> split <;> omega
theorem byc_mono {n m c : Int} (hc : Word c) (h : n ≤ m) : byc n c ≤ byc m c := by
  unfold byc
  split
  · omega
  · exact kept_mono (Int.ediv_le_ediv (by have := hc.1; omega) h)
theorem down_mono {a b d e c : Int} (ha : Word a) (he : Word e) (hc : Word c) (h1 : a ≤ d) (h2 : b ≤ e) : down a b c ≤ down d e c := byc_mono hc (prod_mono ha he h1 h2)
theorem up_mono {a b d e c : Int} (ha : Word a) (he : Word e) (hc : Word c) (h1 : a ≤ d) (h2 : b ≤ e) : up a b c ≤ up d e c :=
  byc_mono hc (by have := prod_mono ha he h1 h2; omega)

/-- Rounded down: the greatest number that, times c, is not above n. -/
theorem down_iff {n c q : Int} (hc : 0 < c) : q ≤ n / c ↔ q * c ≤ n := Int.le_ediv_iff_mul_le hc
/-- Rounded up: the least number that, times c, is not below n. -/
theorem up_iff {n c q : Int} (hc : 0 < c) : (n + (c - 1)) / c ≤ q ↔ n ≤ q * c := by
  have h : (n + (c - 1)) / c ≤ q ↔ (n + (c - 1)) / c < q + 1 := by omega
  rw [h, Int.ediv_lt_iff_lt_mul hc, Int.add_mul]
  omega

theorem down_anti {a b c f : Int} (ha : Word a) (hb : Word b) (hc : 0 < c) (h : c ≤ f) : down a b f ≤ down a b c := by
  unfold down byc
  rw [if_neg (by omega), if_neg (by omega)]
  apply kept_mono
  have hn := mul_nn ha hb
  rw [down_iff hc]
  have h1 : a * b / f * f ≤ a * b := (down_iff (by omega)).1 (Int.le_refl _)
  have h2 : a * b / f * c ≤ a * b / f * f := Int.mul_le_mul_of_nonneg_left h (Int.ediv_nonneg hn (by omega))
  omega
theorem up_anti {a b c f : Int} (ha : Word a) (hb : Word b) (hc : 0 < c) (h : c ≤ f) : up a b f ≤ up a b c := by
  unfold up byc
  rw [if_neg (by omega), if_neg (by omega)]
  apply kept_mono
  have hn := mul_nn ha hb
  rw [up_iff (by omega)]
  have h1 : a * b ≤ (a * b + (c - 1)) / c * c := (up_iff hc).1 (Int.le_refl _)
  have h2 : (a * b + (c - 1)) / c * c ≤ (a * b + (c - 1)) / c * f := Int.mul_le_mul_of_nonneg_left h (Int.ediv_nonneg (by omega) (by omega))
  omega

/-- SatLeast. -/
theorem up_zero {s r : Int} (hr : 0 < r) : up 0 s r = 0 := by
  unfold up byc
  rw [if_neg (by omega), Int.zero_mul, Int.zero_add, Int.ediv_eq_zero_of_lt (by omega) (by omega)]
  rfl
theorem never_pos {n s r : Int} (hn : Word n) (hr : 0 < r) (h : up n s r = 18446744073709551615) : 0 < n := by
  have := hn.1
  by_cases h0 : n = 0
  · subst h0; rw [up_zero hr] at h; omega
  · omega
theorem up_exact {n s r : Int} (hr : 0 < r) (h : up n s r ≠ 18446744073709551615) : up n s r = (n * s + (r - 1)) / r := by
  unfold up byc at *
  rw [if_neg (by omega)] at *
  unfold kept at *
  split
  · rfl
  · rename_i hh; rw [if_neg hh] at h; omega
theorem least_ge {n s r : Int} (hn : Word n) (hs : 0 < s) (hr : 0 < r) (h : up n s r ≠ 18446744073709551615) : n ≤ down (up n s r) r s := by
  rw [up_exact hr h]
  have h1 : n * s ≤ (n * s + (r - 1)) / r * r := (up_iff hr).1 (Int.le_refl _)
  have h2 : n ≤ (n * s + (r - 1)) / r * r / s := (down_iff hs).2 h1
  unfold down byc
  rw [if_neg (by omega)]
  have h3 := kept_mono h2
  have h4 : kept n = n := by unfold kept; rw [if_pos hn.2]
  omega
theorem least_lt {n s r : Int} (hn : Word n) (hs : 0 < s) (hr : 0 < r) (h : up n s r ≠ 18446744073709551615) : down (up n s r - 1) r s < n := by
  have e := up_exact hr h
  have h1 : ¬ n * s ≤ ((n * s + (r - 1)) / r - 1) * r := by
    rw [← up_iff hr]; omega
  have h2 : ¬ n ≤ ((n * s + (r - 1)) / r - 1) * r / s := by
    rw [down_iff hs]; exact h1
  rw [← e] at h2
  unfold down byc
  rw [if_neg (by omega)]
  have := kept_le ((up n s r - 1) * r / s)
  have := hn.2
  unfold kept
  split <;> omega

end Go.Proofs.Ytmokkbhfhbgkmaa.Num
