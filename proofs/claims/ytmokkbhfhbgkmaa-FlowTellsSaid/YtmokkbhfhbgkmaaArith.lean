/-
  Plain arithmetic, no program in sight: the two digits of a division of a number of four digits by one of two, in any base.
-/
import Derived.Lib.ItoaNum
import Derived.Lib.Mul64
namespace Go.Proofs.Ytmokkbhfhbgkmaa.Ar

/-- What is left of the numerator behind an estimate q with the rest r. -/
theorem num_eq (B u1 u0 y1 y0 q r : Nat) (h : q * y1 + r = u1) : u1 * B + u0 + q * y0 = q * (y1 * B + y0) + (r * B + u0) := by
  grind

theorem num_lt (B u1 u0 y : Nat) (hu0 : u0 < B) (hu : u1 < y) : u1 * B + u0 < B * y := by
  have h : (u1 + 1) * B ≤ y * B := Nat.mul_le_mul_right _ hu
  grind

/-- The estimate is too great as long as the test says so. -/
theorem too_great (B u1 u0 y1 y0 q r : Nat) (hu0 : u0 < B) (hu : u1 < y1 * B + y0) (h : q * y1 + r = u1)
    (ht : B ≤ q ∨ r * B + u0 < q * y0) : (u1 * B + u0) / (y1 * B + y0) < q := by
  have e := num_eq B u1 u0 y1 y0 q r h
  have l := num_lt B u1 u0 _ hu0 hu
  generalize y1 * B + y0 = y at *
  rw [Nat.div_lt_iff_lt_mul (by omega)]
  rcases ht with ht | ht
  · have h2 : B * y ≤ q * y := Nat.mul_le_mul_right _ ht
    omega
  · omega

/-- The estimate is right as soon as the test says so. -/
theorem just (B u1 u0 y1 y0 q r : Nat) (hy : 0 < y1 * B + y0) (h : q * y1 + r = u1)
    (hq : (u1 * B + u0) / (y1 * B + y0) ≤ q) (ht : q * y0 ≤ r * B + u0) : (u1 * B + u0) / (y1 * B + y0) = q := by
  have e := num_eq B u1 u0 y1 y0 q r h
  generalize y1 * B + y0 = y at *
  have := (Nat.le_div_iff_mul_le hy).2 (show q * y ≤ u1 * B + u0 by omega)
  omega

/-- A rest of a digit and more: the estimate is right. -/
theorem just_far (B u1 u0 y1 y0 q r : Nat) (hy0 : y0 < B) (hu : u1 < y1 * B + y0) (h : q * y1 + r = u1)
    (hq : (u1 * B + u0) / (y1 * B + y0) ≤ q) (hr : B ≤ r) : (u1 * B + u0) / (y1 * B + y0) = q := by
  refine just B u1 u0 y1 y0 q r (by omega) h hq ?_
  have hlt : q < B := by
    apply Nat.lt_of_not_le
    intro hc
    have : B * y1 ≤ q * y1 := Nat.mul_le_mul_right _ hc
    rw [Nat.mul_comm y1 B] at hu
    omega
  have h1 : q * y0 ≤ B * B := Nat.mul_le_mul (by omega) (by omega)
  have h2 : B * B ≤ r * B := Nat.mul_le_mul_right _ hr
  omega

/-- The first estimate is not too small. -/
theorem first_est (B u1 u0 y1 y0 : Nat) (hu0 : u0 < B) (hy1 : 0 < y1) : (u1 * B + u0) / (y1 * B + y0) ≤ u1 / y1 := by
  have hB : 0 < B := by omega
  have h1 : (u1 * B + u0) / (y1 * B + y0) ≤ (u1 * B + u0) / (y1 * B) := Nat.div_le_div_left (by omega) (Nat.mul_pos hy1 hB)
  have h2 : (u1 * B + u0) / (y1 * B) = u1 / y1 := by
    rw [Nat.mul_comm y1, ← Nat.div_div_eq_div_mul, Nat.mul_comm u1 B, Nat.mul_add_div hB, Nat.div_eq_of_lt hu0, Nat.add_zero]
  omega

/-- A digit of a number below the divisor is a digit. -/
theorem digit_lt (B u1 u0 y : Nat) (hu0 : u0 < B) (hu : u1 < y) : (u1 * B + u0) / y < B := by
  rw [Nat.div_lt_iff_lt_mul (by omega)]
  exact num_lt B u1 u0 y hu0 hu

theorem two_aux (B y q r b : Nat) : (y * q + r) * B + b = r * B + b + y * (q * B) := by grind

/-- Two digits are the whole quotient. -/
theorem two_digits (B n b y : Nat) (hy : 0 < y) : n / y * B + (n % y * B + b) / y = (n * B + b) / y := by
  have h := Nat.div_add_mod n y
  generalize n / y = q at *
  generalize n % y = r at *
  rw [← h, two_aux, Nat.add_mul_div_left _ _ hy]
  omega

theorem two_digits_mod (B n b y : Nat) : (n % y * B + b) % y = (n * B + b) % y := by
  rw [Nat.add_mod, Nat.mul_mod, Nat.mod_mod, ← Nat.mul_mod, ← Nat.add_mod]

theorem three_aux (B u n : Nat) : (u * B + n / B) * B + n % B = u * (B * B) + n := by
  have h := Nat.div_add_mod n B
  grind

theorem three (u n : Nat) : (u * 4294967296 + n / 4294967296) * 4294967296 + n % 4294967296 = u * 18446744073709551616 + n := three_aux 4294967296 u n

end Go.Proofs.Ytmokkbhfhbgkmaa.Ar
