/-
  Plain numbers, no program in sight: what is kept between 0 and 2^64 - 1: added, taken away, taken times, divided.
-/
namespace Go.Proofs.Ytmokkbhfhbgkmaa.Num

/-- 2^64. -/
def top : Int := 18446744073709551616

/-- Kept: what would be above Never is Never. -/
def kept (x : Int) : Int := if x < 18446744073709551616 then x else 18446744073709551615
def add (a b : Int) : Int := kept (a + b)
def sub (a b : Int) : Int := if a < b then 0 else a - b
def mul (a b : Int) : Int := kept (a * b)
/-- n by c, rounded down, kept; Never, if c is 0. -/
def byc (n c : Int) : Int := if c = 0 then 18446744073709551615 else kept (n / c)
def down (a b c : Int) : Int := byc (a * b) c
def up (a b c : Int) : Int := byc (a * b + (c - 1)) c
def clamp (x low high : Int) : Int := if x < low ∨ high < low then low else if high < x then high else x

/-- A number of 64 bits. -/
def Word (x : Int) : Prop := 0 ≤ x ∧ x < 18446744073709551616

theorem kept_word {x : Int} (h : 0 ≤ x) : Word (kept x) := by unfold kept Word; split <;> omega
theorem mul_nn {a b : Int} (ha : Word a) (hb : Word b) : 0 ≤ a * b := Int.mul_nonneg ha.1 hb.1
theorem add_word {a b : Int} (ha : Word a) (hb : Word b) : Word (add a b) := kept_word (by have := ha.1; have := hb.1; omega)
theorem sub_word {a b : Int} (ha : Word a) (hb : Word b) : Word (sub a b) := by
  unfold sub Word at *; split <;> omega
theorem mul_word {a b : Int} (ha : Word a) (hb : Word b) : Word (mul a b) := kept_word (mul_nn ha hb)
theorem never_word : Word 18446744073709551615 := by unfold Word; omega
theorem byc_word {n c : Int} (hn : c = 0 ∨ 0 ≤ n) (hc : Word c) : Word (byc n c) := by
  unfold byc
  split
  · exact never_word
  · exact kept_word (Int.ediv_nonneg (by omega) hc.1)
theorem down_word {a b c : Int} (ha : Word a) (hb : Word b) (hc : Word c) : Word (down a b c) := byc_word (Or.inr (mul_nn ha hb)) hc
theorem up_word {a b c : Int} (ha : Word a) (hb : Word b) (hc : Word c) : Word (up a b c) :=
  byc_word (by have := mul_nn ha hb; have := hc.1; omega) hc
theorem clamp_word {x low high : Int} (hx : Word x) (hl : Word low) (hh : Word high) : Word (clamp x low high) := by
  unfold clamp
  split
  · exact hl
  · split
    · exact hh
    · exact hx

/-- A number of two halves, by c: above c in its upper half it is above Never. -/
theorem quot_far {h l c : Int} (hc : 0 < c) (hl : 0 ≤ l) (hch : c ≤ h) : kept ((h * 18446744073709551616 + l) / c) = 18446744073709551615 := by
  unfold kept
  rw [if_neg]
  have h1 : c * 18446744073709551616 ≤ h * 18446744073709551616 := Int.mul_le_mul_of_nonneg_right hch (by omega)
  have h2 : (18446744073709551616 : Int) ≤ (h * 18446744073709551616 + l) / c := by
    rw [Int.le_ediv_iff_mul_le hc]
    rw [Int.mul_comm 18446744073709551616 c]
    omega
  omega
theorem quot_near {h l c : Int} (hc : 0 < c) (hl : l < 18446744073709551616) (hch : h < c) : kept ((h * 18446744073709551616 + l) / c) = (h * 18446744073709551616 + l) / c := by
  unfold kept
  rw [if_pos]
  have h1 : (h + 1) * 18446744073709551616 ≤ c * 18446744073709551616 := Int.mul_le_mul_of_nonneg_right (by omega) (by omega)
  rw [Int.ediv_lt_iff_lt_mul hc, Int.mul_comm _ c]
  omega

end Go.Proofs.Ytmokkbhfhbgkmaa.Num
