/-
  Plain numbers, no program in sight: folding, taking times the factor, mixing, and back; bits and buckets.
-/
namespace Go.Proofs.Ytbeampfgghejfaa.Mx

/-- x and x moved k places to the lower end, bit against bit. -/
def fold (x k : Nat) : Nat := x ^^^ (x >>> k)
def times (x : Nat) : Nat := x * 11400714819323198485 % 18446744073709551616
def undo (x : Nat) : Nat := x * 17428512612931826493 % 18446744073709551616
def un29 (x : Nat) : Nat := fold (fold x 29) 58
def mix (x : Nat) : Nat := fold (times (fold (times (fold x 32)) 29)) 32
def back (x : Nat) : Nat := fold (undo (un29 (undo (fold x 32)))) 32
/-- Bit i. -/
def bit (x i : Nat) : Nat := x / 2 ^ i % 2
/-- The highest n bits of x. -/
def high (x n : Nat) : Nat := x / 2 ^ (64 - n)

theorem lt_pow {x k : Nat} (hk : 64 ≤ k) (h : x < 18446744073709551616) : x < 2 ^ k := by
  have e : (2 : Nat) ^ 64 = 18446744073709551616 := by decide
  have h2 : (2 : Nat) ^ 64 ≤ 2 ^ k := Nat.pow_le_pow_right (by omega) hk
  rw [e] at h2
  exact Nat.lt_of_lt_of_le h h2
theorem shr_lt {x : Nat} (k : Nat) (h : x < 18446744073709551616) : x >>> k < 18446744073709551616 :=
  Nat.lt_of_le_of_lt (Nat.shiftRight_le x k) h
theorem fold_lt {x : Nat} (k : Nat) (h : x < 18446744073709551616) : fold x k < 18446744073709551616 :=
  Nat.xor_lt_two_pow (n := 64) h (shr_lt k h)
theorem times_lt (x : Nat) : times x < 18446744073709551616 := Nat.mod_lt _ (by omega)
theorem undo_lt (x : Nat) : undo x < 18446744073709551616 := Nat.mod_lt _ (by omega)
theorem un29_lt {x : Nat} (h : x < 18446744073709551616) : un29 x < 18446744073709551616 := fold_lt _ (fold_lt _ h)
theorem mix_lt (x : Nat) : mix x < 18446744073709551616 := fold_lt _ (times_lt _)
theorem back_lt (x : Nat) : back x < 18446744073709551616 := fold_lt _ (undo_lt _)

theorem fold_far {x : Nat} (k : Nat) (hk : 64 ≤ k) (h : x < 18446744073709551616) : fold x k = x := by
  unfold fold
  have h1 : x < 2 ^ k := lt_pow hk h
  rw [Nat.shiftRight_eq_div_pow, Nat.div_eq_of_lt h1, Nat.xor_zero]
theorem fold_twice (x k : Nat) : fold (fold x k) k = fold x (k + k) := by
  apply Nat.eq_of_testBit_eq
  intro i
  simp only [fold, Nat.testBit_xor, Nat.testBit_shiftRight]
  rw [Nat.add_assoc k k i]
  cases x.testBit i <;> cases x.testBit (k + i) <;> cases x.testBit (k + (k + i)) <;> rfl
theorem fold_comm (x a b : Nat) : fold (fold x a) b = fold (fold x b) a := by
  apply Nat.eq_of_testBit_eq
  intro i
  simp only [fold, Nat.testBit_xor, Nat.testBit_shiftRight]
  rw [Nat.add_left_comm a b i]
  cases x.testBit i <;> cases x.testBit (a + i) <;> cases x.testBit (b + i) <;> cases x.testBit (b + (a + i)) <;> rfl
theorem fold32 {x : Nat} (h : x < 18446744073709551616) : fold (fold x 32) 32 = x := by
  rw [fold_twice, fold_far _ (by omega) h]
theorem un29_fold {x : Nat} (h : x < 18446744073709551616) : un29 (fold x 29) = x := by
  unfold un29
  rw [fold_twice, fold_twice, fold_far _ (by omega) h]
theorem fold_un29 {x : Nat} (h : x < 18446744073709551616) : fold (un29 x) 29 = x := by
  unfold un29
  rw [fold_comm, fold_twice, fold_twice, fold_far _ (by omega) h]

theorem undo_times {x : Nat} (h : x < 18446744073709551616) : undo (times x) = x := by
  unfold undo times
  rw [Nat.mod_mul_mod, Nat.mul_assoc, Nat.mul_mod, show 11400714819323198485 * 17428512612931826493 % 18446744073709551616 = 1 from rfl, Nat.mul_one, Nat.mod_mod, Nat.mod_eq_of_lt h]
theorem times_undo {x : Nat} (h : x < 18446744073709551616) : times (undo x) = x := by
  unfold undo times
  rw [Nat.mod_mul_mod, Nat.mul_assoc, Nat.mul_mod, show 17428512612931826493 * 11400714819323198485 % 18446744073709551616 = 1 from rfl, Nat.mul_one, Nat.mod_mod, Nat.mod_eq_of_lt h]

theorem back_mix {x : Nat} (h : x < 18446744073709551616) : back (mix x) = x := by
  unfold back mix
  rw [fold32 (times_lt _), undo_times (fold_lt _ (times_lt _)), un29_fold (times_lt _), undo_times (fold_lt _ h), fold32 h]
theorem mix_back {x : Nat} (h : x < 18446744073709551616) : mix (back x) = x := by
  unfold back mix
  rw [fold32 (undo_lt _), times_undo (un29_lt (undo_lt _)), fold_un29 (undo_lt _), times_undo (fold_lt _ h), fold32 h]
theorem mix_inj {x y : Nat} (hx : x < 18446744073709551616) (hy : y < 18446744073709551616) (h : mix x = mix y) : x = y := by
  rw [← back_mix hx, ← back_mix hy, h]

theorem bit_lt (x i : Nat) : bit x i < 2 := Nat.mod_lt _ (by omega)
theorem bit_test (x i : Nat) : bit x i = (x.testBit i).toNat := by
  unfold bit
  rw [Nat.testBit_eq_decide_div_mod_eq]
  rcases Nat.mod_two_eq_zero_or_one (x / 2 ^ i) with h | h <;> rw [h] <;> rfl
theorem bit_far {x i : Nat} (h : x < 18446744073709551616) (hi : 64 ≤ i) : bit x i = 0 := by
  unfold bit
  rw [Nat.div_eq_of_lt (lt_pow hi h)]
theorem bit_fold (x k i : Nat) : bit (fold x k) i = if bit x i = bit x (i + k) then 0 else 1 := by
  simp only [bit_test, fold, Nat.testBit_xor, Nat.testBit_shiftRight]
  rw [Nat.add_comm k i]
  cases x.testBit i <;> cases x.testBit (i + k) <;> rfl
/-- A number cut below bit i: by its next bit. -/
theorem div_step (z i : Nat) : 2 * (z / 2 ^ (i + 1)) + bit z i = z / 2 ^ i := by
  unfold bit
  rw [Nat.pow_succ, ← Nat.div_div_eq_div_mul]
  omega
theorem fold_step (x k i : Nat) : 2 * (fold x k / 2 ^ (i + 1)) + (if bit x i = bit x (i + k) then 0 else 1) = fold x k / 2 ^ i := by
  rw [← bit_fold, div_step]

/-- What unfolding holds ahead of bit i: the bits from i on. -/
def upper (z i : Nat) : Nat := z / 2 ^ i * 2 ^ i
theorem upper_le (z i : Nat) : upper z i ≤ z := Nat.div_mul_le_self _ _
theorem upper_step (z i : Nat) : upper z (i + 1) + bit z i * 2 ^ i = upper z i := by
  unfold upper
  rw [← div_step z i, Nat.add_mul, Nat.pow_succ]
  grind
theorem upper_bit (z i j : Nat) (h : i ≤ j) : bit (upper z i) j = bit z j := by
  unfold upper bit
  obtain ⟨d, rfl⟩ : ∃ d, j = i + d := ⟨j - i, by omega⟩
  rw [Nat.pow_add, ← Nat.div_div_eq_div_mul, ← Nat.div_div_eq_div_mul, Nat.mul_div_cancel _ (Nat.two_pow_pos i)]
theorem unfold_step (z x k i : Nat) (hk : 1 ≤ k) (hz : fold z k = x) : upper z (i + 1) + (if bit x i = bit (upper z (i + 1)) (i + k) then 0 else 2 ^ i) = upper z i := by
  rw [← upper_step z i, upper_bit z (i + 1) (i + k) (by omega), ← hz, bit_fold]
  have h1 := bit_lt z i
  have h2 := bit_lt z (i + k)
  by_cases h : bit z i = bit z (i + k)
  · rw [if_pos h]
    by_cases h0 : bit z (i + k) = 0
    · rw [if_pos h0.symm, h, h0, Nat.zero_mul]
    · rw [if_neg (by omega), h, show bit z (i + k) = 1 by omega, Nat.one_mul]
  · rw [if_neg h]
    by_cases h0 : bit z (i + k) = 0
    · rw [if_neg (by omega), show bit z i = 1 by omega, Nat.one_mul]
    · rw [if_pos (by omega), show bit z i = 0 by omega, Nat.zero_mul]

theorem low_step (z i : Nat) : z % 2 ^ i + bit z i * 2 ^ i = z % 2 ^ (i + 1) := by
  unfold bit
  rw [Nat.mod_pow_succ, Nat.mul_comm]
theorem bit_mod (a i : Nat) (h : i < 64) : bit (a % 18446744073709551616) i = bit a i := by
  rw [bit_test, bit_test, show (18446744073709551616 : Nat) = 2 ^ 64 from rfl, Nat.testBit_mod_two_pow]
  simp [h]
theorem odd_step (F z i : Nat) (hF : F % 2 = 1) : (if bit (z % 2 ^ i * F) i = bit (z * F) i then 0 else 2 ^ i) = bit z i * 2 ^ i := by
  have hz : z * F = 2 ^ i * (z / 2 ^ i * F) + z % 2 ^ i * F := by
    rw [← Nat.mul_assoc, ← Nat.add_mul, Nat.div_add_mod]
  have h1 : z * F / 2 ^ i = z / 2 ^ i * F + z % 2 ^ i * F / 2 ^ i := by
    rw [hz, Nat.mul_add_div (Nat.two_pow_pos i)]
  unfold bit
  rw [h1]
  generalize z % 2 ^ i * F / 2 ^ i = A
  generalize z / 2 ^ i = Q
  have h2 : (Q * F + A) % 2 = (Q + A) % 2 := by rw [Nat.add_mod, Nat.mul_mod, hF, Nat.mul_one, Nat.mod_mod, ← Nat.add_mod]
  rw [h2]
  by_cases hq : Q % 2 = 0
  · rw [if_pos (by omega), hq, Nat.zero_mul]
  · rw [if_neg (by omega), show Q % 2 = 1 by omega, Nat.one_mul]
theorem part_step (z i : Nat) (hi : i < 64) : z % 2 ^ i + (if bit (times (z % 2 ^ i)) i = bit (times z) i then 0 else 2 ^ i) = z % 2 ^ (i + 1) := by
  rw [← low_step]
  unfold times
  rw [bit_mod _ _ hi, bit_mod _ _ hi, odd_step _ _ _ (by decide)]

theorem high_step (m i : Nat) (h : i < 64) : 2 * high m i + bit m (63 - i) = high m (i + 1) := by
  unfold high
  rw [show 64 - i = (63 - i) + 1 by omega, div_step, show 64 - (i + 1) = 63 - i by omega]
theorem high_zero {m : Nat} (h : m < 18446744073709551616) : high m 0 = 0 := Nat.div_eq_of_lt h
theorem high_lt {m n : Nat} (h : m < 18446744073709551616) (hn : n ≤ 64) : high m n < 2 ^ n := by
  unfold high
  rw [Nat.div_lt_iff_lt_mul (Nat.two_pow_pos _), ← Nat.pow_add, show n + (64 - n) = 64 by omega]
  exact h
/-- A bucket of more bits begins with the bucket of fewer. -/
theorem high_high (m a b : Nat) (h : a ≤ b) (hb : b ≤ 64) : high m b / 2 ^ (b - a) = high m a := by
  unfold high
  rw [Nat.div_div_eq_div_mul, ← Nat.pow_add, show 64 - b + (b - a) = 64 - a by omega]

end Go.Proofs.Ytbeampfgghejfaa.Mx
