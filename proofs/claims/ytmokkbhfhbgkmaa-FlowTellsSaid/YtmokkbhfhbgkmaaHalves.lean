/-
  The document's own division of two halves, bit by bit.
-/
import Derived.Test.YtmokkbhfhbgkmaaLong
namespace Go.Proofs.Ytmokkbhfhbgkmaa
open Go.RowKit
set_option linter.unusedVariables false

/-- What has been worked out of n by c when j bits are still to come. -/
def HalvesAt (n c : Nat) (j q r : Nat) (o : Bool) : Prop :=
  q = n / 2 ^ j / c % 18446744073709551616 ∧ r = n / 2 ^ j % c ∧ o = decide (c ≤ n / 2 ^ (max j 64))

namespace Ar
theorem next_bit (n i : Nat) : n / 2 ^ i = 2 * (n / 2 ^ (i + 1)) + n / 2 ^ i % 2 := by
  rw [Nat.pow_succ, ← Nat.div_div_eq_div_mul]
  omega

theorem step_ge (p b c : Nat) (hb : b ≤ 1) (h : c ≤ 2 * (p % c) + b) (hc : 0 < c) : (2 * p + b) / c = 2 * (p / c) + 1 ∧ (2 * p + b) % c = 2 * (p % c) + b - c := by
  have h1 := Nat.div_add_mod p c
  have h2 := Nat.mod_lt p hc
  have e : 2 * p + b = 2 * (p % c) + b - c + c * (2 * (p / c) + 1) := by rw [Nat.mul_add, Nat.mul_one, Nat.mul_left_comm]; omega
  rw [e, Nat.add_mul_div_left _ _ hc, Nat.add_mul_mod_self_left, Nat.div_eq_of_lt (by omega), Nat.mod_eq_of_lt (by omega)]
  omega
theorem step_lt (p b c : Nat) (h : 2 * (p % c) + b < c) : (2 * p + b) / c = 2 * (p / c) ∧ (2 * p + b) % c = 2 * (p % c) + b := by
  have hc : 0 < c := by omega
  have h1 := Nat.div_add_mod p c
  have e : 2 * p + b = 2 * (p % c) + b + c * (2 * (p / c)) := by rw [Nat.mul_left_comm]; omega
  rw [e, Nat.add_mul_div_left _ _ hc, Nat.add_mul_mod_self_left, Nat.div_eq_of_lt h, Nat.mod_eq_of_lt h]
  omega
end Ar

theorem halves_ge {n c i q r b : Nat} {o : Bool} (hc : 0 < c) (hb : b = n / 2 ^ i % 2) (h : HalvesAt n c (i + 1) q r o) (hge : c ≤ 2 * r + b) :
    HalvesAt n c i (2 * q % 18446744073709551616 + 1) (2 * r + b - c) (if 63 < i then true else o) := by
  obtain ⟨rfl, rfl, rfl⟩ := h
  have hn := Ar.next_bit n i
  rw [← hb] at hn
  obtain ⟨e1, e2⟩ := Ar.step_ge (n / 2 ^ (i + 1)) b c (by omega) hge hc
  rw [← hn] at e1 e2
  refine ⟨?_, e2.symm, ?_⟩
  · rw [e1]
    generalize n / 2 ^ (i + 1) / c = Q
    omega
  · split
    · rename_i hi
      symm
      rw [decide_eq_true_iff, show max i 64 = i by omega]
      have := Nat.mod_le (n / 2 ^ (i + 1)) c
      omega
    · rw [show max i 64 = 64 by omega, show max (i + 1) 64 = 64 by omega]

theorem halves_lt {n c i q r b : Nat} {o : Bool} (hb : b = n / 2 ^ i % 2) (h : HalvesAt n c (i + 1) q r o) (hlt : 2 * r + b < c) :
    HalvesAt n c i (2 * q % 18446744073709551616) (2 * r + b) o := by
  obtain ⟨rfl, rfl, rfl⟩ := h
  have hn := Ar.next_bit n i
  rw [← hb] at hn
  obtain ⟨e1, e2⟩ := Ar.step_lt (n / 2 ^ (i + 1)) b c hlt
  rw [← hn] at e1 e2
  refine ⟨?_, e2.symm, ?_⟩
  · rw [e1]
    generalize n / 2 ^ (i + 1) / c = Q
    omega
  · by_cases hi : 63 < i
    · rw [show max i 64 = i by omega, show max (i + 1) 64 = i + 1 by omega]
      have hc : 0 < c := by omega
      by_cases hp : c ≤ n / 2 ^ (i + 1)
      · rw [decide_eq_true hp, decide_eq_true (by omega)]
      · rw [Nat.mod_eq_of_lt (by omega)] at hlt
        rw [decide_eq_false hp, decide_eq_false (by omega)]
    · rw [show max i 64 = 64 by omega, show max (i + 1) 64 = 64 by omega]

/-- The upper half's bit. -/
theorem bit_high (high low i : Nat) (hl : low < 18446744073709551616) (h : 63 < i) (h2 : i < 128) :
    ((high : Int) / 2 ^ (i % 64)).tmod 2 = (((high * 18446744073709551616 + low) / 2 ^ i % 2 : Nat) : Int) := by
  have e : (high * 18446744073709551616 + low) / 2 ^ i = high / 2 ^ (i % 64) := by
    have p : (2 : Nat) ^ i = 18446744073709551616 * 2 ^ (i % 64) := by
      rw [show (18446744073709551616 : Nat) = 2 ^ 64 from rfl, ← Nat.pow_add]
      congr 1; omega
    rw [p, ← Nat.div_div_eq_div_mul, show (high * 18446744073709551616 + low) / 18446744073709551616 = high by omega]
  rw [e, show (2 : Int) ^ (i % 64) = ((2 ^ (i % 64) : Nat) : Int) by simp, ← Int.natCast_ediv]
  generalize high / 2 ^ (i % 64) = x
  rw [Int.tmod_eq_emod_of_nonneg (by omega)]
  omega
/-- The lower half's. -/
theorem bit_low (high low i : Nat) (h : ¬ 63 < i) :
    ((low : Int) / 2 ^ (i % 64)).tmod 2 = (((high * 18446744073709551616 + low) / 2 ^ i % 2 : Nat) : Int) := by
  have e : (high * 18446744073709551616 + low) / 2 ^ i % 2 = low / 2 ^ i % 2 := by
    have p : (18446744073709551616 : Nat) = 2 ^ i * (2 * 2 ^ (63 - i)) := by
      rw [show (18446744073709551616 : Nat) = 2 ^ 64 from rfl, ← Nat.pow_succ', ← Nat.pow_add]
      congr 1; omega
    have q : high * 18446744073709551616 + low = low + 2 ^ i * (2 * (high * 2 ^ (63 - i))) := by
      rw [p]
      generalize 2 ^ i = X
      generalize 2 ^ (63 - i) = Y
      grind
    rw [q, Nat.add_mul_div_left _ _ (Nat.two_pow_pos i)]
    omega
  rw [e, show i % 64 = i by omega, show (2 : Int) ^ i = ((2 ^ i : Nat) : Int) by simp, ← Int.natCast_ediv]
  generalize low / 2 ^ i = x
  rw [Int.tmod_eq_emod_of_nonneg (by omega)]
  omega

theorem halves_start (n c : Nat) (hn : n < 2 ^ 128) (hc : 0 < c) : HalvesAt n c 128 0 0 false := by
  have e : n / 2 ^ 128 = 0 := Nat.div_eq_of_lt hn
  unfold HalvesAt
  rw [show max 128 64 = 128 from rfl, e]
  refine ⟨by simp, by simp, ?_⟩
  rw [decide_eq_false (by omega)]

/-- A round's numbers, each by a name. -/
theorem halves_round {n c i q r b : Nat} {o : Bool} (hc0 : 0 < c) (hc : c < 18446744073709551616) (hb : b = n / 2 ^ i % 2) (br : r < c) (HA : HalvesAt n c (i + 1) q r o) :
    ∃ z : Nat, IntKind.u64.wrap (2 * (q : Int)) = (z : Int) ∧ z ≤ 18446744073709551614 ∧
      ((9223372036854775808 ≤ r ∧ ∃ x y : Nat, IntKind.u64.wrap (IntKind.u64.wrap (2 * (r : Int)) + (b : Int)) = (x : Int) ∧ IntKind.u64.wrap ((x : Int) - (c : Int)) = (y : Int) ∧ y < c ∧ HalvesAt n c i (z + 1) y (if 63 < i then true else o))
      ∨ (r < 9223372036854775808 ∧ c ≤ 2 * r + b ∧ HalvesAt n c i (z + 1) (2 * r + b - c) (if 63 < i then true else o))
      ∨ (r < 9223372036854775808 ∧ 2 * r + b < c ∧ HalvesAt n c i z (2 * r + b) o)) := by
  refine ⟨2 * q % 18446744073709551616, by rw [IntKind.wrap_u64]; omega, by omega, ?_⟩
  by_cases h1 : 9223372036854775808 ≤ r
  · left
    refine ⟨h1, 2 * r + b - 18446744073709551616, 2 * r + b - c, ?_, ?_, by omega, halves_ge hc0 hb HA (by omega)⟩
    · simp only [IntKind.wrap_u64]; omega
    · simp only [IntKind.wrap_u64]; omega
  · by_cases h2 : c ≤ 2 * r + b
    · right; left; exact ⟨by omega, h2, halves_ge hc0 hb HA h2⟩
    · right; right; exact ⟨by omega, by omega, halves_lt hb HA (by omega)⟩

set_option maxHeartbeats 2000000 in
theorem halves_walk (high low c : Nat) (w : World) (hh : high < 18446744073709551616) (hl : low < 18446744073709551616) (hc0 : 0 < c) (hc : c < 18446744073709551616) (Q R : Nat) (O : Bool) (HF : Hid (HalvesAt (high * 18446744073709551616 + low) c 0 Q R O)) :
    Calls Try.prog 87 #[.int .u64 (high : Int), .int .u64 (low : Int), .int .u64 (c : Int)] w fun e w' => e = .returned (.tuple #[.int .u64 (Q : Int), .int .u64 (R : Int), .bool O]) ∧ w = w' := by
  go_enter Try.func87, Try.ntmps87
  go_wp2_with fail
  go_loopg [9, 10, 11, 12, 13, 14] 128 (fun g q r o i _ _ wx => ∃ (j q' r' : Nat) (o' : Bool), j = g ∧ j ≤ 128 ∧ i = .int .i64 ((j : Int) - 1) ∧ q = .int .u64 (q' : Int) ∧ r = .int .u64 (r' : Int) ∧ o = .bool o' ∧ q' < 18446744073709551616 ∧ r' < c ∧ Hid (HalvesAt (high * 18446744073709551616 + low) c j q' r' o') ∧ w = wx)
  case atStart => exact ⟨128, 0, 0, false, rfl, by omega, rfl, rfl, rfl, rfl, by omega, hc0, halves_start _ c (by omega) hc0, rfl⟩
  case round =>
    obtain ⟨j, q, r, o, rfl, hj, rfl, rfl, rfl, rfl, bq, br, HA, rfl⟩ := hrel
    by_cases hz : j = 0
    · subst hz
      rw [show ((0 : Nat) : Int) - 1 = -1 by omega]
      have HE : Hid (q = Q ∧ r = R ∧ o = O) := ⟨HA.out.1.trans HF.out.1.symm, HA.out.2.1.trans HF.out.2.1.symm, HA.out.2.2.trans HF.out.2.2.symm⟩
      go_wp2_with fail
      go_ret3
      exact ⟨by rw [HE.out.1, HE.out.2.1, HE.out.2.2]; rfl, rfl⟩
    · obtain ⟨i, rfl⟩ : ∃ i, j = i + 1 := ⟨j - 1, by omega⟩
      rw [show ((i + 1 : Nat) : Int) - 1 = (i : Int) by omega]
      clear hz HF
      obtain ⟨b, hb⟩ : ∃ b, b = (high * 18446744073709551616 + low) / 2 ^ i % 2 := ⟨_, rfl⟩
      have bb : b ≤ 1 := by rw [hb]; omega
      obtain ⟨z, hz1, hz2, hway⟩ := halves_round hc0 hc hb br HA.out
      clear HA
      by_cases h64 : 63 < i
      · have hbit := bit_high high low i hl h64 (by omega)
        rw [← hb] at hbit
        clear hb
        rw [if_pos h64] at hway
        have h64z : (63 : Int) < (i : Int) := by omega
        rcases hway with ⟨k1, x, y, k2, k3, k4, HN⟩ | ⟨k1, k2, HN⟩ | ⟨k1, k2, HN⟩
        · have HN' := Lib.hid HN; clear HN
          have k1z : (9223372036854775808 : Int) ≤ (r : Int) := by omega
          go_wp2_with fail
          go_roundg i
          case measure => omega
          case rel => exact ⟨i, z + 1, y, true, rfl, by omega, rfl, by go_num, rfl, rfl, by omega, k4, HN', rfl⟩
        · have HN' := Lib.hid HN; clear HN
          have k1z : ¬ (9223372036854775808 : Int) ≤ (r : Int) := by omega
          have k2z : (c : Int) ≤ 2 * (r : Int) + (b : Int) := by omega
          go_wp2_with fail
          go_roundg i
          case measure => omega
          case rel => exact ⟨i, z + 1, 2 * r + b - c, true, rfl, by omega, rfl, by go_num, by congr 1; omega, rfl, by omega, by omega, HN', rfl⟩
        · have HN' := Lib.hid HN; clear HN
          have k1z : ¬ (9223372036854775808 : Int) ≤ (r : Int) := by omega
          have k2z : ¬ (c : Int) ≤ 2 * (r : Int) + (b : Int) := by omega
          go_wp2_with fail
          go_roundg i
          case measure => omega
          case rel => exact ⟨i, z, 2 * r + b, o, rfl, by omega, rfl, rfl, by congr 1, rfl, by omega, by omega, HN', rfl⟩
      · have hbit := bit_low high low i h64
        rw [← hb] at hbit
        clear hb
        rw [if_neg h64] at hway
        have h64z : ¬ (63 : Int) < (i : Int) := by omega
        rcases hway with ⟨k1, x, y, k2, k3, k4, HN⟩ | ⟨k1, k2, HN⟩ | ⟨k1, k2, HN⟩
        · have HN' := Lib.hid HN; clear HN
          have k1z : (9223372036854775808 : Int) ≤ (r : Int) := by omega
          go_wp2_with fail
          go_roundg i
          case measure => omega
          case rel => exact ⟨i, z + 1, y, o, rfl, by omega, rfl, by go_num, rfl, rfl, by omega, k4, HN', rfl⟩
        · have HN' := Lib.hid HN; clear HN
          have k1z : ¬ (9223372036854775808 : Int) ≤ (r : Int) := by omega
          have k2z : (c : Int) ≤ 2 * (r : Int) + (b : Int) := by omega
          go_wp2_with fail
          go_roundg i
          case measure => omega
          case rel => exact ⟨i, z + 1, 2 * r + b - c, o, rfl, by omega, rfl, by go_num, by congr 1; omega, rfl, by omega, by omega, HN', rfl⟩
        · have HN' := Lib.hid HN; clear HN
          have k1z : ¬ (9223372036854775808 : Int) ≤ (r : Int) := by omega
          have k2z : ¬ (c : Int) ≤ 2 * (r : Int) + (b : Int) := by omega
          go_wp2_with fail
          go_roundg i
          case measure => omega
          case rel => exact ⟨i, z, 2 * r + b, o, rfl, by omega, rfl, rfl, by congr 1, rfl, by omega, by omega, HN', rfl⟩

end Go.Proofs.Ytmokkbhfhbgkmaa
