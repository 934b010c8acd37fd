/-
  MixBuckets' walk: for all numbers the law's text answers true.
-/
import Derived.Test.YtbeampfgghejfaaMixFinerWalk
import Derived.Deep.QuietTactic
import Derived.BigQuiet
import Derived.WalkSmall
namespace Go.Proofs.Ytbeampfgghejfaa
open Go.RowKit
set_option linter.unusedVariables false

set_option maxHeartbeats 1000000 in
/-- No bits. -/
theorem mixBuckets_none (bt bk r z : Nat) (w : World) (hbt : bt < 256) (hbk : bk < 65536) (hr : r < 18446744073709551616) (hn : (bt : Int) % 17 = 0)
    (R1 : Hid (∀ w, Calls Try.prog 10 #[.int .u64 (r : Int)] w fun e w' => e = .returned (.int .u64 (z : Int)) ∧ Below w.heap.size w w'))
    (R2 : Hid (∀ w, Calls Try.prog 12 #[.int .u64 (z : Int), .int .i64 0] w fun e w' => e = .returned (.int .i64 0) ∧ Below w.heap.size w w')) :
    Calls Try.prog 6 #[.int .u8 (bt : Int), .int .u16 (bk : Int), .int .u64 (r : Int)] w fun e w' => e = .returned (.bool true) ∧ Below w.heap.size w w' := by
  have h1 : (bk : Int) % 1 = 0 := by omega
  go_enter Try.func6, Try.ntmps6
  go_wp2_with fail
  refine (R1.out _).mono ?_
  rintro e w1 ⟨rfl, g1⟩
  go_wp2_with fail
  refine (R2.out _).mono ?_
  rintro e w2 ⟨rfl, g2⟩
  go_wp2_with fail
  refine (awake_walk _).mono ?_
  rintro e w3 ⟨rfl, g3⟩
  go_wp2_with fail
  go_ret
  exact ⟨rfl, below_trans (below_trans g1 g2) g3⟩

set_option maxHeartbeats 1000000 in
/-- Over the numbers that the text reckons, each by a name. -/
theorem mixBuckets_core (bt bk r n p k s u v y z : Nat) (w : World) (hbt : bt < 256) (hbk : bk < 65536) (hr : r < 18446744073709551616) (hn : (bt : Int) % 17 = (n : Int)) (hn0 : (0 : Int) < (n : Int)) (hn1 : n ≤ 16)
    (hp : (2 : Int) ^ n = (p : Int)) (hp1 : p ≤ 65536) (hp2 : 1 ≤ p) (hk : (bk : Int) % (p : Int) = (k : Int)) (hk1 : k < p) (hs : (64 : Int) - (n : Int) = (s : Int)) (hs1 : s < 64) (hu : IntKind.u64.wrap ((k : Int) * 2 ^ s) = (u : Int)) (hu1 : u < 18446744073709551616)
    (hv : (r : Int) / (p : Int) = (v : Int)) (hv1 : v < 18446744073709551616) (hy : bits .or .u64 (u : Int) (v : Int) = (y : Int)) (hy1 : y < 18446744073709551616)
    (R1 : Hid (∀ w, Calls Try.prog 10 #[.int .u64 (y : Int)] w fun e w' => e = .returned (.int .u64 (z : Int)) ∧ Below w.heap.size w w'))
    (R2 : Hid (∀ w, Calls Try.prog 12 #[.int .u64 (z : Int), .int .i64 (n : Int)] w fun e w' => e = .returned (.int .i64 (k : Int)) ∧ Below w.heap.size w w')) :
    Calls Try.prog 6 #[.int .u8 (bt : Int), .int .u16 (bk : Int), .int .u64 (r : Int)] w fun e w' => e = .returned (.bool true) ∧ Below w.heap.size w w' := by
  go_enter Try.func6, Try.ntmps6
  go_wp2_with fail
  go_quiet (fail)
  go_wp2_with fail
  refine (R1.out _).mono ?_
  rintro e w1 ⟨rfl, g1⟩
  go_wp2_with fail
  refine (R2.out _).mono ?_
  rintro e w2 ⟨rfl, g2⟩
  go_wp2_with fail
  refine (awake_walk _).mono ?_
  rintro e w3 ⟨rfl, g3⟩
  go_wp2_with fail
  go_ret
  exact ⟨rfl, below_trans (below_trans (below_trans (below_drewN (Below.refl _ _) _) g1) g2) g3⟩

/-- The number whose highest n bits are k, and whose others are r's highest. -/
theorem made (n k r : Nat) (hn1 : n ≤ 16) (hk : k < 2 ^ n) (hr : r < 18446744073709551616) :
    k * 2 ^ (64 - n) < 18446744073709551616 ∧ r / 2 ^ n < 18446744073709551616 ∧ k * 2 ^ (64 - n) ||| r / 2 ^ n < 18446744073709551616 ∧ Mx.high (k * 2 ^ (64 - n) ||| r / 2 ^ n) n = k := by
  have e : (2 : Nat) ^ n * 2 ^ (64 - n) = 18446744073709551616 := by rw [← Nat.pow_add, show n + (64 - n) = 64 by omega]
  have h1 : k * 2 ^ (64 - n) < 18446744073709551616 := by
    rw [← e]
    exact Nat.mul_lt_mul_of_pos_right hk (Nat.two_pow_pos _)
  have h2 : r / 2 ^ n < 2 ^ (64 - n) := by
    rw [Nat.div_lt_iff_lt_mul (Nat.two_pow_pos _), Nat.mul_comm, e]
    exact hr
  have h3 : r / 2 ^ n < 18446744073709551616 := Nat.lt_of_le_of_lt (Nat.div_le_self _ _) hr
  refine ⟨h1, h3, Nat.or_lt_two_pow (n := 64) h1 h3, ?_⟩
  unfold Mx.high
  rw [Nat.mul_comm k, ← Nat.two_pow_add_eq_or_of_lt h2, Nat.mul_add_div (Nat.two_pow_pos _), Nat.div_eq_of_lt h2, Nat.add_zero]

theorem wrap_small {a : Nat} (h : a < 18446744073709551616) : IntKind.u64.wrap (a : Int) = (a : Int) := by rw [IntKind.wrap_u64]; omega

theorem mixBuckets_nat (bt bk r : Nat) (w : World) (hbt : bt < 256) (hbk : bk < 65536) (hr : r < 18446744073709551616) :
    Calls Try.prog 6 #[.int .u8 (bt : Int), .int .u16 (bk : Int), .int .u64 (r : Int)] w fun e w' => e = .returned (.bool true) ∧ Below w.heap.size w w' := by
  by_cases h0 : bt % 17 = 0
  · refine mixBuckets_none bt bk r (Mx.back r) w hbt hbk hr (by omega) (fun w => prog_back r w hr) (fun w => ?_)
    have h := prog_bucket (Mx.back r) 0 w (Mx.back_lt r) (by omega)
    rw [Mx.mix_back hr, Mx.high_zero hr] at h
    exact h
  · obtain ⟨n, hn⟩ : ∃ n : Nat, (bt : Int) % 17 = (n : Int) := ⟨bt % 17, by omega⟩
    have hn1 : n ≤ 16 := by omega
    obtain ⟨p, ep, hp, hp1, hp2, hp3⟩ := one_shl n hn1
    obtain ⟨k, hk, hk1⟩ : ∃ k : Nat, (bk : Int) % (p : Int) = (k : Int) ∧ k < p := ⟨bk % p, by simp, Nat.mod_lt _ hp2⟩
    obtain ⟨m1, m2, m3, m4⟩ := made n k r hn1 (by rw [← ep]; exact hk1) hr
    have e1 : (k : Int) * 2 ^ (64 - n) = ((k * 2 ^ (64 - n) : Nat) : Int) := by simp
    have e2 : (r : Int) / (p : Int) = ((r / 2 ^ n : Nat) : Int) := by rw [ep]; simp
    refine mixBuckets_core bt bk r n p k (64 - n) _ _ _ (Mx.back (k * 2 ^ (64 - n) ||| r / 2 ^ n)) w hbt hbk hr hn (by omega) hn1 hp hp1 hp2 hk hk1 (by omega) (by omega) ((congrArg IntKind.u64.wrap e1).trans (wrap_small m1)) m1 e2 m2 (bits_or_u64_nat _ _ m1 m2) m3
      (fun w => prog_back _ w m3) (fun w => ?_)
    have h := prog_bucket (Mx.back (k * 2 ^ (64 - n) ||| r / 2 ^ n)) n w (Mx.back_lt _) hn1
    rw [Mx.mix_back m3, m4] at h
    exact h

theorem mixBuckets_walk (a0 a1 a2 : Int) (w : World) (h0 : (Lit.int .u8 a0).wf = true) (h1 : (Lit.int .u16 a1).wf = true) (h2 : (Lit.int .u64 a2).wf = true) :
    Calls Try.prog 6 #[.int .u8 a0, .int .u16 a1, .int .u64 a2] w fun e w' => e = .returned (.bool true) ∧ Below w.heap.size w w' := by
  obtain ⟨bt, rfl, hbt⟩ := nat_of_u8 h0
  obtain ⟨bk, rfl, hbk⟩ := nat_of_u16 h1
  obtain ⟨r, rfl, hr⟩ := nat_of_u64 h2
  exact mixBuckets_nat bt bk r w hbt hbk hr

end Go.Proofs.Ytbeampfgghejfaa
