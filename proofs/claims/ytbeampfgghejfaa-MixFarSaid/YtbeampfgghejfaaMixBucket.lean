/-
  What mix.Bucket answers, for all numbers.
-/
import Derived.Test.YtbeampfgghejfaaMixMix
namespace Go.Proofs.Ytbeampfgghejfaa
open Go.RowKit
set_option linter.unusedVariables false

theorem prog_bucket_none (x : Nat) (b : Int) (w : World) (hb : b < 0 ∨ 16 < b) :
    Calls Try.prog 12 #[.int .u64 (x : Int), .int .i64 b] w fun e w' => e = .returned (.int .i64 (-1)) ∧ Below w.heap.size w w' := by
  rcases hb with hb | hb
  · go_enter Try.func12, Try.ntmps12
    go_wp2_with fail
    go_ret
    exact ⟨rfl, Below.refl _ _⟩
  · have hb1 : ¬ b < 0 := by omega
    go_enter Try.func12, Try.ntmps12
    go_wp2_with fail
    go_ret
    exact ⟨rfl, Below.refl _ _⟩

theorem prog_bucket (x n : Nat) (w : World) (hx : x < 18446744073709551616) (hn : n ≤ 16) :
    Calls Try.prog 12 #[.int .u64 (x : Int), .int .i64 (n : Int)] w fun e w' => e = .returned (.int .i64 (Mx.high (Mx.mix x) n : Nat)) ∧ Below w.heap.size w w' := by
  have hm := Mx.mix_lt x
  have R1 := Lib.hid (prog_mix x w hx)
  have hq : Mx.high (Mx.mix x) n < 65536 := Nat.lt_of_lt_of_le (Mx.high_lt hm (by omega)) (Nat.pow_le_pow_right (n := 2) (by omega) hn)
  by_cases c : n = 0
  · subst c
    have H0 := Lib.hid (Mx.high_zero hm)
    generalize Mx.mix x = m at *
    have hm0 : (m : Int) / 18446744073709551616 = 0 := by omega
    go_enter Try.func12, Try.ntmps12
    go_wp2_with fail
    refine R1.out.mono ?_
    rintro e w1 ⟨rfl, g1⟩
    go_wp2_with fail
    go_ret
    exact ⟨by rw [H0.out]; rfl, g1⟩
  · obtain ⟨s, hs⟩ : ∃ s : Nat, (64 : Int) - (n : Int) = (s : Int) := ⟨64 - n, by omega⟩
    have hs2 : s < 64 := by omega
    have hd : (Mx.mix x : Int) / 2 ^ s = ((Mx.high (Mx.mix x) n : Nat) : Int) := by
      unfold Mx.high
      rw [show 64 - n = s by omega]
      simp
    have c0 : ¬ (n : Int) < 0 := by omega
    have c1 : ¬ (16 : Int) < (n : Int) := by omega
    generalize Mx.mix x = m at *
    generalize Mx.high m n = q at *
    go_enter Try.func12, Try.ntmps12
    go_wp2_with fail
    refine R1.out.mono ?_
    rintro e w1 ⟨rfl, g1⟩
    go_wp2_with fail
    go_ret
    exact ⟨rfl, g1⟩

end Go.Proofs.Ytbeampfgghejfaa
