/-
  What mix answers: fold, unfold, the steps, Mix, Bucket, for all numbers.
-/
import Derived.Test.YtbeampfgghejfaaMixRef
import Derived.Laws.Bits64b
import Derived.LoopN
import Derived.Below
import Derived.Laws.EntriesVeiled
namespace Go.Proofs.Ytbeampfgghejfaa
open Go.RowKit
set_option linter.unusedVariables false

theorem xor_fold (x k : Nat) (hx : x < 18446744073709551616) : bits .xor .u64 (x : Int) ((x : Int) / 2 ^ k) = ((Mx.fold x k : Nat) : Int) := by
  have e : (x : Int) / 2 ^ k = ((x >>> k : Nat) : Int) := by rw [Nat.shiftRight_eq_div_pow]; simp
  rw [e, bits_xor_u64_nat _ _ hx (Mx.shr_lt k hx)]
  rfl

theorem prog_fold (x k : Nat) (w : World) (hx : x < 18446744073709551616) (hk : k < 64) :
    Calls Try.prog 22 #[.int .u64 (x : Int), .int .i64 (k : Int)] w fun e w' => e = .returned (.int .u64 (Mx.fold x k : Nat)) ∧ w = w' := by
  have h := xor_fold x k hx
  go_enter Try.func22, Try.ntmps22
  go_wp2_with fail
  go_ret
  exact ⟨rfl, rfl⟩

theorem prog_unfold32 (x : Nat) (w : World) (hx : x < 18446744073709551616) :
    Calls Try.prog 24 #[.int .u64 (x : Int), .int .i64 32] w fun e w' => e = .returned (.int .u64 (Mx.fold x 32 : Nat)) ∧ w = w' := by
  have R1 := Lib.hid (prog_fold x 32 w hx (by omega))
  generalize Mx.fold x 32 = v1 at *
  go_enter Try.func24, Try.ntmps24
  go_wp2_with fail
  refine wp_loop_rounds 2 ?_
  rw [rounds_succ]
  go_wp2_with fail
  refine R1.out.mono ?_
  rintro e w1 ⟨rfl, rfl⟩
  go_wp2_with fail
  rw [rounds_succ]
  go_wp2_with fail
  go_ret
  exact ⟨rfl, rfl⟩

theorem prog_unfold29 (x : Nat) (w : World) (hx : x < 18446744073709551616) :
    Calls Try.prog 24 #[.int .u64 (x : Int), .int .i64 29] w fun e w' => e = .returned (.int .u64 (Mx.un29 x : Nat)) ∧ w = w' := by
  have h1 := Mx.fold_lt 29 hx
  have R1 := Lib.hid (prog_fold x 29 w hx (by omega))
  have R2 := Lib.hid (prog_fold _ 58 w h1 (by omega))
  have HM := Lib.hid (show Mx.fold (Mx.fold x 29) 58 = Mx.un29 x from rfl)
  generalize Mx.fold (Mx.fold x 29) 58 = v2 at *
  generalize Mx.fold x 29 = v1 at *
  go_enter Try.func24, Try.ntmps24
  go_wp2_with fail
  refine wp_loop_rounds 3 ?_
  rw [rounds_succ]
  go_wp2_with fail
  refine R1.out.mono ?_
  rintro e w1 ⟨rfl, rfl⟩
  go_wp2_with fail
  rw [rounds_succ]
  go_wp2_with fail
  refine R2.out.mono ?_
  rintro e w1 ⟨rfl, rfl⟩
  go_wp2_with fail
  rw [rounds_succ]
  go_wp2_with fail
  go_ret
  exact ⟨ret_nat HM.out, rfl⟩

theorem forth32 (x : Nat) (w : World) (hx : x < 18446744073709551616) :
    Calls Try.prog 21 #[.int .u64 (x : Int)] w fun e w' => e = .returned (.int .u64 (Mx.fold x 32 : Nat)) ∧ w = w' := by
  have R1 := Lib.hid (prog_fold x 32 w hx (by omega))
  generalize Mx.fold x 32 = v1 at *
  go_enter Try.func21, Try.ntmps21
  go_wp2_with fail
  refine R1.out.mono ?_
  rintro e w1 ⟨rfl, rfl⟩
  go_wp2_with fail
  go_ret
  exact ⟨rfl, rfl⟩
theorem back32 (x : Nat) (w : World) (hx : x < 18446744073709551616) :
    Calls Try.prog 23 #[.int .u64 (x : Int)] w fun e w' => e = .returned (.int .u64 (Mx.fold x 32 : Nat)) ∧ w = w' := by
  have R1 := Lib.hid (prog_unfold32 x w hx)
  generalize Mx.fold x 32 = v1 at *
  go_enter Try.func23, Try.ntmps23
  go_wp2_with fail
  refine R1.out.mono ?_
  rintro e w1 ⟨rfl, rfl⟩
  go_wp2_with fail
  go_ret
  exact ⟨rfl, rfl⟩
theorem forth29 (x : Nat) (w : World) (hx : x < 18446744073709551616) :
    Calls Try.prog 25 #[.int .u64 (x : Int)] w fun e w' => e = .returned (.int .u64 (Mx.fold x 29 : Nat)) ∧ w = w' := by
  have R1 := Lib.hid (prog_fold x 29 w hx (by omega))
  generalize Mx.fold x 29 = v1 at *
  go_enter Try.func25, Try.ntmps25
  go_wp2_with fail
  refine R1.out.mono ?_
  rintro e w1 ⟨rfl, rfl⟩
  go_wp2_with fail
  go_ret
  exact ⟨rfl, rfl⟩
theorem back29 (x : Nat) (w : World) (hx : x < 18446744073709551616) :
    Calls Try.prog 26 #[.int .u64 (x : Int)] w fun e w' => e = .returned (.int .u64 (Mx.un29 x : Nat)) ∧ w = w' := by
  have R1 := Lib.hid (prog_unfold29 x w hx)
  generalize Mx.un29 x = v1 at *
  go_enter Try.func26, Try.ntmps26
  go_wp2_with fail
  refine R1.out.mono ?_
  rintro e w1 ⟨rfl, rfl⟩
  go_wp2_with fail
  go_ret
  exact ⟨rfl, rfl⟩
theorem forthTimes (x : Nat) (w : World) :
    Calls Try.prog 27 #[.int .u64 (x : Int)] w fun e w' => e = .returned (.int .u64 (Mx.times x : Nat)) ∧ w = w' := by
  have h := wrap_times x
  generalize Mx.times x = v1 at *
  go_enter Try.func27, Try.ntmps27
  go_wp2_with fail
  go_ret
  exact ⟨rfl, rfl⟩
theorem wrap_undo (x : Nat) : IntKind.u64.wrap ((x : Int) * 17428512612931826493) = ((Mx.undo x : Nat) : Int) := by
  rw [IntKind.wrap_u64]
  unfold Mx.undo
  omega
theorem backTimes (x : Nat) (w : World) :
    Calls Try.prog 28 #[.int .u64 (x : Int)] w fun e w' => e = .returned (.int .u64 (Mx.undo x : Nat)) ∧ w = w' := by
  have h := wrap_undo x
  generalize Mx.undo x = v1 at *
  go_enter Try.func28, Try.ntmps28
  go_wp2_with fail
  go_ret
  exact ⟨rfl, rfl⟩

/-- The row of steps, as a value: forth and back, five times. -/
def stepsV : Value := .agg #[.func (.func 21) #[] #[], .func (.func 23) #[] #[], .func (.func 27) #[] #[], .func (.func 28) #[] #[], .func (.func 25) #[] #[], .func (.func 26) #[] #[], .func (.func 27) #[] #[], .func (.func 28) #[] #[], .func (.func 21) #[] #[], .func (.func 23) #[] #[]]

set_option maxHeartbeats 1000000 in
theorem prog_steps (w : World) :
    Calls Try.prog 15 #[] w fun e w' => e = .returned stepsV ∧ Below w.heap.size w w' := by
  go_enter Try.func15, Try.ntmps15
  go_wp2_with fail
  refine bodyPost_ret (v := stepsV) ?_ rfl ⟨rfl, ?_⟩
  · simp [results, Try.f15, go_sem, stepsV]
  · repeat (first | exact Below.refl _ _ | (refine Below.setCell ?_ (by simp) _) | (refine Below.alloc ?_ (by first | (simp; done) | (simp; omega)) _))

end Go.Proofs.Ytbeampfgghejfaa
