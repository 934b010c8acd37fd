/-
  What mix.Mix and mix.Bucket answer, for all numbers.
-/
import Derived.Test.YtbeampfgghejfaaMix
namespace Go.Proofs.Ytbeampfgghejfaa
open Go.RowKit
set_option linter.unusedVariables false

set_option maxHeartbeats 1000000 in
theorem prog_mix (x : Nat) (w : World) (hx : x < 18446744073709551616) :
    Calls Try.prog 8 #[.int .u64 (x : Int)] w fun e w' => e = .returned (.int .u64 (Mx.mix x : Nat)) ∧ Below w.heap.size w w' := by
  have h1 := Mx.fold_lt 32 hx
  have h2 := Mx.times_lt (Mx.fold x 32)
  have h3 := Mx.fold_lt 29 h2
  have h4 := Mx.times_lt (Mx.fold (Mx.times (Mx.fold x 32)) 29)
  have HM := Lib.hid (show Mx.fold (Mx.times (Mx.fold (Mx.times (Mx.fold x 32)) 29)) 32 = Mx.mix x from rfl)
  have R1 := Lib.hid (fun w => forth32 x w hx)
  have R2 := Lib.hid (fun w => forthTimes (Mx.fold x 32) w)
  have R3 := Lib.hid (fun w => forth29 (Mx.times (Mx.fold x 32)) w h2)
  have R4 := Lib.hid (fun w => forthTimes (Mx.fold (Mx.times (Mx.fold x 32)) 29) w)
  have R5 := Lib.hid (fun w => forth32 (Mx.times (Mx.fold (Mx.times (Mx.fold x 32)) 29)) w h4)
  generalize Mx.fold (Mx.times (Mx.fold (Mx.times (Mx.fold x 32)) 29)) 32 = v5 at *
  generalize Mx.times (Mx.fold (Mx.times (Mx.fold x 32)) 29) = v4 at *
  generalize Mx.fold (Mx.times (Mx.fold x 32)) 29 = v3 at *
  generalize Mx.times (Mx.fold x 32) = v2 at *
  generalize Mx.fold x 32 = v1 at *
  have i0 : ∀ w : World, (Instr.index 35 stepsV (.int .i64 0)).run Try.prog w = .ok (.agg #[.func (.func 21) #[] #[], .func (.func 23) #[] #[]]) w := fun _ => by kernel_rfl
  have i1 : ∀ w : World, (Instr.index 35 stepsV (.int .i64 1)).run Try.prog w = .ok (.agg #[.func (.func 27) #[] #[], .func (.func 28) #[] #[]]) w := fun _ => by kernel_rfl
  have i2 : ∀ w : World, (Instr.index 35 stepsV (.int .i64 2)).run Try.prog w = .ok (.agg #[.func (.func 25) #[] #[], .func (.func 26) #[] #[]]) w := fun _ => by kernel_rfl
  have i3 : ∀ w : World, (Instr.index 35 stepsV (.int .i64 3)).run Try.prog w = .ok (.agg #[.func (.func 27) #[] #[], .func (.func 28) #[] #[]]) w := fun _ => by kernel_rfl
  have i4 : ∀ w : World, (Instr.index 35 stepsV (.int .i64 4)).run Try.prog w = .ok (.agg #[.func (.func 21) #[] #[], .func (.func 23) #[] #[]]) w := fun _ => by kernel_rfl
  go_enter Try.func8, Try.ntmps8
  go_wp2_with fail
  refine (prog_steps w).mono ?_
  rintro e w1 ⟨rfl, g1⟩
  go_wp2_with fail
  refine wp_loop_rounds 6 ?_
  rw [rounds_succ]
  go_wp2_with fail
  refine (R1.out _).mono ?_
  rintro e w' ⟨rfl, rfl⟩
  go_wp2_with fail
  rw [rounds_succ]
  go_wp2_with fail
  refine (R2.out _).mono ?_
  rintro e w' ⟨rfl, rfl⟩
  go_wp2_with fail
  rw [rounds_succ]
  go_wp2_with fail
  refine (R3.out _).mono ?_
  rintro e w' ⟨rfl, rfl⟩
  go_wp2_with fail
  rw [rounds_succ]
  go_wp2_with fail
  refine (R4.out _).mono ?_
  rintro e w' ⟨rfl, rfl⟩
  go_wp2_with fail
  rw [rounds_succ]
  go_wp2_with fail
  refine (R5.out _).mono ?_
  rintro e w' ⟨rfl, rfl⟩
  go_wp2_with fail
  rw [rounds_succ]
  go_wp2_with fail
  go_ret
  refine ⟨ret_nat HM.out, ?_⟩
  have hs := g1.size
  repeat (first | exact g1 | (refine Below.setCell ?_ (by first | exact hs | (simp; done) | (simp; omega)) _) | (refine Below.alloc ?_ (by first | exact hs | (simp; done) | (simp; omega)) _))
end Go.Proofs.Ytbeampfgghejfaa
