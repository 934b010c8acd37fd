/-
  MixBack's walk: for all numbers the law's text answers true.
-/
import Derived.Test.YtbeampfgghejfaaMixAwake
namespace Go.Proofs.Ytbeampfgghejfaa
open Go.RowKit
set_option linter.unusedVariables false

set_option maxHeartbeats 1000000 in
theorem mixBack_nat (x y : Nat) (w : World) (hx : x < 18446744073709551616) (hy : y < 18446744073709551616) :
    Calls Try.prog 4 #[.int .u64 (x : Int), .int .u64 (y : Int)] w fun e w' => e = .returned (.bool true) ∧ Below w.heap.size w w' := by
  have R1 := Lib.hid (fun w => prog_mix x w hx)
  have R2 := Lib.hid (fun w => prog_back (Mx.mix x) w (Mx.mix_lt x))
  have R3 := Lib.hid (fun w => prog_back x w hx)
  have R4 := Lib.hid (fun w => prog_mix (Mx.back x) w (Mx.back_lt x))
  have R5 := Lib.hid (fun w => prog_mix y w hy)
  have HI : ((Mx.mix x : Int) == (Mx.mix y : Int)) = ((x : Int) == (y : Int)) := by
    by_cases h : x = y
    · rw [h]; simp
    · have h1 : Mx.mix x ≠ Mx.mix y := fun e => h (Mx.mix_inj hx hy e)
      rw [beq_eq_false_iff_ne.2 (by omega), beq_eq_false_iff_ne.2 (by omega)]
  rw [Mx.back_mix hx] at R2
  rw [Mx.mix_back hx] at R4
  generalize Mx.mix x = mx at *
  generalize Mx.mix y = my at *
  generalize Mx.back x = bx at *
  go_enter Try.func4, Try.ntmps4
  go_wp2_with fail
  refine (R1.out _).mono ?_
  rintro e w1 ⟨rfl, g1⟩
  go_wp2_with fail
  refine (R2.out _).mono ?_
  rintro e w2 ⟨rfl, g2⟩
  go_wp2_with fail
  refine (R3.out _).mono ?_
  rintro e w3 ⟨rfl, g3⟩
  go_wp2_with fail
  refine (R4.out _).mono ?_
  rintro e w4 ⟨rfl, g4⟩
  go_wp2_with fail
  refine (R1.out _).mono ?_
  rintro e w5 ⟨rfl, g5⟩
  go_wp2_with fail
  refine (R5.out _).mono ?_
  rintro e w6 ⟨rfl, g6⟩
  go_wp2_with fail
  refine (awake_walk _).mono ?_
  rintro e w7 ⟨rfl, g7⟩
  go_wp2_with fail
  go_ret
  exact ⟨rfl, below_trans (below_trans (below_trans (below_trans (below_trans (below_trans g1 g2) g3) g4) g5) g6) g7⟩

theorem mixBack_walk (a0 a1 : Int) (w : World) (h0 : (Lit.int .u64 a0).wf = true) (h1 : (Lit.int .u64 a1).wf = true) :
    Calls Try.prog 4 #[.int .u64 a0, .int .u64 a1] w fun e w' => e = .returned (.bool true) ∧ Below w.heap.size w w' := by
  obtain ⟨x, rfl, hx⟩ := nat_of_u64 h0
  obtain ⟨y, rfl, hy⟩ := nat_of_u64 h1
  exact mixBack_nat x y w hx hy

end Go.Proofs.Ytbeampfgghejfaa
