/-
  MixTells' walk: for all numbers the law's text answers true.
-/
import Derived.Test.YtbeampfgghejfaaMixAwake
namespace Go.Proofs.Ytbeampfgghejfaa
open Go.RowKit
set_option linter.unusedVariables false

set_option maxHeartbeats 1000000 in
/-- Over whatever the two buckets answer, if it is the same. -/
theorem mixTells_core (x : Nat) (b k : Int) (w : World) (hx : x < 18446744073709551616)
    (B1 : Hid (∀ w, Calls Try.prog 12 #[.int .u64 (x : Int), .int .i64 b] w fun e w' => e = .returned (.int .i64 k) ∧ Below w.heap.size w w'))
    (B2 : Hid (∀ w, Calls Try.prog 13 #[.int .u64 (x : Int), .int .i64 b] w fun e w' => e = .returned (.int .i64 k) ∧ w = w')) :
    Calls Try.prog 3 #[.int .u64 (x : Int), .int .i64 b] w fun e w' => e = .returned (.bool true) ∧ Below w.heap.size w w' := by
  have R1 := Lib.hid (fun w => prog_mix x w hx)
  have R2 := Lib.hid (fun w => ref_mix x w hx)
  have R3 := Lib.hid (fun w => prog_back x w hx)
  have R4 := Lib.hid (fun w => ref_back x w hx)
  generalize Mx.mix x = mx at *
  generalize Mx.back x = bx at *
  go_enter Try.func3, Try.ntmps3
  go_wp2_with fail
  refine (R1.out _).mono ?_
  rintro e w1 ⟨rfl, g1⟩
  go_wp2_with fail
  refine (R2.out _).mono ?_
  rintro e w' ⟨rfl, rfl⟩
  go_wp2_with fail
  refine (R3.out _).mono ?_
  rintro e w2 ⟨rfl, g2⟩
  go_wp2_with fail
  refine (R4.out _).mono ?_
  rintro e w' ⟨rfl, rfl⟩
  go_wp2_with fail
  refine (B1.out _).mono ?_
  rintro e w3 ⟨rfl, g3⟩
  go_wp2_with fail
  refine (B2.out _).mono ?_
  rintro e w' ⟨rfl, rfl⟩
  go_wp2_with fail
  refine (awake_walk _).mono ?_
  rintro e w4 ⟨rfl, g4⟩
  go_wp2_with fail
  go_ret
  exact ⟨rfl, below_trans (below_trans (below_trans g1 g2) g3) g4⟩

theorem mixTells_walk (a0 a1 : Int) (w : World) (h0 : (Lit.int .u64 a0).wf = true) (h1 : (Lit.int .i64 a1).wf = true) :
    Calls Try.prog 3 #[.int .u64 a0, .int .i64 a1] w fun e w' => e = .returned (.bool true) ∧ Below w.heap.size w w' := by
  obtain ⟨x, rfl, hx⟩ := nat_of_u64 h0
  by_cases hb : a1 < 0 ∨ 16 < a1
  · exact mixTells_core x a1 (-1) w hx (fun w => prog_bucket_none x a1 w hb) (fun w => ref_bucket_none x a1 w hb)
  · obtain ⟨n, rfl⟩ : ∃ n : Nat, a1 = (n : Int) := ⟨a1.toNat, by omega⟩
    exact mixTells_core x n _ w hx (fun w => prog_bucket x n w hx (by omega)) (fun w => ref_bucket x n w hx (by omega))

end Go.Proofs.Ytbeampfgghejfaa
