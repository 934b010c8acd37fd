/-
  The chapter's examples, as layer 3's laws ask for them; and what opening an argument gives, by its kind.
-/
import Derived.Test.YtbeampfgghejfaaMixGoesBack
import Derived.Test.YtbeampfgghejfaaMixBucket
namespace Go.Proofs.Ytbeampfgghejfaa
open Go.RowKit
set_option linter.unusedVariables false

theorem below_trans {a b c : World} (h : Below a.heap.size a b) (k : Below b.heap.size b c) : Below a.heap.size a c := h.trans (k.mono h.size)

theorem nat_of_u64 {x : Int} (h : (Lit.int .u64 x).wf = true) : ∃ n : Nat, x = (n : Int) ∧ n < 18446744073709551616 := by
  simp [Lit.wf, IntKind.min, IntKind.max, IntKind.signed, IntKind.bits] at h
  exact ⟨x.toNat, by omega, by omega⟩
theorem nat_of_u16 {x : Int} (h : (Lit.int .u16 x).wf = true) : ∃ n : Nat, x = (n : Int) ∧ n < 65536 := by
  simp [Lit.wf, IntKind.min, IntKind.max, IntKind.signed, IntKind.bits] at h
  exact ⟨x.toNat, by omega, by omega⟩
theorem nat_of_u8 {x : Int} (h : (Lit.int .u8 x).wf = true) : ∃ n : Nat, x = (n : Int) ∧ n < 256 := by
  simp [Lit.wf, IntKind.min, IntKind.max, IntKind.signed, IntKind.bits] at h
  exact ⟨x.toNat, by omega, by omega⟩

theorem mix_zero : Mx.mix 0 = 0 := by decide
theorem high_none (n : Nat) : Mx.high 0 n = 0 := Nat.zero_div _

theorem awake_mix0 (w : World) : Calls Try.prog 8 #[.int .u64 0] w fun e w' => e = .returned (.int .u64 0) ∧ Below w.heap.size w w' := by
  have h := prog_mix 0 w (by omega)
  rw [mix_zero] at h
  exact h
theorem awake_b05 (w : World) : Calls Try.prog 12 #[.int .u64 0, .int .i64 5] w fun e w' => e = .returned (.int .i64 0) ∧ Below w.heap.size w w' := by
  have h := prog_bucket 0 5 w (by omega) (by omega)
  rw [mix_zero, high_none] at h
  exact h
theorem awake_b70 (w : World) : Calls Try.prog 12 #[.int .u64 7, .int .i64 0] w fun e w' => e = .returned (.int .i64 0) ∧ Below w.heap.size w w' := by
  have h := prog_bucket 7 0 w (by omega) (by omega)
  rw [Mx.high_zero (Mx.mix_lt 7)] at h
  exact h
theorem awake_bw (b : Int) (w : World) (hb : b < 0 ∨ 16 < b) : Calls Try.prog 12 #[.int .u64 7, .int .i64 b] w fun e w' => e = .returned (.int .i64 (-1)) ∧ Below w.heap.size w w' :=
  prog_bucket_none 7 b w hb

theorem awake_walk (w : World) : Calls Try.prog 14 #[] w fun e w' => e = .returned (.bool true) ∧ Below w.heap.size w w' := by
  have h1 : Hid (∀ w, Calls Try.prog 8 #[.int .u64 12345] w fun e w' => e = .returned (.int .u64 (Mx.mix 12345 : Nat)) ∧ Below w.heap.size w w') := fun w => prog_mix 12345 w (by omega)
  have h2 : Hid (∀ w, Calls Try.prog 10 #[.int .u64 (Mx.mix 12345 : Nat)] w fun e w' => e = .returned (.int .u64 12345) ∧ Below w.heap.size w w') := fun w => by
    have h := prog_back (Mx.mix 12345) w (Mx.mix_lt _)
    rw [Mx.back_mix (by omega)] at h
    exact h
  generalize Mx.mix 12345 = m at *
  go_enter Try.func14, Try.ntmps14
  go_wp2_with fail
  refine (awake_mix0 _).mono ?_
  rintro e w1 ⟨rfl, g1⟩
  go_wp2_with fail
  refine (awake_b05 _).mono ?_
  rintro e w2 ⟨rfl, g2⟩
  go_wp2_with fail
  refine (awake_b70 _).mono ?_
  rintro e w3 ⟨rfl, g3⟩
  go_wp2_with fail
  refine (awake_bw 17 _ (by omega)).mono ?_
  rintro e w4 ⟨rfl, g4⟩
  go_wp2_with fail
  refine (awake_bw (-1) _ (by omega)).mono ?_
  rintro e w5 ⟨rfl, g5⟩
  go_wp2_with fail
  refine (h1.out _).mono ?_
  rintro e w6 ⟨rfl, g6⟩
  go_wp2_with fail
  refine (h2.out _).mono ?_
  rintro e w7 ⟨rfl, g7⟩
  go_wp2_with fail
  go_ret
  exact ⟨rfl, below_trans (below_trans (below_trans (below_trans (below_trans (below_trans g1 g2) g3) g4) g5) g6) g7⟩

end Go.Proofs.Ytbeampfgghejfaa
