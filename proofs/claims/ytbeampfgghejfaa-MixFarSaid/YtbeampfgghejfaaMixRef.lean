/-
  What the document's own answers of layer 3 (package sandglassref03) are, for all numbers: bit, fold, unfold, part, Mix, Back, Bucket.
-/
import Derived.Test.YtbeampfgghejfaaBase
import Derived.Test.YtbeampfgghejfaaMixNum
import Derived.Deep.QuietTactic
import Derived.BigQuiet
import Derived.Deep.DeepCutAuto
import Derived.Deep.CutBlock
import Derived.Deep.LoopGhost
namespace Go.Proofs.Ytbeampfgghejfaa
open Go.RowKit
set_option linter.unusedVariables false

theorem ret_nat {k : IntKind} {a b : Nat} (h : a = b) : Ending.returned (.int k (a : Int)) = .returned (.int k (b : Int)) := by rw [h]

theorem ref_bit (b x i : Nat) (j : Int) (w : World) (hx : x < 18446744073709551616) (hi : i < 128) (hj : j = (i : Int)) (Hb : Hid (Mx.bit x i = b)) :
    Calls Try.prog 20 #[.int .u64 (x : Int), .int .i64 j] w fun e w' => e = .returned (.int .u64 (b : Int)) ∧ w = w' := by
  subst hj
  by_cases c : 63 < i
  · have H : Hid ((0 : Nat) = b) := by show 0 = b; rw [← Hb.out, Mx.bit_far hx (by omega)]
    have c1 : (63 : Int) < (i : Int) := by omega
    go_enter Try.func20, Try.ntmps20
    go_wp2_with fail
    go_ret
    exact ⟨ret_nat H.out, rfl⟩
  · have c1 : ¬ (63 : Int) < (i : Int) := by omega
    have H : Hid ((x : Int) / 2 ^ i % 2 = (b : Int)) := by
      show (x : Int) / 2 ^ i % 2 = (b : Int)
      rw [← Hb.out]
      unfold Mx.bit
      simp
    have H0 : 0 ≤ (x : Int) / 2 ^ i := Int.ediv_nonneg (by omega) (Int.le_of_lt (Int.pow_pos (by omega)))
    go_enter Try.func20, Try.ntmps20
    go_wp2_with fail
    go_ret
    exact ⟨by rw [H.out]; rfl, rfl⟩

set_option maxHeartbeats 1000000 in
theorem ref_fold (x k : Nat) (w : World) (hx : x < 18446744073709551616) (hk : k ≤ 32) :
    Calls Try.prog 16 #[.int .u64 (x : Int), .int .i64 (k : Int)] w fun e w' => e = .returned (.int .u64 (Mx.fold x k : Nat)) ∧ w = w' := by
  have hz := Mx.fold_lt k hx
  have HS := Lib.hid (fun i => Mx.fold_step x k i)
  obtain ⟨z, HZ⟩ : ∃ z, Hid (Mx.fold x k = z) := ⟨_, rfl⟩
  rw [HZ.out] at hz HS ⊢
  clear HZ
  go_enter Try.func16, Try.ntmps16
  go_wp2_with fail
  go_loopg [5, 6] 64 (fun g y i wx => ∃ (j y' : Nat), j = g ∧ j ≤ 64 ∧ i = .int .i64 ((j : Int) - 1) ∧ y = .int .u64 (y' : Int) ∧ Hid (y' = z / 2 ^ j) ∧ w = wx)
  case atStart => exact ⟨64, 0, rfl, by omega, rfl, rfl, (Nat.div_eq_of_lt hz).symm, rfl⟩
  case round =>
    obtain ⟨j, y, rfl, hj, rfl, rfl, HA, rfl⟩ := hrel
    by_cases h0 : j = 0
    · subst h0
      have HE : Hid (y = z) := by show y = z; rw [HA.out]; simp
      rw [show ((0 : Nat) : Int) - 1 = -1 by omega]
      go_wp2_with fail
      go_ret
      exact ⟨ret_nat HE.out, rfl⟩
    · obtain ⟨i, rfl⟩ : ∃ i, j = i + 1 := ⟨j - 1, by omega⟩
      rw [show ((i + 1 : Nat) : Int) - 1 = (i : Int) by omega]
      clear h0
      have hy : y < 9223372036854775808 := by
        have h := HA.out
        rw [Nat.pow_succ, Nat.mul_comm, ← Nat.div_div_eq_div_mul] at h
        have h2 : z / 2 / 2 ^ i ≤ z / 2 := Nat.div_le_self _ _
        omega
      have HN := Lib.hid (HS.out i)
      obtain ⟨b1, Hb1⟩ : ∃ b, Hid (Mx.bit x i = b) := ⟨_, rfl⟩
      obtain ⟨b2, Hb2⟩ : ∃ b, Hid (Mx.bit x (i + k) = b) := ⟨_, rfl⟩
      rw [← HA.out, Hb1.out, Hb2.out] at HN
      by_cases hb : b1 = b2
      · subst hb
        rw [if_pos rfl, Nat.add_zero] at HN
        go_wp2_with fail
        refine (ref_bit b1 x i _ _ hx (by omega) rfl Hb1).mono ?_
        rintro e w1 ⟨rfl, rfl⟩
        go_wp2_with fail
        refine (ref_bit b1 x (i + k) _ _ hx (by omega) (by omega) Hb2).mono ?_
        rintro e w1 ⟨rfl, rfl⟩
        go_wp2_with fail
        go_roundg i
        case measure => omega
        case rel => exact ⟨i, 2 * y, rfl, by omega, rfl, by go_num, HN, rfl⟩
      · rw [if_neg hb] at HN
        have hb1 : ((b1 : Int) != (b2 : Int)) = true := by simp; omega
        go_wp2_with fail
        refine (ref_bit b1 x i _ _ hx (by omega) rfl Hb1).mono ?_
        rintro e w1 ⟨rfl, rfl⟩
        go_wp2_with fail
        refine (ref_bit b2 x (i + k) _ _ hx (by omega) (by omega) Hb2).mono ?_
        rintro e w1 ⟨rfl, rfl⟩
        go_wp2_with fail
        go_roundg i
        case measure => omega
        case rel => exact ⟨i, 2 * y + 1, rfl, by omega, rfl, by go_num, HN, rfl⟩

theorem pow_word (i : Nat) (hi : i ≤ 63) : ∃ p : Nat, p = 2 ^ i ∧ (2 : Int) ^ i = (p : Int) ∧ p < 18446744073709551616 ∧ IntKind.u64.wrap ((2 : Int) ^ i) = (p : Int) := by
  have h1 : (2 : Nat) ^ i ≤ 2 ^ 63 := Nat.pow_le_pow_right (by omega) hi
  have h2 : (2 : Nat) ^ 63 = 9223372036854775808 := by decide
  have h3 : (2 : Int) ^ i = ((2 ^ i : Nat) : Int) := by simp
  refine ⟨2 ^ i, rfl, h3, by omega, ?_⟩
  rw [h3, IntKind.wrap_u64]
  generalize (2 : Nat) ^ i = p at h1
  omega

set_option maxHeartbeats 1000000 in
theorem ref_unfold (z x k : Nat) (w : World) (hz : z < 18446744073709551616) (hx : x < 18446744073709551616) (hk0 : 1 ≤ k) (hk : k ≤ 32) (HX : Hid (Mx.fold z k = x)) :
    Calls Try.prog 18 #[.int .u64 (x : Int), .int .i64 (k : Int)] w fun e w' => e = .returned (.int .u64 (z : Int)) ∧ w = w' := by
  have HS := Lib.hid (fun i => Mx.unfold_step z x k i hk0 HX.out)
  have HU := Lib.hid (fun i => Mx.upper_le z i)
  go_enter Try.func18, Try.ntmps18
  go_wp2_with fail
  go_loopg [5, 6] 64 (fun g y i wx => ∃ (j y' : Nat), j = g ∧ j ≤ 64 ∧ i = .int .i64 ((j : Int) - 1) ∧ y = .int .u64 (y' : Int) ∧ Hid (y' = Mx.upper z j) ∧ w = wx)
  case atStart => exact ⟨64, 0, rfl, by omega, rfl, rfl, by show 0 = Mx.upper z 64; unfold Mx.upper; rw [Nat.div_eq_of_lt hz, Nat.zero_mul], rfl⟩
  case round =>
    obtain ⟨j, y, rfl, hj, rfl, rfl, HA, rfl⟩ := hrel
    by_cases h0 : j = 0
    · subst h0
      have HE : Hid (y = z) := by show y = z; rw [HA.out]; unfold Mx.upper; simp
      rw [show ((0 : Nat) : Int) - 1 = -1 by omega]
      go_wp2_with fail
      go_ret
      exact ⟨ret_nat HE.out, rfl⟩
    · obtain ⟨i, rfl⟩ : ∃ i, j = i + 1 := ⟨j - 1, by omega⟩
      rw [show ((i + 1 : Nat) : Int) - 1 = (i : Int) by omega]
      clear h0
      have hy : y < 18446744073709551616 := by
        have h := HU.out (i + 1)
        rw [← HA.out] at h
        omega
      have HN := Lib.hid (HS.out i)
      have hle := HU.out i
      obtain ⟨b1, Hb1⟩ : ∃ b, Hid (Mx.bit x i = b) := ⟨_, rfl⟩
      obtain ⟨b2, Hb2⟩ : ∃ b, Hid (Mx.bit y (i + k) = b) := ⟨_, rfl⟩
      rw [← HA.out, Hb1.out, Hb2.out] at HN
      by_cases hb : b1 = b2
      · subst hb
        rw [if_pos rfl, Nat.add_zero] at HN
        clear hle
        go_wp2_with fail
        refine (ref_bit b1 x i _ _ hx (by omega) rfl Hb1).mono ?_
        rintro e w1 ⟨rfl, rfl⟩
        go_wp2_with fail
        refine (ref_bit b1 y (i + k) _ _ hy (by omega) (by omega) Hb2).mono ?_
        rintro e w1 ⟨rfl, rfl⟩
        go_wp2_with fail
        go_roundg i
        case measure => omega
        case rel => exact ⟨i, y, rfl, by omega, rfl, rfl, HN, rfl⟩
      · rw [if_neg hb] at HN
        have hb1 : ((b1 : Int) != (b2 : Int)) = true := by simp; omega
        obtain ⟨p, hp0, hp, hp1, hp2⟩ := pow_word i (by omega)
        rw [← hp0] at HN
        rw [← HN.out] at hle
        clear hp0
        go_wp2_with fail
        refine (ref_bit b1 x i _ _ hx (by omega) rfl Hb1).mono ?_
        rintro e w1 ⟨rfl, rfl⟩
        go_wp2_with fail
        refine (ref_bit b2 y (i + k) _ _ hy (by omega) (by omega) Hb2).mono ?_
        rintro e w1 ⟨rfl, rfl⟩
        go_wp2_with fail
        go_roundg i
        case measure => omega
        case rel => exact ⟨i, y + p, rfl, by omega, rfl, by go_num, HN, rfl⟩

set_option maxHeartbeats 1000000 in
theorem ref_part (z x : Nat) (w : World) (hz : z < 18446744073709551616) (hx : x < 18446744073709551616) (HX : Hid (Mx.times z = x)) :
    Calls Try.prog 19 #[.int .u64 (x : Int)] w fun e w' => e = .returned (.int .u64 (z : Int)) ∧ w = w' := by
  have HS := Lib.hid (fun i hi => Mx.part_step z i hi)
  rw [HX.out] at HS
  go_enter Try.func19, Try.ntmps19
  go_wp2_with fail
  go_loopg [3, 4] 64 (fun g y i wx => ∃ (j y' : Nat), 64 - j = g ∧ j ≤ 64 ∧ i = .int .i64 (j : Int) ∧ y = .int .u64 (y' : Int) ∧ Hid (y' = z % 2 ^ j) ∧ w = wx)
  case atStart => exact ⟨0, 0, rfl, by omega, rfl, rfl, by show 0 = z % 2 ^ 0; rw [Nat.pow_zero, Nat.mod_one], rfl⟩
  case round =>
    obtain ⟨j, y, rfl, hj, rfl, rfl, HA, rfl⟩ := hrel
    have hy : y < 18446744073709551616 := by
      have h := Nat.mod_le z (2 ^ j)
      rw [← HA.out] at h
      omega
    by_cases h0 : j = 64
    · subst h0
      have HE : Hid (y = z) := by show y = z; rw [HA.out]; exact Nat.mod_eq_of_lt hz
      go_wp2_with fail
      go_ret
      exact ⟨ret_nat HE.out, rfl⟩
    · have hj' : j < 64 := by omega
      clear h0
      have HN := Lib.hid (HS.out j hj')
      have hle := Nat.mod_le z (2 ^ (j + 1))
      obtain ⟨t, Ht⟩ : ∃ t, Hid (Mx.times y = t) := ⟨_, rfl⟩
      have ht : t < 18446744073709551616 := by rw [← Ht.out]; exact Mx.times_lt y
      have hw : IntKind.u64.wrap ((y : Int) * 11400714819323198485) = (t : Int) := by
        rw [← Ht.out, IntKind.wrap_u64]
        unfold Mx.times
        omega
      obtain ⟨b1, Hb1⟩ : ∃ b, Hid (Mx.bit t j = b) := ⟨_, rfl⟩
      obtain ⟨b2, Hb2⟩ : ∃ b, Hid (Mx.bit x j = b) := ⟨_, rfl⟩
      rw [← HA.out, Ht.out, Hb1.out, Hb2.out] at HN
      by_cases hb : b1 = b2
      · subst hb
        rw [if_pos rfl, Nat.add_zero] at HN
        clear hle
        go_wp2_with fail
        refine (ref_bit b1 t j _ _ ht (by omega) rfl Hb1).mono ?_
        rintro e w1 ⟨rfl, rfl⟩
        go_wp2_with fail
        refine (ref_bit b1 x j _ _ hx (by omega) (by omega) Hb2).mono ?_
        rintro e w1 ⟨rfl, rfl⟩
        go_wp2_with fail
        go_roundg (64 - (j + 1))
        case measure => omega
        case rel => exact ⟨j + 1, y, rfl, by omega, by go_num, rfl, HN, rfl⟩
      · rw [if_neg hb] at HN
        have hb1 : ((b1 : Int) != (b2 : Int)) = true := by simp; omega
        obtain ⟨p, hp0, hp, hp1, hp2⟩ := pow_word j (by omega)
        rw [← hp0] at HN
        rw [← HN.out] at hle
        clear hp0
        go_wp2_with fail
        refine (ref_bit b1 t j _ _ ht (by omega) rfl Hb1).mono ?_
        rintro e w1 ⟨rfl, rfl⟩
        go_wp2_with fail
        refine (ref_bit b2 x j _ _ hx (by omega) (by omega) Hb2).mono ?_
        rintro e w1 ⟨rfl, rfl⟩
        go_wp2_with fail
        go_roundg (64 - (j + 1))
        case measure => omega
        case rel => exact ⟨j + 1, y + p, rfl, by omega, by go_num, by go_num, HN, rfl⟩

theorem wrap_times (x : Nat) : IntKind.u64.wrap ((x : Int) * 11400714819323198485) = ((Mx.times x : Nat) : Int) := by
  rw [IntKind.wrap_u64]
  unfold Mx.times
  omega

theorem ref_mix (x : Nat) (w : World) (hx : x < 18446744073709551616) :
    Calls Try.prog 9 #[.int .u64 (x : Int)] w fun e w' => e = .returned (.int .u64 (Mx.mix x : Nat)) ∧ w = w' := by
  have h1 := Mx.fold_lt 32 hx
  have h2 := Mx.times_lt (Mx.fold x 32)
  have h3 := Mx.fold_lt 29 h2
  have h4 := Mx.times_lt (Mx.fold (Mx.times (Mx.fold x 32)) 29)
  have HM := Lib.hid (show Mx.fold (Mx.times (Mx.fold (Mx.times (Mx.fold x 32)) 29)) 32 = Mx.mix x from rfl)
  have t1 := wrap_times (Mx.fold x 32)
  have t2 := wrap_times (Mx.fold (Mx.times (Mx.fold x 32)) 29)
  have r1 := ref_fold x 32 w hx (by omega)
  have r2 := ref_fold _ 29 w h2 (by omega)
  have r3 := ref_fold _ 32 w h4 (by omega)
  generalize Mx.fold (Mx.times (Mx.fold (Mx.times (Mx.fold x 32)) 29)) 32 = v5 at *
  generalize Mx.times (Mx.fold (Mx.times (Mx.fold x 32)) 29) = v4 at *
  generalize Mx.fold (Mx.times (Mx.fold x 32)) 29 = v3 at *
  generalize Mx.times (Mx.fold x 32) = v2 at *
  generalize Mx.fold x 32 = v1 at *
  have R1 := Lib.hid r1
  have R2 := Lib.hid r2
  have R3 := Lib.hid r3
  clear r1 r2 r3
  go_enter Try.func9, Try.ntmps9
  go_wp2_with fail
  refine R1.out.mono ?_
  rintro e w1 ⟨rfl, rfl⟩
  go_wp2_with fail
  refine R2.out.mono ?_
  rintro e w1 ⟨rfl, rfl⟩
  go_wp2_with fail
  refine R3.out.mono ?_
  rintro e w1 ⟨rfl, rfl⟩
  go_wp2_with fail
  go_ret
  exact ⟨ret_nat HM.out, rfl⟩

theorem ref_back (x : Nat) (w : World) (hx : x < 18446744073709551616) :
    Calls Try.prog 11 #[.int .u64 (x : Int)] w fun e w' => e = .returned (.int .u64 (Mx.back x : Nat)) ∧ w = w' := by
  have h1 := Mx.fold_lt 32 hx
  have h2 := Mx.undo_lt (Mx.fold x 32)
  have h3 := Mx.un29_lt h2
  have h4 := Mx.undo_lt (Mx.un29 (Mx.undo (Mx.fold x 32)))
  have h5 := Mx.fold_lt 32 h4
  have R1 := Lib.hid (ref_unfold _ x 32 w h1 hx (by omega) (by omega) (Mx.fold32 hx))
  have R2 := Lib.hid (ref_part _ _ w h2 h1 (Mx.times_undo h1))
  have R3 := Lib.hid (ref_unfold _ _ 29 w h3 h2 (by omega) (by omega) (Mx.fold_un29 h2))
  have R4 := Lib.hid (ref_part _ _ w h4 h3 (Mx.times_undo h3))
  have R5 := Lib.hid (ref_unfold _ _ 32 w h5 h4 (by omega) (by omega) (Mx.fold32 h4))
  have HM := Lib.hid (show Mx.fold (Mx.undo (Mx.un29 (Mx.undo (Mx.fold x 32)))) 32 = Mx.back x from rfl)
  generalize Mx.fold (Mx.undo (Mx.un29 (Mx.undo (Mx.fold x 32)))) 32 = v5 at *
  generalize Mx.undo (Mx.un29 (Mx.undo (Mx.fold x 32))) = v4 at *
  generalize Mx.un29 (Mx.undo (Mx.fold x 32)) = v3 at *
  generalize Mx.undo (Mx.fold x 32) = v2 at *
  generalize Mx.fold x 32 = v1 at *
  go_enter Try.func11, Try.ntmps11
  go_wp2_with fail
  refine R1.out.mono ?_
  rintro e w1 ⟨rfl, rfl⟩
  go_wp2_with fail
  refine R2.out.mono ?_
  rintro e w1 ⟨rfl, rfl⟩
  go_wp2_with fail
  refine R3.out.mono ?_
  rintro e w1 ⟨rfl, rfl⟩
  go_wp2_with fail
  refine R4.out.mono ?_
  rintro e w1 ⟨rfl, rfl⟩
  go_wp2_with fail
  refine R5.out.mono ?_
  rintro e w1 ⟨rfl, rfl⟩
  go_wp2_with fail
  go_ret
  exact ⟨ret_nat HM.out, rfl⟩

theorem ref_bucket_none (x : Nat) (b : Int) (w : World) (hb : b < 0 ∨ 16 < b) :
    Calls Try.prog 13 #[.int .u64 (x : Int), .int .i64 b] w fun e w' => e = .returned (.int .i64 (-1)) ∧ w = w' := by
  rcases hb with hb | hb
  · go_enter Try.func13, Try.ntmps13
    go_wp2_with fail
    go_ret
    exact ⟨rfl, rfl⟩
  · have hb1 : ¬ b < 0 := by omega
    go_enter Try.func13, Try.ntmps13
    go_wp2_with fail
    go_ret
    exact ⟨rfl, rfl⟩

set_option maxHeartbeats 1000000 in
theorem ref_bucket (x n : Nat) (w : World) (hx : x < 18446744073709551616) (hn : n ≤ 16) :
    Calls Try.prog 13 #[.int .u64 (x : Int), .int .i64 (n : Int)] w fun e w' => e = .returned (.int .i64 (Mx.high (Mx.mix x) n : Nat)) ∧ w = w' := by
  have hm := Mx.mix_lt x
  have R1 := Lib.hid (ref_mix x w hx)
  have HH := Lib.hid (fun i hi => Mx.high_step (Mx.mix x) i hi)
  have HL := Lib.hid (fun i (hi : i ≤ 16) => Nat.lt_of_lt_of_le (Mx.high_lt hm (n := i) (by omega)) (Nat.pow_le_pow_right (n := 2) (by omega) hi))
  have H0 := Lib.hid (Mx.high_zero hm)
  generalize Mx.mix x = m at *
  have c0 : ¬ (n : Int) < 0 := by omega
  have c1 : ¬ (16 : Int) < (n : Int) := by omega
  go_enter Try.func13, Try.ntmps13
  go_wp2_with fail
  refine R1.out.mono ?_
  rintro e w1 ⟨rfl, rfl⟩
  go_wp2_with fail
  go_loopg [5, 7] n (fun g y i wx => ∃ (j y' : Nat), n - j = g ∧ j ≤ n ∧ i = .int .i64 (j : Int) ∧ y = .int .i64 (y' : Int) ∧ Hid (y' = Mx.high m j) ∧ w = wx)
  case atStart => exact ⟨0, 0, rfl, by omega, rfl, rfl, H0.out.symm, rfl⟩
  case round =>
    obtain ⟨j, y, rfl, hj, rfl, rfl, HA, rfl⟩ := hrel
    by_cases h0 : j = n
    · have h0z : ¬ (j : Int) < (n : Int) := by omega
      have HE : Hid (y = Mx.high m n) := by show y = _; rw [HA.out, h0]
      clear h0
      go_wp2_with fail
      go_ret
      exact ⟨ret_nat HE.out, rfl⟩
    · have h0z : (j : Int) < (n : Int) := by omega
      have HN := Lib.hid (HH.out j (by omega))
      have hy : y < 65536 := by
        have h := HL.out j (by omega)
        rw [← HA.out] at h
        exact h
      obtain ⟨b, Hb⟩ : ∃ b, Hid (Mx.bit m (63 - j) = b) := ⟨_, rfl⟩
      have hb : b < 2 := by rw [← Hb.out]; exact Mx.bit_lt _ _
      rw [← HA.out, Hb.out] at HN
      clear h0
      go_wp2_with fail
      refine (ref_bit b m (63 - j) _ _ hm (by omega) (by omega) Hb).mono ?_
      rintro e w1 ⟨rfl, rfl⟩
      go_wp2_with fail
      go_roundg (n - (j + 1))
      case measure => omega
      case rel => exact ⟨j + 1, 2 * y + b, rfl, by omega, by go_num, by go_num, HN, rfl⟩

end Go.Proofs.Ytbeampfgghejfaa
