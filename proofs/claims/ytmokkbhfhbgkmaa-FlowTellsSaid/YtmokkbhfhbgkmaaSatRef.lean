/-
  What the document's own answers (package sandglassref01) are, for all numbers: the same plain functions as sat's.
-/
import Derived.Test.YtmokkbhfhbgkmaaHalves
namespace Go.Proofs.Ytmokkbhfhbgkmaa
open Go.RowKit
set_option linter.unusedVariables false

theorem ref_add (a b : Int) (w : World) (ha : Num.Word a) (hb : Num.Word b) :
    Calls Try.prog 66 #[.int .u64 a, .int .u64 b] w fun e w' => e = .returned (.int .u64 (Num.add a b)) ∧ w = w' := by
  obtain ⟨ha0, ha1⟩ := ha
  obtain ⟨hb0, hb1⟩ := hb
  by_cases h : a + b < 18446744073709551616
  · have H : Hid (Num.add a b = a + b) := by show Num.kept _ = _; unfold Num.kept; rw [if_pos h]
    have h2 : ¬ 18446744073709551615 - a < b := by omega
    go_enter Try.func66, Try.ntmps66
    go_wp2_with fail
    go_ret
    exact ⟨ret_u64 H.out.symm, rfl⟩
  · have H : Hid (Num.add a b = 18446744073709551615) := by show Num.kept _ = _; unfold Num.kept; rw [if_neg h]
    have h2 : 18446744073709551615 - a < b := by omega
    go_enter Try.func66, Try.ntmps66
    go_wp2_with fail
    go_ret
    exact ⟨ret_u64 H.out.symm, rfl⟩




theorem triple_eq {a b c d : Int} {o p : Bool} (h1 : a = b) (h2 : c = d) (h3 : o = p) : Ending.returned (.tuple #[.int .u64 a, .int .u64 c, .bool o]) = .returned (.tuple #[.int .u64 b, .int .u64 d, .bool p]) := by rw [h1, h2, h3]

namespace Num
theorem up_rest {n c : Int} (hn : 0 ≤ n) (hc : 0 < c) : byc (n + (c - 1)) c = kept (if n % c = 0 then n / c else n / c + 1) := by
  have hd := Int.mul_ediv_add_emod n c
  have h0 := Int.emod_nonneg n (show c ≠ 0 by omega)
  have h1 := Int.emod_lt_of_pos n hc
  unfold byc
  rw [if_neg (by omega)]
  congr 1
  split
  · rw [show n + (c - 1) = (c - 1) + c * (n / c) by omega, Int.add_mul_ediv_left _ _ (by omega), Int.ediv_eq_zero_of_lt (by omega) (by omega)]
    omega
  · rw [show n + (c - 1) = (n % c - 1) + c * (n / c + 1) by rw [Int.mul_add]; omega, Int.add_mul_ediv_left _ _ (by omega), Int.ediv_eq_zero_of_lt (by omega) (by omega)]
    omega
end Num

/-- The document's division: what is rounded down, if it has room, what is left, and whether it has none. -/
theorem halves_ref (n high low c : Int) (w : World) (hh : Num.Word high) (hl : Num.Word low) (hc : Num.Word c) (hc0 : 0 < c) (N : Hid (n = high * 18446744073709551616 + low)) :
    Calls Try.prog 87 #[.int .u64 high, .int .u64 low, .int .u64 c] w fun e w' => (∃ q, e = .returned (.tuple #[.int .u64 q, .int .u64 (n % c), .bool (decide (c ≤ high))]) ∧ (high < c → q = n / c)) ∧ w = w' := by
  obtain ⟨high, rfl⟩ := Int.eq_ofNat_of_zero_le hh.1
  obtain ⟨low, rfl⟩ := Int.eq_ofNat_of_zero_le hl.1
  obtain ⟨c, rfl⟩ := Int.eq_ofNat_of_zero_le hc.1
  have h1 := hh.2
  have h2 := hl.2
  have h3 := hc.2
  have e0 : n = ((high * 18446744073709551616 + low : Nat) : Int) := by rw [N.out]; omega
  refine (halves_walk high low c w (by omega) (by omega) (by omega) (by omega) _ _ _ ⟨rfl, rfl, rfl⟩).mono ?_
  rintro e w' ⟨rfl, rfl⟩
  refine ⟨⟨(((high * 18446744073709551616 + low) / 2 ^ 0 / c % 18446744073709551616 : Nat) : Int), triple_eq rfl ?_ ?_, ?_⟩, rfl⟩
  · rw [e0, ← Int.natCast_emod, Nat.pow_zero, Nat.div_one]
  · rw [show max 0 64 = 64 from rfl, show (high * 18446744073709551616 + low) / 2 ^ 64 = high by omega]
    simp
  · intro hlt
    rw [e0, ← Int.natCast_ediv, Nat.pow_zero, Nat.div_one, Nat.mod_eq_of_lt]
    rw [Nat.div_lt_iff_lt_mul (by omega), Nat.mul_comm]
    have : (high + 1) * 18446744073709551616 ≤ c * 18446744073709551616 := Nat.mul_le_mul_right _ (by omega)
    omega

theorem long_refn (x y h l : Int) (w : World) (hx : Num.Word x) (hy : Num.Word y) (hl : Num.Word l) (H : Hid (x * y = h * 18446744073709551616 + l)) :
    Calls Try.prog 86 #[.int .u64 x, .int .u64 y] w fun e w' => e = .returned (.tuple #[.int .u64 h, .int .u64 l]) ∧ w = w' := by
  refine (long_ref x y w hx hy).mono ?_
  rintro e w' ⟨rfl, rfl⟩
  obtain ⟨h1, h2⟩ := hl
  have H' := H.out
  exact ⟨tuple_eq (by omega) (by omega), rfl⟩


theorem ref_up (a b c : Int) (w : World) (ha : Num.Word a) (hb : Num.Word b) (hc : Num.Word c) :
    Calls Try.prog 83 #[.int .u64 a, .int .u64 b, .int .u64 c] w fun e w' => e = .returned (.int .u64 (Num.up a b c)) ∧ w = w' := by
  by_cases c0 : c = 0
  · subst c0
    have H : Hid (Num.up a b 0 = 18446744073709551615) := by show Num.up a b 0 = _; unfold Num.up Num.byc; rw [if_pos rfl]
    go_enter Try.func83, Try.ntmps83
    go_wp2_with fail
    go_ret
    exact ⟨ret_u64 H.out.symm, rfl⟩
  have c1 : (c == 0) = false := by simpa using c0
  have c2 : 0 < c := by have := hc.1; omega
  have hn := Num.mul_nn ha hb
  obtain ⟨h, l, e, hl⟩ := halves (a * b)
  obtain ⟨h0, h1⟩ := upper a b h l ha hb hl e
  have hh : Num.Word h := ⟨h0, by omega⟩
  have E := Lib.hid e
  have D : Hid (Num.up a b c = Num.kept (if a * b % c = 0 then a * b / c else a * b / c + 1)) := Num.up_rest hn c2
  clear e hn
  by_cases hch : c ≤ h
  · have F : Hid (Num.up a b c = 18446744073709551615) := by
      show _ = _
      have h3 := Num.quot_far (l := l) c2 hl.1 hch
      rw [← E.out] at h3
      rw [D.out]
      unfold Num.kept at *
      repeat' split at h3
      all_goals (repeat' split)
      all_goals omega
    have hd : decide (c ≤ h) = true := by simpa using hch
    go_enter Try.func83, Try.ntmps83
    go_wp2_with fail
    refine (long_refn _ _ _ _ _ ha hb hl E).mono ?_
    rintro e w' ⟨rfl, rfl⟩
    go_wp2_with fail
    refine (halves_ref (a * b) _ _ _ _ hh hl hc c2 E).mono ?_
    rintro e w' ⟨⟨q, rfl, hq⟩, rfl⟩
    clear hq
    go_wp2_with fail
    go_ret
    exact ⟨ret_u64 F.out.symm, rfl⟩
  · have hlt : h < c := by omega
    have hd : decide (c ≤ h) = false := by simpa using hch
    have hw : Num.Word (a * b / c) := by
      have h3 := Num.quot_near (h := h) (l := l) c2 hl.2 hlt
      rw [← E.out] at h3
      rw [← h3]
      exact Num.kept_word (Int.ediv_nonneg (Num.mul_nn ha hb) hc.1)
    have hw' := hw.2
    by_cases hz : a * b % c = 0
    · have F : Hid (Num.up a b c = a * b / c) := by show _ = _; rw [D.out, if_pos hz]; unfold Num.kept; rw [if_pos hw']
      have hm : ∃ m, a * b % c = m ∧ m = 0 := ⟨_, rfl, hz⟩
      go_enter Try.func83, Try.ntmps83
      go_wp2_with fail
      refine (long_refn _ _ _ _ _ ha hb hl E).mono ?_
      rintro e w' ⟨rfl, rfl⟩
      go_wp2_with fail
      refine (halves_ref (a * b) _ _ _ _ hh hl hc c2 E).mono ?_
      rintro e w' ⟨⟨q, rfl, hq⟩, rfl⟩
      have HQ := Lib.hid ((hq hlt).trans F.out.symm)
      clear hq
      go_wp2_with fail
      go_ret
      exact ⟨ret_u64 HQ.out, rfl⟩
    · have F : Hid (Num.up a b c = Num.add (a * b / c) 1) := by show _ = _; rw [D.out, if_neg hz]; rfl
      have hm : 0 < a * b % c := by have := Int.emod_nonneg (a * b) c0; omega
      go_enter Try.func83, Try.ntmps83
      go_wp2_with fail
      refine (long_refn _ _ _ _ _ ha hb hl E).mono ?_
      rintro e w' ⟨rfl, rfl⟩
      go_wp2_with fail
      refine (halves_ref (a * b) _ _ _ _ hh hl hc c2 E).mono ?_
      rintro e w' ⟨⟨q, rfl, hq⟩, rfl⟩
      have HQ := Lib.hid (hq hlt)
      have hwq : Num.Word q := by rw [HQ.out]; exact hw
      clear hq
      go_wp2_with fail
      refine (ref_add q 1 _ hwq ⟨by omega, by omega⟩).mono ?_
      rintro e w' ⟨rfl, rfl⟩
      go_wp2_with fail
      go_ret
      exact ⟨ret_u64 (by rw [F.out, HQ.out]), rfl⟩

end Go.Proofs.Ytmokkbhfhbgkmaa
