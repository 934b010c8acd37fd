/-
  SatExact's walk: for all numbers the law's text answers true.
-/
import Derived.Test.YtkldplikbdlobaaLong
import Derived.Deep.RegionWith
namespace Go.Proofs.Ytkldplikbdlobaa
open Go.RowKit
set_option linter.unusedVariables false

/-- The law's sum of two halves and a number. -/
theorem more_to (h l r H L : Int) (w : World) (hh : Num.Word h) (hl : Num.Word l) (hr : Num.Word r) (hH : Num.Word H) (hL : Num.Word L) (E : Hid (H * 18446744073709551616 + L = h * 18446744073709551616 + l + r)) :
    Calls Try.prog 23 #[.int .u64 h, .int .u64 l, .int .u64 r] w fun e w' => e = .returned (.tuple #[.int .u64 H, .int .u64 L]) ∧ w = w' := by
  obtain ⟨h0, h1⟩ := hh
  obtain ⟨l0, l1⟩ := hl
  obtain ⟨r0, r1⟩ := hr
  obtain ⟨H0, H1⟩ := hH
  obtain ⟨L0, L1⟩ := hL
  have e := E.out
  by_cases c : l + r < 18446744073709551616
  · have F : Hid (h = H ∧ l + r = L) := ⟨by omega, by omega⟩
    have c1 : ¬ l + r < l := by omega
    clear e
    go_enter Try.func23, Try.ntmps23
    go_wp2_with fail
    go_ret2
    exact ⟨tuple_eq F.out.1 F.out.2, rfl⟩
  · have F : Hid (h + 1 = H) := by show h + 1 = H; omega
    have c1 : IntKind.u64.wrap (l + r) = L := by rw [IntKind.wrap_u64]; omega
    have c2 : L < l := by omega
    have c3 : h + 1 < 18446744073709551616 := by omega
    clear e
    go_enter Try.func23, Try.ntmps23
    go_wp2_with fail
    go_ret2
    exact ⟨tuple_eq F.out rfl, rfl⟩

theorem long_lawn (x y h l : Int) (w : World) (hx : Num.Word x) (hy : Num.Word y) (hl : Num.Word l) (H : Hid (x * y = h * 18446744073709551616 + l)) :
    Calls Try.prog 22 #[.int .u64 x, .int .u64 y] w fun e w' => e = .returned (.tuple #[.int .u64 h, .int .u64 l]) ∧ w = w' := by
  refine (long_law x y w hx hy).mono ?_
  rintro e w' ⟨rfl, rfl⟩
  obtain ⟨h1, h2⟩ := hl
  have H' := H.out
  exact ⟨tuple_eq (by omega) (by omega), rfl⟩

namespace Num
/-- Divided by c: what is rounded down and rounded up, and what is left. -/
theorem exact_never {n c : Int} (hc : 0 < c) (h : byc n c = 18446744073709551615) : byc n c * c ≤ n ∧ byc (n + (c - 1)) c = 18446744073709551615 := by
  unfold byc at *
  rw [if_neg (by omega)] at *
  have h1 : 18446744073709551615 ≤ n / c := by unfold kept at h; split at h <;> omega
  refine ⟨?_, ?_⟩
  · rw [h]; exact (down_iff hc).1 h1
  · rw [if_neg (by omega)]
    have h2 := kept_mono (Int.ediv_le_ediv hc (show n ≤ n + (c - 1) by omega))
    rw [h] at h2
    unfold kept at *
    split <;> omega
theorem exact_below {n c : Int} (hc : 0 < c) (h : byc n c ≠ 18446744073709551615) : byc n c = n / c ∧ n / c < 18446744073709551615 := by
  unfold byc at *
  rw [if_neg (by omega)] at *
  unfold kept at *
  split at h
  · rename_i hh; rw [if_pos hh]; exact ⟨rfl, by omega⟩
  · omega
theorem exact_up {n c : Int} (hn : 0 ≤ n) (hc : 0 < c) (h : n / c < 18446744073709551615) : byc (n + (c - 1)) c = if n % c = 0 then n / c else n / c + 1 := by
  have hd := Int.mul_ediv_add_emod n c
  have h0 := Int.emod_nonneg n (show c ≠ 0 by omega)
  have h1 := Int.emod_lt_of_pos n hc
  have e : (n + (c - 1)) / c = if n % c = 0 then n / c else n / c + 1 := by
    split
    · rename_i hz
      rw [show n + (c - 1) = (c - 1) + c * (n / c) by omega, Int.add_mul_ediv_left _ _ (by omega), Int.ediv_eq_zero_of_lt (by omega) (by omega)]
      omega
    · rename_i hz
      rw [show n + (c - 1) = (n % c - 1) + c * (n / c + 1) by rw [Int.mul_add]; omega, Int.add_mul_ediv_left _ _ (by omega), Int.ediv_eq_zero_of_lt (by omega) (by omega)]
      omega
  unfold byc
  rw [if_neg (by omega), e]
  unfold kept
  split <;> (rw [if_pos (by omega)])
end Num

theorem Num.down_zero (a b : Int) : Num.down a b 0 = 18446744073709551615 := by unfold Num.down Num.byc; rw [if_pos rfl]
theorem Num.up_zero' (a b : Int) : Num.up a b 0 = 18446744073709551615 := by unfold Num.up Num.byc; rw [if_pos rfl]

/-- c is 0. -/
theorem satExact_zero (a b : Int) (w : World) (ha : Num.Word a) (hb : Num.Word b) (hc : Num.Word 0) :
    Calls Try.prog 4 #[.int .u64 a, .int .u64 b, .int .u64 0] w fun e w' => e = .returned (.bool true) ∧ Grown w w' := by
  go_enter Try.func4, Try.ntmps4
  go_wp2_with fail
  refine (downv _ _ _ _ _ ha hb hc (Num.down_zero a b)).mono ?_
  rintro e w1 ⟨rfl, g1⟩
  go_wp2_with fail
  refine (upv _ _ _ _ _ ha hb hc (Num.up_zero' a b)).mono ?_
  rintro e w2 ⟨rfl, g2⟩
  go_wp2_with fail
  refine (awake _).mono ?_
  rintro e w3 ⟨rfl, g3⟩
  go_wp2_with fail
  go_ret
  exact ⟨rfl, grown_trans (grown_trans g1 g2) g3⟩

set_option maxHeartbeats 1000000 in
/-- What is rounded down is Never. -/
theorem satExact_never (a b c H L h l : Int) (w : World) (ha : Num.Word a) (hb : Num.Word b) (hc : Num.Word c) (c2 : 0 < c) (hL : Num.Word L) (hl : Num.Word l)
    (C4 : Hid (Num.down a b c = 18446744073709551615)) (F3 : Hid (Num.up a b c = 18446744073709551615)) (E : Hid (a * b = H * 18446744073709551616 + L)) (E2 : Hid (18446744073709551615 * c = h * 18446744073709551616 + l)) (hw : h < H ∨ h = H ∧ l ≤ L) :
    Calls Try.prog 4 #[.int .u64 a, .int .u64 b, .int .u64 c] w fun e w' => e = .returned (.bool true) ∧ Grown w w' := by
  have c1 : (c == 0) = false := by simp; omega
  rcases hw with hw | ⟨rfl, hw⟩
  · have hw1 : ¬ H < h := by omega
    have hw2 : (h == H) = false := by simp; omega
    go_enter Try.func4, Try.ntmps4
    go_wp2_with fail
    refine (downv _ _ _ _ _ ha hb hc C4.out).mono ?_
    rintro e w1 ⟨rfl, g1⟩
    go_wp2_with fail
    refine (upv _ _ _ _ _ ha hb hc F3.out).mono ?_
    rintro e w2 ⟨rfl, g2⟩
    go_wp2_with fail
    refine (long_lawn _ _ _ _ _ ha hb hL E).mono ?_
    rintro e w' ⟨rfl, rfl⟩
    go_wp2_with fail
    refine (long_lawn _ _ _ _ _ Num.never_word hc hl E2).mono ?_
    rintro e w' ⟨rfl, rfl⟩
    go_wp2_with fail
    refine (awake _).mono ?_
    rintro e w3 ⟨rfl, g3⟩
    go_wp2_with fail
    go_ret
    exact ⟨rfl, grown_trans (grown_trans g1 g2) g3⟩
  · have hw1 : ¬ L < l := by omega
    go_enter Try.func4, Try.ntmps4
    go_wp2_with fail
    refine (downv _ _ _ _ _ ha hb hc C4.out).mono ?_
    rintro e w1 ⟨rfl, g1⟩
    go_wp2_with fail
    refine (upv _ _ _ _ _ ha hb hc F3.out).mono ?_
    rintro e w2 ⟨rfl, g2⟩
    go_wp2_with fail
    refine (long_lawn _ _ _ _ _ ha hb hL E).mono ?_
    rintro e w' ⟨rfl, rfl⟩
    go_wp2_with fail
    refine (long_lawn _ _ _ _ _ Num.never_word hc hl E2).mono ?_
    rintro e w' ⟨rfl, rfl⟩
    go_wp2_with fail
    refine (awake _).mono ?_
    rintro e w3 ⟨rfl, g3⟩
    go_wp2_with fail
    go_ret
    exact ⟨rfl, grown_trans (grown_trans g1 g2) g3⟩

set_option maxHeartbeats 2000000 in
/-- What is rounded down is below Never. -/
theorem satExact_below (a b c H L h l d u r : Int) (w : World) (ha : Num.Word a) (hb : Num.Word b) (hc : Num.Word c) (c2 : 0 < c) (hL : Num.Word L) (hl : Num.Word l) (hd : Num.Word d) (hh : Num.Word h) (hH : Num.Word H) (hr : Num.Word r)
    (d1 : d < 18446744073709551615) (d0 : 0 ≤ d) (rc : r < c) (r0 : 0 ≤ r) (D : Hid (Num.down a b c = d)) (U : Hid (Num.up a b c = u)) (E : Hid (a * b = H * 18446744073709551616 + L)) (E2 : Hid (d * c = h * 18446744073709551616 + l))
    (E3 : Hid (H * 18446744073709551616 + L = h * 18446744073709551616 + l + r)) (hu : r = 0 ∧ u = d ∨ ¬ r = 0 ∧ u = d + 1) (hw : h < H ∧ IntKind.u64.wrap (L - l) = r ∨ h = H ∧ l ≤ L ∧ L - l = r) :
    Calls Try.prog 4 #[.int .u64 a, .int .u64 b, .int .u64 c] w fun e w' => e = .returned (.bool true) ∧ Grown w w' := by
  have c1 : (c == 0) = false := by simp; omega
  have c3 : (d == 18446744073709551615) = false := by simp; omega
  have c4 : ¬ c ≤ r := by omega
  have hL0 := hL.1
  have hL1 := hL.2
  have hl0 := hl.1
  have hl1 := hl.2
  rcases hw with ⟨hw, hr1⟩ | ⟨rfl, hw, hr1⟩ <;> rcases hu with ⟨rz, rfl⟩ | ⟨rz, rfl⟩
  · subst rz
    have hw1 : ¬ H < h := by omega
    have hw2 : (h == H) = false := by simp; omega
    go_enter Try.func4, Try.ntmps4
    go_wp2_with fail
    refine (downv _ _ _ _ _ ha hb hc D.out).mono ?_
    rintro e w1 ⟨rfl, g1⟩
    go_wp2_with fail
    refine (upv _ _ _ _ _ ha hb hc U.out).mono ?_
    rintro e w2 ⟨rfl, g2⟩
    go_wp2_with fail
    refine (long_lawn _ _ _ _ _ ha hb hL E).mono ?_
    rintro e w' ⟨rfl, rfl⟩
    go_wp2_with fail
    refine (long_lawn _ _ _ _ _ hd hc hl E2).mono ?_
    rintro e w' ⟨rfl, rfl⟩
    go_wp2_with fail
    refine (more_to _ _ _ _ _ _ hh hl hr hH hL E3).mono ?_
    rintro e w' ⟨rfl, rfl⟩
    go_wp2_with fail
    refine (awake _).mono ?_
    rintro e w3 ⟨rfl, g3⟩
    go_wp2_with fail
    go_ret
    exact ⟨rfl, grown_trans (grown_trans g1 g2) g3⟩
  · have rz1 : (r == 0) = false := by simpa using rz
    have hw1 : ¬ H < h := by omega
    have hw2 : (h == H) = false := by simp; omega
    go_enter Try.func4, Try.ntmps4
    go_wp2_with fail
    refine (downv _ _ _ _ _ ha hb hc D.out).mono ?_
    rintro e w1 ⟨rfl, g1⟩
    go_wp2_with fail
    refine (upv _ _ _ _ _ ha hb hc U.out).mono ?_
    rintro e w2 ⟨rfl, g2⟩
    go_wp2_with fail
    refine (long_lawn _ _ _ _ _ ha hb hL E).mono ?_
    rintro e w' ⟨rfl, rfl⟩
    go_wp2_with fail
    refine (long_lawn _ _ _ _ _ hd hc hl E2).mono ?_
    rintro e w' ⟨rfl, rfl⟩
    go_wp2_with fail
    refine (more_to _ _ _ _ _ _ hh hl hr hH hL E3).mono ?_
    rintro e w' ⟨rfl, rfl⟩
    go_wp2_with fail
    refine (awake _).mono ?_
    rintro e w3 ⟨rfl, g3⟩
    go_wp2_with fail
    go_ret
    exact ⟨rfl, grown_trans (grown_trans g1 g2) g3⟩
  · subst rz
    have hw1 : ¬ L < l := by omega
    go_enter Try.func4, Try.ntmps4
    go_wp2_with fail
    refine (downv _ _ _ _ _ ha hb hc D.out).mono ?_
    rintro e w1 ⟨rfl, g1⟩
    go_wp2_with fail
    refine (upv _ _ _ _ _ ha hb hc U.out).mono ?_
    rintro e w2 ⟨rfl, g2⟩
    go_wp2_with fail
    refine (long_lawn _ _ _ _ _ ha hb hL E).mono ?_
    rintro e w' ⟨rfl, rfl⟩
    go_wp2_with fail
    refine (long_lawn _ _ _ _ _ hd hc hl E2).mono ?_
    rintro e w' ⟨rfl, rfl⟩
    go_wp2_with fail
    refine (more_to _ _ _ _ _ _ hh hl hr hH hL E3).mono ?_
    rintro e w' ⟨rfl, rfl⟩
    go_wp2_with fail
    refine (awake _).mono ?_
    rintro e w3 ⟨rfl, g3⟩
    go_wp2_with fail
    go_ret
    exact ⟨rfl, grown_trans (grown_trans g1 g2) g3⟩
  · have rz1 : (r == 0) = false := by simpa using rz
    have hw1 : ¬ L < l := by omega
    go_enter Try.func4, Try.ntmps4
    go_wp2_with fail
    refine (downv _ _ _ _ _ ha hb hc D.out).mono ?_
    rintro e w1 ⟨rfl, g1⟩
    go_wp2_with fail
    refine (upv _ _ _ _ _ ha hb hc U.out).mono ?_
    rintro e w2 ⟨rfl, g2⟩
    go_wp2_with fail
    refine (long_lawn _ _ _ _ _ ha hb hL E).mono ?_
    rintro e w' ⟨rfl, rfl⟩
    go_wp2_with fail
    refine (long_lawn _ _ _ _ _ hd hc hl E2).mono ?_
    rintro e w' ⟨rfl, rfl⟩
    go_wp2_with fail
    refine (more_to _ _ _ _ _ _ hh hl hr hH hL E3).mono ?_
    rintro e w' ⟨rfl, rfl⟩
    go_wp2_with fail
    refine (awake _).mono ?_
    rintro e w3 ⟨rfl, g3⟩
    go_wp2_with fail
    go_ret
    exact ⟨rfl, grown_trans (grown_trans g1 g2) g3⟩

theorem satExact_walk (a b c : Int) (w : World) (ha : Num.Word a) (hb : Num.Word b) (hc : Num.Word c) :
    Calls Try.prog 4 #[.int .u64 a, .int .u64 b, .int .u64 c] w fun e w' => e = .returned (.bool true) ∧ Grown w w' := by
  have hn := Num.mul_nn ha hb
  by_cases c0 : c = 0
  · subst c0
    exact satExact_zero a b w ha hb hc
  have c2 : 0 < c := by have := hc.1; omega
  obtain ⟨H, L, e, hL⟩ := halves (a * b)
  obtain ⟨H0, H1⟩ := upper a b H L ha hb hL e
  have L0 := hL.1
  have L1 := hL.2
  by_cases c4 : Num.down a b c = 18446744073709551615
  · obtain ⟨f1, f2⟩ := Num.exact_never c2 c4
    have f4 : 18446744073709551615 * c ≤ a * b := by have := f1; rw [show Num.byc (a * b) c = 18446744073709551615 from c4] at this; exact this
    obtain ⟨h, l, e2, hl⟩ := halves (18446744073709551615 * c)
    have l0 := hl.1
    have l1 := hl.2
    exact satExact_never a b c H L h l w ha hb hc c2 hL hl c4 f2 e e2 (by omega)
  · obtain ⟨f1, f2⟩ := Num.exact_below c2 c4
    have f3 := Num.exact_up hn c2 f2
    have hd := Int.mul_ediv_add_emod (a * b) c
    have r0 := Int.emod_nonneg (a * b) (show c ≠ 0 by omega)
    have r1 := Int.emod_lt_of_pos (a * b) c2
    have d0 := Int.ediv_nonneg hn hc.1
    have c1 := hc.2
    rw [Int.mul_comm] at hd
    have f5 : a * b % c = 0 ∧ Num.up a b c = a * b / c ∨ ¬ a * b % c = 0 ∧ Num.up a b c = a * b / c + 1 := by
      by_cases hz : a * b % c = 0
      · left; refine ⟨hz, ?_⟩; rw [if_pos hz] at f3; exact f3
      · right; refine ⟨hz, ?_⟩; rw [if_neg hz] at f3; exact f3
    have f6 : Num.down a b c = a * b / c := f1
    clear f1 f3 c4
    generalize a * b / c = d at *
    generalize a * b % c = r at *
    have wd : Num.Word d := ⟨d0, by omega⟩
    obtain ⟨h, l, e2, hl⟩ := halves (d * c)
    obtain ⟨h0, h1⟩ := upper d c h l wd hc hl e2
    have l0 := hl.1
    have l1 := hl.2
    have e3 : H * 18446744073709551616 + L = h * 18446744073709551616 + l + r := by omega
    refine satExact_below a b c H L h l d (Num.up a b c) r w ha hb hc c2 hL hl wd ⟨h0, by omega⟩ ⟨H0, by omega⟩ ⟨r0, by omega⟩ f2 d0 r1 r0 f6 rfl e e2 e3 f5 ?_
    by_cases hw : h < H
    · left; refine ⟨hw, ?_⟩; rw [IntKind.wrap_u64]; omega
    · right; omega

end Go.Proofs.Ytkldplikbdlobaa
