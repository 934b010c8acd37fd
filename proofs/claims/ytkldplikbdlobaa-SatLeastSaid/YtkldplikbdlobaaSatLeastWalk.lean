/-
  SatLeast's walk: for all numbers the law's text answers true.
-/
import Derived.Test.YtkldplikbdlobaaAwake
import Derived.Test.YtkldplikbdlobaaSatFacts
namespace Go.Proofs.Ytkldplikbdlobaa
open Go.RowKit
set_option linter.unusedVariables false

set_option maxHeartbeats 1000000 in
theorem satLeast_walk (n s r : Int) (w : World) (hn : Num.Word n) (hs : Num.Word s) (hr : Num.Word r) :
    Calls Try.prog 7 #[.int .u64 n, .int .u64 s, .int .u64 r] w fun e w' => e = .returned (.bool true) ∧ Grown w w' := by
  have s0 := hs.1
  have r0 := hr.1
  by_cases c0 : s = 0
  · subst c0
    go_enter Try.func7, Try.ntmps7
    go_wp2_with (go_at_call 21; refine (awake _).mono ?_; rintro e w1 ⟨rfl, g⟩)
    all_goals
      go_ret
      exact ⟨rfl, by repeat (first | exact Grown.refl _ | assumption | refine grown_trans ?_ (by assumption))⟩
  have c1 : (s == 0) = false := by simpa using c0
  by_cases c2 : r = 0
  · subst c2
    go_enter Try.func7, Try.ntmps7
    go_wp2_with (go_at_call 21; refine (awake _).mono ?_; rintro e w1 ⟨rfl, g⟩)
    all_goals
      go_ret
      exact ⟨rfl, by repeat (first | exact Grown.refl _ | assumption | refine grown_trans ?_ (by assumption))⟩
  have c3 : (r == 0) = false := by simpa using c2
  by_cases c4 : Num.up n s r = 18446744073709551615
  · have f1 := Num.never_pos hn (by omega) c4
    have C4 := Lib.hid c4
    clear c4
    go_enter Try.func7, Try.ntmps7
    go_wp2_with (first
      | (go_at_call 17; refine (upv _ _ _ _ _ hn hs hr C4.out).mono ?_; rintro e w1 ⟨rfl, g⟩)
      | (go_at_call 21; refine (awake _).mono ?_; rintro e w1 ⟨rfl, g⟩))
    all_goals
      go_ret
      exact ⟨rfl, by repeat (first | exact Grown.refl _ | assumption | refine grown_trans ?_ (by assumption))⟩
  have f2 := Num.least_ge hn (by omega) (by omega) c4
  have f3 := Num.least_lt hn (by omega) (by omega) c4
  obtain ⟨t, ht⟩ : ∃ t, Num.up n s r = t := ⟨_, rfl⟩
  have ht1 : Num.Word t := by rw [← ht]; exact Num.up_word hn hs hr
  rw [ht] at c4 f2 f3
  have HT := Lib.hid ht
  clear ht
  obtain ⟨t0, t1⟩ := ht1
  have ht2 : Num.Word t := ⟨t0, t1⟩
  have c5 : (t == 18446744073709551615) = false := by simpa using c4
  by_cases c6 : t = 0
  · subst c6
    clear f3
    go_enter Try.func7, Try.ntmps7
    go_wp2_with (first
      | (go_at_call 17; refine (upv _ _ _ _ _ hn hs hr HT.out).mono ?_; rintro e w1 ⟨rfl, g⟩)
      | (go_at_call 15; refine (sat_downG _ _ _ _ ht2 hr hs).mono ?_; rintro e w1 ⟨rfl, g⟩)
      | (go_at_call 21; refine (awake _).mono ?_; rintro e w1 ⟨rfl, g⟩))
    all_goals
      go_ret
      exact ⟨rfl, by repeat (first | exact Grown.refl _ | assumption | refine grown_trans ?_ (by assumption))⟩
  · have c7 : (t == 0) = false := by simpa using c6
    have ht3 : Num.Word (t - 1) := ⟨by omega, by omega⟩
    go_enter Try.func7, Try.ntmps7
    go_wp2_with (first
      | (go_at_call 17; refine (upv _ _ _ _ _ hn hs hr HT.out).mono ?_; rintro e w1 ⟨rfl, g⟩)
      | (go_at_call 15; refine (sat_downG _ _ _ _ ?_ hr hs).mono ?_; assumption; rintro e w1 ⟨rfl, g⟩)
      | (go_at_call 21; refine (awake _).mono ?_; rintro e w1 ⟨rfl, g⟩))
    all_goals
      go_ret
      exact ⟨rfl, by repeat (first | exact Grown.refl _ | assumption | refine grown_trans ?_ (by assumption))⟩

end Go.Proofs.Ytkldplikbdlobaa
