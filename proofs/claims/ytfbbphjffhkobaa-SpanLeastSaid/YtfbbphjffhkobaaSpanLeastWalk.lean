/-
  SpanLeast's walk: for all numbers the law's text answers true.
-/
import Derived.Test.YtfbbphjffhkobaaSpanFacts
import Derived.Test.YtfbbphjffhkobaaSpanAwake
namespace Go.Proofs.Ytfbbphjffhkobaa
open Go.RowKit
set_option linter.unusedVariables false

set_option maxHeartbeats 1000000 in
theorem spanLeast_walk (n r : Int) (w : World) (hn : Num.Word n) (hr : Num.Word r) :
    Calls Try.prog 4 #[.int .u64 n, .int .u64 r] w fun e w' => e = .returned (.bool true) ∧ Grown w w' := by
  have r0 := hr.1
  by_cases c2 : r = 0
  · subst c2
    have t0 := Lib.hid (Num.time_none n)
    have b0 := Lib.hid (Num.bytes_none n)
    go_enter Try.func4, Try.ntmps4
    go_wp2_with (first
      | (go_at_call 9; refine (timev _ _ _ _ hn Num.zero_word t0.out).mono ?_; rintro e w1 ⟨rfl, g⟩)
      | (go_at_call 11; refine (bytesv _ _ _ _ hn Num.zero_word b0.out).mono ?_; rintro e w1 ⟨rfl, g⟩)
      | (go_at_call 19; refine (awake2 _).mono ?_; rintro e w1 ⟨rfl, g⟩))
    all_goals
    go_ret
    exact ⟨rfl, by repeat (first | exact Grown.refl _ | assumption | refine grown_trans ?_ (by assumption))⟩
  have c3 : (r == 0) = false := by simpa using c2
  have e1 := Num.time_pos (n := n) c2
  by_cases c4 : Num.time n r = 18446744073709551615
  · have f1 := Num.never_pos hn (by omega) (e1.symm.trans c4)
    have C4 := Lib.hid c4
    clear c4 e1
    go_enter Try.func4, Try.ntmps4
    go_wp2_with (first
      | (go_at_call 9; refine (timev _ _ _ _ hn hr C4.out).mono ?_; rintro e w1 ⟨rfl, g⟩)
      | (go_at_call 19; refine (awake2 _).mono ?_; rintro e w1 ⟨rfl, g⟩))
    all_goals
    go_ret
    exact ⟨rfl, by repeat (first | exact Grown.refl _ | assumption | refine grown_trans ?_ (by assumption))⟩
  have f2 : n ≤ Num.bytes (Num.time n r) r := by rw [Num.bytes_pos c2, e1]; exact Num.least_ge hn (by omega) (by omega) (by rw [← e1]; exact c4)
  have f3 : Num.bytes (Num.time n r - 1) r < n := by rw [Num.bytes_pos c2, e1]; exact Num.least_lt hn (by omega) (by omega) (by rw [← e1]; exact c4)
  have ht1 := Num.time_word hn hr
  clear e1
  obtain ⟨t, ht⟩ : ∃ t, Num.time n r = t := ⟨_, rfl⟩
  rw [ht] at c4 f2 f3 ht1
  have HT := Lib.hid ht
  clear ht
  obtain ⟨t0, t1⟩ := ht1
  have ht2 : Num.Word t := ⟨t0, t1⟩
  have c5 : (t == 18446744073709551615) = false := by simpa using c4
  by_cases c6 : t = 0
  · subst c6
    clear f3
    go_enter Try.func4, Try.ntmps4
    go_wp2_with (first
      | (go_at_call 9; refine (timev _ _ _ _ hn hr HT.out).mono ?_; rintro e w1 ⟨rfl, g⟩)
      | (go_at_call 11; refine (span_bytes _ _ _ ht2 hr).mono ?_; rintro e w1 ⟨rfl, g⟩)
      | (go_at_call 19; refine (awake2 _).mono ?_; rintro e w1 ⟨rfl, g⟩))
    all_goals
    go_ret
    exact ⟨rfl, by repeat (first | exact Grown.refl _ | assumption | refine grown_trans ?_ (by assumption))⟩
  · have c7 : (t == 0) = false := by simpa using c6
    have ht3 : Num.Word (t - 1) := ⟨by omega, by omega⟩
    go_enter Try.func4, Try.ntmps4
    go_wp2_with (first
      | (go_at_call 9; refine (timev _ _ _ _ hn hr HT.out).mono ?_; rintro e w1 ⟨rfl, g⟩)
      | (go_at_call 11; refine (span_bytes _ _ _ ?_ hr).mono ?_; assumption; rintro e w1 ⟨rfl, g⟩)
      | (go_at_call 19; refine (awake2 _).mono ?_; rintro e w1 ⟨rfl, g⟩))
    all_goals
    go_ret
    exact ⟨rfl, by repeat (first | exact Grown.refl _ | assumption | refine grown_trans ?_ (by assumption))⟩

end Go.Proofs.Ytfbbphjffhkobaa
