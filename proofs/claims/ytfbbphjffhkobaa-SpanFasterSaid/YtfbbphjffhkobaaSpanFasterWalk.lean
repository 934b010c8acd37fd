/-
  SpanFaster's walk: for all numbers the law's text answers true.
-/
import Derived.Test.YtfbbphjffhkobaaSpanFacts
import Derived.Test.YtfbbphjffhkobaaSpanAwake
namespace Go.Proofs.Ytfbbphjffhkobaa
open Go.RowKit
set_option linter.unusedVariables false

theorem eq_true2 {a b : Int} (h : a = b) : (a == b) = true := by simp [h]

set_option maxHeartbeats 4000000 in
theorem spanFaster_walk (n more a b : Int) (w : World) (hn : Num.Word n) (hm : Num.Word more) (ha : Num.Word a) (hb : Num.Word b) :
    Calls Try.prog 6 #[.int .u64 n, .int .u64 more, .int .u64 a, .int .u64 b] w fun e w' => e = .returned (.bool true) ∧ Grown w w' := by
  have f1 : ¬ Num.time (Num.add n more) a < Num.time n a := by have := Num.time_mono hn ha (Num.le_add hn hm); omega
  have f2 : ¬ Num.bytes (Num.add n more) a < Num.bytes n a := by have := Num.bytes_mono hn ha (Num.le_add hn hm); omega
  have f5 := eq_true2 (Num.lesser_comm a b)
  have f6 := eq_true2 (Num.time_lesser hn ha hb)
  have f7 := eq_true2 (Num.bytes_lesser hn ha hb)
  have a0 := ha.1
  by_cases c : a = 0
  · subst c
    have c1 : ¬ (0 : Int) < 0 := by omega
    go_enter Try.func6, Try.ntmps6
    go_wp2_with (first
    | (go_at_call 20; refine (sat_add _ _ _ ?_ ?_).mono ?_; (repeat (first | assumption | apply Num.add_word | apply Num.time_word | apply Num.bytes_word | apply Num.lesser_word | apply Num.slot_word | apply Num.begin_word | apply Num.max_word | apply Num.min_word | exact Num.one_word | exact Num.zero_word)); (repeat (first | assumption | apply Num.add_word | apply Num.time_word | apply Num.bytes_word | apply Num.lesser_word | apply Num.slot_word | apply Num.begin_word | apply Num.max_word | apply Num.min_word | exact Num.one_word | exact Num.zero_word)); rintro e w' ⟨rfl, rfl⟩)
    | (go_at_call 9; refine (span_time _ _ _ ?_ ?_).mono ?_; (repeat (first | assumption | apply Num.add_word | apply Num.time_word | apply Num.bytes_word | apply Num.lesser_word | apply Num.slot_word | apply Num.begin_word | apply Num.max_word | apply Num.min_word | exact Num.one_word | exact Num.zero_word)); (repeat (first | assumption | apply Num.add_word | apply Num.time_word | apply Num.bytes_word | apply Num.lesser_word | apply Num.slot_word | apply Num.begin_word | apply Num.max_word | apply Num.min_word | exact Num.one_word | exact Num.zero_word)); rintro e w1 ⟨rfl, g⟩)
    | (go_at_call 11; refine (span_bytes _ _ _ ?_ ?_).mono ?_; (repeat (first | assumption | apply Num.add_word | apply Num.time_word | apply Num.bytes_word | apply Num.lesser_word | apply Num.slot_word | apply Num.begin_word | apply Num.max_word | apply Num.min_word | exact Num.one_word | exact Num.zero_word)); (repeat (first | assumption | apply Num.add_word | apply Num.time_word | apply Num.bytes_word | apply Num.lesser_word | apply Num.slot_word | apply Num.begin_word | apply Num.max_word | apply Num.min_word | exact Num.one_word | exact Num.zero_word)); rintro e w1 ⟨rfl, g⟩)
    | (go_at_call 13; refine (span_lesser _ _ _ ?_ ?_).mono ?_; (repeat (first | assumption | apply Num.add_word | apply Num.time_word | apply Num.bytes_word | apply Num.lesser_word | apply Num.slot_word | apply Num.begin_word | apply Num.max_word | apply Num.min_word | exact Num.one_word | exact Num.zero_word)); (repeat (first | assumption | apply Num.add_word | apply Num.time_word | apply Num.bytes_word | apply Num.lesser_word | apply Num.slot_word | apply Num.begin_word | apply Num.max_word | apply Num.min_word | exact Num.one_word | exact Num.zero_word)); rintro e w' ⟨rfl, rfl⟩)
    | (go_at_call 15; refine (span_slot _ _ _ ?_ ?_).mono ?_; (repeat (first | assumption | apply Num.add_word | apply Num.time_word | apply Num.bytes_word | apply Num.lesser_word | apply Num.slot_word | apply Num.begin_word | apply Num.max_word | apply Num.min_word | exact Num.one_word | exact Num.zero_word)); (repeat (first | assumption | apply Num.add_word | apply Num.time_word | apply Num.bytes_word | apply Num.lesser_word | apply Num.slot_word | apply Num.begin_word | apply Num.max_word | apply Num.min_word | exact Num.one_word | exact Num.zero_word)); rintro e w1 ⟨rfl, g⟩)
    | (go_at_call 17; refine (span_begin _ _ _ ?_ ?_).mono ?_; (repeat (first | assumption | apply Num.add_word | apply Num.time_word | apply Num.bytes_word | apply Num.lesser_word | apply Num.slot_word | apply Num.begin_word | apply Num.max_word | apply Num.min_word | exact Num.one_word | exact Num.zero_word)); (repeat (first | assumption | apply Num.add_word | apply Num.time_word | apply Num.bytes_word | apply Num.lesser_word | apply Num.slot_word | apply Num.begin_word | apply Num.max_word | apply Num.min_word | exact Num.one_word | exact Num.zero_word)); rintro e w' ⟨rfl, rfl⟩)
    | (go_at_call 19; refine (awake2 _).mono ?_; rintro e w1 ⟨rfl, g⟩))
    all_goals
    go_ret
    exact ⟨rfl, by repeat (first | exact Grown.refl _ | assumption | refine grown_trans ?_ (by assumption))⟩
  · have c1 : 0 < a := by omega
    have f3 : ¬ Num.time n a < Num.time n (Num.add a b) := by have := Num.time_anti hn c1 (Num.le_add ha hb); omega
    have f4 : ¬ Num.bytes n (Num.add a b) < Num.bytes n a := by have := Num.bytes_rate hn (Num.add_word ha hb) c1 (Num.le_add ha hb); omega
    go_enter Try.func6, Try.ntmps6
    go_wp2_with (first
    | (go_at_call 20; refine (sat_add _ _ _ ?_ ?_).mono ?_; (repeat (first | assumption | apply Num.add_word | apply Num.time_word | apply Num.bytes_word | apply Num.lesser_word | apply Num.slot_word | apply Num.begin_word | apply Num.max_word | apply Num.min_word | exact Num.one_word | exact Num.zero_word)); (repeat (first | assumption | apply Num.add_word | apply Num.time_word | apply Num.bytes_word | apply Num.lesser_word | apply Num.slot_word | apply Num.begin_word | apply Num.max_word | apply Num.min_word | exact Num.one_word | exact Num.zero_word)); rintro e w' ⟨rfl, rfl⟩)
    | (go_at_call 9; refine (span_time _ _ _ ?_ ?_).mono ?_; (repeat (first | assumption | apply Num.add_word | apply Num.time_word | apply Num.bytes_word | apply Num.lesser_word | apply Num.slot_word | apply Num.begin_word | apply Num.max_word | apply Num.min_word | exact Num.one_word | exact Num.zero_word)); (repeat (first | assumption | apply Num.add_word | apply Num.time_word | apply Num.bytes_word | apply Num.lesser_word | apply Num.slot_word | apply Num.begin_word | apply Num.max_word | apply Num.min_word | exact Num.one_word | exact Num.zero_word)); rintro e w1 ⟨rfl, g⟩)
    | (go_at_call 11; refine (span_bytes _ _ _ ?_ ?_).mono ?_; (repeat (first | assumption | apply Num.add_word | apply Num.time_word | apply Num.bytes_word | apply Num.lesser_word | apply Num.slot_word | apply Num.begin_word | apply Num.max_word | apply Num.min_word | exact Num.one_word | exact Num.zero_word)); (repeat (first | assumption | apply Num.add_word | apply Num.time_word | apply Num.bytes_word | apply Num.lesser_word | apply Num.slot_word | apply Num.begin_word | apply Num.max_word | apply Num.min_word | exact Num.one_word | exact Num.zero_word)); rintro e w1 ⟨rfl, g⟩)
    | (go_at_call 13; refine (span_lesser _ _ _ ?_ ?_).mono ?_; (repeat (first | assumption | apply Num.add_word | apply Num.time_word | apply Num.bytes_word | apply Num.lesser_word | apply Num.slot_word | apply Num.begin_word | apply Num.max_word | apply Num.min_word | exact Num.one_word | exact Num.zero_word)); (repeat (first | assumption | apply Num.add_word | apply Num.time_word | apply Num.bytes_word | apply Num.lesser_word | apply Num.slot_word | apply Num.begin_word | apply Num.max_word | apply Num.min_word | exact Num.one_word | exact Num.zero_word)); rintro e w' ⟨rfl, rfl⟩)
    | (go_at_call 15; refine (span_slot _ _ _ ?_ ?_).mono ?_; (repeat (first | assumption | apply Num.add_word | apply Num.time_word | apply Num.bytes_word | apply Num.lesser_word | apply Num.slot_word | apply Num.begin_word | apply Num.max_word | apply Num.min_word | exact Num.one_word | exact Num.zero_word)); (repeat (first | assumption | apply Num.add_word | apply Num.time_word | apply Num.bytes_word | apply Num.lesser_word | apply Num.slot_word | apply Num.begin_word | apply Num.max_word | apply Num.min_word | exact Num.one_word | exact Num.zero_word)); rintro e w1 ⟨rfl, g⟩)
    | (go_at_call 17; refine (span_begin _ _ _ ?_ ?_).mono ?_; (repeat (first | assumption | apply Num.add_word | apply Num.time_word | apply Num.bytes_word | apply Num.lesser_word | apply Num.slot_word | apply Num.begin_word | apply Num.max_word | apply Num.min_word | exact Num.one_word | exact Num.zero_word)); (repeat (first | assumption | apply Num.add_word | apply Num.time_word | apply Num.bytes_word | apply Num.lesser_word | apply Num.slot_word | apply Num.begin_word | apply Num.max_word | apply Num.min_word | exact Num.one_word | exact Num.zero_word)); rintro e w' ⟨rfl, rfl⟩)
    | (go_at_call 19; refine (awake2 _).mono ?_; rintro e w1 ⟨rfl, g⟩))
    all_goals
    go_ret
    exact ⟨rfl, by repeat (first | exact Grown.refl _ | assumption | refine grown_trans ?_ (by assumption))⟩

end Go.Proofs.Ytfbbphjffhkobaa
