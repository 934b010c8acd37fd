/-
  SpanOrder's walk: for all numbers the law's text answers true.
-/
import Derived.Test.YtfbbphjffhkobaaSpanFacts
import Derived.Test.YtfbbphjffhkobaaSpanAwake
namespace Go.Proofs.Ytfbbphjffhkobaa
open Go.RowKit
set_option linter.unusedVariables false

set_option maxHeartbeats 4000000 in
theorem spanOrder_walk (a b v more : Int) (w : World) (ha : Num.Word a) (hb : Num.Word b) (hv : Num.Word v) (hm : Num.Word more) :
    Calls Try.prog 8 #[.int .u64 a, .int .u64 b, .int .u64 v, .int .u64 more] w fun e w' => e = .returned (.bool true) ∧ Grown w w' := by
  have hv1 := Num.max_word hv Num.one_word
  have hl := Num.min_word ha hb
  have hh := Num.max_word ha hb
  have hle := Num.le_add hv1 hm
  have f1 : Num.slot (min a b) v ≤ Num.slot (max a b) v := Num.slot_mono hl hv (by omega)
  have f2 : Num.slot a (Num.add (max v 1) more) ≤ Num.slot a v := Num.slot_wider ha hv hle
  have f3 : Num.begin' (min a b) v ≤ Num.begin' (max a b) v := Num.begin_mono hl hv (by omega)
  have f4 : Num.begin' a v ≤ Num.begin' a (Num.add (max v 1) more) := Num.begin_wider ha hv (Num.add_word hv1 hm) hle
  clear hle
  go_enter Try.func8, Try.ntmps8
  go_wp2_with (first
    | (go_at_call 20; refine (sat_add _ _ _ ?_ ?_).mono ?_; (repeat (first | assumption | apply Num.add_word | apply Num.time_word | apply Num.bytes_word | apply Num.lesser_word | apply Num.slot_word | apply Num.begin_word | apply Num.max_word | apply Num.min_word | exact Num.one_word | exact Num.zero_word)); (repeat (first | assumption | apply Num.add_word | apply Num.time_word | apply Num.bytes_word | apply Num.lesser_word | apply Num.slot_word | apply Num.begin_word | apply Num.max_word | apply Num.min_word | exact Num.one_word | exact Num.zero_word)); rintro e w' ⟨rfl, rfl⟩)
    | (go_at_call 9; refine (span_time _ _ _ ?_ ?_).mono ?_; (repeat (first | assumption | apply Num.add_word | apply Num.time_word | apply Num.bytes_word | apply Num.lesser_word | apply Num.slot_word | apply Num.begin_word | apply Num.max_word | apply Num.min_word | exact Num.one_word | exact Num.zero_word)); (repeat (first | assumption | apply Num.add_word | apply Num.time_word | apply Num.bytes_word | apply Num.lesser_word | apply Num.slot_word | apply Num.begin_word | apply Num.max_word | apply Num.min_word | exact Num.one_word | exact Num.zero_word)); rintro e w1 ⟨rfl, g⟩)
    | (go_at_call 11; refine (span_bytes _ _ _ ?_ ?_).mono ?_; (repeat (first | assumption | apply Num.add_word | apply Num.time_word | apply Num.bytes_word | apply Num.lesser_word | apply Num.slot_word | apply Num.begin_word | apply Num.max_word | apply Num.min_word | exact Num.one_word | exact Num.zero_word)); (repeat (first | assumption | apply Num.add_word | apply Num.time_word | apply Num.bytes_word | apply Num.lesser_word | apply Num.slot_word | apply Num.begin_word | apply Num.max_word | apply Num.min_word | exact Num.one_word | exact Num.zero_word)); rintro e w1 ⟨rfl, g⟩)
    | (go_at_call 13; refine (span_lesser _ _ _ ?_ ?_).mono ?_; (repeat (first | assumption | apply Num.add_word | apply Num.time_word | apply Num.bytes_word | apply Num.lesser_word | apply Num.slot_word | apply Num.begin_word | apply Num.max_word | apply Num.min_word | exact Num.one_word | exact Num.zero_word)); (repeat (first | assumption | apply Num.add_word | apply Num.time_word | apply Num.bytes_word | apply Num.lesser_word | apply Num.slot_word | apply Num.begin_word | apply Num.max_word | apply Num.min_word | exact Num.one_word | exact Num.zero_word)); rintro e w' ⟨rfl, rfl⟩)
    | (go_at_call 15; refine (span_slot _ _ _ ?_ ?_).mono ?_; (repeat (first | assumption | apply Num.add_word | apply Num.time_word | apply Num.bytes_word | apply Num.lesser_word | apply Num.slot_word | apply Num.begin_word | apply Num.max_word | apply Num.min_word | exact Num.one_word | exact Num.zero_word)); (repeat (first | assumption | apply Num.add_word | apply Num.time_word | apply Num.bytes_word | apply Num.lesser_word | apply Num.slot_word | apply Num.begin_word | apply Num.max_word | apply Num.min_word | exact Num.one_word | exact Num.zero_word)); rintro e w1 ⟨rfl, g⟩)
    | (go_at_call 17; refine (span_begin _ _ _ ?_ ?_).mono ?_; (repeat (first | assumption | apply Num.add_word | apply Num.time_word | apply Num.bytes_word | apply Num.lesser_word | apply Num.slot_word | apply Num.begin_word | apply Num.max_word | apply Num.min_word | exact Num.one_word | exact Num.zero_word)); (repeat (first | assumption | apply Num.add_word | apply Num.time_word | apply Num.bytes_word | apply Num.lesser_word | apply Num.slot_word | apply Num.begin_word | apply Num.max_word | apply Num.min_word | exact Num.one_word | exact Num.zero_word)); rintro e w' ⟨rfl, rfl⟩)
    | (go_at_call 19; refine (awake2 _).mono ?_; rintro e w1 ⟨rfl, g⟩))
  all_goals
    go_ret
    exact ⟨rfl, by repeat (first | exact Grown.refl _ | assumption | refine grown_trans ?_ (by assumption))⟩

end Go.Proofs.Ytfbbphjffhkobaa
