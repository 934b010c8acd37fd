/-
  SpanParts' walk: for all numbers the law's text answers true.
-/
import Derived.Test.YtfbbphjffhkobaaSpanFacts
import Derived.Test.YtfbbphjffhkobaaSpanAwake
namespace Go.Proofs.Ytfbbphjffhkobaa
open Go.RowKit
set_option linter.unusedVariables false

set_option maxHeartbeats 4000000 in
theorem spanParts_way (a b r x y z : Int) (w : World) (ha : 0 ≤ a) (ha1 : a < 1099511627776) (hb : 0 ≤ b) (hb1 : b < 1099511627776) (hr : 0 < r) (hr1 : r ≤ 1099511627776) (ex : x % 1099511627776 = a) (ey : y % 1099511627776 = b) (ez : 1 + z % 1099511627776 = r) (hx : Num.Word x) (hy : Num.Word y) (hz : Num.Word z) :
    Calls Try.prog 5 #[.int .u64 x, .int .u64 y, .int .u64 z] w fun e w' => e = .returned (.bool true) ∧ Grown w w' := by
  have hwa : Num.Word a := ⟨by omega, by omega⟩
  have hwb : Num.Word b := ⟨by omega, by omega⟩
  have hwr : Num.Word r := ⟨by omega, by omega⟩
  have hwab : Num.Word (a + b) := ⟨by omega, by omega⟩
  have wab : IntKind.u64.wrap (a + b) = a + b := by rw [IntKind.wrap_u64]; omega
  have f1 : ¬ Num.bytes (a + b) r < Num.add (Num.bytes a r) (Num.bytes b r) := by have := (Num.bytes_parts hwa hwb hr).1; omega
  have f2 : ¬ Num.add (Num.add (Num.bytes a r) (Num.bytes b r)) 1 < Num.bytes (a + b) r := by have := (Num.bytes_parts hwa hwb hr).2; omega
  have f3 := (Num.time_parts hwa hwb hr).1
  have f4 := (Num.time_parts hwa hwb hr).2
  obtain ⟨x0, x1⟩ := hx
  obtain ⟨y0, y1⟩ := hy
  obtain ⟨z0, z1⟩ := hz
  go_enter Try.func5, Try.ntmps5
  go_wp2_with (first
    | (go_at_call 20; refine (sat_add _ _ _ ?_ ?_).mono ?_; (repeat (first | assumption | apply Num.add_word | apply Num.time_word | apply Num.bytes_word | apply Num.lesser_word | apply Num.slot_word | apply Num.begin_word | apply Num.max_word | apply Num.min_word | exact Num.one_word | exact Num.zero_word)); (repeat (first | assumption | apply Num.add_word | apply Num.time_word | apply Num.bytes_word | apply Num.lesser_word | apply Num.slot_word | apply Num.begin_word | apply Num.max_word | apply Num.min_word | exact Num.one_word | exact Num.zero_word)); rintro e w' ⟨rfl, rfl⟩)
    | (go_at_call 9; refine (span_time _ _ _ ?_ ?_).mono ?_; (repeat (first | assumption | apply Num.add_word | apply Num.time_word | apply Num.bytes_word | apply Num.lesser_word | apply Num.slot_word | apply Num.begin_word | apply Num.max_word | apply Num.min_word | exact Num.one_word | exact Num.zero_word)); (repeat (first | assumption | apply Num.add_word | apply Num.time_word | apply Num.bytes_word | apply Num.lesser_word | apply Num.slot_word | apply Num.begin_word | apply Num.max_word | apply Num.min_word | exact Num.one_word | exact Num.zero_word)); rintro e w1 ⟨rfl, g⟩)
    | (go_at_call 11; refine (span_bytes _ _ _ ?_ ?_).mono ?_; (repeat (first | assumption | apply Num.add_word | apply Num.time_word | apply Num.bytes_word | apply Num.lesser_word | apply Num.slot_word | apply Num.begin_word | apply Num.max_word | apply Num.min_word | exact Num.one_word | exact Num.zero_word)); (repeat (first | assumption | apply Num.add_word | apply Num.time_word | apply Num.bytes_word | apply Num.lesser_word | apply Num.slot_word | apply Num.begin_word | apply Num.max_word | apply Num.min_word | exact Num.one_word | exact Num.zero_word)); rintro e w1 ⟨rfl, g⟩)
    | (go_at_call 13; refine (span_lesser _ _ _ ?_ ?_).mono ?_; (repeat (first | assumption | apply Num.add_word | apply Num.time_word | apply Num.bytes_word | apply Num.lesser_word | apply Num.slot_word | apply Num.begin_word | apply Num.max_word | apply Num.min_word | exact Num.one_word | exact Num.zero_word)); (repeat (first | assumption | apply Num.add_word | apply Num.time_word | apply Num.bytes_word | apply Num.lesser_word | apply Num.slot_word | apply Num.begin_word | apply Num.max_word | apply Num.min_word | exact Num.one_word | exact Num.zero_word)); rintro e w' ⟨rfl, rfl⟩)
    | (go_at_call 15; refine (span_slot _ _ _ ?_ ?_).mono ?_; (repeat (first | assumption | apply Num.add_word | apply Num.time_word | apply Num.bytes_word | apply Num.lesser_word | apply Num.slot_word | apply Num.begin_word | apply Num.max_word | apply Num.min_word | exact Num.one_word | exact Num.zero_word)); (repeat (first | assumption | apply Num.add_word | apply Num.time_word | apply Num.bytes_word | apply Num.lesser_word | apply Num.slot_word | apply Num.begin_word | apply Num.max_word | apply Num.min_word | exact Num.one_word | exact Num.zero_word)); rintro e w1 ⟨rfl, g⟩)
    | (go_at_call 17; refine (span_begin _ _ _ ?_ ?_).mono ?_; (repeat (first | assumption | apply Num.add_word | apply Num.time_word | apply Num.bytes_word | apply Num.lesser_word | apply Num.slot_word | apply Num.begin_word | apply Num.max_word | apply Num.min_word | exact Num.one_word | exact Num.zero_word)); (repeat (first | assumption | apply Num.add_word | apply Num.time_word | apply Num.bytes_word | apply Num.lesser_word | apply Num.slot_word | apply Num.begin_word | apply Num.max_word | apply Num.min_word | exact Num.one_word | exact Num.zero_word)); rintro e w' ⟨rfl, rfl⟩)
    | (go_at_call 19; refine (awake2 _).mono ?_; rintro e w1 ⟨rfl, g⟩))
  all_goals
    go_ret
    exact ⟨rfl, by repeat (first | exact Grown.refl _ | assumption | refine grown_trans ?_ (by assumption))⟩
theorem spanParts_walk (x y z : Int) (w : World) (hx : Num.Word x) (hy : Num.Word y) (hz : Num.Word z) :
    Calls Try.prog 5 #[.int .u64 x, .int .u64 y, .int .u64 z] w fun e w' => e = .returned (.bool true) ∧ Grown w w' :=
  spanParts_way _ _ _ x y z w (by omega) (by omega) (by omega) (by omega) (by omega) (by omega) rfl rfl rfl hx hy hz

end Go.Proofs.Ytfbbphjffhkobaa
