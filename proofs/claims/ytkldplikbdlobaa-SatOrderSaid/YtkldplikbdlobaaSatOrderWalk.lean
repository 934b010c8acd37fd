/-
  SatOrder's walk: for all numbers the law's text answers true.
-/
import Derived.Test.YtkldplikbdlobaaAwake
import Derived.Test.YtkldplikbdlobaaSatFacts
namespace Go.Proofs.Ytkldplikbdlobaa
open Go.RowKit
set_option linter.unusedVariables false

set_option maxHeartbeats 2000000 in
theorem satOrder_walk (a b c x y z : Int) (w : World) (ha : Num.Word a) (hb : Num.Word b) (hc : Num.Word c) (hx : Num.Word x) (hy : Num.Word y) (hz : Num.Word z) :
    Calls Try.prog 5 #[.int .u64 a, .int .u64 b, .int .u64 c, .int .u64 x, .int .u64 y, .int .u64 z] w fun e w' => e = .returned (.bool true) ∧ Grown w w' := by
  have hd := Num.add_word ha hx
  have he := Num.add_word hb hy
  have hf := Num.add_word hc hz
  have ld := Num.le_add ha hx
  have le := Num.le_add hb hy
  have lf := Num.le_add hc hz
  have f1 : ¬ Num.add a x < a := by omega
  have f2 : ¬ Num.add (Num.add a x) (Num.add b y) < Num.add a b := by have := Num.add_mono ld le; omega
  have f3 : ¬ Num.mul (Num.add a x) (Num.add b y) < Num.mul a b := by have := Num.mul_mono ha he ld le; omega
  have f4 : ¬ Num.sub (Num.add a x) b < Num.sub a b := by have := Num.sub_mono (b := b) ld; omega
  have f5 : ¬ Num.sub a b < Num.sub a (Num.add b y) := by have := Num.sub_anti (a := a) le; omega
  have f6 : ¬ Num.down (Num.add a x) (Num.add b y) c < Num.down a b c := by have := Num.down_mono ha he hc ld le; omega
  have f7 : ¬ Num.up (Num.add a x) (Num.add b y) c < Num.up a b c := by have := Num.up_mono ha he hc ld le; omega
  clear ld le
  by_cases c0 : c = 0
  · subst c0
    clear lf
    go_enter Try.func5, Try.ntmps5
    go_wp2_with (first
      | (go_at_call 9; refine (sat_add _ _ _ ?_ ?_).mono ?_; (repeat (first | assumption | apply Num.add_word | apply Num.mul_word | apply Num.sub_word)); (repeat (first | assumption | apply Num.add_word | apply Num.mul_word | apply Num.sub_word)); rintro e w' ⟨rfl, rfl⟩)
      | (go_at_call 13; refine (sat_mul _ _ _ ?_ ?_).mono ?_; (repeat (first | assumption | apply Num.add_word | apply Num.mul_word | apply Num.sub_word)); (repeat (first | assumption | apply Num.add_word | apply Num.mul_word | apply Num.sub_word)); rintro e w' ⟨rfl, rfl⟩)
      | (go_at_call 11; refine (sat_sub _ _ _ ?_ ?_).mono ?_; (repeat (first | assumption | apply Num.add_word | apply Num.mul_word | apply Num.sub_word)); (repeat (first | assumption | apply Num.add_word | apply Num.mul_word | apply Num.sub_word)); rintro e w' ⟨rfl, rfl⟩)
      | (go_at_call 15; refine (sat_downG _ _ _ _ ?_ ?_ ?_).mono ?_; (repeat (first | assumption | apply Num.add_word | apply Num.mul_word | apply Num.sub_word)); (repeat (first | assumption | apply Num.add_word | apply Num.mul_word | apply Num.sub_word)); (repeat (first | assumption | apply Num.add_word | apply Num.mul_word | apply Num.sub_word)); rintro e w1 ⟨rfl, g⟩)
      | (go_at_call 17; refine (sat_upG _ _ _ _ ?_ ?_ ?_).mono ?_; (repeat (first | assumption | apply Num.add_word | apply Num.mul_word | apply Num.sub_word)); (repeat (first | assumption | apply Num.add_word | apply Num.mul_word | apply Num.sub_word)); (repeat (first | assumption | apply Num.add_word | apply Num.mul_word | apply Num.sub_word)); rintro e w1 ⟨rfl, g⟩)
      | (go_at_call 21; refine (awake _).mono ?_; rintro e w1 ⟨rfl, g⟩))
    all_goals
      go_ret
      exact ⟨rfl, by repeat (first | exact Grown.refl _ | assumption | refine grown_trans ?_ (by assumption))⟩
  · have c1 : (c == 0) = false := by simpa using c0
    have hc0 := hc.1
    have f8 : Num.down a b (Num.add c z) ≤ Num.down a b c := Num.down_anti ha hb (by omega) lf
    have f9 : Num.up a b (Num.add c z) ≤ Num.up a b c := Num.up_anti ha hb (by omega) lf
    clear lf
    go_enter Try.func5, Try.ntmps5
    go_wp2_with (first
      | (go_at_call 9; refine (sat_add _ _ _ ?_ ?_).mono ?_; (repeat (first | assumption | apply Num.add_word | apply Num.mul_word | apply Num.sub_word)); (repeat (first | assumption | apply Num.add_word | apply Num.mul_word | apply Num.sub_word)); rintro e w' ⟨rfl, rfl⟩)
      | (go_at_call 13; refine (sat_mul _ _ _ ?_ ?_).mono ?_; (repeat (first | assumption | apply Num.add_word | apply Num.mul_word | apply Num.sub_word)); (repeat (first | assumption | apply Num.add_word | apply Num.mul_word | apply Num.sub_word)); rintro e w' ⟨rfl, rfl⟩)
      | (go_at_call 11; refine (sat_sub _ _ _ ?_ ?_).mono ?_; (repeat (first | assumption | apply Num.add_word | apply Num.mul_word | apply Num.sub_word)); (repeat (first | assumption | apply Num.add_word | apply Num.mul_word | apply Num.sub_word)); rintro e w' ⟨rfl, rfl⟩)
      | (go_at_call 15; refine (sat_downG _ _ _ _ ?_ ?_ ?_).mono ?_; (repeat (first | assumption | apply Num.add_word | apply Num.mul_word | apply Num.sub_word)); (repeat (first | assumption | apply Num.add_word | apply Num.mul_word | apply Num.sub_word)); (repeat (first | assumption | apply Num.add_word | apply Num.mul_word | apply Num.sub_word)); rintro e w1 ⟨rfl, g⟩)
      | (go_at_call 17; refine (sat_upG _ _ _ _ ?_ ?_ ?_).mono ?_; (repeat (first | assumption | apply Num.add_word | apply Num.mul_word | apply Num.sub_word)); (repeat (first | assumption | apply Num.add_word | apply Num.mul_word | apply Num.sub_word)); (repeat (first | assumption | apply Num.add_word | apply Num.mul_word | apply Num.sub_word)); rintro e w1 ⟨rfl, g⟩)
      | (go_at_call 21; refine (awake _).mono ?_; rintro e w1 ⟨rfl, g⟩))
    all_goals
      go_ret
      exact ⟨rfl, by repeat (first | exact Grown.refl _ | assumption | refine grown_trans ?_ (by assumption))⟩

end Go.Proofs.Ytkldplikbdlobaa
