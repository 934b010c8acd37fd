/-
  SatJoins' walk: for all numbers the law's text answers true.
-/
import Derived.Test.YtkldplikbdlobaaAwake
import Derived.Test.YtkldplikbdlobaaSatFacts
namespace Go.Proofs.Ytkldplikbdlobaa
open Go.RowKit
set_option linter.unusedVariables false

theorem ne_false {a b : Int} (h : a = b) : (a != b) = false := by simp [h]
theorem eq_true' {a b : Int} (h : a = b) : (a == b) = true := by simp [h]

set_option maxHeartbeats 1000000 in
theorem satJoins_walk (a b c : Int) (w : World) (ha : Num.Word a) (hb : Num.Word b) (hc : Num.Word c) :
    Calls Try.prog 6 #[.int .u64 a, .int .u64 b, .int .u64 c] w fun e w' => e = .returned (.bool true) ∧ Grown w w' := by
  have f1 := ne_false (Num.add_comm a b)
  have f2 := ne_false (Num.mul_comm a b)
  have f3 := ne_false (Num.add_assoc ha hb hc)
  have f4 := ne_false (Num.parted ha hb hc)
  have f5 : 0 < a → 0 < c → (Num.mul (Num.mul a b) c != Num.mul a (Num.mul b c)) = false := fun h1 h2 => ne_false (Num.mul_assoc ha hb hc h1 h2)
  have f6 : ¬ Num.add a b = 18446744073709551615 → (Num.sub (Num.add a b) b == a) = true := fun h => eq_true' ((Num.back ha hb).resolve_left h)
  have f7 := eq_true' (Num.greater ha hb)
  have b1 := ha.1
  have b2 := hc.1
  go_enter Try.func6, Try.ntmps6
  go_wp2_with (first
    | (go_at_call 9; refine (sat_add _ _ _ ?_ ?_).mono ?_; (repeat (first | assumption | apply Num.add_word | apply Num.mul_word | apply Num.sub_word)); (repeat (first | assumption | apply Num.add_word | apply Num.mul_word | apply Num.sub_word)); rintro e w' ⟨rfl, rfl⟩)
    | (go_at_call 13; refine (sat_mul _ _ _ ?_ ?_).mono ?_; (repeat (first | assumption | apply Num.add_word | apply Num.mul_word | apply Num.sub_word)); (repeat (first | assumption | apply Num.add_word | apply Num.mul_word | apply Num.sub_word)); rintro e w' ⟨rfl, rfl⟩)
    | (go_at_call 11; refine (sat_sub _ _ _ ?_ ?_).mono ?_; (repeat (first | assumption | apply Num.add_word | apply Num.mul_word | apply Num.sub_word)); (repeat (first | assumption | apply Num.add_word | apply Num.mul_word | apply Num.sub_word)); rintro e w' ⟨rfl, rfl⟩)
    | (go_at_call 21; refine (awake _).mono ?_; rintro e w1 ⟨rfl, g⟩))
  all_goals
    go_ret
    exact ⟨rfl, by assumption⟩

end Go.Proofs.Ytkldplikbdlobaa
