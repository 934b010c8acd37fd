/-
  SatClamp's walk: for all numbers the law's text answers true.
-/
import Derived.Test.YtkldplikbdlobaaAwake
namespace Go.Proofs.Ytkldplikbdlobaa
open Go.RowKit
set_option linter.unusedVariables false

set_option maxHeartbeats 2000000 in
/-- What is clamped to y, and y again: by where y is. -/
theorem satClamp_way (x low high y : Int) (w : World) (hx : Num.Word x) (hl : Num.Word low) (hh : Num.Word high) (hy : Num.Word y)
    (H1 : Hid (Num.clamp x low high = y)) (H2 : Hid (Num.clamp y low high = y)) (h : high < low ∧ y = low ∨ low ≤ high ∧ x < low ∧ y = low ∨ low ≤ high ∧ low ≤ x ∧ high < x ∧ y = high ∨ low ≤ x ∧ x ≤ high ∧ y = x) :
    Calls Try.prog 8 #[.int .u64 x, .int .u64 low, .int .u64 high] w fun e w' => e = .returned (.bool true) ∧ Grown w w' := by
  rcases h with ⟨c1, rfl⟩ | ⟨c1, c2, rfl⟩ | ⟨c1, c2, c3, rfl⟩ | ⟨c1, c2, rfl⟩
  all_goals
    go_enter Try.func8, Try.ntmps8
    go_wp2_with fail
    refine (clampv _ _ _ _ _ hx hl hh H1.out).mono ?_
    rintro e w' ⟨rfl, rfl⟩
    go_wp2_with fail
    all_goals
      refine (clampv _ _ _ _ _ hy hl hh H2.out).mono ?_
      rintro e w' ⟨rfl, rfl⟩
      go_wp2_with fail
      all_goals
        refine (awake _).mono ?_
        rintro e w1 ⟨rfl, g⟩
        go_wp2_with fail
        go_ret
        exact ⟨rfl, g⟩

theorem satClamp_walk (x low high : Int) (w : World) (hx : Num.Word x) (hl : Num.Word low) (hh : Num.Word high) :
    Calls Try.prog 8 #[.int .u64 x, .int .u64 low, .int .u64 high] w fun e w' => e = .returned (.bool true) ∧ Grown w w' := by
  refine satClamp_way x low high (Num.clamp x low high) w hx hl hh (Num.clamp_word hx hl hh) rfl ?_ ?_
  · show Num.clamp _ _ _ = _
    unfold Num.clamp
    repeat' split
    all_goals omega
  · unfold Num.clamp
    repeat' split
    all_goals omega

end Go.Proofs.Ytkldplikbdlobaa
