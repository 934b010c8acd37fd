/-
  The examples of layer 2's chapter (the law's 'awake') answer true.
-/
import Derived.Test.YtfbbphjffhkobaaSpan
namespace Go.Proofs.Ytfbbphjffhkobaa
open Go.RowKit
set_option linter.unusedVariables false

theorem timev (a b v : Int) (w : World) (ha : Num.Word a) (hb : Num.Word b) (H : Num.time a b = v) :
    Calls Try.prog 9 #[.int .u64 a, .int .u64 b] w fun e w' => e = .returned (.int .u64 v) ∧ Grown w w' := by
  subst H; exact span_time a b w ha hb
theorem bytesv (a b v : Int) (w : World) (ha : Num.Word a) (hb : Num.Word b) (H : Num.bytes a b = v) :
    Calls Try.prog 11 #[.int .u64 a, .int .u64 b] w fun e w' => e = .returned (.int .u64 v) ∧ Grown w w' := by
  subst H; exact span_bytes a b w ha hb
theorem lesserv (a b v : Int) (w : World) (ha : Num.Word a) (hb : Num.Word b) (H : Num.lesser a b = v) :
    Calls Try.prog 13 #[.int .u64 a, .int .u64 b] w fun e w' => e = .returned (.int .u64 v) ∧ w = w' := by
  subst H; exact span_lesser a b w ha hb
theorem slotv (a b v : Int) (w : World) (ha : Num.Word a) (hb : Num.Word b) (H : Num.slot a b = v) :
    Calls Try.prog 15 #[.int .u64 a, .int .u64 b] w fun e w' => e = .returned (.int .u64 v) ∧ Grown w w' := by
  subst H; exact span_slot a b w ha hb
theorem beginv (a b v : Int) (w : World) (ha : Num.Word a) (hb : Num.Word b) (H : Num.begin' a b = v) :
    Calls Try.prog 17 #[.int .u64 a, .int .u64 b] w fun e w' => e = .returned (.int .u64 v) ∧ w = w' := by
  subst H; exact span_begin a b w ha hb

set_option maxHeartbeats 1000000 in
/-- The examples. -/
theorem awake2 (w : World) : Calls Try.prog 19 #[] w fun e w' => e = .returned (.bool true) ∧ Grown w w' := by
  go_enter Try.func19, Try.ntmps19
  go_wp2_with fail
  refine (timev 1500 1000 1500000000 _ (word_lit _ (by decide) (by decide)) (word_lit _ (by decide) (by decide)) (by decide)).mono ?_
  rintro e w1 ⟨rfl, g1⟩
  have G1 := Lib.hid g1; clear g1
  go_wp2_with fail
  refine (timev 1 3 333333334 _ (word_lit _ (by decide) (by decide)) (word_lit _ (by decide) (by decide)) (by decide)).mono ?_
  rintro e w2 ⟨rfl, g2⟩
  have G2 := Lib.hid (grown_trans G1.out g2); clear g2
  go_wp2_with fail
  refine (timev 5 0 0 _ (word_lit _ (by decide) (by decide)) (word_lit _ (by decide) (by decide)) (by decide)).mono ?_
  rintro e w3 ⟨rfl, g3⟩
  have G3 := Lib.hid (grown_trans G2.out g3); clear g3
  go_wp2_with fail
  refine (bytesv 333333333 3 0 _ (word_lit _ (by decide) (by decide)) (word_lit _ (by decide) (by decide)) (by decide)).mono ?_
  rintro e w4 ⟨rfl, g4⟩
  have G4 := Lib.hid (grown_trans G3.out g4); clear g4
  go_wp2_with fail
  refine (bytesv 333333334 3 1 _ (word_lit _ (by decide) (by decide)) (word_lit _ (by decide) (by decide)) (by decide)).mono ?_
  rintro e w5 ⟨rfl, g5⟩
  have G5 := Lib.hid (grown_trans G4.out g5); clear g5
  go_wp2_with fail
  refine (lesserv 0 7 7 _ (word_lit _ (by decide) (by decide)) (word_lit _ (by decide) (by decide)) (by decide)).mono ?_
  rintro e w' ⟨rfl, rfl⟩
  go_wp2_with fail
  refine (slotv 10 4 3 _ (word_lit _ (by decide) (by decide)) (word_lit _ (by decide) (by decide)) (by decide)).mono ?_
  rintro e w6 ⟨rfl, g6⟩
  have G6 := Lib.hid (grown_trans G5.out g6); clear g6
  go_wp2_with fail
  refine (slotv 8 4 2 _ (word_lit _ (by decide) (by decide)) (word_lit _ (by decide) (by decide)) (by decide)).mono ?_
  rintro e w7 ⟨rfl, g7⟩
  have G7 := Lib.hid (grown_trans G6.out g7); clear g7
  go_wp2_with fail
  refine (beginv 3 4 12 _ (word_lit _ (by decide) (by decide)) (word_lit _ (by decide) (by decide)) (by decide)).mono ?_
  rintro e w' ⟨rfl, rfl⟩
  go_wp2_with fail
  go_ret
  exact ⟨rfl, G7.out⟩

end Go.Proofs.Ytfbbphjffhkobaa
