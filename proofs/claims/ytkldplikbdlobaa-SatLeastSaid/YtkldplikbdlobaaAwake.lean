/-
  The chapter's examples (the law's 'awake') answer true; and the contracts of sat's functions with their answers by a name.
-/
import Derived.Test.YtkldplikbdlobaaSat
namespace Go.Proofs.Ytkldplikbdlobaa
open Go.RowKit
set_option linter.unusedVariables false

theorem grown_trans {a b c : World} (h : Grown a b) (k : Grown b c) : Grown a c :=
  ⟨World.keptBut_trans h.1 (World.keptBut_mono (fun _ f => f.elim) k.1), fun x => (k.2.1 x).trans (h.2.1 x), Nat.le_trans h.2.2 k.2.2⟩
theorem grown_drewN {a b : World} (h : Grown a b) (n : Nat) : Grown a (b.drewN n) := h

theorem addv (a b v : Int) (w : World) (ha : Num.Word a) (hb : Num.Word b) (H : Num.add a b = v) :
    Calls Try.prog 9 #[.int .u64 a, .int .u64 b] w fun e w' => e = .returned (.int .u64 v) ∧ w = w' := by
  subst H; exact sat_add a b w ha hb
theorem subv (a b v : Int) (w : World) (ha : Num.Word a) (hb : Num.Word b) (H : Num.sub a b = v) :
    Calls Try.prog 11 #[.int .u64 a, .int .u64 b] w fun e w' => e = .returned (.int .u64 v) ∧ w = w' := by
  subst H; exact sat_sub a b w ha hb
theorem mulv (a b v : Int) (w : World) (ha : Num.Word a) (hb : Num.Word b) (H : Num.mul a b = v) :
    Calls Try.prog 13 #[.int .u64 a, .int .u64 b] w fun e w' => e = .returned (.int .u64 v) ∧ w = w' := by
  subst H; exact sat_mul a b w ha hb
theorem clampv (x low high v : Int) (w : World) (hx : Num.Word x) (hl : Num.Word low) (hh : Num.Word high) (H : Num.clamp x low high = v) :
    Calls Try.prog 19 #[.int .u64 x, .int .u64 low, .int .u64 high] w fun e w' => e = .returned (.int .u64 v) ∧ w = w' := by
  subst H; exact sat_clamp x low high w hx hl hh
theorem downv (a b c v : Int) (w : World) (ha : Num.Word a) (hb : Num.Word b) (hc : Num.Word c) (H : Num.down a b c = v) :
    Calls Try.prog 15 #[.int .u64 a, .int .u64 b, .int .u64 c] w fun e w' => e = .returned (.int .u64 v) ∧ Grown w w' := by
  subst H
  refine (sat_down a b c w ha hb hc).mono ?_
  rintro e w' ⟨rfl, n, rfl⟩
  exact ⟨rfl, grown_drewN ((Grown.refl w).alloc _ _) n⟩
theorem upv (a b c v : Int) (w : World) (ha : Num.Word a) (hb : Num.Word b) (hc : Num.Word c) (H : Num.up a b c = v) :
    Calls Try.prog 17 #[.int .u64 a, .int .u64 b, .int .u64 c] w fun e w' => e = .returned (.int .u64 v) ∧ Grown w w' := by
  subst H
  refine (sat_up a b c w ha hb hc).mono ?_
  rintro e w' ⟨rfl, n, rfl⟩
  exact ⟨rfl, grown_drewN ((Grown.refl w).alloc _ _) n⟩

theorem sat_downG (a b c : Int) (w : World) (ha : Num.Word a) (hb : Num.Word b) (hc : Num.Word c) :
    Calls Try.prog 15 #[.int .u64 a, .int .u64 b, .int .u64 c] w fun e w' => e = .returned (.int .u64 (Num.down a b c)) ∧ Grown w w' := downv a b c _ w ha hb hc rfl
theorem sat_upG (a b c : Int) (w : World) (ha : Num.Word a) (hb : Num.Word b) (hc : Num.Word c) :
    Calls Try.prog 17 #[.int .u64 a, .int .u64 b, .int .u64 c] w fun e w' => e = .returned (.int .u64 (Num.up a b c)) ∧ Grown w w' := upv a b c _ w ha hb hc rfl

/-- What opening an argument of kind uint64 gives. -/
theorem word_of_wf {x : Int} (h : (Lit.int .u64 x).wf = true) : Num.Word x := by
  simp [Lit.wf, IntKind.min, IntKind.max, IntKind.signed, IntKind.bits] at h
  exact ⟨by omega, by omega⟩

theorem word_lit (n : Int) (h0 : 0 ≤ n) (h1 : n < 18446744073709551616) : Num.Word n := ⟨h0, h1⟩

set_option maxHeartbeats 400000 in
/-- The examples. -/
theorem awake (w : World) : Calls Try.prog 21 #[] w fun e w' => e = .returned (.bool true) ∧ Grown w w' := by
  go_enter Try.func21, Try.ntmps21
  go_wp2_with fail
  refine (addv 18446744073709551615 1 18446744073709551615 _ (word_lit _ (by decide) (by decide)) (word_lit _ (by decide) (by decide)) (by decide)).mono ?_
  rintro e w' ⟨rfl, rfl⟩
  go_wp2_with fail
  refine (subv 3 5 0 _ (word_lit _ (by decide) (by decide)) (word_lit _ (by decide) (by decide)) (by decide)).mono ?_
  rintro e w' ⟨rfl, rfl⟩
  go_wp2_with fail
  refine (mulv 4294967296 4294967296 18446744073709551615 _ (word_lit _ (by decide) (by decide)) (word_lit _ (by decide) (by decide)) (by decide)).mono ?_
  rintro e w' ⟨rfl, rfl⟩
  go_wp2_with fail
  refine (downv 10 10 3 33 _ (word_lit _ (by decide) (by decide)) (word_lit _ (by decide) (by decide)) (word_lit _ (by decide) (by decide)) (by decide)).mono ?_
  rintro e w1 ⟨rfl, g1⟩
  have G1 := Lib.hid g1; clear g1
  go_wp2_with fail
  refine (upv 10 10 3 34 _ (word_lit _ (by decide) (by decide)) (word_lit _ (by decide) (by decide)) (word_lit _ (by decide) (by decide)) (by decide)).mono ?_
  rintro e w2 ⟨rfl, g2⟩
  have G2 := Lib.hid (grown_trans G1.out g2); clear g2
  go_wp2_with fail
  refine (downv 18446744073709551615 18446744073709551615 18446744073709551615 18446744073709551615 _ (word_lit _ (by decide) (by decide)) (word_lit _ (by decide) (by decide)) (word_lit _ (by decide) (by decide)) (by decide)).mono ?_
  rintro e w3 ⟨rfl, g3⟩
  have G3 := Lib.hid (grown_trans G2.out g3); clear g3
  go_wp2_with fail
  refine (downv 1 1 0 18446744073709551615 _ (word_lit _ (by decide) (by decide)) (word_lit _ (by decide) (by decide)) (word_lit _ (by decide) (by decide)) (by decide)).mono ?_
  rintro e w4 ⟨rfl, g4⟩
  have G4 := Lib.hid (grown_trans G3.out g4); clear g4
  go_wp2_with fail
  refine (downv 0 5 7 0 _ (word_lit _ (by decide) (by decide)) (word_lit _ (by decide) (by decide)) (word_lit _ (by decide) (by decide)) (by decide)).mono ?_
  rintro e w5 ⟨rfl, g5⟩
  have G5 := Lib.hid (grown_trans G4.out g5); clear g5
  go_wp2_with fail
  refine (clampv 5 7 3 7 _ (word_lit _ (by decide) (by decide)) (word_lit _ (by decide) (by decide)) (word_lit _ (by decide) (by decide)) (by decide)).mono ?_
  rintro e w' ⟨rfl, rfl⟩
  go_wp2_with fail
  go_ret
  exact ⟨rfl, G5.out⟩

end Go.Proofs.Ytkldplikbdlobaa
