/-
  The contracts of sat's functions, with their answers by a name.
-/
import Derived.Test.YtmokkbhfhbgkmaaSat
import Derived.Test.YtmokkbhfhbgkmaaBase
namespace Go.Proofs.Ytmokkbhfhbgkmaa
open Go.RowKit
set_option linter.unusedVariables false

theorem grown_drewN {a b : World} (h : Grown a b) (n : Nat) : Grown a (b.drewN n) := h

theorem addv (a b v : Int) (w : World) (ha : Num.Word a) (hb : Num.Word b) (H : Num.add a b = v) :
    Calls Try.prog 39 #[.int .u64 a, .int .u64 b] w fun e w' => e = .returned (.int .u64 v) ∧ w = w' := by
  subst H; exact sat_add a b w ha hb




theorem downv (a b c v : Int) (w : World) (ha : Num.Word a) (hb : Num.Word b) (hc : Num.Word c) (H : Num.down a b c = v) :
    Calls Try.prog 70 #[.int .u64 a, .int .u64 b, .int .u64 c] w fun e w' => e = .returned (.int .u64 v) ∧ Grown w w' := by
  subst H
  refine (sat_down a b c w ha hb hc).mono ?_
  rintro e w' ⟨rfl, n, rfl⟩
  exact ⟨rfl, grown_drewN ((Grown.refl w).alloc _ _) n⟩

theorem upv (a b c v : Int) (w : World) (ha : Num.Word a) (hb : Num.Word b) (hc : Num.Word c) (H : Num.up a b c = v) :
    Calls Try.prog 71 #[.int .u64 a, .int .u64 b, .int .u64 c] w fun e w' => e = .returned (.int .u64 v) ∧ Grown w w' := by
  subst H
  refine (sat_up a b c w ha hb hc).mono ?_
  rintro e w' ⟨rfl, n, rfl⟩
  exact ⟨rfl, grown_drewN ((Grown.refl w).alloc _ _) n⟩

theorem sat_downG (a b c : Int) (w : World) (ha : Num.Word a) (hb : Num.Word b) (hc : Num.Word c) :
    Calls Try.prog 70 #[.int .u64 a, .int .u64 b, .int .u64 c] w fun e w' => e = .returned (.int .u64 (Num.down a b c)) ∧ Grown w w' := downv a b c _ w ha hb hc rfl

theorem sat_upG (a b c : Int) (w : World) (ha : Num.Word a) (hb : Num.Word b) (hc : Num.Word c) :
    Calls Try.prog 71 #[.int .u64 a, .int .u64 b, .int .u64 c] w fun e w' => e = .returned (.int .u64 (Num.up a b c)) ∧ Grown w w' := upv a b c _ w ha hb hc rfl

end Go.Proofs.Ytmokkbhfhbgkmaa
