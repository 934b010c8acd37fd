/-
  Small things that every walk takes: a world that grows, and what opening an argument gives.
-/
import Derived.Test.YtmokkbhfhbgkmaaRows
import Derived.Test.YtmokkbhfhbgkmaaNum
import Derived.WalkKit
import Derived.WalkSpells
import Derived.Lib.Hide
namespace Go.Proofs.Ytmokkbhfhbgkmaa
open Go.RowKit
set_option linter.unusedVariables false

theorem grown_trans {a b c : World} (h : Grown a b) (k : Grown b c) : Grown a c :=
  ⟨World.keptBut_trans h.1 (World.keptBut_mono (fun _ f => f.elim) k.1), fun x => (k.2.1 x).trans (h.2.1 x), Nat.le_trans h.2.2 k.2.2⟩

/-- What opening an argument of kind uint64 gives. -/
theorem word_of_wf {x : Int} (h : (Lit.int .u64 x).wf = true) : Num.Word x := by
  simp [Lit.wf, IntKind.min, IntKind.max, IntKind.signed, IntKind.bits] at h
  exact ⟨by omega, by omega⟩

theorem word_lit (n : Int) (h0 : 0 ≤ n) (h1 : n < 18446744073709551616) : Num.Word n := ⟨h0, h1⟩

end Go.Proofs.Ytmokkbhfhbgkmaa
