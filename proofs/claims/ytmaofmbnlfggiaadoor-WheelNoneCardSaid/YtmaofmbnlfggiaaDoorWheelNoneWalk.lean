/-
  WheelNone, of the program's own wheel.
-/
import Derived.Test.YtmaofmbnlfggiaaDoorWheelHeldWalk
import Derived.Test.YtmaofmbnlfggiaaDoorWheelNoneCore
namespace Go.Proofs.YtmaofmbnlfggiaaDoor
open Go.RowKit
set_option linter.unusedVariables false

/-- Below w.heap.size w w' -/
theorem wheelNone_walk (a0 a1 : Int) (w : World) (w0 : (Lit.int .u64 a0).wf = true) (w1 : (Lit.int .u64 a1).wf = true) (hT : Tab w) :
    Calls Tryd.prog 8 #[.int .u64 a0, .int .u64 a1] w fun e w' => e = .returned (.bool true) ∧ Below w.heap.size w w' :=
  wheelNone_of a0 a1 w hT (Lib.hid awake9)

end Go.Proofs.YtmaofmbnlfggiaaDoor
