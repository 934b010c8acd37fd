/-
  TreeShape's walk, at the program's own tree.
-/
import Derived.Test.YtagjgfmkfljneaaTreeShapePlayed
import Derived.Test.YtagjgfmkfljneaaTreeProg
import Derived.Test.YtagjgfmkfljneaaTreeAwake
namespace Go.Proofs.Ytagjgfmkfljneaa
open Go.RowKit

theorem treeShape_walk (a0 : Option Addr) (len0 cap0 : Nat) (z0 : List (List Value)) (w : World) (w0 : RowOf [some .u8, some .u64, some .u64, some .i64] w a0 len0 cap0 z0) :
    Calls Try.prog 4 #[.slice a0 len0 cap0] w fun e w' => e = .returned (.bool true) ∧ Below w.heap.size w w' :=
  treeShape_of treeK (Lib.hid (awake_of treeK)) a0 len0 cap0 z0 w (Lib.hid w0)

end Go.Proofs.Ytagjgfmkfljneaa
