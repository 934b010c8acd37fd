/-
  TreeTells' walk, at the program's own tree.
-/
import Derived.Test.YtagjgfmkfljneaaTreeTellsPlayed
import Derived.Test.YtagjgfmkfljneaaTreeProg
import Derived.Test.YtagjgfmkfljneaaTreeAwake
namespace Go.Proofs.Ytagjgfmkfljneaa
open Go.RowKit

theorem tree_quiet : QuietT treeK where
  len := fun h ok => by
    obtain ⟨b, B, c, n, G, t, rfl, L, e, el, s⟩ := at_open h
    rw [← el, show t.toL.length = n - 1 by omega]
    exact raw_len L.raw
  room := fun h ok => by
    obtain ⟨b, B, c, n, G, t, rfl, L, e, el, s⟩ := at_open h
    exact raw_room L.raw
theorem treeTells_walk (a0 : Int) (a1 : Option Addr) (len1 cap1 : Nat) (z1 : List (List Value)) (w : World) (w0 : (Lit.int .i64 a0).wf = true) (w1 : RowOf [some .u8, some .u64, some .u64, some .i64] w a1 len1 cap1 z1) :
    Calls Try.prog 3 #[.int .i64 a0, .slice a1 len1 cap1] w fun e w' => e = .returned (.bool true) ∧ Below w.heap.size w w' :=
  treeTells_of treeK tree_quiet (Lib.hid (awake_of treeK)) a0 (i64_wf w0) a1 len1 cap1 z1 w (Lib.hid w1)

end Go.Proofs.Ytagjgfmkfljneaa
