/-
  TreeBack's walk, at the program's own tree.
-/
import Derived.Test.YtagjgfmkfljneaaTreeBackPlayed
import Derived.Test.YtagjgfmkfljneaaTreeNextWalk
namespace Go.Proofs.Ytagjgfmkfljneaa
open Go.RowKit

theorem treeBack_walk (a0 : Option Addr) (len0 cap0 : Nat) (z0 : List (List Value)) (a1 : List Value) (a2 : Option Addr) (len2 cap2 : Nat) (z2 : List (List Value)) (w : World) (w0 : RowOf [some .u8, some .u64, some .u64, some .i64] w a0 len0 cap0 z0) (w1 : Fits [some .u64, some .u64] a1) (w2 : RowOf [some .u8] w a2 len2 cap2 z2) :
    Calls Try.prog 7 #[.slice a0 len0 cap0, .agg a1.toArray, .slice a2 len2 cap2] w fun e w' => e = .returned (.bool true) ∧ Below w.heap.size w w' := by
  obtain ⟨k, hk, e⟩ := key_of w1
  rw [e]
  exact treeBack_of treeK (Lib.hid (awake_of treeK)) a0 len0 cap0 z0 k hk a2 len2 cap2 z2 w (Lib.hid w0) (Lib.hid w2)

end Go.Proofs.Ytagjgfmkfljneaa
