/-
  TreeOrder's walk, of the program's own tree.
-/
import Derived.Test.YtfedjeojanpnpabTreeOrderCore
import Derived.Test.YtfedjeojanpnpabTreeProg
import Derived.Test.YtfedjeojanpnpabTreeAwake
namespace Go.Proofs.Ytfedjeojanpnpab
open Go.RowKit
set_option linter.unusedVariables false

theorem treeOrder_walk (a0 : Option Addr) (len0 cap0 : Nat) (z0 : List (List Value)) (a1 : Option Addr) (len1 cap1 : Nat) (z1 : List (List Value)) (a2 : Option Addr) (len2 cap2 : Nat) (z2 : List (List Value)) (w : World) (w0 : RowOf [some .u64, some .u64] w a0 len0 cap0 z0) (w1 : RowOf [some .u8] w a1 len1 cap1 z1) (w2 : RowOf [some .u64, some .u64] w a2 len2 cap2 z2) :
    Calls Try.prog 3 #[.slice a0 len0 cap0, .slice a1 len1 cap1, .slice a2 len2 cap2] w fun e w' => e = .returned (.bool true) ∧ Below w.heap.size w w' :=
  treeOrder_core treeK w (keys_of w0) (bytes_of w1) (keys_of w2) (Lib.hid (awake_of treeK))

end Go.Proofs.Ytfedjeojanpnpab
