/-
  WalkTake's walk.
-/
import Derived.Test.YtfedjeojanpnpabWalkTakeCore
import Derived.Test.YtfedjeojanpnpabWalkAwake
import Derived.Test.YtfedjeojanpnpabTreeProg
namespace Go.Proofs.Ytfedjeojanpnpab
open Go.RowKit
set_option linter.unusedVariables false

theorem walkTake_walk (A : Option Addr) (len cap : Nat) (rows : List (List Value)) (t : Int) (B : Option Addr) (blen bcap : Nat) (rows' : List (List Value)) (w : World) (hk : RowOf [some .u64, some .u64] w A len cap rows) (ht : (Lit.int .u64 t).wf = true) (hb : RowOf [some .u8] w B blen bcap rows') :
    Calls Try.prog 6 #[.slice A len cap, .int .u64 t, .slice B blen bcap] w fun e w' => e = .returned (.bool true) ∧ Below w.heap.size w w' := by
  obtain ⟨y, rfl, hy⟩ := nat_u64 ht
  exact walkTake_core treeK y hy w (keys_of hk) (bytes_of hb) (Lib.hid (walk_awake treeK))

end Go.Proofs.Ytfedjeojanpnpab
