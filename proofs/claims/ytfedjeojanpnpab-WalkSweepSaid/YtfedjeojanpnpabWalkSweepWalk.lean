/-
  WalkSweep's walk, of the program's own tree.
-/
import Derived.Test.YtfedjeojanpnpabWalkSweepCore
import Derived.Test.YtfedjeojanpnpabWalkAwake
namespace Go.Proofs.Ytfedjeojanpnpab
open Go.RowKit
set_option linter.unusedVariables false

theorem walkSweep_walk (a0 : Option Addr) (len0 cap0 : Nat) (z0 : List (List Value)) (a1 : List Value) (a2 : Int) (w : World) (w0 : RowOf [some .u64, some .u64] w a0 len0 cap0 z0) (w1 : Fits [some .u64, some .u64] a1) (w2 : (Lit.int .u8 a2).wf = true) :
    Calls Try.prog 5 #[.slice a0 len0 cap0, .agg a1.toArray, .int .u8 a2] w fun e w' => e = .returned (.bool true) ∧ Below w.heap.size w w' := by
  obtain ⟨x, rfl, hx⟩ := nat_u8 w2
  obtain ⟨k, hk, e⟩ := key_of w1
  rw [e]
  exact walkSweep_core treeK k hk x hx w (keys_of w0) (Lib.hid (walk_awake treeK))

end Go.Proofs.Ytfedjeojanpnpab
