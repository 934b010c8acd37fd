/-
  WalkTells' walk, of the program's own tree.
-/
import Derived.Test.YtfedjeojanpnpabWalkTellsCore
import Derived.Test.YtfedjeojanpnpabWalkAwake
namespace Go.Proofs.Ytfedjeojanpnpab
open Go.RowKit
set_option linter.unusedVariables false

theorem walkTells_walk (a0 : Option Addr) (len0 cap0 : Nat) (z0 : List (List Value)) (a1 : List Value) (a2 a3 : Int) (w : World) (w0 : RowOf [some .u64, some .u64] w a0 len0 cap0 z0) (w1 : Fits [some .u64, some .u64] a1) (w2 : (Lit.int .u64 a2).wf = true) (w3 : (Lit.int .i64 a3).wf = true) :
    Calls Try.prog 4 #[.slice a0 len0 cap0, .agg a1.toArray, .int .u64 a2, .int .i64 a3] w fun e w' => e = .returned (.bool true) ∧ Below w.heap.size w w' := by
  obtain ⟨t, rfl, ht⟩ := nat_u64 w2
  obtain ⟨k, hk, e⟩ := key_of w1
  rw [e]
  exact walkTells_core treeK k hk t ht a3 w (keys_of w0) (Lib.hid (walk_awake treeK))

end Go.Proofs.Ytfedjeojanpnpab
