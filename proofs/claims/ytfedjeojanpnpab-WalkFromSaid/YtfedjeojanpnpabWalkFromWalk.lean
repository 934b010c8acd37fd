/-
  WalkFrom's walk, of the program's own tree.
-/
import Derived.Test.YtfedjeojanpnpabWalkFromCore
import Derived.Test.YtfedjeojanpnpabWalkAwake
namespace Go.Proofs.Ytfedjeojanpnpab
open Go.RowKit
set_option linter.unusedVariables false

theorem walkFrom_walk (a0 : Option Addr) (len0 cap0 : Nat) (z0 : List (List Value)) (a1 : List Value) (a2 a3 : Int) (w : World) (w0 : RowOf [some .u64, some .u64] w a0 len0 cap0 z0) (w1 : Fits [some .u64, some .u64] a1) (w2 : (Lit.int .u8 a2).wf = true) (w3 : (Lit.int .u8 a3).wf = true) :
    Calls Try.prog 7 #[.slice a0 len0 cap0, .agg a1.toArray, .int .u8 a2, .int .u8 a3] w fun e w' => e = .returned (.bool true) ∧ Below w.heap.size w w' := by
  obtain ⟨x, rfl, hx⟩ := nat_u8 w2
  obtain ⟨y, rfl, hy⟩ := nat_u8 w3
  obtain ⟨k, hk, e⟩ := key_of w1
  rw [e]
  exact walkFrom_core treeK k hk x y hx hy w (keys_of w0) (Lib.hid (walk_awake treeK))

end Go.Proofs.Ytfedjeojanpnpab
