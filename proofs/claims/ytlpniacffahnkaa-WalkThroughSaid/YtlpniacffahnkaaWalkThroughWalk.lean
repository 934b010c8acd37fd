/-
  WalkThrough's walk, of the program's own tree.
-/
import Derived.Test.YtlpniacffahnkaaWalkThroughCore
import Derived.Test.YtlpniacffahnkaaWalkAwake
namespace Go.Proofs.Ytlpniacffahnkaa
open Go.RowKit
set_option linter.unusedVariables false

theorem walkThrough_walk (a0 : Option Addr) (len0 cap0 : Nat) (z0 : List (List Value)) (a1 : Int) (a2 : Option Addr) (len2 cap2 : Nat) (z2 : List (List Value)) (a3 : Int) (w : World) (w0 : RowOf [some .u64, some .u64] w a0 len0 cap0 z0) (w1 : (Lit.int .u8 a1).wf = true) (w2 : RowOf [some .u64, some .u64] w a2 len2 cap2 z2) (w3 : (Lit.int .u8 a3).wf = true) :
    Calls Try.prog 6 #[.slice a0 len0 cap0, .int .u8 a1, .slice a2 len2 cap2, .int .u8 a3] w fun e w' => e = .returned (.bool true) ∧ Below w.heap.size w w' := by
  obtain ⟨x, rfl, hx⟩ := nat_u8 w1
  obtain ⟨y, rfl, hy⟩ := nat_u8 w3
  exact walkThrough_core treeK x y hx hy w (keys_of w0) (keys_of w2) (Lib.hid (walk_awake treeK))

end Go.Proofs.Ytlpniacffahnkaa
