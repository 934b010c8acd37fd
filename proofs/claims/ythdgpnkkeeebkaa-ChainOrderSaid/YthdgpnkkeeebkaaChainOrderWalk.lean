/-
  ChainOrder's walk, at the program's own chains.
-/
import Derived.Test.YthdgpnkkeeebkaaChainOrderPlayed
import Derived.Test.YthdgpnkkeeebkaaChainProg
import Derived.Test.YthdgpnkkeeebkaaChainAwake
namespace Go.Proofs.Ythdgpnkkeeebkaa
open Go.RowKit

theorem chainOrder_walk (a0 : Option Addr) (len0 cap0 : Nat) (z0 : List (List Value)) (a1 : Int) (a2 : Option Addr) (len2 cap2 : Nat) (z2 : List (List Value)) (a3 : Option Addr) (len3 cap3 : Nat) (z3 : List (List Value)) (w : World) (w0 : RowOf [some .u8, some .i64, some .i64] w a0 len0 cap0 z0) (w1 : (Lit.int .u8 a1).wf = true) (w2 : RowOf [some .u8] w a2 len2 cap2 z2) (w3 : RowOf [some .u8] w a3 len3 cap3 z3) :
    Calls Try.prog 4 #[.slice a0 len0 cap0, .int .u8 a1, .slice a2 len2 cap2, .slice a3 len3 cap3] w fun e w' => e = .returned (.bool true) ∧ Below w.heap.size w w' := by
  obtain ⟨r, rfl, hr⟩ := nat_u8 w1
  exact chainOrder_of chainK (Lib.hid (awake_of chainK)) a0 len0 cap0 z0 r hr a2 len2 cap2 z2 a3 len3 cap3 z3 w (Lib.hid w0) (Lib.hid w2) (Lib.hid w3)

end Go.Proofs.Ythdgpnkkeeebkaa
