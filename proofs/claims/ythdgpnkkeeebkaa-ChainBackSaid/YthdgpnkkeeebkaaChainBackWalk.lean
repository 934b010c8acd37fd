/-
  ChainBack's walk, at the program's own chains.
-/
import Derived.Test.YthdgpnkkeeebkaaChainBackPlayed
import Derived.Test.YthdgpnkkeeebkaaChainProg
import Derived.Test.YthdgpnkkeeebkaaChainAwake
namespace Go.Proofs.Ythdgpnkkeeebkaa
open Go.RowKit

theorem chainBack_walk (a0 : Option Addr) (len0 cap0 : Nat) (z0 : List (List Value)) (a1 a2 : Int) (w : World) (w0 : RowOf [some .u8, some .i64, some .i64] w a0 len0 cap0 z0) (w1 : (Lit.int .u8 a1).wf = true) (w2 : (Lit.int .u8 a2).wf = true) :
    Calls Try.prog 7 #[.slice a0 len0 cap0, .int .u8 a1, .int .u8 a2] w fun e w' => e = .returned (.bool true) ∧ Below w.heap.size w w' := by
  obtain ⟨r, rfl, hr⟩ := nat_u8 w1
  obtain ⟨s, rfl, hs⟩ := nat_u8 w2
  exact chainBack_of chainK (Lib.hid (awake_of chainK)) a0 len0 cap0 z0 r s hr hs w (Lib.hid w0)

end Go.Proofs.Ythdgpnkkeeebkaa
