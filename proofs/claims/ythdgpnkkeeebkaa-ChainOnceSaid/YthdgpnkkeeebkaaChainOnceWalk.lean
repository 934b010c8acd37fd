/-
  ChainOnce's walk, at the program's own chains.
-/
import Derived.Test.YthdgpnkkeeebkaaChainOncePlayed
import Derived.Test.YthdgpnkkeeebkaaChainProg
import Derived.Test.YthdgpnkkeeebkaaChainAwake
namespace Go.Proofs.Ythdgpnkkeeebkaa
open Go.RowKit

theorem chainOnce_walk (a0 : Option Addr) (len0 cap0 : Nat) (z0 : List (List Value)) (w : World) (w0 : RowOf [some .u8, some .i64, some .i64] w a0 len0 cap0 z0) :
    Calls Try.prog 5 #[.slice a0 len0 cap0] w fun e w' => e = .returned (.bool true) ∧ Below w.heap.size w w' :=
  chainOnce_of chainK (Lib.hid (awake_of chainK)) a0 len0 cap0 z0 w (Lib.hid w0)

end Go.Proofs.Ythdgpnkkeeebkaa
