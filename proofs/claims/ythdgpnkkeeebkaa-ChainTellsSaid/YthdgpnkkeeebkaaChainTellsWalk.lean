/-
  ChainTells' walk, at the program's own chains.
-/
import Derived.Test.YthdgpnkkeeebkaaChainTellsLoop
import Derived.Test.YthdgpnkkeeebkaaChainProg
import Derived.Test.YthdgpnkkeeebkaaChainAwake
namespace Go.Proofs.Ythdgpnkkeeebkaa
open Go.RowKit

theorem chainTells_walk (a0 a1 : Int) (a2 : Option Addr) (len2 cap2 : Nat) (z2 : List (List Value)) (w : World) (w0 : (Lit.int .i64 a0).wf = true) (w1 : (Lit.int .i64 a1).wf = true) (w2 : RowOf [some .u8, some .i64, some .i64] w a2 len2 cap2 z2) :
    Calls Try.prog 3 #[.int .i64 a0, .int .i64 a1, .slice a2 len2 cap2] w fun e w' => e = .returned (.bool true) ∧ Below w.heap.size w w' := by
  by_cases hno : a0 < 1 ∨ 64 < a0 ∨ a1 < 1 ∨ 65536 < a1
  · exact chainTells_no chainK (Lib.hid (awake_of chainK)) a0 a1 hno a2 len2 cap2 w
  · obtain ⟨lists, rfl⟩ : ∃ n : Nat, a0 = (n : Int) := ⟨a0.toNat, by omega⟩
    obtain ⟨nodes, rfl⟩ : ∃ n : Nat, a1 = (n : Int) := ⟨a1.toNat, by omega⟩
    by_cases hf : 64 < nodes ∨ 60 < len2
    · exact chainTells_far chainK (Lib.hid (awake_of chainK)) lists nodes (by omega) (by omega) (by omega) (by omega) a2 len2 cap2 (row_fit w2) hf w
    · exact chainTells_main chainK (Lib.hid (awake_of chainK)) lists nodes (by omega) (by omega) (by omega) (by omega) a2 len2 cap2 z2 (by omega) w (Lib.hid w2)

end Go.Proofs.Ythdgpnkkeeebkaa
