/-
  ArenaRoom's walk, at the program's own arena.
-/
import Derived.Test.YtacienpjoegclaaArenaRoomPlayed
import Derived.Test.YtacienpjoegclaaArenaProg
import Derived.Test.YtacienpjoegclaaArenaAwake
namespace Go.Proofs.Ytacienpjoegclaa
open Go.RowKit

theorem arenaRoom_walk (a0 : Int) (a1 : Option Addr) (len1 cap1 : Nat) (z1 : List (List Value)) (w : World) (w0 : (Lit.int .u8 a0).wf = true) (w1 : RowOf [some .u8] w a1 len1 cap1 z1) :
    Calls Try.prog 6 #[.int .u8 a0, .slice a1 len1 cap1] w fun e w' => e = .returned (.bool true) ∧ Below w.heap.size w w' := by
  obtain ⟨r, rfl, hr⟩ := nat_u8 w0
  exact arenaRoom_of arenaK (awake_of arenaK) r hr a1 len1 cap1 z1 w w1

end Go.Proofs.Ytacienpjoegclaa
