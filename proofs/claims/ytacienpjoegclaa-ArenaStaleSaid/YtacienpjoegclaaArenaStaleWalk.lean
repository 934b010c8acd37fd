/-
  ArenaStale's walk, at the program's own arena.
-/
import Derived.Test.YtacienpjoegclaaArenaStalePlayed
import Derived.Test.YtacienpjoegclaaArenaProg
import Derived.Test.YtacienpjoegclaaArenaAwake
namespace Go.Proofs.Ytacienpjoegclaa
open Go.RowKit

theorem arenaStale_walk (a0 : Option Addr) (len0 cap0 : Nat) (z0 : List (List Value)) (w : World) (w0 : RowOf [some .u8, some .i64, some .u64] w a0 len0 cap0 z0) :
    Calls Try.prog 4 #[.slice a0 len0 cap0] w fun e w' => e = .returned (.bool true) ∧ Below w.heap.size w w' :=
  arenaStale_of arenaK (awake_of arenaK) a0 len0 cap0 z0 w w0

end Go.Proofs.Ytacienpjoegclaa
