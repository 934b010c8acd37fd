/-
  ArenaTurn's walk, at the program's own arena.
-/
import Derived.Test.YtacienpjoegclaaArenaTurnPlayed
import Derived.Test.YtacienpjoegclaaArenaProg
import Derived.Test.YtacienpjoegclaaArenaAwake
namespace Go.Proofs.Ytacienpjoegclaa
open Go.RowKit

theorem arenaTurn_walk (a0 : Option Addr) (len0 cap0 : Nat) (z0 : List (List Value)) (a1 : Option Addr) (len1 cap1 : Nat) (z1 : List (List Value)) (w : World) (w0 : RowOf [some .u8, some .i64, some .u64] w a0 len0 cap0 z0) (w1 : RowOf [some .u8] w a1 len1 cap1 z1) :
    Calls Try.prog 5 #[.slice a0 len0 cap0, .slice a1 len1 cap1] w fun e w' => e = .returned (.bool true) ∧ Below w.heap.size w w' :=
  arenaTurn_of arenaK (awake_of arenaK) a0 len0 cap0 z0 a1 len1 cap1 z1 w w0 w1

end Go.Proofs.Ytacienpjoegclaa
