/-
  ArenaTells' walk, at the program's own arena.
-/
import Derived.Test.YtacienpjoegclaaArenaTellsPlayed
import Derived.Test.YtacienpjoegclaaArenaProg
import Derived.Test.YtacienpjoegclaaArenaAwake
namespace Go.Proofs.Ytacienpjoegclaa
open Go.RowKit

theorem arenaTells_walk (a0 : Int) (a1 : Option Addr) (len1 cap1 : Nat) (z1 : List (List Value)) (w : World) (w0 : (Lit.int .i64 a0).wf = true) (w1 : RowOf [some .u8, some .i64, some .u64] w a1 len1 cap1 z1) :
    Calls Try.prog 3 #[.int .i64 a0, .slice a1 len1 cap1] w fun e w' => e = .returned (.bool true) ∧ Below w.heap.size w w' :=
  arenaTells_of arenaK (awake_of arenaK) a0 a1 len1 cap1 z1 w w0 w1

end Go.Proofs.Ytacienpjoegclaa
