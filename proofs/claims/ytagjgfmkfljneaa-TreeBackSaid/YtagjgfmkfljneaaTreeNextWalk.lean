/-
  TreeNext's walk, at the program's own tree.
-/
import Derived.Test.YtagjgfmkfljneaaTreeNextPlayed
import Derived.Test.YtagjgfmkfljneaaTreeProg
import Derived.Test.YtagjgfmkfljneaaTreeAwake
namespace Go.Proofs.Ytagjgfmkfljneaa
open Go.RowKit

/-- A key that is handed in. -/
theorem key_of {cs : List Value} (h : Fits [some .u64, some .u64] cs) : ∃ k : Ky, k.Fits ∧ Value.agg cs.toArray = kyV k := by
  obtain ⟨x, y, rfl⟩ : ∃ x y, cs = [x, y] := by
    have := h.length
    match hr : cs, this with
    | [x, y], _ => exact ⟨x, y, rfl⟩
  obtain ⟨⟨n0, rfl, w0⟩, ⟨n1, rfl, w1⟩, _⟩ := h
  obtain ⟨a, rfl, ha⟩ := nat_u64 w0
  obtain ⟨b, rfl, hb⟩ := nat_u64 w1
  exact ⟨⟨a, b⟩, ⟨ha, hb⟩, rfl⟩
theorem treeNext_walk (a0 : Option Addr) (len0 cap0 : Nat) (z0 : List (List Value)) (a1 : List Value) (w : World) (w0 : RowOf [some .u8, some .u64, some .u64, some .i64] w a0 len0 cap0 z0) (w1 : Fits [some .u64, some .u64] a1) :
    Calls Try.prog 5 #[.slice a0 len0 cap0, .agg a1.toArray] w fun e w' => e = .returned (.bool true) ∧ Below w.heap.size w w' := by
  obtain ⟨k, hk, e⟩ := key_of w1
  rw [e]
  exact treeNext_of treeK (Lib.hid (awake_of treeK)) a0 len0 cap0 z0 k hk w (Lib.hid w0)

end Go.Proofs.Ytagjgfmkfljneaa
