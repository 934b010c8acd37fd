/-
  WalkNone's walk, of the program's own tree.
-/
import Derived.Test.YtlpniacffahnkaaWalkNoneCore
import Derived.Test.YtlpniacffahnkaaWalkAwake
namespace Go.Proofs.Ytlpniacffahnkaa
open Go.RowKit
set_option linter.unusedVariables false

/-- A key that is handed in. -/
theorem key_of7 {cs : List Value} (h : Fits [some .u64, some .u64] cs) : ∃ k : Ky, k.Fits ∧ Value.agg cs.toArray = kyV k := by
  obtain ⟨x, y, rfl⟩ : ∃ x y, cs = [x, y] := by
    have := h.length
    match hr : cs, this with
    | [x, y], _ => exact ⟨x, y, rfl⟩
  obtain ⟨⟨n0, rfl, w0⟩, ⟨n1, rfl, w1⟩, _⟩ := h
  obtain ⟨a, rfl, ha⟩ := nat_u64 w0
  obtain ⟨b, rfl, hb⟩ := nat_u64 w1
  exact ⟨⟨a, b⟩, ⟨ha, hb⟩, rfl⟩
theorem walkNone_walk (a0 : List Value) (a1 : Int) (w : World) (w0 : Fits [some .u64, some .u64] a0) (w1 : (Lit.int .i64 a1).wf = true) :
    Calls Try.prog 9 #[.agg a0.toArray, .int .i64 a1] w fun e w' => e = .returned (.bool true) ∧ Below w.heap.size w w' := by
  obtain ⟨k, hk, e⟩ := key_of7 w0
  rw [e]
  exact walkNone_core treeK k hk a1 w (Lib.hid (walk_awake treeK))

end Go.Proofs.Ytlpniacffahnkaa
