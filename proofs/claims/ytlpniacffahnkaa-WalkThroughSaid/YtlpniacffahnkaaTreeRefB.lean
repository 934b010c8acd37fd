/-
  The document's own tree (sandglassref06): Get and Next.
-/
import Derived.Test.YtlpniacffahnkaaTreeRefA
import Derived.Test.YtlpniacffahnkaaTreeRows
namespace Go.Proofs.Ytlpniacffahnkaa
open Go.RowKit
set_option linter.unusedVariables false

/-- A key that is there stands at its place. -/
theorem plc_at {k : Ky} {v : Int} {l : List En} (h : Rises l) (hg : getL k l = some v) : l[plc k l]? = some ⟨k, v⟩ := by
  obtain ⟨i, hi, ei⟩ := List.getElem_of_mem (getL_some hg)
  have hp : plc k l = i := by
    refine plc_is (by omega) (fun x hx => ?_) (fun e he => ?_)
    · obtain ⟨j, hj, rfl⟩ := List.mem_take_iff_getElem.1 hx
      have := (List.pairwise_iff_getElem.1 h) j i (by omega) hi (by omega)
      rw [ei] at this
      exact this
    · rw [List.getElem?_eq_getElem hi, ei] at he
      cases he
      exact Ky.lt_irrefl k
  rw [hp, List.getElem?_eq_getElem hi, ei]
theorem box2 {w W : World} {t1 t2 : TypeId} {c1 c2 : Array Value} (h : (w.alloc (.cells c1 t1)).alloc (.cells c2 t2) = W) : Box W w.heap.size t1 c1 ∧ Box W (w.heap.size + 1) t2 c2 ∧ Below w.heap.size w W := by
  subst h
  refine ⟨(Box.new _ _ _).alloc _, ?_, ((Below.refl _ _).alloc (Nat.le_refl _) _).alloc (by rw [World.size_alloc]; omega) _⟩
  have := Box.new (w.alloc (.cells c1 t1)) t2 c2
  rw [World.size_alloc] at this
  exact this
theorem nx_keep {W W' : World} {tb kb B i : Nat} {v0 v1 v2 v3 v4 : Value} (b : Below W.drew.heap.size W.drew W') (h1 : tb < W.heap.size) (h2 : kb < W.heap.size) (h3 : B < W.heap.size) (z0 : W.cell? ⟨tb, 0, none⟩ = some v0) (z1 : W.cell? ⟨kb, 0, none⟩ = some v1) (z2 : W.cell? ⟨kb, 1, none⟩ = some v2) (s0 : W.cell? ⟨B, i * 3, none⟩ = some v3) (s1 : W.cell? ⟨B, i * 3 + 1, none⟩ = some v4) :
    W'.cell? ⟨tb, 0, none⟩ = some v0 ∧ W'.cell? ⟨kb, 0, none⟩ = some v1 ∧ W'.cell? ⟨kb, 1, none⟩ = some v2 ∧ W'.cell? ⟨B, i * 3, none⟩ = some v3 ∧ W'.cell? ⟨B, i * 3 + 1, none⟩ = some v4 := pl_keep b h1 h2 h3 z0 z1 z2 s0 s1
end Go.Proofs.Ytlpniacffahnkaa
