/-
  The document's wheel, in lists, lies as the program's own.
-/
import Derived.Test.YtkiibobpejoaeaaDoorWheelMem
import Derived.Test.YtkiibobpejoaeaaDoorWheelK
namespace Go.Proofs.YtkiibobpejoaeaaDoor
open Go.RowKit
set_option linter.unusedVariables false

def wsOf (g : Wg) (R : Nat → List Tw) : Ws := ⟨g.slots, g.width, g.room, g.cur, g.l.length, g.n, R, g.due⟩
/-- The document's wheel lies as the program's own. -/
def AtW (N : Nat → Prop) (w : World) (a : Addr) (g : Wg) : Prop := g.n ≤ 4294967296 ∧ ∃ R lt, WAt N w a (wsOf g R) ∧ RelW g R lt
section
variable {N : Nat → Prop} {w w' : World} {a : Addr} {g : Wg} {R : Nat → List Tw} {tl : List Tw}
theorem AtW.lt (h : AtW N w a g) : ∀ k, N k → k < w.heap.size := by
  obtain ⟨_, R, lt, h, _⟩ := h
  exact h.lt
theorem AtW.kept (h : AtW N w a g) (e : ∀ k, N k → w'.heap[k]? = w.heap[k]?) : AtW N w' a g := by
  obtain ⟨h0, R, lt, h1, h2⟩ := h
  exact ⟨h0, R, lt, h1.kept e, h2⟩
theorem flat_le {S p : Nat} (hp : p < S) : (R p).length ≤ (flatAll S R).length := by
  obtain ⟨A, B, e, _⟩ := flat_split (R := R) hp
  rw [e, List.length_append, List.length_append]
  omega
theorem fits_of (rel : RelW g R tl) (ok : g.Ok) (hn : g.n ≤ 4294967296) : (wsOf g R).Fits := by
  have h1 := rel.len
  have h2 := ok.full
  have h3 := ok.r2
  refine ⟨ok.s1, ok.s2, ok.w1, ok.w2, ok.cur, fun p hp => ?_, fun p hp x hx => ?_⟩
  · have := flat_le (R := R) (S := g.slots) (p := p) hp
    show (R p).length ≤ 65536
    omega
  · have h4 := rel.mem hp hx
    have h5 := ok.word _ h4.2
    have h6 := rel.below _ h4.1
    exact ⟨h5.1, h5.2, by omega⟩
end

end Go.Proofs.YtkiibobpejoaeaaDoor
