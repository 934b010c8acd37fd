/-
  What is done to one list, in lists: the others stay as they were; and how a walk holds what it has of them, in an array of slices of its own.
-/
import Derived.Test.YthdgpnkkeeebkaaChainPlayed
import Derived.Test.YthdgpnkkeeebkaaChainFacts
namespace Go.Proofs.Ythdgpnkkeeebkaa
open Go.RowKit
set_option linter.unusedVariables false

theorem push_other {g : Ch} {k i : Nat} {n : Int} (h : i ≠ k) : (g.push (k : Int) n).ls[i]? = g.ls[i]? := by
  unfold Ch.push
  split
  · unfold Ch.put
    show (g.ls.set _ _)[i]? = _
    rw [List.getElem?_set_ne (by simp; omega)]
  · rfl
theorem less_other {g : Ch} {k i x : Nat} (h : i ≠ k) : (g.less k x).ls[i]? = g.ls[i]? := by
  unfold Ch.less
  show (g.ls.set _ _)[i]? = _
  rw [List.getElem?_set_ne (by omega)]
theorem drop_other {g : Ch} {k i : Nat} {n : Int} (hn : ∀ j, g.inn n = some j → j = k) (h : i ≠ k) : (g.drop n).ls[i]? = g.ls[i]? := by
  unfold Ch.drop
  split
  · rename_i j hj
    rw [hn j hj]
    exact less_other h
  · rfl
theorem pop_other {g : Ch} (ok : g.Ok) {k i : Nat} (h : i ≠ k) : (g.pop (k : Int)).ls[i]? = g.ls[i]? := by
  unfold Ch.pop
  split
  · rename_i x l e
    have hx : g.at x = some k := by
      unfold Ch.list at e
      rw [Ch.row_nat] at e
      cases hl : g.ls[k]? with
      | none => rw [hl] at e; cases e
      | some m =>
        rw [hl] at e
        have e' : m = x :: l := e
        exact ok.at_of hl (by rw [e']; simp)
    exact drop_other (fun j hj => by rw [Ch.inn_nat, hx] at hj; exact (Option.some.inj hj).symm) h
  · rfl

/-- A slice of the call's own that holds a list. -/
def Was (w W : World) (N : Nat → Prop) (v : Value) (l : List Nat) : Prop := ∃ p c, v = .slice p l.length c ∧ Mine w W N 3 (.slice p l.length c) l.length (l.map natV)
section
variable {w W W' : World} {N N' : Nat → Prop} {v : Value} {l : List Nat}
theorem Was.below (h : Was w W N v l) (b : Below W.heap.size W W') : Was w W' N v l := by
  obtain ⟨p, c, e, m⟩ := h
  exact ⟨p, c, e, m.below b⟩
theorem Was.step (h : Was w W N v l) (s : Stepped W W' N N') : Was w W' N' v l := by
  obtain ⟨p, c, e, m⟩ := h
  exact ⟨p, c, e, m.step s⟩
theorem Was.set {t : TypeId} {q i : Nat} {cs : Array Value} {u : Value} (h : Was w W N v l) (b : Box W q t cs) (ht : 3 ≠ t) : Was w (W.setCell ⟨q, i, none⟩ u) N v l := by
  obtain ⟨p, c, e, m⟩ := h
  exact ⟨p, c, e, b.row m.row ht, m.off⟩
end
/-- The chains behind a store into a box of the call's own. -/
theorem OwnC.set {K : ChainK} {w W : World} {a : Addr} {N : Nat → Prop} {g : Ch} {q i : Nat} {u : Value} (h : OwnC K w W a N g) (hq : ¬ N q) (hw : w.heap.size ≤ q) : OwnC K w (W.setCell ⟨q, i, none⟩ u) a N g :=
  ⟨K.kept h.at_ (fun k hk => Below.heap_setCell W ⟨q, i, none⟩ u k (fun e => hq (by have : k = q := e; rw [← this]; exact hk))) (by simp), h.ok, h.new, h.lo.setCell (p := ⟨q, i, none⟩) hw u⟩
/-- A box of the call's own stays none of the chains'. -/
theorem not_own {W W' : World} {N N' : Nat → Prop} {q : Nat} {t : TypeId} {cs : Array Value} (hq : ¬ N q) (b : Box W q t cs) (s : Stepped W W' N N') : ¬ N' q ∧ Box W' q t cs :=
  ⟨fun h => by
    rcases s.own q h with h1 | h1
    · exact hq h1
    · have := b.lt; omega, b.turned s.turned hq⟩

/-- The chains, and an array of four slices of the call's own. -/
structure ApS (K : ChainK) (w W : World) (a : Addr) (N : Nat → Prop) (g : Ch) (q : Nat) (v0 v1 v2 v3 : Value) : Prop where
  own : OwnC K w W a N g
  box : Box W q 53 #[v0, v1, v2, v3]
  nq : ¬ N q
  hq : w.heap.size ≤ q
section
variable {K : ChainK} {w W W' : World} {a : Addr} {N N' : Nat → Prop} {g g' : Ch} {q : Nat} {v0 v1 v2 v3 : Value}
theorem ApS.below (h : ApS K w W a N g q v0 v1 v2 v3) (b : Below W.heap.size W W') : ApS K w W' a N g q v0 v1 v2 v3 :=
  ⟨h.own.below b, h.box.below b h.box.lt, h.nq, h.hq⟩
theorem ApS.step (h : ApS K w W a N g q v0 v1 v2 v3) (o : OwnC K w W' a N' g') (s : Stepped W W' N N') : ApS K w W' a N' g' q v0 v1 v2 v3 :=
  ⟨o, (not_own h.nq h.box s).2, (not_own h.nq h.box s).1, h.hq⟩
theorem ApS.cells (h : ApS K w W a N g q v0 v1 v2 v3) : W.cell? ⟨q, 0, none⟩ = some v0 ∧ W.cell? ⟨q, 1, none⟩ = some v1 ∧ W.cell? ⟨q, 2, none⟩ = some v2 ∧ W.cell? ⟨q, 3, none⟩ = some v3 :=
  ⟨h.box.cell 0, h.box.cell 1, h.box.cell 2, h.box.cell 3⟩
theorem ApS.set0 (h : ApS K w W a N g q v0 v1 v2 v3) (u : Value) : ApS K w (W.setCell ⟨q, 0, none⟩ u) a N g q u v1 v2 v3 := ⟨h.own.set h.nq h.hq, h.box.set 0 u, h.nq, h.hq⟩
theorem ApS.set1 (h : ApS K w W a N g q v0 v1 v2 v3) (u : Value) : ApS K w (W.setCell ⟨q, 1, none⟩ u) a N g q v0 u v2 v3 := ⟨h.own.set h.nq h.hq, h.box.set 1 u, h.nq, h.hq⟩
theorem ApS.set2 (h : ApS K w W a N g q v0 v1 v2 v3) (u : Value) : ApS K w (W.setCell ⟨q, 2, none⟩ u) a N g q v0 v1 u v3 := ⟨h.own.set h.nq h.hq, h.box.set 2 u, h.nq, h.hq⟩
theorem ApS.set3 (h : ApS K w W a N g q v0 v1 v2 v3) (u : Value) : ApS K w (W.setCell ⟨q, 3, none⟩ u) a N g q v0 v1 v2 u := ⟨h.own.set h.nq h.hq, h.box.set 3 u, h.nq, h.hq⟩
theorem ApS.was {l : List Nat} {v u : Value} {i : Nat} (h : ApS K w W a N g q v0 v1 v2 v3) (x : Was w W N v l) : Was w (W.setCell ⟨q, i, none⟩ u) N v l := x.set h.box (by decide)
end
/-- The other lists are as they were, and what they were is held. -/
def ApAt (K : ChainK) (w W : World) (a : Addr) (k q : Nat) (l0 l1 l2 l3 : List Nat) : Prop :=
  ∃ N g v0 v1 v2 v3, ApS K w W a N g q v0 v1 v2 v3 ∧ g.ls.length = 4 ∧ (∀ i, i ≠ k → g.ls[i]? = [l0, l1, l2, l3][i]?) ∧ Was w W N v0 l0 ∧ Was w W N v1 l1 ∧ Was w W N v2 l2 ∧ Was w W N v3 l3

/-- What is held of another list. -/
theorem ApAt.get {K : ChainK} {w W : World} {a : Addr} {k q : Nat} {l0 l1 l2 l3 : List Nat} (h : ApAt K w W a k q l0 l1 l2 l3) {j : Nat} (hj : j < 4) (hk : j ≠ k) :
    ∃ N g v l, OwnC K w W a N g ∧ W.cell? ⟨q, j, none⟩ = some v ∧ Was w W N v l ∧ l.length ≤ 65536 ∧ g.list (j : Int) = l ∧ q < W.heap.size := by
  obtain ⟨N, g, v0, v1, v2, v3, P, hd, ho, U0, U1, U2, U3⟩ := h
  obtain ⟨x0, x1, x2, x3⟩ := P.cells
  have pick : ∀ v l, W.cell? ⟨q, j, none⟩ = some v → Was w W N v l → [l0, l1, l2, l3][j]? = some l → ∃ N g v l, OwnC K w W a N g ∧ W.cell? ⟨q, j, none⟩ = some v ∧ Was w W N v l ∧ l.length ≤ 65536 ∧ g.list (j : Int) = l ∧ q < W.heap.size := fun v l hc hu hl => by
    have h1 : g.ls[j]? = some l := (ho j hk).trans hl
    exact ⟨N, g, v, l, P.own, hc, hu, Nat.le_trans (short_list P.own.ok h1) P.own.ok.small, list_nat h1, P.box.lt⟩
  match j, hj with
  | 0, _ => exact pick v0 l0 x0 U0 rfl
  | 1, _ => exact pick v1 l1 x1 U1 rfl
  | 2, _ => exact pick v2 l2 x2 U2 rfl
  | 3, _ => exact pick v3 l3 x3 U3 rfl
theorem ApAt.below {K : ChainK} {w W W' : World} {a : Addr} {k q : Nat} {l0 l1 l2 l3 : List Nat} (h : ApAt K w W a k q l0 l1 l2 l3) (b : Below W.heap.size W W') : ApAt K w W' a k q l0 l1 l2 l3 := by
  obtain ⟨N, g, v0, v1, v2, v3, P, hd, ho, U0, U1, U2, U3⟩ := h
  exact ⟨N, g, v0, v1, v2, v3, P.below b, hd, ho, U0.below b, U1.below b, U2.below b, U3.below b⟩
theorem ApAt.lo {K : ChainK} {w W : World} {a : Addr} {k q : Nat} {l0 l1 l2 l3 : List Nat} (h : ApAt K w W a k q l0 l1 l2 l3) : Below w.heap.size w W := by
  obtain ⟨N, g, v0, v1, v2, v3, P, _⟩ := h
  exact P.own.lo

end Go.Proofs.Ythdgpnkkeeebkaa
