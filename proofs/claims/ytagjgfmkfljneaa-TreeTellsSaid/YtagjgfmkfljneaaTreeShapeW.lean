/-
  The program's own tree: Shape.
-/
import Derived.Test.YtagjgfmkfljneaaTreeAll
namespace Go.Proofs.Ytagjgfmkfljneaa
open Go.RowKit
set_option linter.unusedVariables false

/-- Numbers lie in block b. -/
def RowZ (w : World) (b : Nat) (k : Nat) (f : Nat → Int) : Prop := ∃ cs : Array Value, Box w b 3 cs ∧ cs.size = k ∧ ∀ i, i < k → cs[i]? = some (.int .i64 (f i))
section
variable {w w' : World} {b k : Nat} {f : Nat → Int}
theorem RowZ.lt (h : RowZ w b k f) : b < w.heap.size := by
  obtain ⟨cs, h1, _⟩ := h
  exact h1.lt
theorem RowZ.same (h : RowZ w b k f) (e : w'.heap[b]? = w.heap[b]?) : RowZ w' b k f := by
  obtain ⟨cs, h1, h2⟩ := h
  exact ⟨cs, e.trans h1, h2⟩
theorem RowZ.other {c i : Nat} (h : RowZ w b k f) (hne : b ≠ c) (u : Value) : RowZ (w.setCell ⟨c, i, none⟩ u) b k f := by
  obtain ⟨cs, h1, h2⟩ := h
  exact ⟨cs, h1.other hne u, h2⟩
theorem RowZ.cell (h : RowZ w b k f) {i : Nat} (hi : i < k) : w.cell? ⟨b, i, none⟩ = some (.int .i64 (f i)) := by
  obtain ⟨cs, h1, h2, h3⟩ := h
  rw [h1.cell]
  exact h3 i hi
theorem RowZ.frozen (h : RowZ w b k f) (i : Nat) : w.frozen? ⟨b, i, none⟩ = false := by
  obtain ⟨cs, h1, _⟩ := h
  exact h1.frozen i
theorem RowZ.set (h : RowZ w b k f) (i : Nat) (v : Int) : RowZ (w.setCell ⟨b, i, none⟩ (.int .i64 v)) b k (fun q => if q = i then v else f q) := by
  obtain ⟨cs, h1, h2, h3⟩ := h
  refine ⟨_, h1.set i _, by simp [h2], fun j hj => ?_⟩
  show _ = some (Value.int .i64 (if j = i then v else f j))
  by_cases c : j = i
  · subst c
    rw [if_pos rfl, Array.getElem?_setIfInBounds_self_of_lt (by omega)]
  · rw [if_neg c, Array.getElem?_setIfInBounds_ne (fun e => c e.symm), h3 j hj]
end
theorem T.pls_nodup : ∀ t : T, (∀ x, t.occ x ≤ 1) → t.pls.Nodup
  | .leaf, _ => List.nodup_nil
  | .node p c l e r, h => by
    have hl : ∀ x, l.occ x ≤ 1 := fun x => by have := h x; simp only [T.occ] at this; omega
    have hr : ∀ x, r.occ x ≤ 1 := fun x => by have := h x; simp only [T.occ] at this; omega
    rw [T.pls, List.nodup_append, List.nodup_cons]
    refine ⟨T.pls_nodup l hl, ⟨?_, T.pls_nodup r hr⟩, ?_⟩
    · intro hp
      have h1 := (T.pls_occ r p).1 hp
      have h2 := h p
      simp [T.occ] at h2
      omega
    · intro a ha b hb e
      subst e
      have h1 := (T.pls_occ l a).1 ha
      have h2 := h a
      simp only [T.occ] at h2
      rcases List.mem_cons.1 hb with rfl | hb
      · simp at h2
        omega
      · have h3 := (T.pls_occ r a).1 hb
        omega
/-- The shape, by the ranks of the places. -/
theorem twigs_at {G : Gr} {f : Nat → Int} : ∀ (t : T) (off : Nat) (up : Int) (u : Nat), Rep G t u → f u = up → (∀ i x, t.pls[i]? = some x → f x = ((off + i : Nat) : Int)) → ∀ (i x : Nat), t.pls[i]? = some x → (t.rb.twigs off up)[i]? = some ⟨G.key x, G.red x, f (G.up x)⟩
  | .leaf, _, _, _, _, _, _, i, x, h => by simp [T.pls] at h
  | .node p c l e r, off, up, u, ⟨h1, h2, h3, h4, h5, h6, h7, h8, h9⟩, hu, hf, i, x, h => by
    have hs : l.rb.size = l.pls.length := by
      rw [T.pls_len]
      exact (RB.size_toL l.rb).symm
    have hp : f p = ((off + l.rb.size : Nat) : Int) := by
      rw [hs]
      exact hf l.pls.length p (by simp [T.pls])
    have hfl : ∀ i x, l.pls[i]? = some x → f x = ((off + i : Nat) : Int) := fun i x hx => hf i x (by
      rw [T.pls, List.getElem?_append_left (List.getElem?_eq_some_iff.1 hx).1]
      exact hx)
    have hfr : ∀ i x, r.pls[i]? = some x → f x = ((off + l.rb.size + 1 + i : Nat) : Int) := fun i x hx => by
      rw [hf (l.pls.length + (i + 1)) x (by
        rw [T.pls, List.getElem?_append_right (by omega), show l.pls.length + (i + 1) - l.pls.length = i + 1 by omega, List.getElem?_cons_succ]
        exact hx), hs]
      omega
    rw [T.pls] at h
    show (l.rb.twigs off ((off + l.rb.size : Nat) : Int) ++ ⟨e.key, c, up⟩ :: r.rb.twigs (off + l.rb.size + 1) ((off + l.rb.size : Nat) : Int))[i]? = _
    have hlt := RB.size_twigs l.rb off ((off + l.rb.size : Nat) : Int)
    by_cases c1 : i < l.pls.length
    · rw [List.getElem?_append_left c1] at h
      rw [List.getElem?_append_left (by omega)]
      exact twigs_at l off _ p h8 hp hfl i x h
    · rw [List.getElem?_append_right (by omega)] at h
      rw [List.getElem?_append_right (by omega), hlt, hs]
      by_cases c2 : i = l.pls.length
      · rw [c2, Nat.sub_self] at h ⊢
        have h' := Option.some.inj h
        subst h'
        rw [h2, h4, h5, hu]
        rfl
      · obtain ⟨j, hj⟩ : ∃ j, i - l.pls.length = j + 1 := ⟨i - l.pls.length - 1, by omega⟩
        rw [hj, List.getElem?_cons_succ] at h ⊢
        rw [← hs]
        exact twigs_at r _ _ p h9 hp hfr j x h
def noTw : Tw := ⟨⟨0, 0⟩, false, 0⟩
/-- A node of the shape is stored. -/
theorem RowE.set4 {w : World} {E k : Nat} {ty : TypeId} {f : Nat → Tw} (h : RowE w E ty 4 k twC f) {i : Nat} (hi : i < k) (e : Tw) : RowE ((((w.setCell ⟨E, i * 4, none⟩ (.int .u64 (e.key.at_ : Int))).setCell ⟨E, i * 4 + 1, none⟩ (.int .u64 (e.key.seq : Int))).setCell ⟨E, i * 4 + 2, none⟩ (.bool e.red)).setCell ⟨E, i * 4 + 3, none⟩ (.int .i64 e.up)) E ty 4 k twC (fun q => if q = i then e else f q) := by
  obtain ⟨cs, k1, k2, k3⟩ := h
  refine ⟨_, (((k1.set _ _).set _ _).set _ _).set _ _, by simp [k2], fun q hq j hj => ?_⟩
  show _ = (twC (if q = i then e else f q))[j]?
  by_cases hqp : q = i
  · subst hqp
    rw [if_pos rfl]
    rcases (by omega : j = 0 ∨ j = 1 ∨ j = 2 ∨ j = 3) with rfl | rfl | rfl | rfl
    · rw [Array.getElem?_setIfInBounds_ne (by omega), Array.getElem?_setIfInBounds_ne (by omega), Array.getElem?_setIfInBounds_ne (by omega), Nat.add_zero, Array.getElem?_setIfInBounds_self_of_lt (by rw [k2]; omega)]
      rfl
    · rw [Array.getElem?_setIfInBounds_ne (by omega), Array.getElem?_setIfInBounds_ne (by omega), Array.getElem?_setIfInBounds_self_of_lt (by simp [k2]; omega)]
      rfl
    · rw [Array.getElem?_setIfInBounds_ne (by omega), Array.getElem?_setIfInBounds_self_of_lt (by simp [k2]; omega)]
      rfl
    · rw [Array.getElem?_setIfInBounds_self_of_lt (by simp [k2]; omega)]
      rfl
  · rw [if_neg hqp, Array.getElem?_setIfInBounds_ne (by omega), Array.getElem?_setIfInBounds_ne (by omega), Array.getElem?_setIfInBounds_ne (by omega), Array.getElem?_setIfInBounds_ne (by omega), k3 q hq j hj]
/-- What of the places is known at each step. -/
structure Pls (w wx : World) (g k k1 : Nat) (pls : List Nat) : Prop where
  row : wx.ownsRow w.heap.size 3 1 (.slice (some ⟨g, 0, none⟩) k k1) k (pls.map natV)
  len : pls.length = k
theorem Pls.cell {w wx : World} {g k k1 : Nat} {pls : List Nat} (h : Pls w wx g k k1 pls) {j x : Nat} (hx : pls[j]? = some x) : wx.cell? ⟨g, j, none⟩ = some (.int .i64 (x : Int)) := by
  obtain ⟨_, hform⟩ := owns_nat (l := pls) (by have := h.row; rw [← h.len] at this; exact this)
  obtain ⟨hj, hx'⟩ := List.getElem?_eq_some_iff.1 hx
  rcases hform with ⟨h1, _⟩ | ⟨g', h1, _, h3⟩
  · cases h1
  · cases h1
    rw [h3 j hj, hx']

end Go.Proofs.Ytagjgfmkfljneaa
