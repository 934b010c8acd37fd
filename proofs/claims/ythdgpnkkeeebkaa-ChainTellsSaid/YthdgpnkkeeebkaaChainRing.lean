/-
  Rings of places, each knowing the one ahead of it and the one behind it: how a place comes into one, and leaves it.
-/
import Derived.Test.YthdgpnkkeeebkaaChainOwn
namespace Go.Proofs.Ythdgpnkkeeebkaa
set_option linter.unusedVariables false

/-- Each two neighbours of a path know each other: K (p * 2) is ahead of p, K (p * 2 + 1) behind it. -/
def Linked (K : Nat → Nat) : List Nat → Prop
  | p :: q :: t => (K (p * 2 + 1) = q ∧ K (q * 2) = p) ∧ Linked K (q :: t)
  | _ => True
theorem linked_frame {K K' : Nat → Nat} : ∀ {t : List Nat}, Linked K t → (∀ y, y ∈ t.dropLast → K' (y * 2 + 1) = K (y * 2 + 1)) → (∀ y, y ∈ t.tail → K' (y * 2) = K (y * 2)) → Linked K' t
  | [], _, _, _ => trivial
  | [_], _, _, _ => trivial
  | p :: q :: t, h, h1, h2 => by
    refine ⟨⟨(h1 p (by simp)).trans h.1.1, (h2 q (by simp)).trans h.1.2⟩, linked_frame h.2 (fun y hy => h1 y ?_) (fun y hy => h2 y ?_)⟩
    · rw [List.dropLast_cons_of_ne_nil (by simp)]
      exact List.mem_cons_of_mem _ hy
    · simp only [List.tail_cons]
      exact List.mem_of_mem_tail hy
theorem linked_split {K : Nat → Nat} (p : Nat) (t : List Nat) : ∀ (s : List Nat), Linked K (s ++ p :: t) ↔ Linked K (s ++ [p]) ∧ Linked K (p :: t)
  | [] => ⟨fun h => ⟨trivial, h⟩, fun h => h.2⟩
  | [a] => by
    show (_ ∧ Linked K (p :: t)) ↔ (_ ∧ True) ∧ Linked K (p :: t)
    constructor
    · exact fun h => ⟨⟨h.1, trivial⟩, h.2⟩
    · exact fun h => ⟨h.1.1, h.2⟩
  | a :: c :: s => by
    have ih := linked_split (K := K) p t (c :: s)
    show (_ ∧ Linked K (c :: s ++ p :: t)) ↔ (_ ∧ Linked K (c :: s ++ [p])) ∧ Linked K (p :: t)
    rw [ih]
    constructor
    · exact fun h => ⟨⟨h.1, h.2.1⟩, h.2.2⟩
    · exact fun h => ⟨h.1.1, h.1.2, h.2⟩

/-- A ring: its own place e, and the others behind it. -/
def Ring (K : Nat → Nat) (e : Nat) (l : List Nat) : Prop := Linked K (e :: l ++ [e])
theorem ring_last {K : Nat → Nat} {e : Nat} {l : List Nat} (h : Ring K e l) : ∃ s p, e :: l = s ++ [p] ∧ K (e * 2) = p ∧ K (p * 2 + 1) = e ∧ Linked K (s ++ [p]) := by
  have hne : e :: l ≠ [] := by simp
  obtain ⟨s, p, hs⟩ : ∃ s p, e :: l = s ++ [p] := ⟨_, _, (List.dropLast_concat_getLast hne).symm⟩
  have h' : Linked K (s ++ p :: [e]) := by
    have h0 : Linked K ((e :: l) ++ [e]) := h
    rw [hs, List.append_assoc] at h0
    exact h0
  have h2 := (linked_split p [e] s).1 h'
  exact ⟨s, p, hs, h2.2.1.2, h2.2.1.1, h2.1⟩
theorem ring_first {K : Nat → Nat} {e x : Nat} {l : List Nat} (h : Ring K e (x :: l)) : K (e * 2 + 1) = x := h.1.1
theorem ring_empty {K : Nat → Nat} {e : Nat} (h1 : K (e * 2 + 1) = e) (h2 : K (e * 2) = e) : Ring K e [] := ⟨⟨h1, h2⟩, trivial⟩
/-- What a step finds of a ring: from the place e on, round by round. -/
def prev (e : Nat) (l : List Nat) (j : Nat) : Nat := (e :: l)[j]?.getD 0
theorem linked_get {K : Nat → Nat} : ∀ {t : List Nat} {j : Nat} (h : Linked K t) (hj : j + 1 < t.length), K (t[j] * 2 + 1) = t[j + 1]
  | p :: q :: t, 0, h, _ => h.1.1
  | p :: q :: t, j + 1, h, hj => by
    have := linked_get (t := q :: t) (j := j) h.2 (by simpa using hj)
    simpa using this
theorem ring_next {K : Nat → Nat} {e : Nat} {l : List Nat} (h : Ring K e l) {j : Nat} (hj : j < l.length) : K (prev e l j * 2 + 1) = l[j] := by
  have h1 := linked_get (j := j) h (by simp; omega)
  have e1 : (e :: l ++ [e])[j]'(by simp; omega) = prev e l j := by
    unfold prev
    rw [List.getElem?_eq_getElem (by simp; omega), Option.getD_some]
    rw [List.getElem_append_left (by simp; omega)]
  have e2 : (e :: l ++ [e])[j + 1]'(by simp; omega) = l[j] := by
    simp [List.getElem_append_left, hj]
  rw [e1, e2] at h1
  exact h1
theorem prev_zero (e : Nat) (l : List Nat) : prev e l 0 = e := rfl
theorem prev_succ {e : Nat} {l : List Nat} {j : Nat} (hj : j < l.length) : prev e l (j + 1) = l[j] := by
  unfold prev
  simp [hj]

theorem joined_b {K : Nat → Nat} {p q : Nat} : joined K p q (p * 2 + 1) = q := by
  unfold joined
  rw [upd_ne (by omega), upd_at]
theorem joined_a {K : Nat → Nat} {p q : Nat} : joined K p q (q * 2) = p := by
  unfold joined
  rw [upd_at]
theorem joined_b_ne {K : Nat → Nat} {p q y : Nat} (h : y ≠ p) : joined K p q (y * 2 + 1) = K (y * 2 + 1) := by
  unfold joined
  rw [upd_ne (by omega), upd_ne (by omega)]
theorem joined_a_ne {K : Nat → Nat} {p q y : Nat} (h : y ≠ q) : joined K p q (y * 2) = K (y * 2) := by
  unfold joined
  rw [upd_ne (by omega), upd_ne (by omega)]

/-- Another ring stays. -/
theorem ring_apart {K : Nat → Nat} {e p q : Nat} {l : List Nat} (h : Ring K e l) (hp : p ∉ e :: l) (hq : q ∉ e :: l) : Ring (joined K p q) e l := by
  have hm : ∀ y, y ∈ e :: l ++ [e] → y ∈ e :: l := by
    intro y hy
    rcases List.mem_append.1 hy with h1 | h1
    · exact h1
    · rw [List.mem_singleton.1 h1]; simp
  refine linked_frame h (fun y hy => joined_b_ne fun e' => hp ?_) (fun y hy => joined_a_ne fun e' => hq ?_)
  · exact e' ▸ hm y ((List.dropLast_sublist _).subset hy)
  · exact e' ▸ hm y (List.mem_of_mem_tail hy)

/-- A place comes in, last. -/
theorem ring_push {K : Nat → Nat} {e x : Nat} {l : List Nat} (h : Ring K e l) (hn : (e :: l).Nodup) (hx : x ∉ e :: l) : Ring (joined (joined K (K (e * 2)) x) x e) e (l ++ [x]) := by
  obtain ⟨s, p, hs, h1, h2, h3⟩ := ring_last h
  rw [h1]
  have hp : p ∈ e :: l := by rw [hs]; simp
  have hpx : p ≠ x := fun e' => hx (e' ▸ hp)
  have hex : e ≠ x := fun e' => hx (e' ▸ by simp)
  have hn' := hn
  rw [hs] at hn'
  obtain ⟨_, _, hsp⟩ := List.nodup_append.1 hn'
  have hform : e :: (l ++ [x]) ++ [e] = s ++ p :: [x, e] := by
    rw [show e :: (l ++ [x]) ++ [e] = (e :: l) ++ [x, e] by simp, hs]
    simp
  show Linked _ (e :: (l ++ [x]) ++ [e])
  rw [hform, linked_split]
  refine ⟨linked_frame h3 (fun y hy => ?_) (fun y hy => ?_), ⟨⟨?_, ?_⟩, ⟨?_, ?_⟩, trivial⟩⟩
  · rw [List.dropLast_concat] at hy
    have y1 : y ≠ p := hsp y hy p (by simp)
    have y2 : y ≠ x := fun e' => hx (by rw [hs, ← e']; exact List.mem_append_left _ hy)
    rw [joined_b_ne y2, joined_b_ne y1]
  · rw [← hs, List.tail_cons] at hy
    have y1 : y ≠ e := fun e' => (List.nodup_cons.1 hn).1 (e' ▸ hy)
    have y2 : y ≠ x := fun e' => hx (e' ▸ List.mem_cons_of_mem _ hy)
    rw [joined_a_ne y1, joined_a_ne y2]
  · rw [joined_b_ne hpx, joined_b]
  · rw [joined_a_ne (Ne.symm hex), joined_a]
  · exact joined_b
  · exact joined_a

/-- A place that is in a ring: what is ahead of it, and behind it. -/
theorem ring_mid {K : Nat → Nat} {e x : Nat} {u v : List Nat} (h : Ring K e (u ++ x :: v)) : ∃ s p q t, e :: u = s ++ [p] ∧ v ++ [e] = q :: t ∧ K (x * 2) = p ∧ K (x * 2 + 1) = q ∧ Linked K (s ++ [p]) ∧ Linked K (q :: t) := by
  obtain ⟨s, p, hs⟩ : ∃ s p, e :: u = s ++ [p] := ⟨_, _, (List.dropLast_concat_getLast (by simp)).symm⟩
  obtain ⟨q, t, ht⟩ : ∃ q t, v ++ [e] = q :: t := by
    cases v with
    | nil => exact ⟨e, [], rfl⟩
    | cons a v => exact ⟨a, v ++ [e], rfl⟩
  have h0 : Linked K (e :: (u ++ x :: v) ++ [e]) := h
  rw [show e :: (u ++ x :: v) ++ [e] = (e :: u) ++ x :: (v ++ [e]) by simp, hs, ht, List.append_assoc] at h0
  have h1 := (linked_split p (x :: q :: t) s).1 h0
  exact ⟨s, p, q, t, hs, ht, h1.2.1.2, h1.2.2.1.1, h1.1, h1.2.2.2⟩
/-- It leaves. -/
theorem ring_less {K : Nat → Nat} {e x : Nat} {u v : List Nat} (h : Ring K e (u ++ x :: v)) (hn : (e :: (u ++ x :: v)).Nodup) : Ring (joined K (K (x * 2)) (K (x * 2 + 1))) e (u ++ v) := by
  obtain ⟨s, p, q, t, hs, ht, h1, h2, h3, h4⟩ := ring_mid h
  rw [h1, h2]
  have hn1 : (e :: u).Nodup := by
    rw [show e :: (u ++ x :: v) = (e :: u) ++ x :: v by simp] at hn
    exact (List.nodup_append.1 hn).1
  have hne : e ∉ u ++ x :: v := (List.nodup_cons.1 hn).1
  have hn2 : (v ++ [e]).Nodup := by
    have h5 := (List.nodup_append.1 (List.nodup_cons.1 hn).2).2.1
    have h6 := (List.nodup_cons.1 h5).2
    rw [List.nodup_append]
    exact ⟨h6, by simp, fun a ha c hc e' => hne (by rw [List.mem_singleton.1 hc] at e'; rw [← e']; exact List.mem_append_right _ (List.mem_cons_of_mem _ ha))⟩
  have hdis : ∀ y, y ∈ u → y ∉ v := by
    intro y hy hv
    exact (List.nodup_append.1 (List.nodup_cons.1 hn).2).2.2 y hy y (List.mem_cons_of_mem _ hv) rfl
  have hform : e :: (u ++ v) ++ [e] = s ++ p :: (q :: t) := by
    rw [show e :: (u ++ v) ++ [e] = (e :: u) ++ (v ++ [e]) by simp, hs, ht]
    simp
  have hp : p ∈ e :: u := by rw [hs]; simp
  have hq : q ∈ v ++ [e] := by rw [ht]; simp
  have hn1' := hn1
  rw [hs] at hn1'
  obtain ⟨_, _, hsp⟩ := List.nodup_append.1 hn1'
  have hn2' := hn2
  rw [ht] at hn2'
  show Linked _ (e :: (u ++ v) ++ [e])
  rw [hform, linked_split]
  refine ⟨linked_frame h3 (fun y hy => ?_) (fun y hy => ?_), ⟨⟨joined_b, joined_a⟩, linked_frame h4 (fun y hy => ?_) (fun y hy => ?_)⟩⟩
  · rw [List.dropLast_concat] at hy
    exact joined_b_ne (hsp y hy p (by simp))
  · rw [← hs, List.tail_cons] at hy
    refine joined_a_ne fun e' => ?_
    rw [e'] at hy
    rcases List.mem_append.1 hq with h5 | h5
    · exact hdis q hy h5
    · rw [List.mem_singleton.1 h5] at hy
      exact (List.nodup_cons.1 hn1).1 hy
  · rw [← ht, List.dropLast_concat] at hy
    refine joined_b_ne fun e' => ?_
    rw [e'] at hy
    rcases List.mem_cons.1 hp with h5 | h5
    · rw [h5] at hy
      exact hne (List.mem_append_right _ (List.mem_cons_of_mem _ hy))
    · exact hdis p h5 hy
  · rw [List.tail_cons] at hy
    exact joined_a_ne fun e' => (List.nodup_cons.1 hn2').1 (e' ▸ hy)

end Go.Proofs.Ythdgpnkkeeebkaa
