/-
  What comes due, and in which order, as numbers are put. Of no program.
-/
import Derived.Test.YtkiibobpejoaeaaDoorWheelJumpFacts
namespace Go.Proofs.YtkiibobpejoaeaaDoor
set_option linter.unusedVariables false

def LexT (a b : Th) : Prop := a.slot < b.slot ∨ (a.slot = b.slot ∧ a.v < b.v)
theorem insT_lex {x : Th} : ∀ {l : List Th}, l.Pairwise LexT → (∀ y, y ∈ l → x.v < y.v) → (insT x l).Pairwise LexT
  | [], _, _ => by simp [insT]
  | y :: l, h, hv => by
    have h1 := List.pairwise_cons.1 h
    unfold insT
    split
    · rename_i c
      refine List.pairwise_cons.2 ⟨fun z hz => ?_, h⟩
      have e := hv z hz
      rcases List.mem_cons.1 hz with rfl | hz'
      · unfold LexT
        omega
      · have d := h1.1 z hz'
        unfold LexT at *
        omega
    · rename_i c
      refine List.pairwise_cons.2 ⟨fun z hz => ?_, insT_lex h1.2 (fun z hz => hv z (List.mem_cons_of_mem _ hz))⟩
      rcases insT_mem.1 hz with rfl | hz
      · exact .inl (by omega)
      · exact h1.1 z hz
theorem sortT_lex : ∀ {l : List Th}, l.Pairwise (fun a b => a.v < b.v) → (sortT l).Pairwise LexT
  | [], _ => List.Pairwise.nil
  | x :: l, h => by
    have h1 := List.pairwise_cons.1 h
    exact insT_lex (sortT_lex h1.2) (fun y hy => h1.1 y (sortT_mem.1 hy))
/-- Those that came are marked. -/
def markT (c : List Bool) : List Th → List Bool
  | [] => c
  | x :: l => markT (c.set x.v true) l
theorem markT_len : ∀ (l : List Th) (c : List Bool), (markT c l).length = c.length
  | [], c => rfl
  | x :: l, c => by rw [markT, markT_len l, List.length_set]
theorem markT_not : ∀ (l : List Th) (c : List Bool) (i : Nat), (∀ x, x ∈ l → x.v ≠ i) → (markT c l)[i]? = c[i]?
  | [], c, i, _ => rfl
  | x :: l, c, i, h => by
    rw [markT, markT_not l _ i (fun y hy => h y (List.mem_cons_of_mem _ hy)), List.getElem?_set_ne (h x List.mem_cons_self)]
theorem markT_false : ∀ (l : List Th) (c : List Bool) (i : Nat), (markT c l)[i]? = some false → c[i]? = some false ∧ ∀ x, x ∈ l → x.v ≠ i
  | [], c, i, h => ⟨h, fun x hx => by cases hx⟩
  | x :: l, c, i, h => by
    obtain ⟨h1, h2⟩ := markT_false l _ i h
    by_cases e : x.v = i
    · subst e
      by_cases hl : x.v < c.length
      · rw [List.getElem?_set_self hl] at h1; cases h1
      · rw [List.getElem?_eq_none (by rw [List.length_set]; omega)] at h1; cases h1
    · rw [List.getElem?_set_ne e] at h1
      exact ⟨h1, fun y hy => by
        rcases List.mem_cons.1 hy with rfl | hy
        · exact e
        · exact h2 y hy⟩
theorem markT_app (c : List Bool) (x : Th) : ∀ l : List Th, markT c (l ++ [x]) = (markT c l).set x.v true := by
  intro l
  induction l generalizing c with
  | nil => rfl
  | cons y l ih => exact ih _
/-- What waits is just what was put and did not come, by its number. -/
structure DueI (g : Wg) (ats : List Nat) (came : List Bool) : Prop where
  len : came.length = ats.length
  inc : g.l.Pairwise (fun a b => a.v < b.v)
  slot : ∀ x, x ∈ g.l → ∃ t, ats[x.v]? = some t ∧ x.slot = slotW t g.width
  not : ∀ x, x ∈ g.l → came[x.v]? = some false
  all : ∀ i, came[i]? = some false → ∃ x, x ∈ g.l ∧ x.v = i
theorem dueI_put {g : Wg} {ats : List Nat} {came : List Bool} (h : DueI g ats came) (t : Nat) (hr : g.l.length + g.due.length < g.room) : DueI (g.put ats.length (slotW t g.width)) (ats ++ [t]) (came ++ [false]) := by
  have hlt : ∀ x, x ∈ g.l → x.v < ats.length := fun x hx => by
    obtain ⟨t, h1, _⟩ := h.slot x hx
    exact (List.getElem?_eq_some_iff.1 h1).1
  unfold Wg.put
  rw [if_pos hr]
  refine ⟨by simp [h.len], ?_, fun x hx => ?_, fun x hx => ?_, fun i hi => ?_⟩
  · refine List.pairwise_append.2 ⟨h.inc, List.pairwise_singleton _ _, fun a ha b hb => ?_⟩
    rw [List.mem_singleton.1 hb]
    exact hlt a ha
  · rcases List.mem_append.1 hx with hx | hx
    · obtain ⟨t', h1, h2⟩ := h.slot x hx
      exact ⟨t', by rw [List.getElem?_append_left (hlt x hx)]; exact h1, h2⟩
    · rw [List.mem_singleton.1 hx]
      exact ⟨t, by simp, rfl⟩
  · rcases List.mem_append.1 hx with hx | hx
    · rw [List.getElem?_append_left (by rw [h.len]; exact hlt x hx)]
      exact h.not x hx
    · rw [List.mem_singleton.1 hx]
      simp [← h.len]
  · by_cases c : i < came.length
    · rw [List.getElem?_append_left c] at hi
      obtain ⟨x, hx, e⟩ := h.all i hi
      exact ⟨x, List.mem_append_left _ hx, e⟩
    · have hi2 := (List.getElem?_eq_some_iff.1 hi).1
      rw [List.length_append, List.length_singleton] at hi2
      refine ⟨_, List.mem_append_right _ (List.mem_singleton.2 rfl), ?_⟩
      show ats.length = i
      have := h.len
      omega
section
variable {g : Wg} {ats : List Nat} {came : List Bool}
theorem dueI_same (h : DueI g ats came) {x y : Th} (hx : x ∈ g.l) (hy : y ∈ g.l) (e : x.v = y.v) : x.slot = y.slot := by
  obtain ⟨t, h1, h2⟩ := h.slot x hx
  obtain ⟨t', h3, h4⟩ := h.slot y hy
  rw [e, h3] at h1
  rw [h2, h4, Option.some.inj h1]
theorem ripe_mem {t : Nat} {x : Th} (hx : x ∈ sortT (g.ripe t)) : x ∈ g.l ∧ x.slot ≤ g.to t := by
  obtain ⟨h1, h2⟩ := List.mem_filter.1 (sortT_mem.1 hx)
  exact ⟨h1, by simpa using h2⟩
theorem dueI_lex (h : DueI g ats came) (t : Nat) : (sortT (g.ripe t)).Pairwise LexT := sortT_lex (h.inc.sublist List.filter_sublist)
/-- The next that is due: it did not come by then. -/
theorem dueI_at (h : DueI g ats came) {t j : Nat} {x : Th} (hj : (sortT (g.ripe t))[j]? = some x) : ∃ at_, ats[x.v]? = some at_ ∧ x.slot = slotW at_ g.width ∧ x.slot ≤ g.to t ∧ (markT came ((sortT (g.ripe t)).take j))[x.v]? = some false := by
  have hm := ripe_mem (List.mem_of_getElem? hj)
  obtain ⟨at_, h1, h2⟩ := h.slot x hm.1
  refine ⟨at_, h1, h2, hm.2, ?_⟩
  rw [markT_not]
  · exact h.not x hm.1
  · intro y hy e
    obtain ⟨i, hi, rfl⟩ := List.getElem_of_mem hy
    rw [List.length_take] at hi
    obtain ⟨hj', rfl⟩ := List.getElem?_eq_some_iff.1 hj
    have hl := List.pairwise_iff_getElem.1 (dueI_lex h t) i j (by omega) hj' (by omega)
    rw [List.getElem_take] at e
    have hs := dueI_same h (ripe_mem (List.getElem_mem (by omega))).1 hm.1 e
    unfold LexT at hl
    omega
theorem dueI_order (h : DueI g ats came) {t j : Nat} {x y : Th} (hy : (sortT (g.ripe t))[j]? = some y) (hx : (sortT (g.ripe t))[j + 1]? = some x) : LexT y x := by
  obtain ⟨h1, rfl⟩ := List.getElem?_eq_some_iff.1 hy
  obtain ⟨h2, rfl⟩ := List.getElem?_eq_some_iff.1 hx
  exact List.pairwise_iff_getElem.1 (dueI_lex h t) j (j + 1) h1 h2 (by omega)
theorem mark_next {t j : Nat} {x : Th} (hj : (sortT (g.ripe t))[j]? = some x) : markT came ((sortT (g.ripe t)).take (j + 1)) = (markT came ((sortT (g.ripe t)).take j)).set x.v true := by
  obtain ⟨h2, rfl⟩ := List.getElem?_eq_some_iff.1 hj
  rw [List.take_succ_eq_append_getElem h2, markT_app]
theorem rest_mem {t : Nat} {x : Th} (hx : x ∈ g.rest t) : ∃ y, y ∈ g.l ∧ ¬ y.slot ≤ g.to t ∧ x.v = y.v ∧ x.slot = y.slot := by
  obtain ⟨y, hy, rfl⟩ := List.mem_map.1 hx
  obtain ⟨h1, h2⟩ := List.mem_filter.1 hy
  refine ⟨y, h1, by simpa using h2, ?_, ?_⟩
  · split <;> rfl
  · split <;> rfl
theorem dueI_adv (h : DueI g ats came) (t : Nat) : DueI (g.adv t) ats (markT came (sortT (g.ripe t))) := by
  have key : ∀ y, y ∈ g.l → ¬ y.slot ≤ g.to t → ∀ x, x ∈ sortT (g.ripe t) → x.v ≠ y.v := fun y hy hs x hx e => by
    have hm := ripe_mem hx
    have := dueI_same h hm.1 hy e
    omega
  refine ⟨by rw [markT_len]; exact h.len, ?_, fun x hx => ?_, fun x hx => ?_, fun i hi => ?_⟩
  · show (g.rest t).Pairwise _
    unfold Wg.rest
    rw [List.pairwise_map]
    refine (h.inc.sublist List.filter_sublist).imp ?_
    intro a b hab
    have e : ∀ x : Th, (if x.at_ ≤ g.to t then { x with at_ := standW g.slots (g.to t) x.slot } else x).v = x.v := fun x => by split <;> rfl
    rw [e, e]
    exact hab
  · obtain ⟨y, hy, _, e1, e2⟩ := rest_mem hx
    rw [e1, e2]
    exact h.slot y hy
  · obtain ⟨y, hy, hs, e1, _⟩ := rest_mem hx
    rw [e1, markT_not _ _ _ (key y hy hs)]
    exact h.not y hy
  · obtain ⟨h1, h2⟩ := markT_false _ _ _ hi
    obtain ⟨y, hy, rfl⟩ := h.all i h1
    have hs : ¬ y.slot ≤ g.to t := fun hs => h2 y (sortT_mem.2 (List.mem_filter.2 ⟨hy, by simpa using hs⟩)) rfl
    refine ⟨_, List.mem_map.2 ⟨y, List.mem_filter.2 ⟨hy, by simpa using hs⟩, rfl⟩, ?_⟩
    split <;> rfl
/-- Who did not come is not due. -/
theorem dueI_not (h : DueI g ats came) {t i : Nat} (hi : (markT came (sortT (g.ripe t)))[i]? = some false) {a : Nat} (ha : ats[i]? = some a) : g.to t < slotW a g.width := by
  obtain ⟨h1, h2⟩ := markT_false _ _ _ hi
  obtain ⟨y, hy, rfl⟩ := h.all i h1
  obtain ⟨a', h3, h4⟩ := h.slot y hy
  rw [ha] at h3
  obtain rfl := Option.some.inj h3
  have hs : ¬ y.slot ≤ g.to t := fun hs => h2 y (sortT_mem.2 (List.mem_filter.2 ⟨hy, by simpa using hs⟩)) rfl
  omega
end
theorem slot_le_at {a w q : Nat} (hw : 1 ≤ w) (h : slotW a w ≤ q / w) : a ≤ q := by
  unfold slotW at h
  have h1 := Nat.lt_mul_div_succ (a + (w - 1)) (show 0 < w by omega)
  have h2 : w * ((a + (w - 1)) / w) ≤ w * (q / w) := Nat.mul_le_mul_left _ h
  have h3 := Nat.mul_div_le q w
  rw [Nat.mul_add, Nat.mul_one] at h1
  omega

end Go.Proofs.YtkiibobpejoaeaaDoor
