/-
  A queue, of no program: packets by rising keys; those that came in order, and those that came late, beside each other.
-/
import Derived.Test.YtkiibobpejoaeaaTreeOrderFacts
namespace Go.Proofs.Ytkiibobpejoaeaa
set_option linter.unusedVariables false

/-- A handle as a number of the tree's kind, and back. -/
def toI (h : Int) : Int := if h < 9223372036854775808 then h else h - 18446744073709551616
def lateE (e : En) : En := ⟨e.key, if e.val < 0 then e.val + 18446744073709551616 else e.val⟩
def Hw (h : Int) : Prop := 0 ≤ h ∧ h < 18446744073709551616
theorem toI_fits {h : Int} (w : Hw h) : -9223372036854775808 ≤ toI h ∧ toI h ≤ 9223372036854775807 := by unfold toI Hw at *; split <;> omega
theorem late_toI {k : Ky} {h : Int} (w : Hw h) : lateE ⟨k, toI h⟩ = ⟨k, h⟩ := by
  unfold lateE toI Hw at *
  simp only [En.mk.injEq, true_and]
  split <;> split <;> omega
/-- All; of them those that stand in the row, and in the tree. -/
structure Parts (l r t : List En) : Prop where
  rl : Rises l
  rr : Rises r
  rt : Rises t
  mem : ∀ e, e ∈ l ↔ e ∈ r ∨ e ∈ t.map lateE
  len : l.length = r.length + t.length
  apart : ∀ a, a ∈ r → ∀ b, b ∈ t → a.key ≠ b.key
theorem late_mem {e : En} {t : List En} (h : e ∈ t.map lateE) : ∃ b, b ∈ t ∧ e = lateE b ∧ e.key = b.key := by
  obtain ⟨b, hb, rfl⟩ := List.mem_map.1 h
  exact ⟨b, hb, rfl, rfl⟩
theorem Parts.nil : Parts [] [] [] := ⟨List.Pairwise.nil, List.Pairwise.nil, List.Pairwise.nil, fun e => by simp, rfl, fun a ha => by cases ha⟩
section
variable {l r t : List En}
theorem getL_isSome {k : Ky} {l : List En} : (getL k l).isSome = true ↔ ∃ e, e ∈ l ∧ e.key = k := by
  constructor
  · intro h
    obtain ⟨v, hv⟩ := Option.isSome_iff_exists.1 h
    exact ⟨_, getL_some hv, rfl⟩
  · rintro ⟨e, he, hk⟩
    cases h : getL k l with
    | none => exact absurd hk (getL_none h e he)
    | some v => rfl
theorem Parts.has (h : Parts l r t) (k : Ky) : (getL k l).isSome = ((getL k r).isSome || (getL k t).isSome) := by
  rw [Bool.eq_iff_iff, Bool.or_eq_true, getL_isSome, getL_isSome, getL_isSome]
  constructor
  · rintro ⟨e, he, hk⟩
    rcases (h.mem e).1 he with h1 | h1
    · exact .inl ⟨e, h1, hk⟩
    · obtain ⟨b, hb, _, e1⟩ := late_mem h1
      exact .inr ⟨b, hb, e1 ▸ hk⟩
  · rintro (⟨e, he, hk⟩ | ⟨e, he, hk⟩)
    · exact ⟨e, (h.mem e).2 (.inl he), hk⟩
    · exact ⟨lateE e, (h.mem _).2 (.inr (List.mem_map_of_mem he)), hk⟩
theorem getL_not {k : Ky} {l : List En} (h : (getL k l).isSome = false) : ∀ e, e ∈ l → e.key ≠ k := by
  cases h1 : getL k l with
  | none => exact getL_none h1
  | some v => rw [h1] at h; cases h
/-- One more, behind all of the row. -/
theorem Parts.push (h : Parts l r t) {k : Ky} {v : Int} (hn : (getL k l).isSome = false) (hr : ∀ e, e ∈ r → e.key.lt k) : Parts (insL k v l) (r ++ [⟨k, v⟩]) t := by
  refine ⟨h.rl.ins (getL_not hn), List.pairwise_append.2 ⟨h.rr, List.pairwise_singleton _ _, fun a ha b hb => by rw [List.mem_singleton.1 hb]; exact hr a ha⟩, h.rt, fun e => ?_, ?_, fun a ha b hb => ?_⟩
  · rw [insL_mem, h.mem, List.mem_append, List.mem_singleton]
    constructor
    · rintro (h1 | h1 | h1)
      · exact .inl (.inr h1)
      · exact .inl (.inl h1)
      · exact .inr h1
    · rintro ((h1 | h1) | h1)
      · exact .inr (.inl h1)
      · exact .inl h1
      · exact .inr (.inr h1)
  · rw [insL_length, List.length_append, List.length_singleton, h.len]; omega
  · rcases List.mem_append.1 ha with ha | ha
    · exact h.apart a ha b hb
    · rw [List.mem_singleton.1 ha]
      have h1 := hn
      rw [h.has k, Bool.or_eq_false_iff] at h1
      exact fun e => getL_not h1.2 b hb e.symm
/-- One more, late. -/
theorem Parts.late (h : Parts l r t) {k : Ky} {v : Int} (hv : Hw v) (hn : (getL k l).isSome = false) : Parts (insL k v l) r (insL k (toI v) t) := by
  have h1 := hn
  rw [h.has k, Bool.or_eq_false_iff] at h1
  refine ⟨h.rl.ins (getL_not hn), h.rr, h.rt.ins (getL_not h1.2), fun e => ?_, ?_, fun a ha b hb => ?_⟩
  · rw [insL_mem, h.mem]
    have e1 : e ∈ (insL k (toI v) t).map lateE ↔ e = ⟨k, v⟩ ∨ e ∈ t.map lateE := by
      constructor
      · intro he
        obtain ⟨b, hb, rfl, _⟩ := late_mem he
        rcases insL_mem.1 hb with rfl | hb
        · exact .inl (late_toI hv)
        · exact .inr (List.mem_map_of_mem hb)
      · rintro (rfl | he)
        · rw [← late_toI hv]
          exact List.mem_map_of_mem (insL_mem.2 (.inl rfl))
        · obtain ⟨b, hb, rfl, _⟩ := late_mem he
          exact List.mem_map_of_mem (insL_mem.2 (.inr hb))
    rw [e1]
    constructor
    · rintro (h1 | h1 | h1)
      · exact .inr (.inl h1)
      · exact .inl h1
      · exact .inr (.inr h1)
    · rintro (h1 | h1 | h1)
      · exact .inr (.inl h1)
      · exact .inl h1
      · exact .inr (.inr h1)
  · rw [insL_length, insL_length, h.len]; omega
  · rcases insL_mem.1 hb with rfl | hb
    · exact getL_not h1.1 a ha
    · exact h.apart a ha b hb
/-- What is ahead of all others is the first one. -/
theorem head_of {x : En} : ∀ {l : List En}, Rises l → x ∈ l → (∀ y, y ∈ l → y.key = x.key ∨ x.key.lt y.key) → ∃ m, l = x :: m
  | [], _, hx, _ => by cases hx
  | a :: m, hr, hx, hl => by
    have h1 := List.pairwise_cons.1 hr
    rcases List.mem_cons.1 hx with rfl | hx
    · exact ⟨m, rfl⟩
    · exfalso
      have h2 := h1.1 x hx
      rcases hl a List.mem_cons_self with h3 | h3
      · rw [h3] at h2
        exact Ky.lt_irrefl _ h2
      · exact Ky.lt_asymm h2 h3
/-- The first one of the row is the first one of all. -/
theorem Parts.head_row {x : En} (h : Parts l (x :: r) t) (ht : ∀ b, t.head? = some b → x.key.lt b.key) : ∃ m, l = x :: m ∧ Parts m r t := by
  have hr := List.pairwise_cons.1 h.rr
  have hall : ∀ b, b ∈ t → x.key.lt b.key := fun b hb => by
    cases ht' : t with
    | nil => rw [ht'] at hb; cases hb
    | cons c u =>
      have h2 := ht c (by rw [ht']; rfl)
      rw [ht'] at hb
      rcases List.mem_cons.1 hb with rfl | hb
      · exact h2
      · have h3 := h.rt
        rw [ht'] at h3
        exact Ky.lt_trans h2 ((List.pairwise_cons.1 h3).1 b hb)
  obtain ⟨m, rfl⟩ := head_of h.rl ((h.mem x).2 (.inl List.mem_cons_self)) (fun y hy => by
    rcases (h.mem y).1 hy with h1 | h1
    · rcases List.mem_cons.1 h1 with rfl | h1
      · exact .inl rfl
      · exact .inr (hr.1 y h1)
    · obtain ⟨b, hb, _, e⟩ := late_mem h1
      rw [e]
      exact .inr (hall b hb))
  have hm := List.pairwise_cons.1 h.rl
  refine ⟨m, rfl, hm.2, hr.2, h.rt, fun e => ?_, ?_, fun a ha b hb => h.apart a (List.mem_cons_of_mem _ ha) b hb⟩
  · constructor
    · intro he
      have h1 := hm.1 e he
      rcases (h.mem e).1 (List.mem_cons_of_mem _ he) with h2 | h2
      · rcases List.mem_cons.1 h2 with rfl | h2
        · exact absurd h1 (Ky.lt_irrefl _)
        · exact .inl h2
      · exact .inr h2
    · intro he
      have h1 : e ∈ x :: m := (h.mem e).2 (he.imp (List.mem_cons_of_mem _) id)
      rcases List.mem_cons.1 h1 with rfl | h1
      · exfalso
        rcases he with he | he
        · exact Ky.lt_irrefl _ (hr.1 e he)
        · obtain ⟨b, hb, _, e2⟩ := late_mem he
          have := hall b hb
          rw [← e2] at this
          exact Ky.lt_irrefl _ this
      · exact h1
  · have := h.len
    simp only [List.length_cons] at this
    omega
/-- The first one of the tree is. -/
theorem Parts.head_late {y : En} (h : Parts l r (y :: t)) (hx : ∀ x, r.head? = some x → ¬ x.key.lt y.key) : ∃ m, l = lateE y :: m ∧ Parts m r t := by
  have ht := List.pairwise_cons.1 h.rt
  have hall : ∀ a, a ∈ r → y.key.lt a.key := fun a ha => by
    cases hr' : r with
    | nil => rw [hr'] at ha; cases ha
    | cons c u =>
      have h2 := hx c (by rw [hr']; rfl)
      have h3 : y.key.lt c.key := by
        rcases Ky.cases c.key y.key with h4 | h4 | h4
        · exact absurd h4 h2
        · exact absurd h4 (h.apart c (by rw [hr']; exact List.mem_cons_self) y List.mem_cons_self)
        · exact h4
      rw [hr'] at ha
      rcases List.mem_cons.1 ha with rfl | ha
      · exact h3
      · have h5 := h.rr
        rw [hr'] at h5
        exact Ky.lt_trans h3 ((List.pairwise_cons.1 h5).1 a ha)
  obtain ⟨m, rfl⟩ := head_of (x := lateE y) h.rl ((h.mem _).2 (.inr (by simp))) (fun z hz => by
    rcases (h.mem z).1 hz with h1 | h1
    · exact .inr (hall z h1)
    · obtain ⟨b, hb, _, e⟩ := late_mem h1
      rw [e]
      rcases List.mem_cons.1 hb with rfl | hb
      · exact .inl rfl
      · exact .inr (ht.1 b hb))
  have hm := List.pairwise_cons.1 h.rl
  refine ⟨m, rfl, hm.2, h.rr, ht.2, fun e => ?_, ?_, fun a ha b hb => h.apart a ha b (List.mem_cons_of_mem _ hb)⟩
  · constructor
    · intro he
      have h1 := hm.1 e he
      rcases (h.mem e).1 (List.mem_cons_of_mem _ he) with h2 | h2
      · exact .inl h2
      · rw [List.map_cons] at h2
        rcases List.mem_cons.1 h2 with rfl | h2
        · exact absurd h1 (Ky.lt_irrefl _)
        · exact .inr h2
    · intro he
      have h1 : e ∈ lateE y :: m := (h.mem e).2 (he.imp id (fun h => by rw [List.map_cons]; exact List.mem_cons_of_mem _ h))
      rcases List.mem_cons.1 h1 with rfl | h1
      · exfalso
        rcases he with he | he
        · exact Ky.lt_irrefl y.key (hall (lateE y) he)
        · obtain ⟨b, hb, _, e2⟩ := late_mem he
          have := ht.1 b hb
          rw [← e2] at this
          exact Ky.lt_irrefl _ this
      · exact h1
  · have := h.len
    simp only [List.length_cons] at this
    omega
theorem del_head {y : En} {t : List En} (h : Rises (y :: t)) : delL y.key (y :: t) = t := by
  unfold delL
  rw [List.filter_cons_of_neg (by simp)]
  refine List.filter_eq_self.2 fun e he => ?_
  have h1 := (List.pairwise_cons.1 h).1 e he
  simp only [ne_eq, decide_eq_true_eq]
  intro e2
  rw [e2] at h1
  exact Ky.lt_irrefl _ h1
end
/-- How many of a row are below a key. -/
def below (k : Ky) (r : List En) : Nat := (r.takeWhile fun e => decide (e.key.lt k)).length
theorem below_cons {k : Ky} {a : En} {r : List En} : below k (a :: r) = if a.key.lt k then below k r + 1 else 0 := by
  unfold below
  rw [List.takeWhile_cons]
  by_cases c : a.key.lt k
  · rw [if_pos c, if_pos (by simpa using c), List.length_cons]
  · rw [if_neg c, if_neg (by simpa using c), List.length_nil]
theorem below_le {k : Ky} : ∀ {r : List En}, below k r ≤ r.length
  | [] => Nat.le_refl _
  | a :: r => by
    rw [below_cons, List.length_cons]
    split
    · have := below_le (k := k) (r := r); omega
    · omega
theorem below_lt {k : Ky} : ∀ {r : List En} {i : Nat} {e : En}, i < below k r → r[i]? = some e → e.key.lt k
  | [], i, e, h, _ => by simp [below] at h
  | a :: r, i, e, h, hi => by
    rw [below_cons] at h
    split at h
    · rename_i c
      cases i with
      | zero => obtain rfl : a = e := by simpa using hi
                exact c
      | succ i => exact below_lt (r := r) (i := i) (by omega) (by simpa using hi)
    · omega
theorem below_ge {k : Ky} : ∀ {r : List En} {i : Nat} {e : En}, Rises r → below k r ≤ i → r[i]? = some e → ¬ e.key.lt k
  | [], i, e, _, _, hi => by simp at hi
  | a :: r, i, e, hr, h, hi => by
    rw [below_cons] at h
    have h1 := List.pairwise_cons.1 hr
    split at h
    · cases i with
      | zero => omega
      | succ i => exact below_ge (r := r) (i := i) h1.2 (by omega) (by simpa using hi)
    · rename_i c
      cases i with
      | zero => obtain rfl : a = e := by simpa using hi
                exact c
      | succ i =>
        have h2 := h1.1 e (List.mem_of_getElem? (show r[i]? = some e by simpa using hi))
        exact fun h3 => c (Ky.lt_trans h2 h3)
/-- The only number of which that is so. -/
theorem below_is {k : Ky} {r : List En} {j : Nat} (hr : Rises r) (hj : j ≤ r.length) (h1 : ∀ i e, i < j → r[i]? = some e → e.key.lt k) (h2 : ∀ i e, j ≤ i → r[i]? = some e → ¬ e.key.lt k) : below k r = j := by
  rcases Nat.lt_trichotomy (below k r) j with h | h | h
  · have hl : below k r < r.length := by omega
    exact absurd (h1 _ _ h (List.getElem?_eq_getElem hl)) (below_ge hr (Nat.le_refl _) (List.getElem?_eq_getElem hl))
  · exact h
  · have h3 := below_le (k := k) (r := r)
    have hl : j < r.length := by omega
    exact absurd (below_lt h (List.getElem?_eq_getElem hl)) (h2 _ _ (Nat.le_refl _) (List.getElem?_eq_getElem hl))
/-- Whether a key is there: it stands where it would. -/
theorem below_has {k : Ky} {r : List En} (hr : Rises r) : (getL k r).isSome = true ↔ ∃ e, r[below k r]? = some e ∧ e.key = k := by
  rw [getL_isSome]
  constructor
  · rintro ⟨e, he, rfl⟩
    obtain ⟨i, hi, rfl⟩ := List.getElem_of_mem he
    have : below r[i].key r = i := below_is hr (by omega) (fun i' e' h' he' => by
      obtain ⟨h3, rfl⟩ := List.getElem?_eq_some_iff.1 he'
      exact List.pairwise_iff_getElem.1 hr i' i h3 hi h') (fun i' e' h' he' => by
      obtain ⟨h3, rfl⟩ := List.getElem?_eq_some_iff.1 he'
      rcases Nat.lt_or_eq_of_le h' with h4 | h4
      · exact Ky.lt_asymm (List.pairwise_iff_getElem.1 hr i i' hi h3 h4)
      · subst h4
        exact Ky.lt_irrefl _)
    exact ⟨_, by rw [this]; exact List.getElem?_eq_getElem hi, rfl⟩
  · rintro ⟨e, he, hk⟩
    exact ⟨e, List.mem_of_getElem? he, hk⟩
/-- Row and tree, told together: ahead of each late one all of the row that is ahead of it. -/
def mergeP : List En → List En → List En
  | r, [] => r
  | r, e :: t => r.take (below e.key r) ++ lateE e :: mergeP (r.drop (below e.key r)) t
theorem mergeP_mem : ∀ (t r : List En) (x : En), x ∈ mergeP r t ↔ x ∈ r ∨ x ∈ t.map lateE
  | [], r, x => by simp [mergeP]
  | e :: t, r, x => by
    have h := mergeP_mem t (r.drop (below e.key r)) x
    have hs : x ∈ r ↔ x ∈ r.take (below e.key r) ∨ x ∈ r.drop (below e.key r) := by rw [← List.mem_append, List.take_append_drop]
    rw [mergeP, List.mem_append, List.mem_cons, h, hs, List.map_cons, List.mem_cons]
    constructor
    · rintro (h1 | h1 | h1 | h1)
      · exact .inl (.inl h1)
      · exact .inr (.inl h1)
      · exact .inl (.inr h1)
      · exact .inr (.inr h1)
    · rintro ((h1 | h1) | h1 | h1)
      · exact .inl h1
      · exact .inr (.inr (.inl h1))
      · exact .inr (.inl h1)
      · exact .inr (.inr (.inr h1))
theorem mergeP_rises : ∀ (t r : List En), Rises r → Rises t → (∀ a, a ∈ r → ∀ b, b ∈ t → a.key ≠ b.key) → Rises (mergeP r t)
  | [], r, hr, _, _ => hr
  | e :: t, r, hr, ht, ha => by
    have h1 := List.pairwise_cons.1 ht
    have hd : Rises (r.drop (below e.key r)) := hr.sublist (List.drop_sublist _ _)
    have ih := mergeP_rises t (r.drop (below e.key r)) hd h1.2 (fun a ha' b hb => ha a (List.mem_of_mem_drop ha') b (List.mem_cons_of_mem _ hb))
    have hlt : ∀ a, a ∈ r.take (below e.key r) → a.key.lt e.key := fun a ha' => by
      obtain ⟨i, hi, rfl⟩ := List.getElem_of_mem ha'
      rw [List.length_take] at hi
      rw [List.getElem_take]
      exact below_lt (r := r) (i := i) (by omega) (List.getElem?_eq_getElem (by omega))
    have hgt : ∀ a, a ∈ r.drop (below e.key r) → e.key.lt a.key := fun a ha' => by
      obtain ⟨i, hi, rfl⟩ := List.getElem_of_mem ha'
      rw [List.length_drop] at hi
      rw [List.getElem_drop]
      have h2 := below_ge (k := e.key) (i := below e.key r + i) hr (by omega) (List.getElem?_eq_getElem (by omega))
      rcases Ky.cases r[below e.key r + i].key e.key with h3 | h3 | h3
      · exact absurd h3 h2
      · exact absurd h3 (ha _ (List.getElem_mem (by omega)) e List.mem_cons_self)
      · exact h3
    have hrest : ∀ x, x ∈ mergeP (r.drop (below e.key r)) t → e.key.lt x.key := fun x hx => by
      rcases (mergeP_mem _ _ _).1 hx with h2 | h2
      · exact hgt x h2
      · obtain ⟨b, hb, _, e2⟩ := late_mem h2
        rw [e2]
        exact h1.1 b hb
    rw [mergeP]
    refine List.pairwise_append.2 ⟨hr.sublist (List.take_sublist _ _), List.pairwise_cons.2 ⟨fun x hx => hrest x hx, ih⟩, fun a ha' b hb => ?_⟩
    rcases List.mem_cons.1 hb with rfl | hb
    · exact hlt a ha'
    · exact Ky.lt_trans (hlt a ha') (hrest b hb)
theorem Parts.merge {l r t : List En} (h : Parts l r t) : mergeP r t = l :=
  rises_same (mergeP_rises t r h.rr h.rt h.apart) h.rl fun e => by rw [mergeP_mem, h.mem]

end Go.Proofs.Ytkiibobpejoaeaa
