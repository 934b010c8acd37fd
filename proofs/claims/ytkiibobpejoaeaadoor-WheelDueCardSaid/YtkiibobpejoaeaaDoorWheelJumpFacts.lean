/-
  The cursor goes on at once, or in steps: the same comes due, in the same order. Of no program.
-/
import Derived.Test.YtkiibobpejoaeaaDoorWheelGhost
namespace Go.Proofs.YtkiibobpejoaeaaDoor
set_option linter.unusedVariables false

theorem insT_left {x : Th} {B : List Th} (h : ∀ y, y ∈ B → x.slot ≤ y.slot) : ∀ A : List Th, insT x (A ++ B) = insT x A ++ B
  | [] => by
    cases B with
    | nil => rfl
    | cons y B =>
      show insT x (y :: B) = x :: y :: B
      unfold insT
      rw [if_pos (h y List.mem_cons_self)]
  | y :: A => by
    show insT x (y :: (A ++ B)) = insT x (y :: A) ++ B
    unfold insT
    split
    · rfl
    · rw [insT_left h A]; rfl
theorem insT_right {x : Th} {B : List Th} : ∀ A : List Th, (∀ y, y ∈ A → y.slot < x.slot) → insT x (A ++ B) = A ++ insT x B
  | [], _ => rfl
  | y :: A, h => by
    show insT x (y :: (A ++ B)) = y :: (A ++ insT x B)
    have h1 := h y List.mem_cons_self
    rw [insT, if_neg (by omega), insT_right A fun z hz => h z (List.mem_cons_of_mem _ hz)]
/-- What is due up to b: first what is due up to a, then the rest. -/
theorem sortT_part {a b : Nat} (hab : a ≤ b) : ∀ l : List Th, sortT (l.filter fun x => decide (x.slot ≤ b)) = sortT (l.filter fun x => decide (x.slot ≤ a)) ++ sortT ((l.filter fun x => !decide (x.slot ≤ a)).filter fun x => decide (x.slot ≤ b))
  | [] => rfl
  | x :: l => by
    have ih := sortT_part hab l
    by_cases c : x.slot ≤ a
    · rw [List.filter_cons_of_pos (by simp; omega), List.filter_cons_of_pos (by simpa using c), List.filter_cons_of_neg (by simpa using c), sortT, sortT, ih, insT_left]
      intro y hy
      have hy2 := (List.mem_filter.1 (List.mem_filter.1 (sortT_mem.1 hy)).1).2
      have : ¬ y.slot ≤ a := by simpa using hy2
      omega
    · rw [List.filter_cons_of_neg (p := fun x : Th => decide (x.slot ≤ a)) (by simpa using c), List.filter_cons_of_pos (p := fun x : Th => !decide (x.slot ≤ a)) (by simpa using c)]
      by_cases d : x.slot ≤ b
      · rw [List.filter_cons_of_pos (by simpa using d), List.filter_cons_of_pos (by simpa using d), sortT, sortT, ih, insT_right]
        intro y hy
        have hy2 := (List.mem_filter.1 (sortT_mem.1 hy)).2
        have : y.slot ≤ a := by simpa using hy2
        omega
      · rw [List.filter_cons_of_neg (by simpa using d), List.filter_cons_of_neg (by simpa using d), ih]
/-- Where it stands does not matter. -/
structure Moves (f : Th → Th) : Prop where
  v : ∀ x, (f x).v = x.v
  slot : ∀ x, (f x).slot = x.slot
theorem insT_map {f : Th → Th} (h : Moves f) (x : Th) : ∀ l : List Th, insT (f x) (l.map f) = (insT x l).map f
  | [] => rfl
  | y :: l => by
    show insT (f x) (f y :: l.map f) = _
    unfold insT
    rw [h.slot, h.slot]
    split
    · rfl
    · rw [insT_map h x l]; rfl
theorem sortT_map {f : Th → Th} (h : Moves f) : ∀ l : List Th, sortT (l.map f) = (sortT l).map f
  | [] => rfl
  | x :: l => by
    show insT (f x) (sortT (l.map f)) = _
    rw [sortT_map h l, insT_map h]
    rfl
theorem filter_map {f : Th → Th} (h : Moves f) (b : Nat) (l : List Th) : (l.map f).filter (fun x => decide (x.slot ≤ b)) = (l.filter fun x => decide (x.slot ≤ b)).map f := by
  rw [List.filter_map]
  congr 2
  funext x
  show decide ((f x).slot ≤ b) = _
  rw [h.slot]
theorem filter_map' {f : Th → Th} (h : Moves f) (b : Nat) (l : List Th) : (l.map f).filter (fun x => !decide (x.slot ≤ b)) = (l.filter fun x => !decide (x.slot ≤ b)).map f := by
  rw [List.filter_map]
  congr 2
  funext x
  show (!decide ((f x).slot ≤ b)) = _
  rw [h.slot]
/-- A wheel that went on in steps, up to c, beside one that stood. -/
structure Steps (g h : Wg) (c : Nat) : Prop where
  width : h.width = g.width
  cur : h.cur = c
  due : h.due = (sortT (g.l.filter fun x => decide (x.slot ≤ c))).map Th.v
  l : ∃ f, Moves f ∧ h.l = (g.l.filter fun x => !decide (x.slot ≤ c)).map f
theorem steps_adv {g h : Wg} {c : Nat} (s : Steps g h c) (t : Nat) : Steps g (h.adv t) (max c (t / g.width)) := by
  obtain ⟨f, hf, hl⟩ := s.l
  have hto : h.to t = max c (t / g.width) := by unfold Wg.to; rw [s.cur, s.width]
  have hle : c ≤ max c (t / g.width) := Nat.le_max_left _ _
  have hff : (g.l.filter fun x => !decide (x.slot ≤ c)).filter (fun x => !decide (x.slot ≤ max c (t / g.width))) = g.l.filter fun x => !decide (x.slot ≤ max c (t / g.width)) := by
    rw [List.filter_filter]
    congr 1
    funext x
    by_cases d : x.slot ≤ max c (t / g.width)
    · simp [d]
    · have : ¬ x.slot ≤ c := by omega
      simp [d, this]
  refine ⟨s.width, hto, ?_, ?_⟩
  · show h.due ++ (sortT (h.l.filter fun x => decide (x.slot ≤ h.to t))).map Th.v = _
    rw [hto, s.due, hl, filter_map hf, sortT_map hf, List.map_map, show (Th.v ∘ f) = Th.v from funext fun x => hf.v x, ← List.map_append, ← sortT_part hle]
  · refine ⟨fun x => (fun x => if x.at_ ≤ h.to t then { x with at_ := standW h.slots (h.to t) x.slot } else x) (f x), ⟨fun x => ?_, fun x => ?_⟩, ?_⟩
    · show (if _ then _ else _ : Th).v = _
      split <;> exact hf.v x
    · show (if _ then _ else _ : Th).slot = _
      split <;> exact hf.slot x
    · show (h.l.filter fun x => !decide (x.slot ≤ h.to t)).map _ = _
      rw [hl, filter_map' hf, List.map_map, hto, hff]
      rfl
theorem steps_first {g : Wg} (hc : g.cur = 0) (hd : g.due = []) (t : Nat) : Steps g (g.adv t) (t / g.width) := by
  have hto : g.to t = t / g.width := by unfold Wg.to; rw [hc]; exact Nat.zero_max _
  refine ⟨rfl, hto, ?_, ?_⟩
  · show g.due ++ (sortT (g.l.filter fun x => decide (x.slot ≤ g.to t))).map Th.v = _
    rw [hd, hto]
    rfl
  · refine ⟨fun x => if x.at_ ≤ g.to t then { x with at_ := standW g.slots (g.to t) x.slot } else x, ⟨fun x => ?_, fun x => ?_⟩, ?_⟩
    · show (if _ then _ else _ : Th).v = _
      split <;> rfl
    · show (if _ then _ else _ : Th).slot = _
      split <;> rfl
    · show (g.l.filter fun x => !decide (x.slot ≤ g.to t)).map _ = _
      rw [hto]
theorem steps_same {g h h' : Wg} {c : Nat} (s : Steps g h c) (s' : Steps g h' c) : h.due = h'.due ∧ h.l.length = h'.l.length ∧ h.cur = h'.cur := by
  obtain ⟨f, _, e⟩ := s.l
  obtain ⟨f', _, e'⟩ := s'.l
  exact ⟨s.due.trans s'.due.symm, by rw [e, e', List.length_map, List.length_map], s.cur.trans s'.cur.symm⟩
theorem max_div (a b n : Nat) : max a b / n = max (a / n) (b / n) := by
  rcases Nat.le_total a b with h | h
  · rw [Nat.max_eq_right h, Nat.max_eq_right (Nat.div_le_div_right h)]
  · rw [Nat.max_eq_left h, Nat.max_eq_left (Nat.div_le_div_right h)]

end Go.Proofs.YtkiibobpejoaeaaDoor
