/-
  Chains in lists: where each node is, and what each list is, behind a push, a drop and a pop.
-/
import Derived.Test.YthdgpnkkeeebkaaChainGhost
namespace Go.Proofs.Ythdgpnkkeeebkaa
set_option linter.unusedVariables false

theorem Ch.Ok.at_iff {g : Ch} (ok : g.Ok) {x i : Nat} : g.at x = some i ↔ ∃ l : List Nat, g.ls[i]? = some l ∧ x ∈ l :=
  ⟨Ch.at_mem, fun ⟨l, hl, hx⟩ => ok.at_of hl hx⟩
theorem Ch.at_eq {g h : Ch} (og : g.Ok) (oh : h.Ok) {x y : Nat} (e : ∀ i : Nat, (∃ l : List Nat, g.ls[i]? = some l ∧ x ∈ l) ↔ (∃ l : List Nat, h.ls[i]? = some l ∧ y ∈ l)) : g.at x = h.at y := by
  cases e1 : g.at x with
  | some i => exact (oh.at_iff.2 ((e i).1 (og.at_iff.1 e1))).symm
  | none =>
    cases e2 : h.at y with
    | none => rfl
    | some j =>
      rw [og.at_iff.2 ((e j).2 (oh.at_iff.1 e2))] at e1
      cases e1
theorem Ch.none_of {g : Ch} {x : Nat} (h : ∀ (i : Nat) (l : List Nat), g.ls[i]? = some l → x ∉ l) : g.at x = none := by
  cases e : g.at x with
  | none => rfl
  | some i =>
    obtain ⟨l, hl, hx⟩ := Ch.at_mem e
    exact absurd hx (h i l hl)

theorem put_get {g : Ch} {i x : Nat} {l : List Nat} (h : g.ls[i]? = some l) (j : Nat) : (g.put i x).ls[j]? = if j = i then some (l ++ [x]) else g.ls[j]? := by
  unfold Ch.put
  show (g.ls.set i _)[j]? = _
  rw [List.getElem?_set, h]
  have hi := (List.getElem?_eq_some_iff.1 h).1
  by_cases c : i = j
  · subst c
    simp [hi]
  · rw [if_neg c, if_neg (fun e => c e.symm)]
theorem less_get {g : Ch} {i x : Nat} {l : List Nat} (h : g.ls[i]? = some l) (j : Nat) : (g.less i x).ls[j]? = if j = i then some (l.filter fun y => decide (y ≠ x)) else g.ls[j]? := by
  unfold Ch.less
  show (g.ls.set i _)[j]? = _
  rw [List.getElem?_set, h]
  have hi := (List.getElem?_eq_some_iff.1 h).1
  by_cases c : i = j
  · subst c
    simp [hi]
  · rw [if_neg c, if_neg (fun e => c e.symm)]
theorem Ch.Ok.at_put {g : Ch} (ok : g.Ok) {i x : Nat} {l : List Nat} (hl : g.ls[i]? = some l) (hx : x < g.nodes) (hn : g.at x = none) (y : Nat) : (g.put i x).at y = if y = x then some i else g.at y := by
  have hi := (List.getElem?_eq_some_iff.1 hl).1
  have ok' := ok.put hi hx hn
  by_cases c : y = x
  · subst c
    rw [if_pos rfl]
    exact ok'.at_of (l := l ++ [y]) (by rw [put_get hl, if_pos rfl]) (by simp)
  · rw [if_neg c]
    refine Ch.at_eq ok' ok fun j => ?_
    rw [put_get hl]
    by_cases d : j = i
    · subst d
      rw [if_pos rfl, hl]
      simp [c]
    · rw [if_neg d]
theorem Ch.Ok.at_less {g : Ch} (ok : g.Ok) {i x : Nat} (h : g.at x = some i) (y : Nat) : (g.less i x).at y = if y = x then none else g.at y := by
  obtain ⟨l, hl, hx⟩ := Ch.at_mem h
  have ok' := ok.less i x
  by_cases c : y = x
  · subst c
    rw [if_pos rfl]
    refine Ch.none_of fun j m hm hy => ?_
    rw [less_get hl] at hm
    by_cases d : j = i
    · rw [if_pos d] at hm
      rw [← Option.some.inj hm] at hy
      simp at hy
    · rw [if_neg d] at hm
      exact d (ok.apart j i m l y hm hl hy hx)
  · rw [if_neg c]
    refine Ch.at_eq ok' ok fun j => ?_
    rw [less_get hl]
    by_cases d : j = i
    · subst d
      rw [if_pos rfl, hl]
      simp [c]
    · rw [if_neg d]

/-- Push, of a list and a node that there are, the node being in none. -/
theorem push_is {g : Ch} {i x : Nat} {l : List Nat} (hl : g.ls[i]? = some l) (hx : x < g.nodes) (hn : g.at x = none) : g.pushE (i : Int) (x : Int) = 0 ∧ g.push (i : Int) (x : Int) = g.put i x := by
  have e : g.pushE (i : Int) (x : Int) = 0 := by
    unfold Ch.pushE Ch.is
    rw [Ch.row_nat, hl, Ch.inn_nat, hn]
    rw [if_neg (by simp; omega), if_neg (by simp)]
  refine ⟨e, ?_⟩
  unfold Ch.push
  rw [if_pos e]
  simp
theorem push_in {g : Ch} {i x j : Nat} {l : List Nat} (hl : g.ls[i]? = some l) (hx : x < g.nodes) (hn : g.at x = some j) : g.pushE (i : Int) (x : Int) = 50 := by
  unfold Ch.pushE Ch.is
  rw [Ch.row_nat, hl, Ch.inn_nat, hn]
  rw [if_neg (by simp; omega), if_pos (by simp)]
theorem drop_is {g : Ch} {i x : Nat} (h : g.at x = some i) : g.drop (x : Int) = g.less i x := by
  unfold Ch.drop
  rw [Ch.inn_nat, h]
  simp
theorem drop_not {g : Ch} {n : Int} (h : g.inn n = none) : g.drop n = g := by
  unfold Ch.drop
  rw [h]
theorem list_nat {g : Ch} {i : Nat} {l : List Nat} (h : g.ls[i]? = some l) : g.list (i : Int) = l := by
  unfold Ch.list
  rw [Ch.row_nat, h]
  rfl
/-- Pop, of a list that has some: its first one leaves. -/
theorem pop_is {g : Ch} (ok : g.Ok) {i x : Nat} {l : List Nat} (h : g.ls[i]? = some (x :: l)) : g.pop (i : Int) = g.less i x ∧ (g.pop (i : Int)).ls[i]? = some l ∧ ∀ j, j ≠ i → (g.pop (i : Int)).ls[j]? = g.ls[j]? := by
  have ha : g.at x = some i := ok.at_of h (by simp)
  have e : g.pop (i : Int) = g.less i x := by
    unfold Ch.pop
    rw [list_nat h]
    exact drop_is ha
  refine ⟨e, ?_, fun j hj => ?_⟩
  · rw [e, less_get h, if_pos rfl, filter_head (ok.nodup i _ h)]
  · rw [e, less_get h, if_neg hj]
theorem pop_not {g : Ch} {i : Int} (h : g.list i = []) : g.pop i = g := by
  unfold Ch.pop
  rw [h]
/-- A node that is put last, and taken out, leaves the list as it was. -/
theorem filter_put {x : Nat} {l : List Nat} (h : x ∉ l) : (l ++ [x]).filter (fun y => decide (y ≠ x)) = l := by
  rw [List.filter_append, List.filter_cons, if_neg (by simp), List.filter_nil, List.append_nil]
  refine List.filter_eq_self.2 fun y hy => ?_
  have : y ≠ x := fun e => h (e ▸ hy)
  simpa using this

/-- As many numbers, each another one, as there are below n, at most. -/
theorem nodup_below : ∀ (n : Nat) (l : List Nat), l.Nodup → (∀ x, x ∈ l → x < n) → l.length ≤ n
  | 0, l, _, h => by
    cases l with
    | nil => exact Nat.le_refl _
    | cons x t => exact absurd (h x (by simp)) (by omega)
  | n + 1, l, hn, h => by
    by_cases c : n ∈ l
    · have h1 := nodup_below n (l.erase n) (hn.erase n) (fun x hx => by
        have h2 := (hn.mem_erase_iff).1 hx
        have h3 := h x h2.2
        have h4 := h2.1
        omega)
      rw [List.length_erase_of_mem c] at h1
      omega
    · have h1 := nodup_below n l hn (fun x hx => by
        have h3 := h x hx
        have h4 : x ≠ n := fun e => c (e ▸ hx)
        omega)
      omega
theorem short_list {g : Ch} (ok : g.Ok) {i : Nat} {l : List Nat} (h : g.ls[i]? = some l) : l.length ≤ g.nodes := nodup_below _ l (ok.nodup i l h) (ok.lt i l h)
theorem ch_row {g : Ch} {k : Nat} (h : k < g.ls.length) : ∃ l, g.ls[k]? = some l := ⟨_, List.getElem?_eq_getElem h⟩

end Go.Proofs.Ythdgpnkkeeebkaa
