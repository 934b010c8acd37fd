/-
  Chains in lists, and the rings that they are: what a push and a leaving make of the rings, the homes and the sizes.
-/
import Derived.Test.YthdgpnkkeeebkaaChainRing
import Derived.Test.YthdgpnkkeeebkaaChainFacts
namespace Go.Proofs.Ythdgpnkkeeebkaa
set_option linter.unusedVariables false

def homeOf (g : Ch) (x : Nat) : Nat := match g.at x with
  | some i => i + 1
  | none => 0
def sizeOf (g : Ch) (i : Nat) : Nat := (g.ls[i]?.getD []).length
def Rings (K : Nat → Nat) (g : Ch) : Prop := ∀ (i : Nat) (l : List Nat), g.ls[i]? = some l → Ring K (g.nodes + i) l

theorem ring_nodup {g : Ch} (ok : g.Ok) {i : Nat} {l : List Nat} (h : g.ls[i]? = some l) : ((g.nodes + i) :: l).Nodup := by
  rw [List.nodup_cons]
  refine ⟨fun hm => ?_, ok.nodup i l h⟩
  have := ok.lt i l h _ hm
  omega
/-- Two rings have no place in common. -/
theorem rings_apart {g : Ch} (ok : g.Ok) {i j y : Nat} {l k : List Nat} (hi : g.ls[i]? = some l) (hj : g.ls[j]? = some k) (hne : i ≠ j) (h : y ∈ (g.nodes + i) :: l) : y ∉ (g.nodes + j) :: k := by
  intro h2
  rcases List.mem_cons.1 h with h | h
  · rcases List.mem_cons.1 h2 with h2 | h2
    · omega
    · have := ok.lt j k hj y h2
      omega
  · rcases List.mem_cons.1 h2 with h2 | h2
    · have := ok.lt i l hi y h
      omega
    · exact hne (ok.apart i j l k y hi hj h h2)
theorem less_len {x : Nat} {l : List Nat} (hn : l.Nodup) (hx : x ∈ l) : ∃ u v, l = u ++ x :: v ∧ l.filter (fun y => decide (y ≠ x)) = u ++ v := by
  obtain ⟨u, v, rfl⟩ := List.append_of_mem hx
  refine ⟨u, v, rfl, ?_⟩
  obtain ⟨h1, h2, h3⟩ := List.nodup_append.1 hn
  obtain ⟨h4, _⟩ := List.nodup_cons.1 h2
  rw [List.filter_append, List.filter_cons, if_neg (by simp)]
  have e1 : u.filter (fun y => decide (y ≠ x)) = u := List.filter_eq_self.2 fun y hy => by
    have : y ≠ x := h3 y hy x (by simp)
    simpa using this
  have e2 : v.filter (fun y => decide (y ≠ x)) = v := List.filter_eq_self.2 fun y hy => by
    have : y ≠ x := fun e => h4 (e ▸ hy)
    simpa using this
  rw [e1, e2]

/-- A node leaves the list in which it is. -/
theorem less_step {K : Nat → Nat} {g : Ch} (ok : g.Ok) (R : Rings K g) {i x : Nat} (h : g.at x = some i) :
    ∃ l s, g.ls[i]? = some l ∧ x ∈ l ∧ l.length = s + 1 ∧ K (x * 2) < g.nodes + g.ls.length ∧ K (x * 2 + 1) < g.nodes + g.ls.length ∧
      Rings (joined K (K (x * 2)) (K (x * 2 + 1))) (g.less i x) ∧ (∀ y, upd (homeOf g) x 0 y = homeOf (g.less i x) y) ∧ ∀ j, upd (sizeOf g) i s j = sizeOf (g.less i x) j := by
  obtain ⟨l, hl, hx⟩ := Ch.at_mem h
  have hil := (List.getElem?_eq_some_iff.1 hl).1
  obtain ⟨u, v, rfl, hf⟩ := less_len (ok.nodup i _ hl) hx
  have hr := R i _ hl
  have hn := ring_nodup ok hl
  obtain ⟨s, p, q, t, hs, ht, h1, h2, _, _⟩ := ring_mid hr
  have hp : p ∈ (g.nodes + i) :: (u ++ x :: v) := by
    have : p ∈ (g.nodes + i) :: u := by rw [hs]; simp
    rcases List.mem_cons.1 this with h | h
    · rw [h]; simp
    · exact List.mem_cons_of_mem _ (List.mem_append_left _ h)
  have hq : q ∈ (g.nodes + i) :: (u ++ x :: v) := by
    have : q ∈ v ++ [g.nodes + i] := by rw [ht]; simp
    rcases List.mem_append.1 this with h | h
    · exact List.mem_cons_of_mem _ (List.mem_append_right _ (List.mem_cons_of_mem _ h))
    · rw [List.mem_singleton.1 h]; simp
  have hlt : ∀ y, y ∈ (g.nodes + i) :: (u ++ x :: v) → y < g.nodes + g.ls.length := by
    intro y hy
    rcases List.mem_cons.1 hy with h | h
    · omega
    · have := ok.lt i _ hl y h
      omega
  refine ⟨_, (u ++ v).length, hl, hx, by simp; omega, by rw [h1]; exact hlt p hp, by rw [h2]; exact hlt q hq, ?_, ?_, ?_⟩
  · intro j k hk
    rw [less_get hl] at hk
    by_cases c : j = i
    · subst c
      rw [if_pos rfl, hf] at hk
      rw [← Option.some.inj hk]
      exact ring_less hr hn
    · rw [if_neg c] at hk
      rw [h1, h2]
      exact ring_apart (R j k hk) (rings_apart ok hl hk (Ne.symm c) hp) (rings_apart ok hl hk (Ne.symm c) hq)
  · intro y
    unfold homeOf
    rw [ok.at_less h]
    by_cases c : y = x
    · rw [c, upd_at, if_pos rfl]
    · rw [upd_ne c, if_neg c]
  · intro j
    unfold sizeOf
    rw [less_get hl]
    by_cases c : j = i
    · rw [c, upd_at, if_pos rfl, hf]
      rfl
    · rw [upd_ne c, if_neg c]

/-- A node that is in no list comes into one. -/
theorem put_step {K : Nat → Nat} {g : Ch} (ok : g.Ok) (R : Rings K g) {i x : Nat} {l : List Nat} (hl : g.ls[i]? = some l) (hx : x < g.nodes) (hn : g.at x = none) :
    K ((g.nodes + i) * 2) < g.nodes + g.ls.length ∧
      Rings (joined (joined K (K ((g.nodes + i) * 2)) x) x (g.nodes + i)) (g.put i x) ∧ (∀ y, upd (homeOf g) x (i + 1) y = homeOf (g.put i x) y) ∧ ∀ j, upd (sizeOf g) i (l.length + 1) j = sizeOf (g.put i x) j := by
  have hil := (List.getElem?_eq_some_iff.1 hl).1
  have hr := R i _ hl
  have hnd := ring_nodup ok hl
  obtain ⟨s, p, hs, h1, _, _⟩ := ring_last hr
  have hp : p ∈ (g.nodes + i) :: l := by rw [hs]; simp
  have hxn : ∀ (j : Nat) (k : List Nat), g.ls[j]? = some k → x ∉ (g.nodes + j) :: k := by
    intro j k hk h
    rcases List.mem_cons.1 h with h | h
    · omega
    · exact Ch.at_none hn hk h
  refine ⟨?_, ?_, ?_, ?_⟩
  · rw [h1]
    rcases List.mem_cons.1 hp with h | h
    · omega
    · have := ok.lt i _ hl p h
      omega
  · intro j k hk
    rw [put_get hl] at hk
    by_cases c : j = i
    · subst c
      rw [if_pos rfl] at hk
      rw [← Option.some.inj hk]
      exact ring_push hr hnd (hxn _ _ hl)
    · rw [if_neg c] at hk
      have he : g.nodes + i ∉ (g.nodes + j) :: k := rings_apart ok hl hk (Ne.symm c) (by simp)
      rw [h1]
      exact ring_apart (ring_apart (R j k hk) (rings_apart ok hl hk (Ne.symm c) hp) (hxn j k hk)) (hxn j k hk) he
  · intro y
    unfold homeOf
    rw [ok.at_put hl hx hn]
    by_cases c : y = x
    · rw [c, upd_at, if_pos rfl]
    · rw [upd_ne c, if_neg c]
  · intro j
    unfold sizeOf
    rw [put_get hl]
    by_cases c : j = i
    · rw [c, upd_at, if_pos rfl]
      simp
    · rw [upd_ne c, if_neg c]

theorem list_cases (g : Ch) (i : Int) : (∃ (k : Nat) (l : List Nat), i = (k : Int) ∧ k < g.ls.length ∧ g.ls[k]? = some l ∧ g.list i = l) ∨ ((i < 0 ∨ (g.ls.length : Int) ≤ i) ∧ g.list i = [] ∧ g.row i = none) := by
  by_cases h : i < 0
  · have e : g.row i = none := Ch.row_neg h
    exact .inr ⟨.inl h, by unfold Ch.list; rw [e]; rfl, e⟩
  · obtain ⟨k, rfl⟩ : ∃ k : Nat, i = (k : Int) := ⟨i.toNat, by omega⟩
    by_cases hk : k < g.ls.length
    · obtain ⟨l, hl⟩ := ch_row hk
      exact .inl ⟨k, l, rfl, hk, hl, by unfold Ch.list; rw [Ch.row_nat, hl]; rfl⟩
    · have e : g.row (k : Int) = none := by rw [Ch.row_nat]; exact List.getElem?_eq_none (by omega)
      exact .inr ⟨.inr (by omega), by unfold Ch.list; rw [e]; rfl, e⟩
theorem node_cases {g : Ch} (ok : g.Ok) (n : Int) : (∃ x : Nat, n = (x : Int) ∧ x < g.nodes ∧ g.inn n = g.at x) ∨ ((n < 0 ∨ (g.nodes : Int) ≤ n) ∧ g.inn n = none) := by
  by_cases h : n < 0
  · exact .inr ⟨.inl h, Ch.inn_neg h⟩
  · obtain ⟨x, rfl⟩ : ∃ x : Nat, n = (x : Int) := ⟨n.toNat, by omega⟩
    by_cases hx : x < g.nodes
    · exact .inl ⟨x, rfl, hx, Ch.inn_nat x⟩
    · refine .inr ⟨.inr (by omega), ?_⟩
      rw [Ch.inn_nat]
      cases e : g.at x with
      | none => rfl
      | some i => exact absurd (ok.at_small e) hx
theorem homeOf_none {g : Ch} {x : Nat} (h : g.at x = none) : homeOf g x = 0 := by unfold homeOf; rw [h]
theorem homeOf_some {g : Ch} {x i : Nat} (h : g.at x = some i) : homeOf g x = i + 1 := by unfold homeOf; rw [h]
theorem sizeOf_is {g : Ch} {i : Nat} {l : List Nat} (h : g.ls[i]? = some l) : sizeOf g i = l.length := by unfold sizeOf; rw [h]; rfl

end Go.Proofs.Ythdgpnkkeeebkaa
