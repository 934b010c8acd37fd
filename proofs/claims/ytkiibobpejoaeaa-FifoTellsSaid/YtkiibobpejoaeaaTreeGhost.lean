/-
  Red-black trees: their keys in order, their shape, how deep they are.
-/
import Derived.Test.YtkiibobpejoaeaaBase
namespace Go.Proofs.Ytkiibobpejoaeaa
set_option linter.unusedVariables false

/-- A key: an instant, and a number beside it. -/
structure Ky where
  at_ : Nat
  seq : Nat
deriving DecidableEq
def Ky.lt (a b : Ky) : Prop := a.at_ < b.at_ ∨ (a.at_ = b.at_ ∧ a.seq < b.seq)
instance (a b : Ky) : Decidable (a.lt b) := by unfold Ky.lt; infer_instance
theorem Ky.lt_irrefl (a : Ky) : ¬ a.lt a := by unfold Ky.lt; omega
theorem Ky.lt_trans {a b c : Ky} (h : a.lt b) (k : b.lt c) : a.lt c := by unfold Ky.lt at *; omega
theorem Ky.lt_asymm {a b : Ky} (h : a.lt b) : ¬ b.lt a := by unfold Ky.lt at *; omega
theorem Ky.eq_of {a b : Ky} (h : ¬ a.lt b) (k : ¬ b.lt a) : a = b := by
  cases a; cases b
  unfold Ky.lt at *
  simp only [Ky.mk.injEq]
  simp only at h k
  omega
theorem Ky.cases (a b : Ky) : a.lt b ∨ a = b ∨ b.lt a := by
  by_cases h : a.lt b
  · exact .inl h
  · by_cases k : b.lt a
    · exact .inr (.inr k)
    · exact .inr (.inl (Ky.eq_of h k))

/-- An entry: a key, and what stands there. -/
structure En where
  key : Ky
  val : Int
deriving DecidableEq
/-- A node as it is told: its key, whether it is red, the place of the one above it. -/
structure Tw where
  key : Ky
  red : Bool
  up : Int
deriving DecidableEq

inductive RB where
  | leaf : RB
  | node (red : Bool) (l : RB) (e : En) (r : RB) : RB
namespace RB
def toL : RB → List En
  | leaf => []
  | node _ l e r => l.toL ++ e :: r.toL
def size : RB → Nat
  | leaf => 0
  | node _ l _ r => l.size + 1 + r.size
def height : RB → Nat
  | leaf => 0
  | node _ l _ r => max l.height r.height + 1
/-- Below a node that is red (or nothing), as many black ones on each way. -/
def Bal : RB → Bool → Nat → Prop
  | leaf, _, n => n = 0
  | node c l _ r, p, n => (c = true → p = false) ∧ ∃ m, n = (if c then m else m + 1) ∧ l.Bal c m ∧ r.Bal c m
/-- Its nodes, from a place on, below another one. -/
def twigs : RB → Nat → Int → List Tw
  | leaf, _, _ => []
  | node c l e r, off, up => l.twigs off ((off + l.size : Nat) : Int) ++ ⟨e.key, c, up⟩ :: r.twigs (off + l.size + 1) ((off + l.size : Nat) : Int)
theorem size_toL : ∀ t : RB, t.toL.length = t.size
  | leaf => rfl
  | node c l e r => by
    rw [toL, size, List.length_append, List.length_cons, size_toL l, size_toL r]
    omega
theorem size_twigs : ∀ (t : RB) (off : Nat) (up : Int), (t.twigs off up).length = t.size
  | leaf, _, _ => rfl
  | node c l e r, off, up => by
    rw [twigs, size, List.length_append, List.length_cons, size_twigs l, size_twigs r]
    omega
theorem keys_twigs : ∀ (t : RB) (off : Nat) (up : Int), (t.twigs off up).map Tw.key = t.toL.map En.key
  | leaf, _, _ => rfl
  | node c l e r, off, up => by
    rw [twigs, toL, List.map_append, List.map_append, List.map_cons, List.map_cons, keys_twigs l, keys_twigs r]
theorem height_le : ∀ t : RB, t.height ≤ t.size
  | leaf => Nat.le_refl _
  | node c l e r => by
    have h1 := height_le l
    have h2 := height_le r
    rw [height, size]
    omega
theorem bal_height : ∀ (t : RB) (p : Bool) (n : Nat), t.Bal p n → t.height ≤ 2 * n + (if p then 0 else 1)
  | leaf, _, _, _ => Nat.zero_le _
  | node c l e r, p, n, h => by
    obtain ⟨h1, m, h2, h3, h4⟩ := h
    have k1 := bal_height l c m h3
    have k2 := bal_height r c m h4
    rw [height]
    cases c with
    | true =>
      have hp := h1 rfl
      subst hp
      simp at h2 k1 k2 ⊢
      omega
    | false =>
      simp at h2 k1 k2
      cases p <;> simp <;> omega
theorem bal_size : ∀ (t : RB) (p : Bool) (n : Nat), t.Bal p n → 2 ^ n ≤ t.size + 1
  | leaf, _, n, h => by
    have h' : n = 0 := h
    subst h'
    exact Nat.le_refl _
  | node c l e r, p, n, h => by
    obtain ⟨_, m, h2, h3, h4⟩ := h
    have k1 := bal_size l c m h3
    have k2 := bal_size r c m h4
    rw [size]
    cases c with
    | true => simp at h2; subst h2; omega
    | false => simp at h2; subst h2; rw [Nat.pow_succ]; omega
/-- Where a node is above another one: inside the tree, or what is above the root. -/
theorem ups : ∀ (t : RB) (off : Nat) (up : Int) (i : Nat) (x : Tw), (t.twigs off up)[i]? = some x → (x.up = up ∧ ∃ c l e r, t = node c l e r ∧ i = l.size) ∨ ((off : Int) ≤ x.up ∧ x.up < ((off + t.size : Nat) : Int) ∧ x.up ≠ ((off + i : Nat) : Int))
  | leaf, _, _, i, x, h => by simp [twigs] at h
  | node c l e r, off, up, i, x, h => by
    rw [twigs] at h
    have hl := size_twigs l off ((off + l.size : Nat) : Int)
    rw [size]
    by_cases c1 : i < l.size
    · rw [List.getElem?_append_left (by omega)] at h
      rcases ups l off _ i x h with ⟨h1, _⟩ | ⟨h1, h2, h3⟩
      · exact .inr ⟨by omega, by omega, by omega⟩
      · exact .inr ⟨h1, by omega, h3⟩
    · rw [List.getElem?_append_right (by omega), hl] at h
      by_cases c2 : i = l.size
      · rw [c2, Nat.sub_self] at h
        have h' := Option.some.inj h
        subst h'
        exact .inl ⟨rfl, c, l, e, r, rfl, c2⟩
      · obtain ⟨j, hj⟩ : ∃ j, i - l.size = j + 1 := ⟨i - l.size - 1, by omega⟩
        rw [hj, List.getElem?_cons_succ] at h
        rcases ups r (off + l.size + 1) _ j x h with ⟨h1, _⟩ | ⟨h1, h2, h3⟩
        · exact .inr ⟨by omega, by omega, by omega⟩
        · exact .inr ⟨by omega, by omega, by omega⟩
/-- How deep each node is. -/
theorem depths : ∀ (t : RB) (off : Nat) (up : Int), ∃ dep : Nat → Nat, ∀ (i : Nat) (x : Tw), (t.twigs off up)[i]? = some x → 1 ≤ dep i ∧ dep i ≤ t.height ∧ ((x.up = up ∧ dep i = 1) ∨ ∃ u : Nat, u < t.size ∧ x.up = ((off + u : Nat) : Int) ∧ dep i = dep u + 1)
  | leaf, _, _ => ⟨fun _ => 0, fun i x h => by simp [twigs] at h⟩
  | node c l e r, off, up => by
    obtain ⟨dl, hdl⟩ := depths l off ((off + l.size : Nat) : Int)
    obtain ⟨dr, hdr⟩ := depths r (off + l.size + 1) ((off + l.size : Nat) : Int)
    have hl := size_twigs l off ((off + l.size : Nat) : Int)
    obtain ⟨dep, d1, d2, d3⟩ : ∃ dep : Nat → Nat, (∀ i, i < l.size → dep i = dl i + 1) ∧ dep l.size = 1 ∧ ∀ j, dep (l.size + 1 + j) = dr j + 1 :=
      ⟨fun i => if i < l.size then dl i + 1 else if i = l.size then 1 else dr (i - l.size - 1) + 1, fun i h => if_pos h, by simp, fun j => by
        have e1 : ¬ l.size + 1 + j < l.size := by omega
        have e2 : ¬ l.size + 1 + j = l.size := by omega
        have e3 : l.size + 1 + j - l.size - 1 = j := by omega
        simp only [e1, e2, e3, if_false]⟩
    refine ⟨dep, fun i x h => ?_⟩
    rw [twigs] at h
    rw [height, size]
    by_cases c1 : i < l.size
    · rw [List.getElem?_append_left (by omega)] at h
      obtain ⟨h1, h2, h3⟩ := hdl i x h
      rw [d1 i c1]
      refine ⟨by omega, by omega, .inr ?_⟩
      rcases h3 with ⟨h3, h4⟩ | ⟨u, h3, h4, h5⟩
      · exact ⟨l.size, by omega, h3, by omega⟩
      · exact ⟨u, by omega, h4, by rw [d1 u h3]; omega⟩
    · rw [List.getElem?_append_right (by omega), hl] at h
      by_cases c2 : i = l.size
      · rw [c2, Nat.sub_self] at h
        have h' := Option.some.inj h
        subst h'
        rw [c2, d2]
        exact ⟨by omega, by omega, .inl ⟨rfl, rfl⟩⟩
      · obtain ⟨j, hj⟩ : ∃ j, i = l.size + 1 + j := ⟨i - l.size - 1, by omega⟩
        subst hj
        rw [show l.size + 1 + j - l.size = j + 1 by omega, List.getElem?_cons_succ] at h
        obtain ⟨h1, h2, h3⟩ := hdr j x h
        rw [d3 j]
        refine ⟨by omega, by omega, .inr ?_⟩
        rcases h3 with ⟨h3, h4⟩ | ⟨u, h3, h4, h5⟩
        · exact ⟨l.size, by omega, h3, by omega⟩
        · exact ⟨l.size + 1 + u, by omega, by rw [h4]; omega, by rw [d3 u]; omega⟩
end RB

/-- Keys rise. -/
def Rises (l : List En) : Prop := l.Pairwise fun a b => a.key.lt b.key
/-- What is there, in order; a key comes in, with its number. -/
def insL (k : Ky) (v : Int) : List En → List En
  | [] => [⟨k, v⟩]
  | e :: t => if k.lt e.key then ⟨k, v⟩ :: e :: t else e :: insL k v t
def delL (k : Ky) (l : List En) : List En := l.filter fun e => decide (e.key ≠ k)
def getL (k : Ky) (l : List En) : Option Int := (l.find? fun e => decide (e.key = k)).map En.val
def nextL (k : Ky) (l : List En) : Option En := l.find? fun e => decide (k.lt e.key)
theorem insL_mem {k : Ky} {v : Int} {e : En} : ∀ {l : List En}, e ∈ insL k v l ↔ e = ⟨k, v⟩ ∨ e ∈ l
  | [] => by simp [insL]
  | a :: t => by
    unfold insL
    split
    · simp
    · rw [List.mem_cons, insL_mem, List.mem_cons]
      constructor
      · rintro (h | h | h)
        · exact .inr (.inl h)
        · exact .inl h
        · exact .inr (.inr h)
      · rintro (h | h | h)
        · exact .inr (.inl h)
        · exact .inl h
        · exact .inr (.inr h)
theorem insL_length {k : Ky} {v : Int} : ∀ {l : List En}, (insL k v l).length = l.length + 1
  | [] => rfl
  | a :: t => by
    unfold insL
    split
    · rfl
    · rw [List.length_cons, insL_length, List.length_cons]
theorem Rises.ins {k : Ky} {v : Int} : ∀ {l : List En}, Rises l → (∀ e, e ∈ l → e.key ≠ k) → Rises (insL k v l)
  | [], _, _ => List.pairwise_singleton _ _
  | a :: t, h, hn => by
    obtain ⟨h1, h2⟩ := List.pairwise_cons.1 h
    unfold insL
    split
    · rename_i c
      refine List.pairwise_cons.2 ⟨fun e he => ?_, h⟩
      rcases List.mem_cons.1 he with rfl | he
      · exact c
      · exact Ky.lt_trans c (h1 e he)
    · rename_i c
      have c' : a.key.lt k := by
        rcases Ky.cases k a.key with h3 | h3 | h3
        · exact absurd h3 c
        · exact absurd h3.symm (hn a (by simp))
        · exact h3
      refine List.pairwise_cons.2 ⟨fun e he => ?_, Rises.ins h2 (fun e he => hn e (by simp [he]))⟩
      rcases insL_mem.1 he with rfl | he
      · exact c'
      · exact h1 e he
theorem Rises.del {k : Ky} {l : List En} (h : Rises l) : Rises (delL k l) := h.filter _
theorem Rises.nodup {l : List En} (h : Rises l) : (l.map En.key).Nodup := by
  rw [List.nodup_iff_pairwise_ne, List.pairwise_map]
  unfold Rises at h
  refine h.imp ?_
  intro a b hab e
  rw [e] at hab
  exact Ky.lt_irrefl b.key hab
theorem getL_some {k : Ky} {v : Int} {l : List En} (h : getL k l = some v) : ⟨k, v⟩ ∈ l := by
  unfold getL at h
  obtain ⟨e, he, rfl⟩ := Option.map_eq_some_iff.1 h
  have h1 := List.find?_some he
  have h2 := List.mem_of_find?_eq_some he
  simp at h1
  rw [← h1]
  exact h2
theorem getL_none {k : Ky} {l : List En} (h : getL k l = none) : ∀ e, e ∈ l → e.key ≠ k := by
  unfold getL at h
  rw [Option.map_eq_none_iff, List.find?_eq_none] at h
  intro e he hk
  exact h e he (by simpa using hk)
theorem getL_of {l : List En} (h : Rises l) {e : En} (he : e ∈ l) : getL e.key l = some e.val := by
  cases h1 : getL e.key l with
  | none => exact absurd rfl (getL_none h1 e he)
  | some v =>
    have h2 := getL_some h1
    have h3 := h.nodup
    have h4 : (⟨e.key, v⟩ : En) = e := by
      obtain ⟨i, hi, e1⟩ := List.getElem_of_mem h2
      obtain ⟨j, hj, e2⟩ := List.getElem_of_mem he
      have h5 : (l.map En.key)[i]'(by simpa using hi) = (l.map En.key)[j]'(by simpa using hj) := by
        rw [List.getElem_map, List.getElem_map, e1, e2]
      have h6 := (List.getElem_inj h3).1 h5
      subst h6
      exact e1.symm.trans e2
    rw [← h4]
/-- A key that comes in, and leaves, leaves all as it was. -/
theorem del_ins {k : Ky} {v : Int} : ∀ {l : List En}, (∀ e, e ∈ l → e.key ≠ k) → delL k (insL k v l) = l
  | [], _ => by simp [insL, delL]
  | a :: t, h => by
    have ha := h a (by simp)
    have hf : ∀ {m : List En}, (∀ e, e ∈ m → e.key ≠ k) → m.filter (fun e => decide (e.key ≠ k)) = m := fun {m} hm => List.filter_eq_self.2 fun e he => by simpa using hm e he
    unfold insL
    split
    · unfold delL
      rw [List.filter_cons, if_neg (by simp)]
      exact hf h
    · unfold delL
      rw [List.filter_cons, if_pos (by simpa using ha)]
      have ih := del_ins (k := k) (v := v) (l := t) (fun e he => h e (by simp [he]))
      unfold delL at ih
      rw [ih]

end Go.Proofs.Ytkiibobpejoaeaa
