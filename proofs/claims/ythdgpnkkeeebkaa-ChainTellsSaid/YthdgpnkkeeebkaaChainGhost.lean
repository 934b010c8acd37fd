/-
  Chains as the document has them, in lists: what each call answers, and what it makes of them.
-/
import Derived.Test.YthdgpnkkeeebkaaBase
namespace Go.Proofs.Ythdgpnkkeeebkaa
set_option linter.unusedVariables false

structure Ch where
  ls : List (List Nat)
  nodes : Nat

/-- A number of a list, or of a node, as the program is told it. -/
def Ch.row (g : Ch) (i : Int) : Option (List Nat) := if 0 ≤ i then g.ls[i.toNat]? else none
def Ch.list (g : Ch) (i : Int) : List Nat := (g.row i).getD []
/-- The list in which a node is. -/
def Ch.at (g : Ch) (x : Nat) : Option Nat := (List.range g.ls.length).find? fun i => decide (x ∈ g.ls[i]?.getD [])
def Ch.inn (g : Ch) (n : Int) : Option Nat := if 0 ≤ n then g.at n.toNat else none
/-- Is there such a node? -/
def Ch.is (g : Ch) (n : Int) : Prop := 0 ≤ n ∧ n < g.nodes
instance (g : Ch) (n : Int) : Decidable (g.is n) := by unfold Ch.is; infer_instance
def Ch.less (g : Ch) (i x : Nat) : Ch := ⟨g.ls.set i ((g.ls[i]?.getD []).filter fun y => decide (y ≠ x)), g.nodes⟩
def Ch.put (g : Ch) (i x : Nat) : Ch := ⟨g.ls.set i (g.ls[i]?.getD [] ++ [x]), g.nodes⟩
/-- Push: what it answers. -/
def Ch.pushE (g : Ch) (i n : Int) : Nat := if (g.row i).isNone ∨ ¬ g.is n then 2 else if (g.inn n).isSome then 50 else 0
def Ch.push (g : Ch) (i n : Int) : Ch := if g.pushE i n = 0 then g.put i.toNat n.toNat else g
/-- Drop. -/
def Ch.drop (g : Ch) (n : Int) : Ch := match g.inn n with
  | some i => g.less i n.toNat
  | none => g
/-- Pop. -/
def Ch.pop (g : Ch) (i : Int) : Ch := match g.list i with
  | x :: _ => g.drop x
  | [] => g
def Ch.new (lists nodes : Nat) : Ch := ⟨List.replicate lists [], nodes⟩

structure Ch.Ok (g : Ch) : Prop where
  any : 1 ≤ g.ls.length
  len : g.ls.length ≤ 64
  one : 1 ≤ g.nodes
  small : g.nodes ≤ 65536
  lt : ∀ (i : Nat) (l : List Nat), g.ls[i]? = some l → ∀ x, x ∈ l → x < g.nodes
  nodup : ∀ (i : Nat) (l : List Nat), g.ls[i]? = some l → l.Nodup
  apart : ∀ (i j : Nat) (l m : List Nat) (x : Nat), g.ls[i]? = some l → g.ls[j]? = some m → x ∈ l → x ∈ m → i = j

theorem Ch.at_lt {g : Ch} {x i : Nat} (h : g.at x = some i) : i < g.ls.length := by
  unfold Ch.at at h
  have := List.mem_of_find?_eq_some h
  simpa using this
theorem Ch.at_mem {g : Ch} {x i : Nat} (h : g.at x = some i) : ∃ l, g.ls[i]? = some l ∧ x ∈ l := by
  have hi := Ch.at_lt h
  unfold Ch.at at h
  have h1 := List.find?_some h
  refine ⟨g.ls[i], List.getElem?_eq_getElem hi, ?_⟩
  simpa [List.getElem?_eq_getElem hi] using h1
theorem Ch.at_none {g : Ch} {x : Nat} (h : g.at x = none) {i : Nat} {l : List Nat} (hl : g.ls[i]? = some l) : x ∉ l := by
  unfold Ch.at at h
  rw [List.find?_range_eq_none] at h
  have hi := (List.getElem?_eq_some_iff.1 hl).1
  have := h i hi
  simpa [hl] using this
theorem Ch.Ok.at_of {g : Ch} (ok : g.Ok) {x i : Nat} {l : List Nat} (hl : g.ls[i]? = some l) (hx : x ∈ l) : g.at x = some i := by
  cases e : g.at x with
  | none => exact absurd hx (Ch.at_none e hl)
  | some j =>
    obtain ⟨m, hm, hxm⟩ := Ch.at_mem e
    rw [ok.apart j i m l x hm hl hxm hx]
theorem Ch.Ok.at_small {g : Ch} (ok : g.Ok) {x i : Nat} (h : g.at x = some i) : x < g.nodes := by
  obtain ⟨l, hl, hx⟩ := Ch.at_mem h
  exact ok.lt i l hl x hx
theorem Ch.inn_nat {g : Ch} (x : Nat) : g.inn (x : Int) = g.at x := by
  unfold Ch.inn
  rw [if_pos (by omega)]
  simp
theorem Ch.inn_neg {g : Ch} {n : Int} (h : n < 0) : g.inn n = none := if_neg (by omega)
theorem Ch.row_nat {g : Ch} (i : Nat) : g.row (i : Int) = g.ls[i]? := by
  unfold Ch.row
  rw [if_pos (by omega)]
  simp
theorem Ch.row_neg {g : Ch} {i : Int} (h : i < 0) : g.row i = none := if_neg (by omega)
theorem Ch.row_some {g : Ch} {i : Int} {l : List Nat} (h : g.row i = some l) : ∃ k : Nat, i = (k : Int) ∧ k < g.ls.length ∧ g.ls[k]? = some l := by
  unfold Ch.row at h
  split at h
  · rename_i h0
    exact ⟨i.toNat, by omega, (List.getElem?_eq_some_iff.1 h).1, h⟩
  · cases h

/-- Lists of which one is another one. -/
theorem set_get {ls : List (List Nat)} {i j : Nat} {l m : List Nat} (h : (ls.set i l)[j]? = some m) : (j = i ∧ m = l ∧ i < ls.length) ∨ (j ≠ i ∧ ls[j]? = some m) := by
  rw [List.getElem?_set] at h
  by_cases c : i = j
  · subst c
    rw [if_pos rfl] at h
    split at h
    · rename_i hi
      exact .inl ⟨rfl, (Option.some.inj h).symm, hi⟩
    · cases h
  · rw [if_neg c] at h
    exact .inr ⟨fun e => c e.symm, h⟩

theorem Ch.Ok.put {g : Ch} (ok : g.Ok) {i x : Nat} (hi : i < g.ls.length) (hx : x < g.nodes) (hn : g.at x = none) : (g.put i x).Ok := by
  have hil : g.ls[i]? = some g.ls[i] := List.getElem?_eq_getElem hi
  have eg : g.ls[i]?.getD [] = g.ls[i] := by rw [hil]; rfl
  have hxl := Ch.at_none hn hil
  refine ⟨by simpa [Ch.put] using ok.any, by simpa [Ch.put] using ok.len, ok.one, ok.small, ?_, ?_, ?_⟩
  · intro j l hj y hy
    rcases set_get hj with ⟨rfl, rfl, _⟩ | ⟨_, hj⟩
    · rw [eg] at hy
      rcases List.mem_append.1 hy with hy | hy
      · exact ok.lt _ _ hil y hy
      · rw [List.mem_singleton.1 hy]; exact hx
    · exact ok.lt j l hj y hy
  · intro j l hj
    rcases set_get hj with ⟨rfl, rfl, _⟩ | ⟨_, hj⟩
    · rw [eg, List.nodup_append]
      exact ⟨ok.nodup _ _ hil, by simp, fun a ha b hb e => by rw [List.mem_singleton.1 hb] at e; exact hxl (e ▸ ha)⟩
    · exact ok.nodup j l hj
  · intro j k l m y hj hk hy hy2
    rcases set_get hj with ⟨rfl, rfl, _⟩ | ⟨n1, hj'⟩
    · rcases set_get hk with ⟨rfl, rfl, _⟩ | ⟨n2, hk⟩
      · rfl
      · rw [eg] at hy
        rcases List.mem_append.1 hy with hy | hy
        · exact ok.apart _ k _ m y hil hk hy hy2
        · rw [List.mem_singleton.1 hy] at hy2
          exact absurd hy2 (Ch.at_none hn hk)
    · rcases set_get hk with ⟨rfl, rfl, _⟩ | ⟨n2, hk'⟩
      · rw [eg] at hy2
        rcases List.mem_append.1 hy2 with hy2 | hy2
        · exact ok.apart j _ l _ y hj' hil hy hy2
        · rw [List.mem_singleton.1 hy2] at hy
          exact absurd hy (Ch.at_none hn hj')
      · exact ok.apart j k l m y hj' hk' hy hy2
theorem Ch.Ok.less {g : Ch} (ok : g.Ok) (i x : Nat) : (g.less i x).Ok := by
  have hsub : ∀ (j : Nat) (l : List Nat), (g.less i x).ls[j]? = some l → ∃ m, g.ls[j]? = some m ∧ (∀ y, y ∈ l → y ∈ m) ∧ (m.Nodup → l.Nodup) := by
    intro j l hj
    rcases set_get hj with ⟨rfl, rfl, hi⟩ | ⟨_, hj⟩
    · refine ⟨g.ls[j], List.getElem?_eq_getElem hi, ?_, ?_⟩
      · rw [List.getElem?_eq_getElem hi]
        exact fun y hy => (List.mem_filter.1 hy).1
      · rw [List.getElem?_eq_getElem hi]
        exact fun h => h.filter _
    · exact ⟨l, hj, fun y hy => hy, id⟩
  refine ⟨by simpa [Ch.less] using ok.any, by simpa [Ch.less] using ok.len, ok.one, ok.small, ?_, ?_, ?_⟩
  · intro j l hj y hy
    obtain ⟨m, hm, h1, _⟩ := hsub j l hj
    exact ok.lt j m hm y (h1 y hy)
  · intro j l hj
    obtain ⟨m, hm, _, h2⟩ := hsub j l hj
    exact h2 (ok.nodup j m hm)
  · intro j k l m y hj hk hy hy2
    obtain ⟨m1, e1, h1, _⟩ := hsub j l hj
    obtain ⟨m2, e2, h2, _⟩ := hsub k m hk
    exact ok.apart j k m1 m2 y e1 e2 (h1 y hy) (h2 y hy2)
theorem Ch.Ok.push {g : Ch} (ok : g.Ok) (i n : Int) : (g.push i n).Ok := by
  unfold Ch.push
  split
  · rename_i h
    unfold Ch.pushE at h
    split at h
    · cases h
    · rename_i h1
      split at h
      · cases h
      · rename_i h2
        have h3 : ¬ (g.row i).isNone := fun e => h1 (.inl e)
        have h4 : g.is n := Classical.byContradiction fun e => h1 (.inr e)
        obtain ⟨l, hl⟩ : ∃ l, g.row i = some l := Option.isSome_iff_exists.1 (by cases e : g.row i <;> simp_all)
        obtain ⟨k, rfl, hk, _⟩ := Ch.row_some hl
        obtain ⟨x, rfl⟩ : ∃ x : Nat, n = (x : Int) := ⟨n.toNat, by have := h4.1; omega⟩
        rw [Ch.inn_nat] at h2
        have h5 := h4.2
        exact ok.put (by simpa using hk) (by simp; omega) (by simpa using h2)
  · exact ok
theorem Ch.Ok.drop {g : Ch} (ok : g.Ok) (n : Int) : (g.drop n).Ok := by
  unfold Ch.drop
  split
  · exact ok.less _ _
  · exact ok
theorem Ch.Ok.pop {g : Ch} (ok : g.Ok) (i : Int) : (g.pop i).Ok := by
  unfold Ch.pop
  split
  · exact ok.drop _
  · exact ok
theorem Ch.new_ok {lists nodes : Nat} (h1 : 1 ≤ lists) (h2 : lists ≤ 64) (h3 : 1 ≤ nodes) (h4 : nodes ≤ 65536) : (Ch.new lists nodes).Ok := by
  have hr : ∀ (i : Nat) (l : List Nat), (Ch.new lists nodes).ls[i]? = some l → l = [] := by
    intro i l h
    have := List.mem_of_getElem? h
    unfold Ch.new at this
    exact (List.mem_replicate.1 this).2
  refine ⟨by simpa [Ch.new] using h1, by simpa [Ch.new] using h2, h3, h4, ?_, ?_, ?_⟩
  · intro i l h x hx
    rw [hr i l h] at hx
    simp at hx
  · intro i l h
    rw [hr i l h]
    exact List.nodup_nil
  · intro i j l m x h _ hx _
    rw [hr i l h] at hx
    simp at hx

/-- The first one leaves: what is behind it stays. -/
theorem filter_head {x : Nat} {l : List Nat} (h : (x :: l).Nodup) : (x :: l).filter (fun y => decide (y ≠ x)) = l := by
  obtain ⟨h1, _⟩ := List.nodup_cons.1 h
  rw [List.filter_cons, if_neg (by simp)]
  refine List.filter_eq_self.2 fun y hy => ?_
  have : y ≠ x := fun e => h1 (e ▸ hy)
  simpa using this

end Go.Proofs.Ythdgpnkkeeebkaa
