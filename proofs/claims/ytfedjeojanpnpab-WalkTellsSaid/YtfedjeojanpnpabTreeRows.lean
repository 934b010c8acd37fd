/-
  Rows of entries that rise, and what is of the call's own beside a tree: small facts.
-/
import Derived.Test.YtfedjeojanpnpabTreeK
namespace Go.Proofs.Ytfedjeojanpnpab
open Go.RowKit
set_option linter.unusedVariables false

theorem Rises.lt {l : List En} (h : Rises l) {i : Nat} {a b : En} (ha : l[i]? = some a) (hb : l[i + 1]? = some b) : a.key.lt b.key := by
  obtain ⟨h1, rfl⟩ := List.getElem?_eq_some_iff.1 ha
  obtain ⟨h2, rfl⟩ := List.getElem?_eq_some_iff.1 hb
  exact (List.pairwise_iff_getElem.1 h) i (i + 1) h1 h2 (by omega)
theorem en_at {W : World} {base n c i : Nat} {p : Option Addr} {l : List En} {k : Ky} {v : Int} (h : W.ownsRow base 52 3 (.slice p n c) n (l.flatMap enC)) (hn : l.length = n) (hx : l[i]? = some ⟨k, v⟩) :
    ∃ B, p = some ⟨B, 0, none⟩ ∧ B < W.heap.size ∧ W.cell? ⟨B, i * 3, none⟩ = some (.int .u64 (k.at_ : Int)) ∧ W.cell? ⟨B, i * 3 + 1, none⟩ = some (.int .u64 (k.seq : Int)) ∧ W.cell? ⟨B, i * 3 + 2, none⟩ = some (.int .i64 v) := by
  subst hn
  obtain ⟨hi, e⟩ := List.getElem?_eq_some_iff.1 hx
  have h1 := en_cells h hi
  rw [e] at h1
  exact h1
theorem RowOf.below {ks : List (Option IntKind)} {w W : World} {A : Option Addr} {len cap : Nat} {rows : List (List Value)} (h : RowOf ks w A len cap rows) (b : Below w.heap.size w W) : RowOf ks W A len cap rows := by
  refine ⟨h.1, h.2.1, fun i hi => ?_⟩
  obtain ⟨h1, a, h2, h3⟩ := h.2.2 i hi
  exact ⟨h1, a, h2, fun j u hu => (b.cell (World.block_lt_of_cell? w _ (h3 j u hu))).trans (h3 j u hu)⟩
theorem next_at : ∀ {l : List En} (h : Rises l) {i : Nat} {e : En}, l[i]? = some e → nextL e.key l = l[i + 1]?
  | [], _, i, e, he => by simp at he
  | a :: t, h, 0, e, he => by
    obtain ⟨h1, h2⟩ := List.pairwise_cons.1 h
    have e1 : a = e := Option.some.inj he
    subst e1
    unfold nextL
    rw [List.find?_cons, decide_eq_false (Ky.lt_irrefl _)]
    cases t with
    | nil => rfl
    | cons b t =>
      show List.find? _ (b :: t) = _
      rw [List.find?_cons, decide_eq_true (h1 b (by simp))]
      rfl
  | a :: t, h, i + 1, e, he => by
    obtain ⟨h1, h2⟩ := List.pairwise_cons.1 h
    have he' : t[i]? = some e := he
    have ih := next_at h2 he'
    unfold nextL at ih ⊢
    rw [List.find?_cons, decide_eq_false (Ky.lt_asymm (h1 e (List.mem_of_getElem? he')))]
    exact ih
theorem next_first {k : Ky} {l : List En} {i : Nat} {e : En} (he : l[i]? = some e) (hb : ∀ x, x ∈ l.take i → ¬ k.lt x.key) (hk : k.lt e.key) : nextL k l = some e := by
  obtain ⟨hi, e1⟩ := List.getElem?_eq_some_iff.1 he
  have e2 : l.take i ++ e :: l.drop (i + 1) = l := by rw [← e1, ← List.drop_eq_getElem_cons hi, List.take_append_drop]
  unfold nextL
  rw [← e2, List.find?_append]
  have h1 : (l.take i).find? (fun e => decide (k.lt e.key)) = none := List.find?_eq_none.2 fun x hx => by simpa using hb x hx
  rw [h1, List.find?_cons, decide_eq_true hk]
  rfl
theorem next_none {k : Ky} {l : List En} (hb : ∀ x, x ∈ l → ¬ k.lt x.key) : nextL k l = none := List.find?_eq_none.2 fun x hx => by simpa using hb x hx
/-- A key that is handed in. -/
theorem key_of {cs : List Value} (h : Fits [some .u64, some .u64] cs) : ∃ k : Ky, k.Fits ∧ Value.agg cs.toArray = kyV k := by
  obtain ⟨x, y, rfl⟩ : ∃ x y, cs = [x, y] := by
    have := h.length
    match hr : cs, this with
    | [x, y], _ => exact ⟨x, y, rfl⟩
  obtain ⟨⟨n0, rfl, w0⟩, ⟨n1, rfl, w1⟩, _⟩ := h
  obtain ⟨a, rfl, ha⟩ := nat_u64 w0
  obtain ⟨b, rfl, hb⟩ := nat_u64 w1
  exact ⟨⟨a, b⟩, ⟨ha, hb⟩, rfl⟩
section
variable {K : TreeK} {w W W' : World} {a : Addr} {N N' : Nat → Prop} {g g' : Tg}
theorem OwnT.set {q i : Nat} {u : Value} (h : OwnT K w W a N g) (hq : ¬ N q) (hw : w.heap.size ≤ q) : OwnT K w (W.setCell ⟨q, i, none⟩ u) a N g :=
  ⟨K.kept h.at_ (fun k hk => Below.heap_setCell W ⟨q, i, none⟩ u k (fun e => hq (by have : k = q := e; rw [← this]; exact hk))) (by simp), h.ok, h.new, h.lo.setCell (p := ⟨q, i, none⟩) hw u⟩
theorem MineT.set {t : TypeId} {sz : Nat} {v u : Value} {m i q : Nat} {xs : List Value} (h : MineT w W N t sz v m xs) (hne : v.ownBlock ≠ some q) : MineT w (W.setCell ⟨q, i, none⟩ u) N t sz v m xs := ⟨own_set h.row hne, h.off⟩
end

end Go.Proofs.Ytfedjeojanpnpab
