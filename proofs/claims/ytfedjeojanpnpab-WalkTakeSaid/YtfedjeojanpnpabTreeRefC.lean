/-
  The document's own tree (sandglassref06): Put.
-/
import Derived.Test.YtfedjeojanpnpabTreeRefA
import Derived.Test.YtfedjeojanpnpabTreePut
import Derived.Test.YtfedjeojanpnpabTreeBackSteps
namespace Go.Proofs.Ytfedjeojanpnpab
open Go.RowKit
set_option linter.unusedVariables false

theorem plc_parts (k : Ky) : ∀ l : List En, (∀ x, x ∈ l.take (plc k l) → x.key.lt k) ∧ (∀ e, l[plc k l]? = some e → ¬ e.key.lt k)
  | [] => ⟨fun x hx => by simp at hx, fun e he => by simp at he⟩
  | a :: t => by
    obtain ⟨h1, h2⟩ := plc_parts k t
    by_cases c : a.key.lt k
    · have e1 : plc k (a :: t) = plc k t + 1 := by
        unfold plc
        rw [List.takeWhile_cons, if_pos (by simpa using c)]
        rfl
      rw [e1]
      refine ⟨fun x hx => ?_, fun e he => h2 e he⟩
      rcases List.mem_cons.1 hx with rfl | hx
      · exact c
      · exact h1 x hx
    · have e1 : plc k (a :: t) = 0 := by
        unfold plc
        rw [List.takeWhile_cons, if_neg (by simpa using c)]
        rfl
      rw [e1]
      refine ⟨fun x hx => by simp at hx, fun e he => ?_⟩
      cases he
      exact c
theorem plc_drop {k : Ky} {l : List En} (h : Rises l) (hg : getL k l = none) : ∀ x, x ∈ l.drop (plc k l) → k.lt x.key := by
  intro x hx
  obtain ⟨j, hj, rfl⟩ := List.getElem_of_mem hx
  rw [List.length_drop] at hj
  rw [List.getElem_drop]
  have hp : plc k l < l.length := by omega
  have h1 := (plc_parts k l).2 _ (List.getElem?_eq_getElem hp)
  have h2 := getL_none hg l[plc k l] (List.getElem_mem hp)
  have h3 : k.lt l[plc k l].key := by
    rcases Ky.cases k l[plc k l].key with h | h | h
    · exact h
    · exact absurd h.symm h2
    · exact absurd h h1
  by_cases hj0 : j = 0
  · subst hj0
    exact h3
  · exact Ky.lt_trans h3 ((List.pairwise_iff_getElem.1 h) _ _ hp (by omega) (by omega))
theorem ins_at {k : Ky} {v : Int} {l : List En} (h : Rises l) (hg : getL k l = none) : insL k v l = l.take (plc k l) ++ ⟨k, v⟩ :: l.drop (plc k l) := by
  have := ins_mid (v := v) (plc_parts k l).1 (plc_drop h hg)
  rwa [List.take_append_drop] at this
/-- A row of entries, by its cells. -/
theorem row_parts {W : World} {base n c : Nat} {p : Option Addr} {l : List En} (h : W.ownsRow base 52 3 (.slice p n c) n (l.flatMap enC)) : (p = none ∧ n = 0 ∧ c = 0) ∨ ∃ g, p = some ⟨g, 0, none⟩ ∧ g < W.heap.size ∧ n ≤ c ∧ c ≤ 9223372036854775807 ∧ ∀ j u, (l.flatMap enC)[j]? = some u → W.cell? ⟨g, j, none⟩ = some u := by
  rcases h.2 with ⟨e, e2⟩ | ⟨g, cap, cur, e, h2, h3, h4, h5, h6, h7⟩
  · cases e
    exact .inl ⟨rfl, e2, rfl⟩
  · cases e
    refine .inr ⟨g, rfl, (Array.getElem?_eq_some_iff.1 h3).1, h4, h5, fun j u hu => ?_⟩
    rw [cell_of_row W g j cur _ (0, 0) h3]
    have hj := (List.getElem?_eq_some_iff.1 hu).1
    rw [h.1] at hj
    rw [← h7, List.getElem?_take, if_pos (by omega)] at hu
    simpa using hu
theorem one_cells (l : List En) : ∀ u ∈ l.flatMap enC, u.oneCell' = true := by
  intro u hu
  obtain ⟨a, _, hu⟩ := List.mem_flatMap.1 hu
  simp [enC] at hu
  rcases hu with rfl | rfl | rfl <;> rfl
theorem flat_take {l : List En} (i : Nat) : l.flatMap enC = (l.take i).flatMap enC ++ (l.drop i).flatMap enC := by rw [← List.flatMap_append, List.take_append_drop]
theorem cells_take {W : World} {g : Nat} {l : List En} (h : ∀ j u, (l.flatMap enC)[j]? = some u → W.cell? ⟨g, j, none⟩ = some u) (i : Nat) : ∀ j u, ((l.take i).flatMap enC)[j]? = some u → W.cell? ((⟨g, 0, none⟩ : Addr).add j) = some u := by
  intro j u hu
  have hadd : (⟨g, 0, none⟩ : Addr).add j = ⟨g, j, none⟩ := by unfold Addr.add; split <;> simp_all
  rw [hadd]
  refine h j u ?_
  rw [flat_take i, List.getElem?_append_left (List.getElem?_eq_some_iff.1 hu).1]
  exact hu
theorem cells_drop {W : World} {g : Nat} {l : List En} (h : ∀ j u, (l.flatMap enC)[j]? = some u → W.cell? ⟨g, j, none⟩ = some u) (i : Nat) (hi : i ≤ l.length) : ∀ j u, ((l.drop i).flatMap enC)[j]? = some u → W.cell? ((⟨g, i * 3, none⟩ : Addr).add j) = some u := by
  intro j u hu
  have hadd : (⟨g, i * 3, none⟩ : Addr).add j = ⟨g, i * 3 + j, none⟩ := by unfold Addr.add; split <;> simp_all
  rw [hadd]
  refine h _ u ?_
  have hl1 : ((l.take i).flatMap enC).length = i * 3 := by rw [flat3, List.length_take]; omega
  rw [flat_take i, List.getElem?_append_right (by omega), hl1, show i * 3 + j - i * 3 = j by omega]
  exact hu
theorem grown_low {wx w5 : World} {H0 e s n : Nat} {v : Value} {xs : List Value} (r : wx.ownsRow H0 e s v n xs) (g : wx.grownBy w5 v.ownBlock) (h : H0 ≤ wx.heap.size) : Below H0 wx w5 :=
  ⟨g.os, g.tape, g.output, g.size, fun k hk => g.block k (by omega) (fun e => by have := (r.lt k e.symm).1; omega)⟩
/-- What Put answers. -/
def RefPut (base : Nat) (v0 : Value) (room : Nat) (l : List En) (k : Ky) (v : Int) (w : World) (e : Ending) (w' : World) : Prop :=
  ∃ p n c, e = .returned (.tuple #[.agg #[.slice p n c, .int .i64 (room : Int)], .int .i64 (putE room l k : Nat)]) ∧ (putL room l k v).length = n ∧ w'.ownsRow base 52 3 (.slice p n c) n ((putL room l k v).flatMap enC) ∧ Below w.heap.size w w' ∧ (v0 = .slice p n c ∨ w'.ownsRow w.heap.size 52 3 (.slice p n c) n ((putL room l k v).flatMap enC))

end Go.Proofs.Ytfedjeojanpnpab
