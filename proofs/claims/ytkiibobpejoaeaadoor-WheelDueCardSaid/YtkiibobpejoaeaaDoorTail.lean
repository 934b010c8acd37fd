/-
  A row of one's own whose head was left behind (q = q[1:]), and what append makes of it: of no program.
-/
import Derived.Test.YtkiibobpejoaeaaDoorMem
namespace Go.Proofs.YtkiibobpejoaeaaDoor
open Go.RowKit
set_option linter.unusedVariables false

/-- A slice of one's own that begins at a cell of its block, of elements of one cell each. -/
def TailRow (w : World) (base : Nat) (e : TypeId) (v : Value) (xs : List Value) : Prop :=
  (v = .slice none 0 0 ∧ xs = []) ∨
  ∃ g o cap cur, v = .slice (some ⟨g, o, none⟩) xs.length cap ∧ base ≤ g ∧ w.heap[g]? = some (.cells cur e (0, 0)) ∧ xs.length ≤ cap ∧ cap ≤ maxLen ∧ o + cap ≤ cur.size ∧ (cur.toList.drop o).take xs.length = xs
section
variable {w w' : World} {base : Nat} {e : TypeId} {v : Value} {xs : List Value}
theorem TailRow.nil (w : World) (base : Nat) (e : TypeId) : TailRow w base e (.slice none 0 0) [] := .inl ⟨rfl, rfl⟩
theorem TailRow.lt (h : TailRow w base e v xs) : ∀ k, v.ownBlock = some k → base ≤ k ∧ k < w.heap.size := by
  intro k hk
  rcases h with ⟨rfl, _⟩ | ⟨g, o, cap, cur, rfl, hb, hg, _⟩
  · simp [Value.ownBlock] at hk
  · simp [Value.ownBlock] at hk
    subst hk
    exact ⟨hb, (Array.getElem?_eq_some_iff.1 hg).1⟩
theorem TailRow.kept (h : TailRow w base e v xs) (hk : ∀ k, v.ownBlock = some k → w'.heap[k]? = w.heap[k]?) : TailRow w' base e v xs := by
  rcases h with h | ⟨g, o, cap, cur, rfl, hb, hg, hr⟩
  · exact .inl h
  · exact .inr ⟨g, o, cap, cur, rfl, hb, (hk g rfl).trans hg, hr⟩
theorem TailRow.low {b : Nat} (h : TailRow w base e v xs) (hb : b ≤ base) : TailRow w b e v xs := by
  rcases h with h | ⟨g, o, cap, cur, rfl, h1, hr⟩
  · exact .inl h
  · exact .inr ⟨g, o, cap, cur, rfl, Nat.le_trans hb h1, hr⟩
theorem TailRow.cells (h : TailRow w base e v xs) {g o n cap : Nat} (hv : v = .slice (some ⟨g, o, none⟩) n cap) : ∀ j u, xs[j]? = some u → w.cell? ((⟨g, o, none⟩ : Addr).add j) = some u := by
  intro j u hu
  rcases h with ⟨rfl, rfl⟩ | ⟨g', o', cap', cur, rfl, _, hg, _, _, _, ht⟩
  · simp at hu
  · cases hv
    have hadd : (⟨g, o, none⟩ : Addr).add j = ⟨g, o + j, none⟩ := by simp [Addr.add_lit]
    have hb : Box w g e cur := hg
    rw [hadd, hb.cell]
    rw [← ht, List.getElem?_take] at hu
    split at hu
    · rw [List.getElem?_drop] at hu
      simpa using hu
    · cases hu
/-- q[1:]: where the next one lies. -/
theorem TailRow.tail {x : Value} {g o n cap : Nat} (h : TailRow w base e (.slice (some ⟨g, o, none⟩) n cap) (x :: xs)) : TailRow w base e (.slice (some ⟨g, o + 1, none⟩) xs.length (cap - 1)) xs := by
  rcases h with ⟨_, h⟩ | ⟨g', o', cap', cur, hv, hb, hg, h1, h2, h3, ht⟩
  · cases h
  · cases hv
    simp only [List.length_cons] at h1 ht
    refine .inr ⟨g, o + 1, cap - 1, cur, rfl, hb, hg, by omega, by omega, by omega, ?_⟩
    have hd := congrArg (List.drop 1) ht
    rw [List.drop_take, List.drop_drop] at hd
    simpa using hd
/-- The same, as Go lays it: where nothing is left the slice stays where it was. -/
theorem TailRow.tail1 {x : Value} {g o n : Nat} (h : TailRow w base e (.slice (some ⟨g, o, none⟩) n 1) (x :: xs)) : TailRow w base e (.slice (some ⟨g, o, none⟩) xs.length 0) xs := by
  rcases h with ⟨_, h⟩ | ⟨g', o', cap', cur, hv, hb, hg, h1, h2, h3, ht⟩
  · cases h
  · cases hv
    simp only [List.length_cons] at h1
    obtain rfl : xs = [] := List.eq_nil_of_length_eq_zero (by omega)
    exact .inr ⟨g, o, 0, cur, rfl, hb, hg, by simp, by omega, by omega, by simp⟩
end
section
variable {P : Program} (w : World)
theorem run_append_room_off (t ty e : TypeId) (i : TypeInfo) (ht : P.underlying t = some (.slice e)) (hi : P.info? e = some i) (h1 : i.size = 1)
    (g o n cap : Nat) (cur : Array Value) (hg : w.heap[g]? = some (.cells cur e (0, 0)))
    (a : Addr) (c : Nat) (u : Value) (hu : w.cell? (a.add 0) = some u) (hc : u.oneCell' = true)
    (hroom : n + 1 ≤ cap) (hfit : o + n + 1 ≤ cur.size) :
    (Builtin.append_ #[t, t] ty #[.slice (some ⟨g, o, none⟩) n cap, .slice (some a) 1 c]).run P w =
      .ok (.slice (some ⟨g, o, none⟩) (n + 1) cap) (w.setRow g (cur.toList.take (o + n) ++ [u] ++ cur.toList.drop (o + n + 1)).toArray) := by
  have hf := run_firstCells_some (P := P) w i.size 1 a 1 c [u] (by simp [h1]) (fun j x hx => by
    cases j with
    | zero => simp at hx; subst hx; exact hu
    | succ j => simp at hx)
  have hst := run_storeCells_at P g (o + n) e [u] 0 cur w hg (by simpa using hfit) (by simpa using hc)
  simp only [Nat.add_zero] at hst
  rw [h1] at hf
  simp [Builtin.append_, run_underlying ht, sizeOf, typeInfo, hi, h1, Builtin.lenOf, hroom, hf, Addr.add_lit, hst]
/-- One more behind such a row: in its block, or in a new one. -/
theorem run_append_tail (base : Nat) (t ty e : TypeId) (i : TypeInfo) (z : Value) (bytes : Nat) (ht : P.underlying t = some (.slice e)) (hi : P.info? e = some i) (hz : i.zero = some z)
    (hsize : i.size = 1) (hby : i.bytes = bytes) (hzs : z.cells.size = 1)
    (v : Value) (xs : List Value) (hown : TailRow w base e v xs)
    (a : Addr) (c : Nat) (u : Value) (hu : w.cell? (a.add 0) = some u) (hc : u.oneCell' = true)
    (h63 : xs.length + 1 ≤ maxLen) (hbytes : (xs.length + 1) * bytes ≤ 140737488355328) (hbase : base ≤ w.heap.size) :
    ∃ v' w', (Builtin.append_ #[t, t] ty #[v, .slice (some a) 1 c]).run P w = .ok v' w' ∧ TailRow w' base e v' (xs ++ [u]) ∧ w.grownBy w' v.ownBlock ∧ (v'.ownBlock = v.ownBlock ∨ v'.ownBlock = some w.heap.size) := by
  have hnews : ∀ j x, [u][j]? = some x → w.cell? (a.add j) = some x := fun j x hx => by
    cases j with
    | zero => simp at hx; subst hx; exact hu
    | succ j => simp at hx
  have hsmall : xs.length + 1 ≤ 9223372036854775807 := by simp only [maxLen] at h63; omega
  have grown : ∀ (old : Nat) (row : Option Nat),
      TailRow (w.drew.alloc (.cells (xs.toArray ++ [u].toArray ++ Builtin.zeroCells z.cells (grownCap w (xs.length + 1) old e - (xs.length + 1))) e)) base e (.slice (some ⟨w.heap.size, 0, none⟩) (xs.length + 1) (grownCap w (xs.length + 1) old e)) (xs ++ [u]) ∧
      w.grownBy (w.drew.alloc (.cells (xs.toArray ++ [u].toArray ++ Builtin.zeroCells z.cells (grownCap w (xs.length + 1) old e - (xs.length + 1))) e)) row := by
    intro old row
    have hge := grownCap_ge w (xs.length + 1) old e
    have hcm : grownCap w (xs.length + 1) old e ≤ maxLen := grownCap_le_maxLen w (xs.length + 1) old e h63
    refine ⟨.inr ⟨w.heap.size, 0, _, _, by simp, hbase, heap_alloc_new w.drew _, by simpa using hge, hcm, ?_, ?_⟩, ⟨rfl, rfl, rfl, by simp, fun k hk _ => heap_alloc_old w.drew _ hk⟩⟩
    · simp only [Array.size_append, List.size_toArray, size_zeroCells, hzs, List.length_singleton]
      omega
    · show List.take (xs ++ [u]).length (List.drop 0 (xs.toArray ++ [u].toArray ++ _).toList) = xs ++ [u]
      simp only [List.drop_zero, Array.toList_append]
      exact List.take_left
  rcases hown with ⟨rfl, rfl⟩ | ⟨g, o, cap, cur, rfl, hbg, hg, hnc, hcm, hcs, htake⟩
  · have hr := run_append_nil (P := P) w t ty e i z ht hi hz a 1 c [u] (by simp [hsize]) hnews (by omega) (by omega) (by have hb := hbytes; simp only [List.length_nil, Nat.zero_add] at hb; omega)
    have hgr := grown 0 (Value.ownBlock (.slice none 0 0))
    simp only [List.length_nil, Nat.zero_add, List.nil_append, Array.empty_append] at hgr ⊢
    exact ⟨_, _, hr, hgr.1, hgr.2, .inr rfl⟩
  · by_cases hroom : xs.length + 1 ≤ cap
    · have hfit : o + xs.length + 1 ≤ cur.size := by omega
      have hr := run_append_room_off (P := P) w t ty e i ht hi hsize g o xs.length cap cur hg a c u hu hc hroom hfit
      refine ⟨_, _, hr, .inr ⟨g, o, cap, _, by simp, hbg, setRow_heap w g cur _ e _ hg, by simpa using hroom, hcm, ?_, ?_⟩, ⟨rfl, rfl, rfl, by simp, fun k _ hk => setRow_other w g k _ (fun e => hk (by simp [Value.ownBlock, e]))⟩, .inl rfl⟩
      · simp only [List.size_toArray, List.length_append, List.length_take, List.length_drop, Array.length_toList, List.length_singleton]
        omega
      · have hl : (cur.toList.take (o + xs.length)).drop o = xs := by
          rw [List.drop_take, show o + xs.length - o = xs.length from by omega]
          exact htake
        show List.take (xs ++ [u]).length (List.drop o (List.take (o + xs.length) cur.toList ++ [u] ++ List.drop (o + xs.length + 1) cur.toList)) = xs ++ [u]
        rw [List.append_assoc, List.drop_append_of_le_length (by simp; omega), hl, ← List.append_assoc]
        exact List.take_left
    · have hr := run_append_grow (P := P) w t ty e i z ht hi hz ⟨g, o, none⟩ xs.length cap xs (by simp [hsize]) (TailRow.cells (base := base) (.inr ⟨g, o, cap, cur, rfl, hbg, hg, hnc, hcm, hcs, htake⟩) rfl) a 1 c [u] (by simp [hsize]) hnews (by omega) (by omega) (growslice_fits (by omega) (by rw [hby]; exact hbytes))
      have hgr := grown cap (Value.ownBlock (.slice (some ⟨g, o, none⟩) xs.length cap))
      exact ⟨_, _, hr, hgr.1, hgr.2, .inr rfl⟩
end

end Go.Proofs.YtkiibobpejoaeaaDoor
