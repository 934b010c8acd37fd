/-
  TreeOrder: the keys, each once, with their numbers in a map; pure facts and rows.
-/
import Derived.Test.YtfedjeojanpnpabKeyMap
import Derived.Test.YtfedjeojanpnpabTreeOrderFacts
import Derived.Test.YtfedjeojanpnpabBytes
namespace Go.Proofs.Ytfedjeojanpnpab
open Go.RowKit Go.Maps Go.WideMaps
set_option linter.unusedVariables false
set_option linter.unusedSimpArgs false

/-- The map has each of these keys' numbers, from 1 on, and none of others. -/
structure ReadsO (D : DataW Unit) (H : List Ky) : Prop where
  isMap : IsMap D
  fits : ∀ k, k ∈ H → k.Fits
  nodup : H.Nodup
  at_ : ∀ j (h : j < H.length), D.atKey (klit H[j]) (.lit (.int .i64 0)) = .lit (.int .i64 ((j + 1 : Nat) : Int))
  no : ∀ k, k.Fits → k ∉ H → D.atKey (klit k) (.lit (.int .i64 0)) = .lit (.int .i64 0)
theorem readsO_start : ReadsO (.map []) [] :=
  ⟨isMap_empty, fun k h => (by cases h), List.nodup_nil, fun j h => absurd h (Nat.not_lt_zero _), fun k _ _ => by simp [DataW.atKey]⟩
theorem readsO_put {D : DataW Unit} {H : List Ky} {x : Ky} {n : Nat} (h : ReadsO D H) (hx : x.Fits) (hn : x ∉ H) (hl : H.length = n) : ReadsO (D.put (klit x) (.lit (.int .i64 ((n : Int) + 1)))) (H ++ [x]) := by
  have hk : WideAt.IsKeyLit (klit x) := trivial
  refine ⟨h.isMap.put _ _, fun k hk' => ?_, List.nodup_append.2 ⟨h.nodup, by simp, fun a ha b hb => ?_⟩, fun j hj => ?_, fun k hkf hkn => ?_⟩
  · rcases List.mem_append.1 hk' with h1 | h1
    · exact h.fits k h1
    · rw [List.mem_singleton.1 h1]; exact hx
  · rw [List.mem_singleton.1 hb]
    rintro rfl
    exact hn ha
  · by_cases c : j < H.length
    · have e : (H ++ [x])[j] = H[j] := List.getElem_append_left c
      have hne : H[j] ≠ x := fun e => hn (e ▸ List.getElem_mem c)
      rw [e, atKey_put_other (klit_ne (h.fits _ (List.getElem_mem c)) hx hne), h.at_ j c]
    · have hj2 : j = H.length := by rw [List.length_append] at hj; simp at hj; omega
      subst hj2
      have e : (H ++ [x])[H.length] = x := by simp
      rw [e, atKey_put_same h.isMap hk, ← hl]
      rfl
  · have h1 : k ∉ H := fun e => hkn (List.mem_append_left _ e)
    have h2 : k ≠ x := fun e => hkn (by rw [e]; simp)
    rw [atKey_put_other (klit_ne hkf hx h2), h.no k hkf h1]
theorem readsO_at {D : DataW Unit} {H : List Ky} {j : Nat} (h : ReadsO D H) (hj : j < H.length) {W : World} {mb m : Nat} (hm : MapAt W mb m D) :
    (Instr.lookup 24 (.map (some mb)) (.agg #[.int .u64 (H[j].at_ : Int), .int .u64 (H[j].seq : Int)]) false).run Try.prog W = .ok (.int .i64 ((j + 1 : Nat) : Int)) W := by
  obtain ⟨c1, hrun1, hat1, _⟩ := hm.lookup_int lawK Try.underlying24 Try.underlying3 (zeroI _) (ky_key (h.fits _ (List.getElem_mem hj)))
  have := hat1.symm.trans (h.at_ j hj)
  simp only [DataW.lit.injEq, Lit.int.injEq, true_and] at this
  rw [hrun1, this]
theorem readsO_no {D : DataW Unit} {H : List Ky} {k : Ky} (h : ReadsO D H) (hk : k.Fits) (hn : k ∉ H) {W : World} {mb m : Nat} (hm : MapAt W mb m D) :
    (Instr.lookup 24 (.map (some mb)) (.agg #[.int .u64 (k.at_ : Int), .int .u64 (k.seq : Int)]) false).run Try.prog W = .ok (.int .i64 0) W := by
  obtain ⟨c1, hrun1, hat1, _⟩ := hm.lookup_int lawK Try.underlying24 Try.underlying3 (zeroI _) (ky_key hk)
  have := hat1.symm.trans (h.no k hk hn)
  simp only [DataW.lit.injEq, Lit.int.injEq, true_and] at this
  rw [hrun1, this]
/-- What a key reads: its number, or 0. -/
theorem readsO_any {D : DataW Unit} {H : List Ky} {k : Ky} (h : ReadsO D H) (hk : k.Fits) : ∃ v : Nat, v ≤ H.length ∧ (v = 0 ↔ k ∉ H) ∧ ∀ {W : World} {mb m : Nat}, MapAt W mb m D → (Instr.lookup 24 (.map (some mb)) (.agg #[.int .u64 (k.at_ : Int), .int .u64 (k.seq : Int)]) false).run Try.prog W = .ok (.int .i64 (v : Int)) W := by
  by_cases c : k ∈ H
  · obtain ⟨j, hj, rfl⟩ := List.getElem_of_mem c
    exact ⟨j + 1, hj, ⟨fun e => by omega, fun e => absurd c e⟩, fun hm => readsO_at h hj hm⟩
  · exact ⟨0, Nat.zero_le _, ⟨fun _ => c, fun _ => rfl⟩, fun hm => readsO_no h hk c hm⟩
/-- A row of keys of the call's own, as a function of its places. -/
structure KeyRow (w : World) (g n c : Nat) (f : Nat → Ky) : Prop where
  row : ∃ cs : Array Value, Box w g 27 cs ∧ n * 2 ≤ cs.size ∧ ∀ j, j < n → cs[j * 2]? = some (.int .u64 ((f j).at_ : Int)) ∧ cs[j * 2 + 1]? = some (.int .u64 ((f j).seq : Int))
  cap : n ≤ c
  capLe : c ≤ 9223372036854775807
section
variable {w w' : World} {g n c : Nat} {f : Nat → Ky}
theorem KeyRow.cells (h : KeyRow w g n c f) {j : Nat} (hj : j < n) : w.cell? ⟨g, j * 2, none⟩ = some (.int .u64 ((f j).at_ : Int)) ∧ w.cell? ⟨g, j * 2 + 1, none⟩ = some (.int .u64 ((f j).seq : Int)) := by
  obtain ⟨cs, b, _, hc⟩ := h.row
  exact ⟨(b.cell _).trans (hc j hj).1, (b.cell _).trans (hc j hj).2⟩
theorem KeyRow.frozen (h : KeyRow w g n c f) (i : Nat) : w.frozen? ⟨g, i, none⟩ = false := by
  obtain ⟨cs, b, _⟩ := h.row
  exact b.frozen i
theorem KeyRow.lt (h : KeyRow w g n c f) : g < w.heap.size := by
  obtain ⟨cs, b, _⟩ := h.row
  exact b.lt
theorem KeyRow.same (h : KeyRow w g n c f) (e : w'.heap[g]? = w.heap[g]?) : KeyRow w' g n c f := by
  obtain ⟨cs, b, r⟩ := h.row
  exact ⟨⟨cs, e.trans b, r⟩, h.cap, h.capLe⟩
theorem KeyRow.below {B : Nat} (h : KeyRow w g n c f) (b : Below B w w') (hg : g < B) : KeyRow w' g n c f := h.same (b.block g hg)
theorem KeyRow.set2 (h : KeyRow w g n c f) {i : Nat} (hi : i < n) (x : Ky) : KeyRow ((w.setCell ⟨g, i * 2, none⟩ (.int .u64 (x.at_ : Int))).setCell ⟨g, i * 2 + 1, none⟩ (.int .u64 (x.seq : Int))) g n c (fun j => if j = i then x else f j) := by
  obtain ⟨cs, b, hs, hc⟩ := h.row
  refine ⟨⟨_, (b.set (i * 2) _).set (i * 2 + 1) _, by simp; exact hs, fun j hj => ?_⟩, h.cap, h.capLe⟩
  have hj2 : j * 2 + 1 < cs.size := by omega
  by_cases cj : j = i
  · subst cj
    simp only [if_true]
    constructor
    · rw [Array.getElem?_setIfInBounds_ne (by omega), Array.getElem?_setIfInBounds_self_of_lt (by omega)]
    · rw [Array.getElem?_setIfInBounds_self_of_lt (by simp; omega)]
  · simp only [if_neg cj]
    rw [Array.getElem?_setIfInBounds_ne (by omega), Array.getElem?_setIfInBounds_ne (by omega), Array.getElem?_setIfInBounds_ne (by omega), Array.getElem?_setIfInBounds_ne (by omega)]
    exact hc j hj
end
theorem kyRow_of {w : World} {base n c : Nat} {p : Option Addr} {H : List Ky} (h : w.ownsRow base 27 2 (.slice p n c) n (H.flatMap kyC)) (hl : H.length = n) (h0 : 0 < n) :
    ∃ g, p = some ⟨g, 0, none⟩ ∧ base ≤ g ∧ KeyRow w g n c (fun j => (H[j]?).getD ⟨0, 0⟩) := by
  rcases h.2 with ⟨_, e⟩ | ⟨g, cap, cur, e, h2, h3, h4, h5, h6, h7⟩
  · omega
  · cases e
    refine ⟨g, rfl, h2, ⟨cur, h3, by omega, fun j hj => ?_⟩, h4, h5⟩
    have hflat : ∀ (l : List Ky) (j : Nat) (hj : j < l.length), (l.flatMap kyC)[j * 2]? = some (.int .u64 ((l[j]).at_ : Int)) ∧ (l.flatMap kyC)[j * 2 + 1]? = some (.int .u64 ((l[j]).seq : Int)) := by
      intro l
      induction l with
      | nil => intro j hj; simp at hj
      | cons a t ih =>
        intro j hj
        cases j with
        | zero => simp [kyC]
        | succ j =>
          have := ih j (by simpa using hj)
          simp only [List.flatMap_cons, List.getElem_cons_succ]
          rw [show (j + 1) * 2 = j * 2 + 2 by omega, show j * 2 + 2 + 1 = j * 2 + 1 + 2 by omega]
          rw [List.getElem?_append_right (by simp [kyC]), List.getElem?_append_right (by simp [kyC])]
          simpa [kyC] using this
    have hjl : j < H.length := by omega
    obtain ⟨c0, c1⟩ := hflat H j hjl
    have hfl : (H.flatMap kyC).length = n * 2 := h.1
    have hg : ∀ i, i < n * 2 → cur[i]? = (H.flatMap kyC)[i]? := fun i hi => by
      rw [← h7, List.getElem?_take, if_pos hi, Array.getElem?_toList]
    simp only [List.getElem?_eq_getElem hjl, Option.getD_some]
    exact ⟨(hg _ (by omega)).trans c0, (hg _ (by omega)).trans c1⟩

end Go.Proofs.Ytfedjeojanpnpab
