/-
  The document's bitmap: With, All.
-/
import Derived.Test.YtlpniacffahnkabDoorBitRef
namespace Go.Proofs.YtlpniacffahnkabDoor
open Go.RowKit
set_option linter.unusedVariables false

theorem own_set_at {w : World} {base e n c B j : Nat} {xs : List Value} (h : w.ownsRow base e 1 (.slice (some ⟨B, 0, none⟩) n c) n xs) (hj : j < n) (u : Value) : (∃ v, w.cell? ⟨B, j, none⟩ = some v) ∧ w.frozen? ⟨B, j, none⟩ = false ∧ (w.setCell ⟨B, j, none⟩ u).ownsRow base e 1 (.slice (some ⟨B, 0, none⟩) n c) n (xs.set j u) := by
  rcases h.2 with ⟨e', _⟩ | ⟨g, cap, cur, e', h2, h3, h4, h5, h6, h7⟩
  · cases e'
  · cases e'
    have hb : Box w B e cur := h3
    refine ⟨⟨cur[j]'(by omega), ?_⟩, hb.frozen j, by rw [List.length_set]; exact h.1, .inr ⟨B, c, cur.setIfInBounds j u, rfl, h2, hb.set j u, h4, h5, by simpa using h6, ?_⟩⟩
    · rw [hb.cell, Array.getElem?_eq_getElem (by omega)]
    · rw [← h7, Array.toList_setIfInBounds, List.take_set]
section
variable {w w' : World} {base b c n : Nat} {m : Nat → Bool}
theorem ref_with (h : RefB w base b c n m) (p : Nat) (t : Bool) (hp : p < n) (ht : m p ≠ t) : Calls Tryd.prog 12 #[.agg #[.slice (some ⟨b, 0, none⟩) n c], .int .i64 (p : Int), .bool t] w fun e w' => ∃ b' c', e = .returned (.tuple #[.agg #[.slice (some ⟨b', 0, none⟩) n c'], .bool true]) ∧ RefB w' w.heap.size b' c' n (setB m p t) ∧ Below w.heap.size w w' := by
  have b2 : Below w.heap.size w ((w.alloc (.cells #[.slice (some ⟨b, 0, none⟩) n c] 29)).alloc (.cells #[.slice none 0 0] 29)) := ((Below.refl _ w).alloc (Nat.le_refl _) _).alloc (by simp) _
  obtain ⟨W2, HW2⟩ : ∃ W2, Hid ((w.alloc (.cells #[.slice (some ⟨b, 0, none⟩) n c] 29)).alloc (.cells #[.slice none 0 0] 29) = W2) := ⟨_, Lib.hid rfl⟩
  have x3 : Box W2 w.heap.size 29 #[.slice (some ⟨b, 0, none⟩) n c] := by rw [← HW2.out]; exact (Box.new w _ _).alloc _
  have x6 : Box W2 (w.heap.size + 1) 29 #[.slice none 0 0] := by
    rw [← HW2.out]
    have := Box.new (w.alloc (.cells #[.slice (some ⟨b, 0, none⟩) n c] 29)) 29 #[.slice none 0 0]
    rw [World.size_alloc] at this
    exact this
  rw [HW2.out] at b2
  have h2 := h.below b2
  have d0 := h2.cell hp
  have c3 := x3.cell 0
  have hn1 := h.n1
  have hn2 := h.n2
  have hcap := h.cap
  have a1 : ¬ (p : Int) < 0 := by omega
  have a2 : ¬ (n : Int) ≤ (p : Int) := by omega
  have htt : (m p == t) = false := by simpa using ht
  obtain ⟨inf, hi1, hi2, hi3, hi4⟩ := info_parts (P := Tryd.prog) (e := 4) (z := .bool false) (size := 1) (bytes := 1) (by kernel_rfl)
  have bl3 := (Below.refl _ W2).alloc (Nat.le_refl _) (.cells #[] 4)
  have hlit := lit_empty (e := 4) W2 w.heap.size b2.size
  have hsrc := owns_below h2.own bl3
  have hml : 0 + n ≤ maxLen := by simp only [maxLen]; omega
  have x3' := x3.alloc (.cells #[] 4)
  have x6' := x6.alloc (.cells #[] 4)
  have c3' := x3'.cell 0
  have hb3 := below_tr b2 bl3
  have hs3 : w.heap.size ≤ (W2.alloc (.cells #[] 4)).heap.size := hb3.size
  have hone : ∀ u ∈ rowB n m, u.oneCell' = true := by
    intro u hu
    obtain ⟨i, _, rfl⟩ := List.mem_map.1 hu
    rfl
  clear h h2 ht x3 x6
  generalize m p = mp at *
  go_enter Tryd.func12, Tryd.ntmps12
  go_upto_region 1 with fail
  rw [HW2.out]
  go_upto_region 4 with (first | (at_builtin; (refine wpList_append_any _ rfl (.tmp 28) (.tmp 30) 27 rfl w.heap.size 4 inf (.bool false) 1 1 Tryd.underlying27 hi1 hi2 hi3 hi4 rfl (by decide) _ 0 [] rfl hlit base (.slice (some ⟨b, 0, none⟩) n c) n (rowB n m) rfl hsrc hone hml (by omega) hs3 ?_; intro p5 c5 w5 own5 gr5 loc5)))
  simp only [Nat.zero_add, List.nil_append] at own5 ⊢
  obtain ⟨g5, rfl⟩ := (own_form own5).2 (by omega)
  obtain ⟨⟨v5, dv⟩, fz, own6⟩ := own_set_at own5 hp (.bool t)
  have hb5 := below_grown hb3 hlit (Nat.le_refl _) gr5
  have x65 := x6'.grown gr5 (fun e => x6'.not_row hlit (by decide) e.symm)
  have hne : w.heap.size + 1 ≠ g5 := fun e => x65.not_row own5 (by decide) (by rw [← e]; rfl)
  have x66 := x65.other (c := g5) (i := p) hne (.bool t)
  have c6 := x66.cell 0
  have f6 := x66.frozen 0
  have HR : Hid (RefB ((w5.setCell ⟨g5, p, none⟩ (.bool t)).setCell ⟨w.heap.size + 1, 0, none⟩ (.slice (some ⟨g5, 0, none⟩) n c5)) w.heap.size g5 c5 n (setB m p t)) := by
    rw [rowB_set] at own6
    exact Lib.hid ⟨x66.row own6 (by decide), hn1, hn2⟩
  have hg5 := (own5.lt g5 rfl).1
  have HL : Hid (Below w.heap.size w ((w5.setCell ⟨g5, p, none⟩ (.bool t)).setCell ⟨w.heap.size + 1, 0, none⟩ (.slice (some ⟨g5, 0, none⟩) n c5))) := Lib.hid ((hb5.setCell (p := ⟨g5, p, none⟩) hg5 _).setCell (p := ⟨w.heap.size + 1, 0, none⟩) (by show w.heap.size ≤ w.heap.size + 1; omega) _)
  have c7 := (x66.set 0 (.slice (some ⟨g5, 0, none⟩) n c5)).cell 0
  clear own5 own6 gr5 loc5 hlit hsrc x3' x6' x65 x66 hone d0 c3 HW2
  go_wp2_with fail
  refine bodyPost_ret (v := .tuple #[.agg #[.slice (some ⟨g5, 0, none⟩) n c5], .bool true]) ?_ rfl ⟨g5, c5, rfl, HR.out, HL.out⟩
  simp [results, Tryd.f12, go_sem, c7]
end

end Go.Proofs.YtlpniacffahnkabDoor
