/-
  The document's bitmap: a row of which places are marked.
-/
import Derived.Test.YtlpniacffahnkabDoorBitAll
namespace Go.Proofs.YtlpniacffahnkabDoor
open Go.RowKit
set_option linter.unusedVariables false

def rowB (n : Nat) (m : Nat → Bool) : List Value := (List.range n).map fun i => .bool (m i)
theorem rowB_get {n : Nat} {m : Nat → Bool} {i : Nat} (h : i < n) : (rowB n m)[i]? = some (.bool (m i)) := by simp [rowB, h]
theorem rowB_len (n : Nat) (m : Nat → Bool) : (rowB n m).length = n := by simp [rowB]
/-- The row of the document's own lies in block b. -/
structure RefB (w : World) (base b c n : Nat) (m : Nat → Bool) : Prop where
  own : w.ownsRow base 4 1 (.slice (some ⟨b, 0, none⟩) n c) n (rowB n m)
  n1 : 1 ≤ n
  n2 : n ≤ 65536
section
variable {w w' : World} {base b c n : Nat} {m : Nat → Bool}
theorem RefB.cell (h : RefB w base b c n m) {i : Nat} (hi : i < n) : w.cell? ⟨b, i, none⟩ = some (.bool (m i)) := by
  rw [h.own.cellAt i (by omega), rowB_get hi]
theorem RefB.below (h : RefB w base b c n m) (g : Below w.heap.size w w') : RefB w' base b c n m := ⟨owns_below h.own g, h.n1, h.n2⟩
theorem RefB.cap (h : RefB w base b c n m) : n ≤ c ∧ c ≤ 9223372036854775807 := own_cap h.own
theorem ref_new_no (n : Int) (hn : n < 1 ∨ 65536 < n) (w : World) : Calls Tryd.prog 10 #[.int .i64 n] w fun e w' => e = .returned (.tuple #[.agg #[.slice none 0 0], .bool false]) ∧ Below w.heap.size w w' := by
  have HB := Lib.hid ((Below.refl _ w).alloc (Nat.le_refl _) (.cells #[.slice none 0 0] 29))
  by_cases h1 : n < 1
  · clear hn
    go_enter Tryd.func10, Tryd.ntmps10
    go_wp2_with fail
    refine bodyPost_ret (v := .tuple #[.agg #[.slice none 0 0], .bool false]) ?_ rfl ⟨rfl, HB.out⟩
    simp [results, Tryd.f10, go_sem]
  · have h2 : 65536 < n := by omega
    clear hn
    go_enter Tryd.func10, Tryd.ntmps10
    go_wp2_with fail
    refine bodyPost_ret (v := .tuple #[.agg #[.slice none 0 0], .bool false]) ?_ rfl ⟨rfl, HB.out⟩
    simp [results, Tryd.f10, go_sem]
theorem ref_new (n : Nat) (hn1 : 1 ≤ n) (hn : n ≤ 65536) (w : World) : Calls Tryd.prog 10 #[.int .i64 (n : Int)] w fun e w' => ∃ b c, e = .returned (.tuple #[.agg #[.slice (some ⟨b, 0, none⟩) n c], .bool true]) ∧ RefB w' w.heap.size b c n (fun _ => false) ∧ Below w.heap.size w w' := by
  obtain ⟨inf, hi1, hi2, hi3, hi4⟩ := info_parts (P := Tryd.prog) (e := 4) (z := .bool false) (size := 1) (bytes := 1) (by kernel_rfl)
  have r1 := run_make_cells (P := Tryd.prog) 27 4 inf (.bool false) 1 rfl hi1 hi2 hi3 (n : Int) n rfl (by rw [hi4]; omega) (by omega)
  simp only [Nat.mul_one, show (Value.bool false).cells = #[.bool false] from rfl] at r1
  have a1 : ¬ (n : Int) < 1 := by omega
  have a2 : ¬ (65536 : Int) < (n : Int) := by omega
  have HB := Lib.hid (((Below.refl _ w).alloc (Nat.le_refl _) (.cells #[.slice (some ⟨w.heap.size + 1, 0, none⟩) n n] 29)).alloc (by simp) (.cells (madeCells #[.bool false] n) 4))
  have HR : Hid (RefB ((w.alloc (.cells #[.slice (some ⟨w.heap.size + 1, 0, none⟩) n n] 29)).alloc (.cells (madeCells #[.bool false] n) 4)) w.heap.size (w.heap.size + 1) n n (fun _ => false)) := by
    refine Lib.hid ⟨?_, hn1, hn⟩
    have bx := Box.new (w.alloc (.cells #[.slice (some ⟨w.heap.size + 1, 0, none⟩) n n] 29)) 4 (madeCells #[.bool false] n)
    rw [World.size_alloc] at bx
    refine ⟨by simp [rowB], .inr ⟨w.heap.size + 1, n, _, rfl, by omega, bx, Nat.le_refl _, by simp [maxLen]; omega, by rw [size_madeCells]; omega, ?_⟩⟩
    apply List.ext_getElem?
    intro i
    by_cases hi : i < n
    · rw [List.getElem?_take, if_pos (by omega), Array.getElem?_toList, madeCells_get _ _ _ (.bool false) (fun j hj => by
        have hj' : j < 1 := hj
        have : j = 0 := by omega
        subst this; rfl) (by decide) hi, rowB_get hi]
    · rw [List.getElem?_take, if_neg (by omega), List.getElem?_eq_none (by rw [rowB_len]; omega)]
  go_enter Tryd.func10, Tryd.ntmps10
  go_wp2_with fail
  refine bodyPost_ret (v := .tuple #[.agg #[.slice (some ⟨w.heap.size + 1, 0, none⟩) n n], .bool true]) ?_ rfl ⟨_, _, rfl, HR.out, HB.out⟩
  simp [results, Tryd.f10, go_sem]
theorem ref_has (h : RefB w base b c n m) (i : Int) (t : Bool) (ht : t = true ↔ 0 ≤ i ∧ i < n ∧ m i.toNat = true) : Calls Tryd.prog 20 #[.agg #[.slice (some ⟨b, 0, none⟩) n c], .int .i64 i] w fun e w' => e = .returned (.bool t) ∧ Below w.heap.size w w' := by
  have HB := Lib.hid ((Below.refl _ w).alloc (Nat.le_refl _) (.cells #[.slice (some ⟨b, 0, none⟩) n c] 29))
  have h' := h.below HB.out
  have hn2 := h.n2
  by_cases h1 : i < 0
  · obtain rfl : t = false := by
      cases t
      · rfl
      · exact absurd (ht.1 rfl).1 (by omega)
    have a2 : ¬ (0 : Int) ≤ i := by omega
    clear ht h h'
    go_enter Tryd.func20, Tryd.ntmps20
    go_wp2_with fail
    go_ret
    exact ⟨rfl, HB.out⟩
  · obtain ⟨p, rfl⟩ : ∃ p : Nat, i = (p : Int) := ⟨i.toNat, by omega⟩
    have a2 : (0 : Int) ≤ (p : Int) := by omega
    by_cases h2 : p < n
    · have d0 := h'.cell h2
      have a3 : (p : Int) < (n : Int) := by omega
      have e : t = m p := by
        cases c : m p
        · cases t
          · rfl
          · have := (ht.1 rfl).2.2
            simp [c] at this
        · exact ht.2 ⟨by omega, a3, by simpa using c⟩
      subst e
      clear ht h h'
      generalize m p = mp at *
      go_enter Tryd.func20, Tryd.ntmps20
      go_wp2_with fail
      go_ret
      exact ⟨rfl, HB.out⟩
    · obtain rfl : t = false := by
        cases t
        · rfl
        · exact absurd (ht.1 rfl).2.1 (by omega)
      have a3 : ¬ (p : Int) < (n : Int) := by omega
      clear ht h h'
      go_enter Tryd.func20, Tryd.ntmps20
      go_wp2_with fail
      go_ret
      exact ⟨rfl, HB.out⟩
theorem ref_next (h : RefB w base b c n m) (hm : ∀ q, m q = true → q < n) (fr : Int) : Calls Tryd.prog 16 #[.agg #[.slice (some ⟨b, 0, none⟩) n c], .int .i64 fr] w fun e w' => (∃ o, IsNext m fr o ∧ e = .returned (.tuple #[.int .i64 ((o.getD 0 : Nat) : Int), .bool o.isSome])) ∧ Below w.heap.size w w' := by
  have HB := Lib.hid ((Below.refl _ w).alloc (Nat.le_refl _) (.cells #[.slice (some ⟨b, 0, none⟩) n c] 29))
  have H' := Lib.hid (h.below HB.out)
  have x1 := Box.new w 29 #[.slice (some ⟨b, 0, none⟩) n c]
  have c0 := x1.cell 0
  have hn2 := h.n2
  clear h x1
  go_enter Tryd.func16, Tryd.ntmps16
  go_upto_region 2 with fail
  obtain ⟨W, HW⟩ : ∃ W, Hid (w.alloc (.cells #[.slice (some ⟨b, 0, none⟩) n c] 29) = W) := ⟨_, Lib.hid rfl⟩
  rw [HW.out] at HB H' c0 ⊢
  go_loopg [6] (n + 1) (fun s v6 wx => ∃ j : Nat, n + 1 - j = s ∧ j ≤ n ∧ v6 = .int .i64 (j : Int) ∧ Hid (∀ k, k < j → m k = true → ¬ fr ≤ (k : Int)) ∧ wx = W)
  case atStart => exact ⟨0, rfl, by omega, rfl, Lib.hid fun k hk => absurd hk (by omega), rfl⟩
  case round =>
    obtain ⟨j, rfl, hj, rfl, HK, rfl⟩ := hrel
    by_cases hjn : j = n
    · have hz : ¬ (j : Int) < (n : Int) := by omega
      have HN : Hid (IsNext m fr none) := Lib.hid fun k hk => HK.out k (by have := hm k hk; omega) hk
      clear H' HK
      go_wp2_with fail
      go_ret2
      exact ⟨⟨none, HN.out, rfl⟩, HB.out⟩
    · have hz : (j : Int) < (n : Int) := by omega
      have d0 := H'.out.cell (i := j) (by omega)
      by_cases hf : fr ≤ (j : Int)
      · cases c1 : m j with
        | true =>
          rw [c1] at d0
          have HN : Hid (IsNext m fr (some j)) := Lib.hid ⟨c1, hf, fun k hk hfk => by
            apply Classical.byContradiction
            intro cc
            exact HK.out k (by omega) hk hfk⟩
          clear HK H' c1
          go_wp2_with fail
          go_ret2
          exact ⟨⟨some j, HN.out, rfl⟩, HB.out⟩
        | false =>
          rw [c1] at d0
          have HK2 : Hid (∀ k, k < j + 1 → m k = true → ¬ fr ≤ (k : Int)) := Lib.hid fun k hk hmk => by
            by_cases e : k = j
            · rw [e, c1] at hmk; cases hmk
            · exact HK.out k (by omega) hmk
          clear HK H' c1
          go_wp2_with fail
          go_roundg (n + 1 - (j + 1))
          case measure => omega
          case rel => exact ⟨j + 1, rfl, by omega, by go_num, HK2, rfl⟩
      · have HK2 : Hid (∀ k, k < j + 1 → m k = true → ¬ fr ≤ (k : Int)) := Lib.hid fun k hk hmk => by
          by_cases e : k = j
          · rw [e]; exact hf
          · exact HK.out k (by omega) hmk
        clear HK H'
        go_wp2_with fail
        go_roundg (n + 1 - (j + 1))
        case measure => omega
        case rel => exact ⟨j + 1, rfl, by omega, by go_num, HK2, rfl⟩
theorem ref_round (h : RefB w base b c n m) (hm : ∀ q, m q = true → q < n) (fr : Int) : Calls Tryd.prog 18 #[.agg #[.slice (some ⟨b, 0, none⟩) n c], .int .i64 fr] w fun e w' => (∃ o, IsRound m fr o ∧ e = .returned (.tuple #[.int .i64 ((o.getD 0 : Nat) : Int), .bool o.isSome])) ∧ Below w.heap.size w w' := by
  have HB := Lib.hid ((Below.refl _ w).alloc (Nat.le_refl _) (.cells #[.slice (some ⟨b, 0, none⟩) n c] 29))
  have x1 := Lib.hid (Box.new w 29 #[.slice (some ⟨b, 0, none⟩) n c])
  have H1 := Lib.hid (ref_next (h.below HB.out) hm fr)
  have H2 := Lib.hid (fun W (bl : Below w.heap.size w W) => ref_next (h.below bl) hm 0)
  clear h
  go_enter Tryd.func18, Tryd.ntmps18
  go_wp2_with fail
  refine H1.out.mono ?_
  rintro e w1 ⟨⟨o, ho, rfl⟩, b1⟩
  cases o with
  | none =>
    have HR := Lib.hid (fun o h => (Or.inr ⟨ho, h⟩ : IsRound m fr o))
    have c0 := (x1.out.below b1 x1.out.lt).cell 0
    have HB1 := Lib.hid (below_tr HB.out b1)
    have H3 := Lib.hid (H2.out _ HB1.out)
    clear ho H1 H2 b1
    go_wp2_with fail
    refine H3.out.mono ?_
    rintro e w2 ⟨⟨o, ho, rfl⟩, b2⟩
    go_wp2_with fail
    go_ret2
    exact ⟨⟨o, HR.out o ho, rfl⟩, below_tr HB1.out b2⟩
  | some i =>
    have HR := Lib.hid (Or.inl ⟨ho, by simp⟩ : IsRound m fr (some i))
    have HB1 := Lib.hid (below_tr HB.out b1)
    clear ho H1 H2 b1
    go_wp2_with fail
    go_ret2
    exact ⟨⟨some i, HR.out, rfl⟩, HB1.out⟩
theorem rowB_set {n : Nat} {m : Nat → Bool} {i : Nat} {t : Bool} : (rowB n m).set i (.bool t) = rowB n (setB m i t) := by
  apply List.ext_getElem?
  intro k
  by_cases hk : k < n
  · by_cases c : k = i
    · subst c
      rw [List.getElem?_set_self (by rw [rowB_len]; exact hk), rowB_get hk]
      simp [setB]
    · rw [List.getElem?_set_ne (fun e => c e.symm), rowB_get hk, rowB_get hk]
      simp [setB, c]
  · rw [List.getElem?_eq_none (by rw [List.length_set, rowB_len]; omega), List.getElem?_eq_none (by rw [rowB_len]; omega)]
/-- Would With change something? -/
def turnsB (n : Nat) (m : Nat → Bool) (i : Int) (t : Bool) : Bool := decide (0 ≤ i) && decide (i < n) && (m i.toNat != t)
theorem ref_with_no (h : RefB w base b c n m) (i : Int) (t : Bool) (ht : turnsB n m i t = false) : Calls Tryd.prog 12 #[.agg #[.slice (some ⟨b, 0, none⟩) n c], .int .i64 i, .bool t] w fun e w' => e = .returned (.tuple #[.agg #[.slice (some ⟨b, 0, none⟩) n c], .bool false]) ∧ Below w.heap.size w w' := by
  have HB := Lib.hid (((Below.refl _ w).alloc (Nat.le_refl _) (.cells #[.slice (some ⟨b, 0, none⟩) n c] 29)).alloc (by simp) (.cells #[.slice (some ⟨b, 0, none⟩) n c] 29))
  have HB0 := Lib.hid (((Below.refl _ w).alloc (Nat.le_refl _) (.cells #[.slice (some ⟨b, 0, none⟩) n c] 29)).alloc (by simp) (.cells #[.slice none 0 0] 29))
  have h' := h.below HB0.out
  have hn2 := h.n2
  by_cases h1 : i < 0
  · clear ht h h' HB0
    go_enter Tryd.func12, Tryd.ntmps12
    go_wp2_with fail
    refine bodyPost_ret (v := .tuple #[.agg #[.slice (some ⟨b, 0, none⟩) n c], .bool false]) ?_ rfl ⟨rfl, HB.out⟩
    simp [results, Tryd.f12, go_sem]
  · obtain ⟨p, rfl⟩ : ∃ p : Nat, i = (p : Int) := ⟨i.toNat, by omega⟩
    by_cases h2 : p < n
    · have d0 := h'.cell h2
      have a3 : ¬ (n : Int) ≤ (p : Int) := by omega
      have e : m p = t := by
        simp [turnsB, h2] at ht
        exact ht
      rw [e] at d0
      have htt : (t == t) = true := by simp
      clear ht h h' HB0 e
      go_enter Tryd.func12, Tryd.ntmps12
      go_wp2_with fail
      refine bodyPost_ret (v := .tuple #[.agg #[.slice (some ⟨b, 0, none⟩) n c], .bool false]) ?_ rfl ⟨rfl, HB.out⟩
      simp [results, Tryd.f12, go_sem]
    · have a3 : (n : Int) ≤ (p : Int) := by omega
      clear ht h h' HB0
      go_enter Tryd.func12, Tryd.ntmps12
      go_wp2_with fail
      refine bodyPost_ret (v := .tuple #[.agg #[.slice (some ⟨b, 0, none⟩) n c], .bool false]) ?_ rfl ⟨rfl, HB.out⟩
      simp [results, Tryd.f12, go_sem]
end

end Go.Proofs.YtlpniacffahnkabDoor
