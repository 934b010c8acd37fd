/-
  The program's own bitmap: New.
-/
import Derived.Test.YtkiibobpejoaeaaDoorBitOwn
namespace Go.Proofs.YtkiibobpejoaeaaDoor
open Go.RowKit
set_option linter.unusedVariables false

theorem bit_words (t : Nat) (ht : t ≤ 65536) (w : World) : Calls Tryd.prog 57 #[.int .i64 (t : Int)] w fun e w' => e = .returned (.slice (some ⟨w.heap.size, 0, none⟩) ((t + 63) / 64) ((t + 63) / 64)) ∧ w' = w.alloc (.cells (madeCells #[.int .u64 0] ((t + 63) / 64)) 22) := by
  obtain ⟨inf, hi1, hi2, hi3, hi4⟩ := info_parts (P := Tryd.prog) (e := 22) (z := .int .u64 0) (size := 1) (bytes := 8) (by kernel_rfl)
  obtain ⟨k, hk⟩ : ∃ k, (t + 63) / 64 = k := ⟨_, rfl⟩
  have h1 : ((t : Int) + 64 - 1) / 64 = (k : Int) := by omega
  have h2 : k ≤ 65536 := by omega
  have r1 := run_make_cells (P := Tryd.prog) 29 22 inf (.int .u64 0) 1 (by kernel_rfl) hi1 hi2 hi3 (k : Int) k rfl (by rw [hi4]; omega) (by omega)
  simp only [Nat.mul_one, show (Value.int .u64 0).cells = #[.int .u64 0] from rfl] at r1
  rw [hk]
  clear hk
  go_enter Tryd.func57, Tryd.ntmps57
  go_wp2_with fail
  go_ret
  exact ⟨rfl, rfl⟩

/-- The floors' slices. -/
def flV (n : Nat) (fb : Nat → Nat) (k : Nat) : List Value := (List.range k).map fun f => .slice (some ⟨fb f, 0, none⟩) (wn n f) (wn n f)
theorem flV_len (n : Nat) (fb : Nat → Nat) (k : Nat) : (flV n fb k).length = k := by simp [flV]
theorem flV_get {n : Nat} {fb : Nat → Nat} {k f : Nat} (h : f < k) : (flV n fb k)[f]? = some (.slice (some ⟨fb f, 0, none⟩) (wn n f) (wn n f)) := by simp [flV, h]
theorem flV_next (n : Nat) (fb : Nat → Nat) (k v : Nat) : flV n fb k ++ [.slice (some ⟨v, 0, none⟩) (wn n k) (wn n k)] = flV n (updN fb k v) (k + 1) := by
  unfold flV
  rw [List.range_succ, List.map_append]
  congr 1
  · apply List.map_congr_left
    intro f hf
    have := List.mem_range.1 hf
    rw [updN, if_neg (by omega)]
  · simp [updN]
/-- Floors without marks, in blocks of their own. -/
structure Floors (w wx : World) (n k : Nat) (fb : Nat → Nat) (v : Value) : Prop where
  own : wx.ownsRow w.heap.size 29 1 v k (flV n fb k)
  row : ∀ f, f < k → RowU wx (fb f) 22 (wn n f) (fun _ => 0)
  ne : ∀ f g, f < k → g < k → f ≠ g → fb f ≠ fb g
  new : ∀ f, f < k → w.heap.size ≤ fb f
  lo : Below w.heap.size w wx
theorem rowU_zero (w : World) (k : Nat) : RowU (w.alloc (.cells (madeCells #[.int .u64 0] k) 22)) w.heap.size 22 k (fun _ => 0) :=
  RowU.made w 22 #[.int .u64 0] k (fun j hj => by
    have : j = 0 := by simpa using hj
    subst this; rfl) (by decide)
theorem RowU.not_row {w : World} {b k : Nat} {t : TypeId} {f : Nat → Nat} (h : RowU w b t k f) {base e size n : Nat} {v : Value} {xs : List Value} (hr : w.ownsRow base e size v n xs) (he : e ≠ t) : some b ≠ v.ownBlock := by
  obtain ⟨cs, h1, _⟩ := h
  exact fun e' => h1.not_row hr he e'.symm
theorem floors_next {w wx w' : World} {n k : Nat} {fb : Nat → Nat} {v v' : Value} (h : Floors w wx n k fb v) (o : Obj)
    (own' : w'.ownsRow w.heap.size 29 1 v' (k + 1) (flV n fb k ++ [.slice (some ⟨wx.heap.size, 0, none⟩) (wn n k) (wn n k)]))
    (g : ((wx.alloc (.cells (madeCells #[.int .u64 0] (wn n k)) 22)).alloc o).grownBy w' v.ownBlock) : Floors w w' n (k + 1) (updN fb k wx.heap.size) v' := by
  have b1 : Below wx.heap.size wx ((wx.alloc (.cells (madeCells #[.int .u64 0] (wn n k)) 22)).alloc o) := ((Below.refl _ wx).alloc (Nat.le_refl _) _).alloc (by simp) _
  have own1 := owns_below h.own b1
  have R1 : ∀ f, f < k → RowU ((wx.alloc (.cells (madeCells #[.int .u64 0] (wn n k)) 22)).alloc o) (fb f) 22 (wn n f) (fun _ => 0) := fun f hf => (h.row f hf).same (b1.block _ (h.row f hf).lt)
  have R2 : RowU ((wx.alloc (.cells (madeCells #[.int .u64 0] (wn n k)) 22)).alloc o) wx.heap.size 22 (wn n k) (fun _ => 0) := (rowU_zero wx (wn n k)).same (((Below.refl _ _).alloc (Nat.le_refl _) o).block _ (rowU_zero wx (wn n k)).lt)
  refine ⟨flV_next n fb k _ ▸ own', fun f hf => ?_, fun f g' hf hg hne => ?_, fun f hf => ?_, below_grown (below_tr h.lo b1) own1 (Nat.le_refl _) g⟩
  · by_cases c : f = k
    · subst c
      rw [updN, if_pos rfl]
      exact R2.same (g.block _ R2.lt (R2.not_row own1 (by decide)))
    · rw [updN, if_neg c]
      exact (R1 f (by omega)).same (g.block _ (R1 f (by omega)).lt ((R1 f (by omega)).not_row own1 (by decide)))
  · unfold updN
    by_cases c : f = k
    · rw [if_pos c, if_neg (by omega)]
      have := (h.row g' (by omega)).lt
      omega
    · rw [if_neg c]
      by_cases c2 : g' = k
      · rw [if_pos c2]
        have := (h.row f (by omega)).lt
        omega
      · rw [if_neg c2]
        exact h.ne f g' (by omega) (by omega) hne
  · unfold updN
    by_cases c : f = k
    · rw [if_pos c]; exact h.lo.size
    · rw [if_neg c]; exact h.new f (by omega)

theorem bit_build (n : Nat) (hn1 : 1 ≤ n) (hn : n ≤ 65536) (w : World) : Calls Tryd.prog 42 #[.int .i64 (n : Int)] w fun e w' => ∃ k fb p c, e = .returned (.slice p k c) ∧ Floors w w' n k fb (.slice p k c) ∧ 1 ≤ k ∧ k ≤ 3 ∧ wn n (k - 1) ≤ 1 := by
  have HW := Lib.hid (bit_words n hn w)
  have F0 : Hid (Floors w ((w.alloc (.cells (madeCells #[.int .u64 0] ((n + 63) / 64)) 22)).alloc (.cells #[.slice (some ⟨w.heap.size, 0, none⟩) ((n + 63) / 64) ((n + 63) / 64)] 29)) n 1 (fun _ => w.heap.size) (.slice (some ⟨w.heap.size + 1, 0, none⟩) 1 1)) := by
    have b1 : Below w.heap.size w ((w.alloc (.cells (madeCells #[.int .u64 0] ((n + 63) / 64)) 22)).alloc (.cells #[.slice (some ⟨w.heap.size, 0, none⟩) ((n + 63) / 64) ((n + 63) / 64)] 29)) := ((Below.refl _ w).alloc (Nat.le_refl _) _).alloc (by simp) _
    refine Lib.hid ⟨?_, fun f hf => ?_, fun f g hf hg hne => absurd hne (by omega), fun f hf => Nat.le_refl _, b1⟩
    · have h := World.ownsRow_lit (base := w.heap.size) (e := 29) (size := 1) (w.alloc (.cells (madeCells #[.int .u64 0] ((n + 63) / 64)) 22)) #[.slice (some ⟨w.heap.size, 0, none⟩) ((n + 63) / 64) ((n + 63) / 64)] 1 (by simp) (by decide) rfl
      simpa [flV, wn] using h
    · obtain rfl : f = 0 := by omega
      have h := rowU_zero w ((n + 63) / 64)
      exact h.same (((Below.refl _ _).alloc (Nat.le_refl _) _).block _ h.lt)
  obtain ⟨inf, hi1, hi2, hi3, hi4⟩ := info_parts (P := Tryd.prog) (e := 29) (z := .slice none 0 0) (size := 1) (bytes := 24) (by kernel_rfl)
  go_enter Tryd.func42, Tryd.ntmps42
  go_upto_region 2 with (go_at_call 57; refine HW.out.mono ?_; rintro e w1 ⟨rfl, rfl⟩)
  go_loopg [3] 2 (fun s v3 wx => ∃ (k : Nat) (fb : Nat → Nat) (p : Option Addr) (c : Nat), 3 - k = s ∧ 1 ≤ k ∧ k ≤ 3 ∧ v3 = .slice p k c ∧ Hid (Floors w wx n k fb (.slice p k c)))
  case atStart => exact ⟨1, _, _, _, rfl, by omega, by omega, by simp, F0⟩
  case round =>
    clear F0
    obtain ⟨k, fb, p, c, rfl, hk1, hk3, rfl, HF⟩ := hrel
    obtain ⟨g, rfl⟩ := (own_form HF.out.own).2 (by omega)
    have hcap := own_cap HF.out.own
    have d0 := HF.out.own.cellAt (k - 1) (by omega)
    rw [flV_get (by omega)] at d0
    obtain ⟨j, rfl⟩ : ∃ j, k = j + 1 := ⟨k - 1, by omega⟩
    rw [Nat.add_sub_cancel] at d0
    have hw1 := wn_le hn j
    have hs0 : wr.heap.size = wr.heap.size := rfl
    have hji : (((j + 1 : Nat) : Int)) - 1 = (j : Int) := by omega
    by_cases hl : 1 < wn n j
    · have hz : (1 : Int) < (wn n j : Int) := by omega
      have hj2 : j + 1 ≤ 2 := by
        have h3 := wn_three hn
        apply Classical.byContradiction
        intro cc
        obtain rfl : j = 2 := by omega
        omega
      have HW1 := Lib.hid (bit_words (wn n j) (by omega) wr)
      rw [show (wn n j + 63) / 64 = wn n (j + 1) from rfl] at HW1
      obtain ⟨q, HQ⟩ : ∃ q, Hid (wn n (j + 1) = q) := ⟨_, Lib.hid rfl⟩
      have HF1 := Lib.hid (fun o v' w' => floors_next (w' := w') (v' := v') HF.out o)
      rw [HQ.out] at HW1 HF1
      have own1 := HF.out.own
      have hlo := HF.out.lo.size
      have hw2 : q ≤ 1024 := by have := wn_le hn (j + 1); have := HQ.out; omega
      clear HF hl HQ
      generalize wn n j = wj at *
      generalize fb j = bj at *
      have r5 := owns_below own1 (((Below.refl _ wr).alloc (Nat.le_refl _) (.cells (madeCells #[.int .u64 0] q) 22)).alloc (by simp) (.cells #[.slice (some ⟨wr.heap.size, 0, none⟩) q q] 29))
      have hsl := lit_one (e := 29) (wr.alloc (.cells (madeCells #[.int .u64 0] q) 22)) (.slice (some ⟨wr.heap.size, 0, none⟩) q q)
      simp only [World.size_alloc] at hsl
      have hml : j + 1 + 1 ≤ maxLen := by simp only [maxLen]; omega
      go_wp2_with (first
        | (go_at_call 57; refine HW1.out.mono ?_; rintro e w1 ⟨rfl, rfl⟩)
        | (at_builtin; (refine wpList_append_any _ rfl (.tmp 15) (.tmp 24) 80 rfl w.heap.size 29 inf (.slice none 0 0) 1 24 Tryd.underlying80 hi1 hi2 hi3 hi4 rfl (by decide) (.slice (some ⟨g, 0, none⟩) (j + 1) c) (j + 1) _ rfl r5 0 _ 1 [.slice (some ⟨wr.heap.size, 0, none⟩) q q] rfl hsl (by intro u hu; simp at hu; subst hu; rfl) hml (by omega) (by simp; omega) ?_; intro p5 c5 w5 own5 gr5 loc5)))
      have HF2 := Lib.hid (HF1.out _ _ _ own5 gr5)
      go_roundg (3 - (j + 1 + 1))
      case measure => omega
      case rel => exact ⟨j + 1 + 1, _, p5, c5, rfl, by omega, by omega, rfl, HF2⟩
    · have hz : ¬ (1 : Int) < (wn n j : Int) := by omega
      have HE : Hid (∃ k fb p c', Ending.returned (.slice (some ⟨g, 0, none⟩) (j + 1) c) = .returned (.slice p k c') ∧ Floors w wr n k fb (.slice p k c') ∧ 1 ≤ k ∧ k ≤ 3 ∧ wn n (k - 1) ≤ 1) := Lib.hid ⟨j + 1, fb, _, c, rfl, HF.out, hk1, hk3, by rw [Nat.add_sub_cancel]; omega⟩
      clear HF hl
      generalize wn n j = wj at *
      generalize fb j = bj at *
      go_wp2_with fail
      go_ret
      exact HE.out

/-- New, of so many places. -/
theorem bit_new (n : Nat) (hn1 : 1 ≤ n) (hn : n ≤ 65536) (w : World) : Calls Tryd.prog 24 #[.int .i64 (n : Int)] w fun e w' => ∃ b gf cf k fb, e = .returned (.tuple #[.pointer (some ⟨b, 0, none⟩), .int .i64 0]) ∧ BMem w' b gf cf k n 0 fb (fun _ _ => 0) ∧ (∀ j, OwnB b gf k fb j → w.heap.size ≤ j) ∧ Below w.heap.size w w' := by
  have HB := Lib.hid (bit_build n hn1 hn w)
  have a1 : ¬ (n : Int) < 1 := by omega
  have a2 : ¬ (65536 : Int) < (n : Int) := by omega
  go_enter Tryd.func24, Tryd.ntmps24
  go_wp2_with fail
  refine HB.out.mono ?_
  rintro e w1 ⟨k, fb, p, c, rfl, F, hk1, hk3, hl⟩
  obtain ⟨g, rfl⟩ := (own_form F.own).2 (by omega)
  have bx := Box.new w1 83 #[.pointer (some ⟨w1.heap.size, 0, none⟩), .int .i64 (n : Int), .int .i64 0, .slice (some ⟨g, 0, none⟩) k c]
  have HM : Hid (BMem (w1.alloc (.cells #[.pointer (some ⟨w1.heap.size, 0, none⟩), .int .i64 (n : Int), .int .i64 0, .slice (some ⟨g, 0, none⟩) k c] 83)) w1.heap.size g c k n 0 fb (fun _ _ => 0)) := by
    refine Lib.hid ⟨bx, ?_, fun f hf => ?_, F.ne, hk1, hk3, hl, hn1, hn⟩
    · rcases F.own.2 with ⟨h1, _⟩ | ⟨g', cap, cur, h1, h2, h3, h4, h5, h6, h7⟩
      · cases h1
      · cases h1
        have b3 : Box w1 g 29 cur := h3
        refine ⟨cur, b3.alloc _, fun f hf => ?_⟩
        have h8 := flV_get (n := n) (fb := fb) hf
        rw [← h7, List.getElem?_take, if_pos (by omega), Array.getElem?_toList] at h8
        exact h8
    · have r := F.row f hf
      have := r.lt
      exact r.same (((Below.refl _ _).alloc (Nat.le_refl _) _).block _ r.lt)
  have HO : Hid (∀ j, OwnB w1.heap.size g k fb j → w.heap.size ≤ j) := by
    apply Lib.hid
    rintro j (rfl | rfl | ⟨f, hf, rfl⟩)
    · exact F.lo.size
    · exact (F.own.lt _ rfl).1
    · exact F.new f hf
  have HL : Hid (Below w.heap.size w (w1.alloc (.cells #[.pointer (some ⟨w1.heap.size, 0, none⟩), .int .i64 (n : Int), .int .i64 0, .slice (some ⟨g, 0, none⟩) k c] 83))) := Lib.hid (F.lo.alloc F.lo.size _)
  clear F bx HB
  go_wp2_with fail
  go_ret2
  exact ⟨_, _, _, _, _, rfl, HM.out, HO.out, HL.out⟩
theorem bit_new_no (n : Int) (hn : n < 1 ∨ 65536 < n) (w : World) : Calls Tryd.prog 24 #[.int .i64 n] w fun e w' => e = .returned (.tuple #[.pointer none, .int .i64 2]) ∧ w' = w := by
  by_cases c : n < 1
  · clear hn
    go_enter Tryd.func24, Tryd.ntmps24
    go_wp2_with fail
    go_ret2
    exact ⟨rfl, rfl⟩
  · have d : 65536 < n := by omega
    clear hn
    go_enter Tryd.func24, Tryd.ntmps24
    go_wp2_with fail
    go_ret2
    exact ⟨rfl, rfl⟩

end Go.Proofs.YtkiibobpejoaeaaDoor
