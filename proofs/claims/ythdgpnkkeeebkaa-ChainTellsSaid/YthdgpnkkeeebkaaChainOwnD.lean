/-
  The program's own chains: List and New, at the rows.
-/
import Derived.Test.YthdgpnkkeeebkaaChainOwnC
import Derived.Test.YthdgpnkkeeebkaaChainRing
import Derived.Deep.OwnRows
namespace Go.Proofs.Ythdgpnkkeeebkaa
open Go.RowKit
set_option linter.unusedVariables false

theorem madeCells_get (z : Array Value) (k i : Nat) (v : Value) (hz : ∀ j, j < z.size → z[j]! = v) (h0 : 0 < z.size) (hi : i < k) : (madeCells z k)[i]? = some v := by
  unfold madeCells
  simp [hi]
  exact hz (i % z.size) (Nat.mod_lt _ h0)
theorem RowN.made (w : World) (t : TypeId) (z : Array Value) (k : Nat) (hz : ∀ j, j < z.size → z[j]! = natV 0) (h0 : 0 < z.size) : RowN (w.alloc (.cells (madeCells z k) t)) w.heap.size t k (fun _ => 0) :=
  ⟨_, Box.new w t _, size_madeCells _ _, fun i hi => madeCells_get z k i _ hz h0 hi⟩
theorem RowN.owns {w : World} {b k : Nat} {t : TypeId} {f : Nat → Nat} (h : RowN w b t k f) (l : List Nat) (hl : l.length = k) (hf : ∀ i (hi : i < l.length), f i = l[i]) {base : Nat} (hb : base ≤ b) (hk : k ≤ maxLen) : w.ownsRow base t 1 (.slice (some ⟨b, 0, none⟩) l.length k) l.length (l.map natV) := by
  obtain ⟨cs, h1, h2, h3⟩ := h
  refine ⟨by simp, .inr ⟨b, k, cs, rfl, hb, h1, by omega, hk, by omega, ?_⟩⟩
  apply List.ext_getElem?
  intro i
  by_cases hi : i < l.length
  · rw [List.getElem?_take, if_pos (by omega), Array.getElem?_toList, h3 i (by omega), hf i hi, List.getElem?_map, List.getElem?_eq_getElem hi]
    rfl
  · rw [List.getElem?_take, if_neg (by omega), List.getElem?_eq_none (by simp; omega)]

section
variable {w w' : World} {b gl gh gs n m : Nat} {K H S : Nat → Nat}
theorem raw_list_no (i : Int) (HL : Hid (Calls Try.prog 22 #[.pointer (some ⟨b, 0, none⟩), .int .i64 i] w fun e w' => e = .returned (.int .i64 0) ∧ w' = w)) :
    Calls Try.prog 18 #[.pointer (some ⟨b, 0, none⟩), .int .i64 i] w fun e w' => e = .returned (.slice none 0 0) ∧ w' = w := by
  go_enter Try.func18, Try.ntmps18
  go_wp2_with fail
  refine HL.out.mono ?_
  rintro e w1 ⟨rfl, rfl⟩
  go_wp2_with fail
  go_ret
  exact ⟨rfl, rfl⟩
theorem raw_list (h : Raw w b gl gh gs n m K H S) (i : Nat) (l : List Nat) (hi : i < m) (hs : S i = l.length) (h0 : l ≠ []) (hl : l.length ≤ 65536) (hr : Ring K (n + i) l) (hlt : ∀ y, y ∈ l → y < n) :
    Calls Try.prog 18 #[.pointer (some ⟨b, 0, none⟩), .int .i64 (i : Int)] w (ListC w l) := by
  have HL := Lib.hid (raw_len h i hi)
  rw [hs] at HL
  have HE : Hid (∀ w1, Below w.heap.size w w1 → Calls Try.prog 26 #[.pointer (some ⟨b, 0, none⟩), .int .i64 (i : Int)] w1 fun e w' => e = .returned (.int .i64 ((n + i : Nat) : Int)) ∧ w' = w1) := fun w1 b1 => raw_end (h.below b1) i hi
  have hk : (l.length : Int) ≠ 0 := by have := List.length_pos_iff.2 h0; omega
  have h1 := h.n1
  have h2 := h.m1
  have HR := Lib.hid h
  have HG : Hid (∀ j (hj : j < l.length), K (prev (n + i) l j * 2 + 1) = l[j] ∧ prev (n + i) l j < n + m ∧ prev (n + i) l (j + 1) = l[j]) := by
    intro j hj
    refine ⟨ring_next hr hj, ?_, prev_succ hj⟩
    cases j with
    | zero => rw [prev_zero]; omega
    | succ j =>
      rw [prev_succ (by omega)]
      have := hlt l[j] (List.getElem_mem _)
      omega
  obtain ⟨inf, hi1, hi2, hi3, hi4⟩ := info_parts (P := Try.prog) (e := 3) (z := .int .i64 0) (size := 1) (bytes := 8) (by kernel_rfl)
  have HX := Lib.hid (RowN.made w 3 #[.int .i64 0] l.length (fun j hj => by
    have : j = 0 := by simpa using hj
    subst this; rfl) (by decide))
  have HB := Lib.hid ((Below.refl _ w).alloc (Nat.le_refl _) (.cells (madeCells #[.int .i64 0] l.length) 3))
  clear h hs h0 hr hlt
  obtain ⟨W, HW⟩ : ∃ W, Hid (w.alloc (.cells (madeCells #[.int .i64 0] l.length) 3) = W) := ⟨_, Lib.hid rfl⟩
  rw [HW.out] at HX HB
  have hl0 : l.length = l.length := rfl
  obtain ⟨y, HY⟩ : ∃ y, Hid (n + i = y) := ⟨_, Lib.hid rfl⟩
  rw [HY.out] at HE HG
  go_enter Try.func18, Try.ntmps18
  go_wp2_with fail
  refine HL.out.mono ?_
  rintro e w1 ⟨rfl, rfl⟩
  go_upto_region 4 with fail
  go_wp2_with (refine wpList_make_row _ rfl _ _ 43 rfl 3 inf (.int .i64 0) rfl hi1 hi2 hi3 rfl .i64 .i64 l.length rfl rfl (by rw [hi4]; omega) (by omega) ?_; rw [HW.out])
  refine (HE.out _ HB.out).mono ?_
  rintro e w2 ⟨rfl, rfl⟩
  go_wp2_with fail
  go_loopg [7, 21] l.length (fun k p i wx => ∃ (j : Nat), l.length - j = k ∧ j ≤ l.length ∧ p = .int .i64 (prev y l j : Int) ∧ i = .int .i64 (j : Int) ∧ Hid (RowN wx w1.heap.size 3 l.length (fun k => if k < j then l[k]?.getD 0 else 0)) ∧ Hid (Below w1.heap.size w1 wx))
  case atStart => exact ⟨0, rfl, by omega, rfl, rfl, Lib.hid (HX.out.congr fun i _ => rfl), HB⟩
  case round =>
    obtain ⟨j, rfl, hj, rfl, rfl, HX1, HB1⟩ := hrel
    by_cases hjl : j = l.length
    · have hz : ¬ (j : Int) < (l.length : Int) := by omega
      have HE : Hid (ListC w1 l (.returned (.slice (some ⟨w1.heap.size, 0, none⟩) l.length l.length)) wr) := by
        refine ⟨_, _, rfl, HX1.out.owns l rfl (fun i hi => ?_) (Nat.le_refl _) (by simp [maxLen]; omega), HB1.out⟩
        rw [if_pos (by omega), List.getElem?_eq_getElem hi]
        rfl
      clear hjl HX1 HB1 HG
      go_wp2_with fail
      go_ret
      exact HE.out
    · have hjl' : j < l.length := by omega
      have hz : (j : Int) < (l.length : Int) := by omega
      obtain ⟨g1, g2, g3⟩ := HG.out j hjl'
      have R := HR.out.below HB1.out
      obtain ⟨c0, _, _⟩ := R.cells
      have d0 := R.links.cell (i := prev y l j * 2 + 1) (by omega)
      rw [g1] at d0
      have d1 := HX1.out.cell hjl'
      have f1 := HX1.out.frozen j
      have HP : Hid (prev y l (j + 1) = l[j]) := Lib.hid g3
      have HXN : Hid (RowN (wr.setCell ⟨w1.heap.size, j, none⟩ (.int .i64 (l[j] : Int))) w1.heap.size 3 l.length (fun k => if k < j + 1 then l[k]?.getD 0 else 0)) := by
        refine Lib.hid ((HX1.out.set j l[j]).congr fun k hk => ?_)
        by_cases c : k = j
        · subst c
          rw [upd_at, if_pos (by omega), List.getElem?_eq_getElem hk]
          rfl
        · rw [upd_ne c]
          by_cases c2 : k < j
          · rw [if_pos c2, if_pos (by omega)]
          · rw [if_neg c2, if_neg (by omega)]
      have HBN : Hid (Below w1.heap.size w1 (wr.setCell ⟨w1.heap.size, j, none⟩ (.int .i64 (l[j] : Int)))) := Lib.hid (HB1.out.setCell (Nat.le_refl _) _)
      clear R HX1 HB1 g1 g3 HG HX HB HL HW hjl
      have hp1 : ((prev y l j : Nat) : Int) < (n : Int) + (m : Int) := by omega
      generalize prev y l j = pv at *
      generalize hx : l[j] = x at *
      clear hx
      go_wp2_with fail
      go_roundg (l.length - (j + 1))
      case measure => omega
      case rel => exact ⟨j + 1, rfl, by omega, by rw [HP.out], by go_num, HXN, HBN⟩
end

end Go.Proofs.Ythdgpnkkeeebkaa
