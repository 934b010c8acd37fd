/-
  WheelHeld's walk, over any wheel.
-/
import Derived.Test.YtkiibobpejoaeaaDoorWheelK
import Derived.Test.YtkiibobpejoaeaaDoorWheelOps
namespace Go.Proofs.YtkiibobpejoaeaaDoor
open Go.RowKit
set_option linter.unusedVariables false
set_option linter.unusedSimpArgs false

theorem slotW_lt {t width : Nat} (h1 : 1 ≤ width) (ht : t < 18446744073709551616) : slotW t width < 18446744073709551616 := by
  unfold slotW
  have : (t + (width - 1)) / width ≤ t := by
    rcases Nat.eq_zero_or_pos t with rfl | h
    · rw [Nat.zero_add, Nat.div_eq_of_lt (by omega)]; exact Nat.le_refl _
    · have h2 : t + (width - 1) < width * (t + 1) := by
        rw [Nat.mul_succ]
        have : t ≤ width * t := Nat.le_mul_of_pos_left t h1
        omega
      have := (Nat.div_lt_iff_lt_mul h1).2 (by rw [Nat.mul_comm]; exact h2)
      omega
  omega
theorem sum_take_le (l : List Nat) (j : Nat) : (l.take j).sum ≤ l.sum := by
  have h := congrArg List.sum (List.take_append_drop j l)
  rw [List.sum_append] at h
  omega
theorem sum_take_succ {l : List Nat} {j : Nat} (h : j < l.length) : (l.take (j + 1)).sum = (l.take j).sum + l[j] := by
  rw [List.take_succ_eq_append_getElem h, List.sum_append]
  simp
theorem nat_cell {W : World} {base e n c j : Nat} {p : Option Addr} {l : List Nat} (h : W.ownsRow base e 1 (.slice p n c) n (l.map natV)) (hl : l.length = n) (hj : j < l.length) : ∃ g, p = some ⟨g, 0, none⟩ ∧ W.cell? ⟨g, j, none⟩ = some (.int .i64 ((l[j] : Nat) : Int)) := by
  rcases h.2 with ⟨_, e⟩ | ⟨g, cap, cur, e, h2, h3, h4, h5, h6, h7⟩
  · omega
  · cases e
    refine ⟨g, rfl, ?_⟩
    have hb : Box W g _ cur := h3
    rw [hb.cell]
    have hx : cur[j]? = (l.map natV)[j]? := by rw [← h7, List.getElem?_take, if_pos (by omega), Array.getElem?_toList]
    rw [hx, List.getElem?_map, List.getElem?_eq_getElem hj]
    rfl
def Awake9 : Prop := ∀ w : World, Tab w → Calls Tryd.prog 7 #[] w fun e w' => e = .returned (.bool true) ∧ Below w.heap.size w w'


end Go.Proofs.YtkiibobpejoaeaaDoor
