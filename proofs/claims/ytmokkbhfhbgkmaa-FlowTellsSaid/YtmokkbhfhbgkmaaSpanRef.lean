/-
  What the document's own answers of layer 2 (package sandglassref02) are, for all numbers: the same plain functions as span's.
-/
import Derived.Test.YtmokkbhfhbgkmaaSatRef
import Derived.Test.YtmokkbhfhbgkmaaSpanFacts
namespace Go.Proofs.Ytmokkbhfhbgkmaa
open Go.RowKit
set_option linter.unusedVariables false

theorem ref_time (n rate : Int) (w : World) (hn : Num.Word n) (hr : Num.Word rate) :
    Calls Try.prog 79 #[.int .u64 n, .int .u64 rate] w fun e w' => e = .returned (.int .u64 (Num.time n rate)) ∧ w = w' := by
  by_cases c : rate = 0
  · subst c
    have H := Lib.hid (Num.time_none n)
    go_enter Try.func79, Try.ntmps79
    go_wp2_with fail
    go_ret
    exact ⟨ret_u64 H.out.symm, rfl⟩
  · have H := Lib.hid (Num.time_pos (n := n) c)
    have c1 : (rate == 0) = false := by simpa using c
    go_enter Try.func79, Try.ntmps79
    go_wp2_with fail
    refine (ref_up n 1000000000 rate _ hn Num.sec_word hr).mono ?_
    rintro e w1 ⟨rfl, rfl⟩
    go_wp2_with fail
    go_ret
    exact ⟨ret_u64 H.out.symm, rfl⟩


theorem ref_lesser (a b : Int) (w : World) (ha : Num.Word a) (hb : Num.Word b) :
    Calls Try.prog 68 #[.int .u64 a, .int .u64 b] w fun e w' => e = .returned (.int .u64 (Num.lesser a b)) ∧ w = w' := by
  have a0 := ha.1
  have b0 := hb.1
  by_cases c : a = 0
  · have H : Hid (Num.lesser a b = b) := by show Num.lesser a b = b; unfold Num.lesser; rw [if_pos c]
    subst c
    go_enter Try.func68, Try.ntmps68
    go_wp2_with fail
    go_ret
    exact ⟨ret_u64 H.out.symm, rfl⟩
  have c1 : (a == 0) = false := by simpa using c
  by_cases d : b = 0
  · have H : Hid (Num.lesser a b = a) := by show Num.lesser a b = a; unfold Num.lesser; rw [if_neg c, if_pos d]
    subst d
    go_enter Try.func68, Try.ntmps68
    go_wp2_with fail
    go_ret
    exact ⟨ret_u64 H.out.symm, rfl⟩
  have d1 : (b == 0) = false := by simpa using d
  have d2 : (b != 0) = true := by simpa using d
  by_cases e : b < a
  · have H : Hid (Num.lesser a b = b) := by show Num.lesser a b = b; unfold Num.lesser; rw [if_neg c, if_neg d]; omega
    go_enter Try.func68, Try.ntmps68
    go_wp2_with fail
    go_ret
    exact ⟨ret_u64 H.out.symm, rfl⟩
  · have H : Hid (Num.lesser a b = a) := by show Num.lesser a b = a; unfold Num.lesser; rw [if_neg c, if_neg d]; omega
    go_enter Try.func68, Try.ntmps68
    go_wp2_with fail
    go_ret
    exact ⟨ret_u64 H.out.symm, rfl⟩

theorem Num.slot_rest {a w : Int} (ha : Num.Word a) (hw : Num.Word w) : Num.slot a w = if a % max w 1 = 0 then a / max w 1 else a / max w 1 + 1 := by
  have h0 := hw.1
  have h1 := ha.1
  have h2 := ha.2
  have h : Num.slot a w = Num.byc (a + (max w 1 - 1)) (max w 1) := by unfold Num.slot Num.up; rw [Int.mul_one]
  rw [h, Num.up_rest h1 (by omega)]
  have hs := Num.slot_eq ha hw
  generalize hv : max w 1 = v at *
  have hd := Int.mul_ediv_add_emod a v
  have h3 := Int.emod_nonneg a (show v ≠ 0 by omega)
  have h4 := Int.emod_lt_of_pos a (show 0 < v by omega)
  have h5 : 0 ≤ a / v := Int.ediv_nonneg h1 (by omega)
  have h6 : a / v ≤ v * (a / v) := by
    have := Int.mul_le_mul_of_nonneg_right (show (1 : Int) ≤ v by omega) h5
    omega
  unfold Num.kept
  split <;> rw [if_pos] <;> omega



end Go.Proofs.Ytmokkbhfhbgkmaa
