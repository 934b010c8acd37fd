/-
  FlowPaced: the row of what has left; the law's own paces.
-/
import Derived.Test.YtmokkbhfhbgkmaaFlowWaitsFacts
import Derived.Test.YtmokkbhfhbgkmaaFlowPacedSt
import Derived.Test.YtmokkbhfhbgkmaaBytes
namespace Go.Proofs.Ytmokkbhfhbgkmaa
open Go.RowKit
set_option linter.unusedVariables false
set_option linter.unusedSimpArgs false
set_option maxRecDepth 100000

def sentC (n t : Nat → Int) (j : Nat) : List Value := [.int .i64 (n j), .int .u64 (t j)]
def sentL (n t : Nat → Int) (m : Nat) : List Value := (List.range m).flatMap (sentC n t)
theorem flatMap_same {f g : Nat → List Value} : ∀ (l : List Nat), (∀ x ∈ l, f x = g x) → l.flatMap f = l.flatMap g
  | [], _ => rfl
  | x :: l, h => by rw [List.flatMap_cons, List.flatMap_cons, h x (List.mem_cons_self ..), flatMap_same l (fun y hy => h y (List.mem_cons_of_mem _ hy))]
theorem sentL_more (n t : Nat → Int) (m : Nat) (v : Int) : sentL n (updI t m v) (m + 1) = sentL n t m ++ [.int .i64 (n m), .int .u64 v] := by
  unfold sentL
  rw [List.range_succ, List.flatMap_append]
  congr 1
  · refine flatMap_same _ fun j hj => ?_
    unfold sentC
    rw [updI_ne (Nat.ne_of_lt (List.mem_range.1 hj))]
  · simp [sentC, updI_at]
theorem sentL_get (n t : Nat → Int) : ∀ (m j : Nat), j < m → (sentL n t m)[j * 2]? = some (.int .i64 (n j)) ∧ (sentL n t m)[j * 2 + 1]? = some (.int .u64 (t j)) := by
  intro m
  induction m with
  | zero => intro j hj; omega
  | succ m ih =>
    intro j hj
    have hlen : ∀ m, (sentL n t m).length = m * 2 := by
      intro m
      induction m with
      | zero => rfl
      | succ m ih => unfold sentL at ih ⊢; rw [List.range_succ, List.flatMap_append, List.length_append, ih]; simp [sentC]; omega
    have e : sentL n t (m + 1) = sentL n t m ++ sentC n t m := by unfold sentL; rw [List.range_succ, List.flatMap_append]; simp
    rw [e]
    by_cases c : j < m
    · rw [List.getElem?_append_left (by rw [hlen]; omega), List.getElem?_append_left (by rw [hlen]; omega)]
      exact ih j c
    · obtain rfl : j = m := by omega
      rw [List.getElem?_append_right (by rw [hlen]; omega), List.getElem?_append_right (by rw [hlen]; omega), hlen]
      simp [sentC]
theorem sent_ones (n t : Nat → Int) (m : Nat) : ∀ u ∈ [Value.int .i64 (n m), .int .u64 (t m)], u.oneCell' = true := by
  intro u hu
  simp only [List.mem_cons, List.not_mem_nil, or_false] at hu
  rcases hu with rfl | rfl <;> rfl
theorem lit_sent (w : World) (a b : Int) : (w.alloc (.cells #[.int .i64 a, .int .u64 b] 84)).ownsRow 0 84 2 (.slice (some ⟨w.heap.size, 0, none⟩) 1 1) 1 [.int .i64 a, .int .u64 b] :=
  ⟨rfl, .inr ⟨w.heap.size, 1, _, rfl, Nat.zero_le _, (MapKept.heap_alloc w _).1, Nat.le_refl _, by decide, rfl, rfl⟩⟩
theorem sent_one (a b : Int) : ∀ u ∈ [Value.int .i64 a, .int .u64 b], u.oneCell' = true := by
  intro u hu
  simp only [List.mem_cons, List.not_mem_nil, or_false] at hu
  rcases hu with rfl | rfl <;> rfl
/-- What a row that has left holds. -/
theorem sent_row {w : World} {base m c : Nat} {p : Option Addr} {n t : Nat → Int} (h : w.ownsRow base 84 2 (.slice p m c) m (sentL n t m)) (h0 : 0 < m) :
    ∃ g, p = some ⟨g, 0, none⟩ ∧ g < w.heap.size ∧ m ≤ c ∧ c ≤ 9223372036854775807 ∧ ∀ j, j < m → w.cell? ⟨g, j * 2, none⟩ = some (.int .i64 (n j)) ∧ w.cell? ⟨g, j * 2 + 1, none⟩ = some (.int .u64 (t j)) := by
  rcases h.2 with ⟨_, e⟩ | ⟨g, cap, cur, e, h2, h3, h4, h5, h6, h7⟩
  · omega
  · cases e
    have b : Box w g 84 cur := h3
    refine ⟨g, rfl, b.lt, by omega, h5, fun j hj => ?_⟩
    obtain ⟨c0, c1⟩ := sentL_get n t m j hj
    have hg : ∀ i, i < m * 2 → cur[i]? = (sentL n t m)[i]? := fun i hi => by
      rw [← h7, List.getElem?_take, if_pos hi, Array.getElem?_toList]
    exact ⟨(b.cell _).trans ((hg _ (by omega)).trans c0), (b.cell _).trans ((hg _ (by omega)).trans c1)⟩

/-- The law's own pace. -/
theorem law_pace (a0 a1 a2 a3 : Int) (w : World) (h0 : 0 ≤ a0 ∧ a0 < 65536) (h1 : 0 ≤ a1 ∧ a1 < 65536) (h2 : 0 ≤ a2 ∧ a2 < 4294967296) (h3 : Num.Word a3) :
    Calls Try.prog 38 #[.int .u16 a0, .int .u16 a1, .int .u32 a2, .int .u64 a3, .int .u64 0] w fun e w' => e = .returned (.agg #[.int .i64 (1 + a0), .int .i64 (1 + a1), .int .u64 a2, .int .u64 (a3 % 1099511627777), .int .u64 0]) ∧ Below w.heap.size w w' := by
  obtain ⟨h00, h01⟩ := h0
  obtain ⟨h10, h11⟩ := h1
  obtain ⟨h20, h21⟩ := h2
  obtain ⟨h30, h31⟩ := h3
  go_enter Try.func38, Try.ntmps38
  go_wp2_with fail
  exact bodyPost_ret (v := .agg #[.int .i64 (1 + a0), .int .i64 (1 + a1), .int .u64 a2, .int .u64 (a3 % 1099511627777), .int .u64 0]) (by simp [results, Try.f38, go_sem]) rfl ⟨rfl, (Below.refl _ _).alloc (Nat.le_refl _) _⟩

end Go.Proofs.Ytmokkbhfhbgkmaa
