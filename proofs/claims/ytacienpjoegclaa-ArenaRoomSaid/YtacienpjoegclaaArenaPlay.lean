/-
  ArenaTells' walk, over whatever the program's arena is (ArenaK).
-/
import Derived.Test.YtacienpjoegclaaArenaK
namespace Go.Proofs.Ytacienpjoegclaa
open Go.RowKit
set_option linter.unusedVariables false

/-- The handle that was taken as the nth; 0, if there is none. -/
def ofH (H : List Nat) (n : Int) : Nat := if 0 ≤ n then H[n.toNat]?.getD 0 else 0
theorem ofH_small {H : List Nat} (h : ∀ x, x ∈ H → x < 18446744073709551616) (n : Int) : ofH H n < 18446744073709551616 := by
  unfold ofH
  split
  · cases e : H[n.toNat]? with
    | none => decide
    | some x => exact h x (List.mem_of_getElem? e)
  · decide

theorem law_of (p : Option Addr) (c b : Nat) (H : List Nat) (n : Int) (w : World) (hH : H.length ≤ 100) (h : w.ownsRow b 35 1 (.slice p H.length c) H.length (H.map u64V)) :
    Calls Try.prog 11 #[.slice p H.length c, .int .i64 n] w fun e w' => e = .returned (.int .u64 (ofH H n : Nat)) ∧ w = w' := by
  by_cases h0 : n < 0
  · have e : Hid (ofH H n = 0) := if_neg (by omega)
    clear h
    go_enter Try.func11, Try.ntmps11
    go_wp2_with fail
    go_ret
    exact ⟨by rw [e.out]; rfl, rfl⟩
  · obtain ⟨j, rfl⟩ : ∃ j : Nat, n = (j : Int) := ⟨n.toNat, by omega⟩
    have hof : ofH H (j : Int) = H[j]?.getD 0 := if_pos (by omega)
    by_cases h1 : H.length ≤ j
    · have e : Hid (ofH H (j : Int) = 0) := by show _ = 0; rw [hof, List.getElem?_eq_none h1]; rfl
      have h1z : (H.length : Int) ≤ (j : Int) := by omega
      clear h hof
      go_enter Try.func11, Try.ntmps11
      go_wp2_with fail
      go_ret
      exact ⟨by rw [e.out]; rfl, rfl⟩
    · have hj : j < H.length := by omega
      have e : Hid (ofH H (j : Int) = H[j]) := by show _ = H[j]; rw [hof, List.getElem?_eq_getElem hj]; rfl
      obtain ⟨_, hf⟩ := own_form h
      obtain ⟨gT, rfl⟩ := hf (by omega)
      have cj := h.cellAt j (by omega)
      rw [List.getElem?_map, List.getElem?_eq_getElem hj] at cj
      have cj2 : w.cell? ⟨gT, j, none⟩ = some (.int .u64 (H[j] : Nat)) := cj
      have h1z : ¬ (H.length : Int) ≤ (j : Int) := by omega
      have hjz : (j : Int) < (H.length : Int) := by omega
      clear h hof cj hf h1
      generalize H[j] = x at *
      go_enter Try.func11, Try.ntmps11
      go_wp2_with fail
      go_ret
      exact ⟨by rw [e.out]; rfl, rfl⟩

theorem ref_new_yes (room : Int) (w : World) (h1 : 1 ≤ room) (h2 : room ≤ 65536) : Calls Try.prog 9 #[.int .i64 room] w fun e w' => e = .returned (.tuple #[.agg #[.slice none 0 0, .slice none 0 0, .slice none 0 0, .int .i64 room], .bool true]) ∧ Below w.heap.size w w' := by
  go_enter Try.func9, Try.ntmps9
  go_wp2_with fail
  refine bodyPost_ret (v := .tuple #[.agg #[.slice none 0 0, .slice none 0 0, .slice none 0 0, .int .i64 room], .bool true]) ?_ rfl ⟨rfl, ?_⟩
  · simp [results, Try.f9, go_sem]
  · first | exact (Below.refl _ w).alloc (Nat.le_refl _) _ | (repeat (first | exact Below.refl _ _ | (refine Below.setCell ?_ (by simp) _) | (refine Below.alloc ?_ (by simp) _)))

theorem ref_new_no (room : Int) (w : World) (h : room < 1 ∨ 65536 < room) : Calls Try.prog 9 #[.int .i64 room] w fun e w' => e = .returned (.tuple #[.agg #[.slice none 0 0, .slice none 0 0, .slice none 0 0, .int .i64 room], .bool false]) ∧ Below w.heap.size w w' := by
  rcases h with h | h
  · have h' : ¬ 1 ≤ room := by omega
    go_enter Try.func9, Try.ntmps9
    go_wp2_with fail
    refine bodyPost_ret (v := .tuple #[.agg #[.slice none 0 0, .slice none 0 0, .slice none 0 0, .int .i64 room], .bool false]) ?_ rfl ⟨rfl, ?_⟩
    · simp [results, Try.f9, go_sem]
    · first | exact (Below.refl _ w).alloc (Nat.le_refl _) _ | (repeat (first | exact Below.refl _ _ | (refine Below.setCell ?_ (by simp) _) | (refine Below.alloc ?_ (by simp) _)))
  · have h' : ¬ room ≤ 65536 := by omega
    have h1 : 1 ≤ room := by omega
    go_enter Try.func9, Try.ntmps9
    go_wp2_with fail
    refine bodyPost_ret (v := .tuple #[.agg #[.slice none 0 0, .slice none 0 0, .slice none 0 0, .int .i64 room], .bool false]) ?_ rfl ⟨rfl, ?_⟩
    · simp [results, Try.f9, go_sem]
    · first | exact (Below.refl _ w).alloc (Nat.le_refl _) _ | (repeat (first | exact Below.refl _ _ | (refine Below.setCell ?_ (by simp) _) | (refine Below.alloc ?_ (by simp) _)))

end Go.Proofs.Ytacienpjoegclaa
