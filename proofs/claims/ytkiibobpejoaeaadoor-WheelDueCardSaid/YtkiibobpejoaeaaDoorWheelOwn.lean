/-
  The program's own wheel: its box, and what reads only that.
-/
import Derived.Test.YtkiibobpejoaeaaDoorTail
import Derived.Test.YtkiibobpejoaeaaDoorBitOwn
namespace Go.Proofs.YtkiibobpejoaeaaDoor
open Go.RowKit
set_option linter.unusedVariables false

/-- The wheel's own cells: slots lie in block gs, the bitmap at fl; dv: what is due, as a slice. -/
def WBox (w : World) (b S width room cur gs waits turns : Nat) (fl dv : Value) : Prop := Box w b 64 #[.pointer (some ⟨b, 0, none⟩), .int .u64 (width : Int), .int .i64 (room : Int), .int .u64 (cur : Int), .slice (some ⟨gs, 0, none⟩) S S, fl, .int .i64 (waits : Int), .int .u64 (turns : Int), dv]
section
variable {w : World} {b S width room cur gs waits turns : Nat} {fl dv : Value}
theorem WBox.cells (h : WBox w b S width room cur gs waits turns fl dv) : w.cell? ⟨b, 0, none⟩ = some (.pointer (some ⟨b, 0, none⟩)) ∧ w.cell? ⟨b, 1, none⟩ = some (.int .u64 (width : Int)) ∧ w.cell? ⟨b, 2, none⟩ = some (.int .i64 (room : Int)) ∧ w.cell? ⟨b, 3, none⟩ = some (.int .u64 (cur : Int)) ∧ w.cell? ⟨b, 4, none⟩ = some (.slice (some ⟨gs, 0, none⟩) S S) ∧ w.cell? ⟨b, 5, none⟩ = some fl ∧ w.cell? ⟨b, 6, none⟩ = some (.int .i64 (waits : Int)) ∧ w.cell? ⟨b, 7, none⟩ = some (.int .u64 (turns : Int)) ∧ w.cell? ⟨b, 8, none⟩ = some dv := by
  have h' : Box w b _ _ := h
  exact ⟨h'.cell 0, h'.cell 1, h'.cell 2, h'.cell 3, h'.cell 4, h'.cell 5, h'.cell 6, h'.cell 7, h'.cell 8⟩
theorem w_made (h : WBox w b S width room cur gs waits turns fl dv) :
    Calls Tryd.prog 25 #[.pointer (some ⟨b, 0, none⟩)] w fun e w' => e = .returned (.bool true) ∧ w' = w := by
  obtain ⟨c0, c1, c2, c3, c4, c5, c6, c7, c8⟩ := h.cells
  clear h
  obtain ⟨inf, hi1, _⟩ := info_parts (P := Tryd.prog) (e := 64) (z := .agg #[.pointer none, .int .u64 0, .int .i64 0, .int .u64 0, .slice none 0 0, .pointer none, .int .i64 0, .int .u64 0, .slice none 0 0]) (size := 9) (bytes := 104) (by kernel_rfl)
  have hq := fun w : World => run_eql_ptr_same (P := Tryd.prog) (w := w) (tp := 24) (te := 64) ⟨b, 0, none⟩ (by kernel_rfl) hi1
  go_enter Tryd.func25, Tryd.ntmps25
  go_wp2_with fail
  go_ret
  exact ⟨rfl, rfl⟩
theorem w_waits (h : WBox w b S width room cur gs waits turns fl dv) :
    Calls Tryd.prog 17 #[.pointer (some ⟨b, 0, none⟩)] w fun e w' => e = .returned (.int .i64 (waits : Int)) ∧ w' = w := by
  have HM := Lib.hid (w_made h)
  obtain ⟨c0, c1, c2, c3, c4, c5, c6, c7, c8⟩ := h.cells
  clear h
  go_enter Tryd.func17, Tryd.ntmps17
  go_wp2_with fail
  refine HM.out.mono ?_
  rintro e w1 ⟨rfl, rfl⟩
  go_wp2_with fail
  go_ret
  exact ⟨rfl, rfl⟩
theorem w_cursor (h : WBox w b S width room cur gs waits turns fl dv) :
    Calls Tryd.prog 18 #[.pointer (some ⟨b, 0, none⟩)] w fun e w' => e = .returned (.int .u64 (cur : Int)) ∧ w' = w := by
  have HM := Lib.hid (w_made h)
  obtain ⟨c0, c1, c2, c3, c4, c5, c6, c7, c8⟩ := h.cells
  clear h
  go_enter Tryd.func18, Tryd.ntmps18
  go_wp2_with fail
  refine HM.out.mono ?_
  rintro e w1 ⟨rfl, rfl⟩
  go_wp2_with fail
  go_ret
  exact ⟨rfl, rfl⟩
theorem w_due {p : Option Addr} {n c : Nat} (h : WBox w b S width room cur gs waits turns fl (.slice p n c)) :
    Calls Tryd.prog 16 #[.pointer (some ⟨b, 0, none⟩)] w fun e w' => e = .returned (.int .i64 (n : Int)) ∧ w' = w := by
  have HM := Lib.hid (w_made h)
  obtain ⟨c0, c1, c2, c3, c4, c5, c6, c7, c8⟩ := h.cells
  clear h
  go_enter Tryd.func16, Tryd.ntmps16
  go_wp2_with fail
  refine HM.out.mono ?_
  rintro e w1 ⟨rfl, rfl⟩
  go_wp2_with fail
  go_ret
  exact ⟨rfl, rfl⟩
/-- The place of a slot. -/
theorem w_place (h : WBox w b S width room cur gs waits turns fl dv) (hS : 2 ≤ S) (hS2 : S ≤ 4096) (s : Nat) (hs : s < 18446744073709551616) :
    Calls Tryd.prog 39 #[.pointer (some ⟨b, 0, none⟩), .int .u64 (s : Int)] w fun e w' => e = .returned (.int .i64 ((s % S : Nat) : Int)) ∧ w' = w := by
  obtain ⟨c0, c1, c2, c3, c4, c5, c6, c7, c8⟩ := h.cells
  clear h
  have h1 : IntKind.u64.wrap (S : Int) = (S : Int) := by rw [IntKind.wrap_u64]; omega
  have h2 : ((S : Int) == 0) = false := by simp; omega
  have h3 : Int.tmod (s : Int) (S : Int) = ((s % S : Nat) : Int) := rfl
  have hm : s % S < S := Nat.mod_lt _ (by omega)
  have h4 : IntKind.u64.wrap ((s % S : Nat) : Int) = ((s % S : Nat) : Int) := by rw [IntKind.wrap_u64]; omega
  have h5 : IntKind.i64.wrap ((s % S : Nat) : Int) = ((s % S : Nat) : Int) := by rw [IntKind.wrap_i64]; omega
  have h6 : ¬ (S : Int) = 0 := by omega
  go_enter Tryd.func39, Tryd.ntmps39
  go_wp2_with fail
  go_ret
  exact ⟨rfl, rfl⟩
theorem w_take_none {p : Option Addr} {c : Nat} (h : WBox w b S width room cur gs waits turns fl (.slice p 0 c)) :
    Calls Tryd.prog 12 #[.pointer (some ⟨b, 0, none⟩)] w fun e w' => e = .returned (.tuple #[.int .u64 0, .bool false]) ∧ w' = w := by
  have HM := Lib.hid (w_due h)
  clear h
  go_enter Tryd.func12, Tryd.ntmps12
  go_wp2_with fail
  refine HM.out.mono ?_
  rintro e w1 ⟨rfl, rfl⟩
  go_wp2_with fail
  go_ret2
  exact ⟨rfl, rfl⟩
theorem w_take {g o n c : Nat} {x : Int} (h : WBox w b S width room cur gs waits turns fl (.slice (some ⟨g, o, none⟩) (n + 1) c)) (hc : n + 1 ≤ c) (hx : w.cell? ⟨g, o, none⟩ = some (.int .u64 x)) :
    Calls Tryd.prog 12 #[.pointer (some ⟨b, 0, none⟩)] w fun e w' => ∃ v, e = .returned (.tuple #[.int .u64 x, .bool true]) ∧ w' = w.setCell ⟨b, 8, none⟩ v ∧ (c = 1 ∧ v = .slice (some ⟨g, o, none⟩) n 0 ∨ c ≠ 1 ∧ v = .slice (some ⟨g, o + 1, none⟩) n (c - 1)) := by
  have HM := Lib.hid (w_due h)
  obtain ⟨c0, c1, c2, c3, c4, c5, c6, c7, c8⟩ := h.cells
  have fz : w.frozen? ⟨b, 8, none⟩ = false := Box.frozen (show Box w b _ _ from h) 8
  clear h
  have h0 : ¬ ((n + 1 : Nat) : Int) = 0 := by omega
  have h1 : (((n + 1 : Nat) : Int) == 0) = false := by simp; omega
  have h1' : ((n : Int) + 1 == 0) = false := by simp; omega
  have h2 : (0 : Int) < ((n + 1 : Nat) : Int) := by omega
  have h3 : (1 : Int) ≤ ((n + 1 : Nat) : Int) := by omega
  by_cases hc1 : c = 1
  · subst hc1
    obtain rfl : n = 0 := by omega
    go_enter Tryd.func12, Tryd.ntmps12
    go_wp2_with fail
    refine HM.out.mono ?_
    rintro e w1 ⟨rfl, rfl⟩
    go_wp2_with fail
    go_ret2
    exact ⟨_, rfl, rfl, .inl ⟨trivial, rfl⟩⟩
  · go_enter Tryd.func12, Tryd.ntmps12
    go_wp2_with fail
    refine HM.out.mono ?_
    rintro e w1 ⟨rfl, rfl⟩
    go_wp2_with fail
    go_ret2
    exact ⟨_, rfl, rfl, .inr ⟨hc1, rfl⟩⟩
end

end Go.Proofs.YtkiibobpejoaeaaDoor
