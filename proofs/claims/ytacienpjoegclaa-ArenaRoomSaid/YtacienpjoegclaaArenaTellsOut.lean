/-
  ArenaTells: what is not played.
-/
import Derived.Test.YtacienpjoegclaaArenaPlay
namespace Go.Proofs.Ytacienpjoegclaa
open Go.RowKit
set_option linter.unusedVariables false

theorem below_tr {a b c : World} (h : Below a.heap.size a b) (k : Below b.heap.size b c) : Below a.heap.size a c := h.trans (k.mono h.size)

/-- The law's examples hold, wherever they are asked. -/
def Awake : Prop := ∀ w, Calls Try.prog 10 #[] w fun e w' => e = .returned (.bool true) ∧ Below w.heap.size w w'

set_option maxHeartbeats 2000000 in
set_option maxRecDepth 100000 in
/-- A room that may not be. -/
theorem tells_none (K : ArenaK) (HA : Hid Awake) (room : Int) (A : Option Addr) (len cap : Nat) (w : World) (h : room < 1 ∨ 65536 < room) :
    Calls Try.prog 3 #[.int .i64 room, .slice A len cap] w fun e w' => e = .returned (.bool true) ∧ Below w.heap.size w w' := by
  have R1 := Lib.hid (K.new_no room w h)
  have R2 := Lib.hid (fun w => ref_new_no room w h)
  go_enter Try.func3, Try.ntmps3
  go_wp2_with fail
  refine R1.out.mono ?_
  rintro e w1 ⟨rfl, g1⟩
  go_wp2_with fail
  refine (R2.out _).mono ?_
  rintro e w2 ⟨rfl, g2⟩
  go_wp2_with fail
  refine (HA.out _).mono ?_
  rintro e w3 ⟨rfl, g3⟩
  go_wp2_with fail
  go_ret
  exact ⟨rfl, below_tr (below_tr g1 g2) (((Below.refl _ w2).alloc (Nat.le_refl _) _).trans (g3.mono (by simp)))⟩

set_option maxHeartbeats 2000000 in
set_option maxRecDepth 100000 in
/-- More than is played. -/
theorem tells_far (K : ArenaK) (HA : Hid Awake) (room : Nat) (A : Option Addr) (len cap : Nat) (w : World) (h1 : 1 ≤ room) (h2 : room ≤ 65536) (h : 40 < room ∨ 60 < len) :
    Calls Try.prog 3 #[.int .i64 (room : Int), .slice A len cap] w fun e w' => e = .returned (.bool true) ∧ Below w.heap.size w w' := by
  have R1 := Lib.hid (K.new room w h1 h2)
  have R2 := Lib.hid (fun w => ref_new_yes (room : Int) w (by omega) (by omega))
  rcases Nat.lt_or_ge 40 room with h3 | h3
  · have h3z : (40 : Int) < (room : Int) := by omega
    go_enter Try.func3, Try.ntmps3
    go_wp2_with fail
    refine R1.out.mono ?_
    rintro e w1 ⟨a, N, rfl, hat, hN, g1⟩
    go_wp2_with fail
    refine (R2.out _).mono ?_
    rintro e w2 ⟨rfl, g2⟩
    go_wp2_with fail
    refine (HA.out _).mono ?_
    rintro e w3 ⟨rfl, g3⟩
    go_wp2_with fail
    go_ret
    exact ⟨rfl, below_tr (below_tr g1 g2) (((Below.refl _ w2).alloc (Nat.le_refl _) _).trans (g3.mono (by simp)))⟩
  · have h3z : ¬ (40 : Int) < (room : Int) := by omega
    have h4z : (60 : Int) < (len : Int) := by omega
    go_enter Try.func3, Try.ntmps3
    go_wp2_with fail
    refine R1.out.mono ?_
    rintro e w1 ⟨a, N, rfl, hat, hN, g1⟩
    go_wp2_with fail
    refine (R2.out _).mono ?_
    rintro e w2 ⟨rfl, g2⟩
    go_wp2_with fail
    refine (HA.out _).mono ?_
    rintro e w3 ⟨rfl, g3⟩
    go_wp2_with fail
    go_ret
    exact ⟨rfl, below_tr (below_tr g1 g2) (((Below.refl _ w2).alloc (Nat.le_refl _) _).trans (g3.mono (by simp)))⟩

end Go.Proofs.Ytacienpjoegclaa
