/-
  WheelDue, of the program's own wheel.
-/
import Derived.Test.YtkiibobpejoaeaaDoorWheelHeldW
import Derived.Test.YtkiibobpejoaeaaDoorWheelDueCore
namespace Go.Proofs.YtkiibobpejoaeaaDoor
open Go.RowKit
set_option linter.unusedVariables false
set_option linter.unusedSimpArgs false

theorem nat_16d {x : Int} (h : (Lit.int .u16 x).wf = true) : ∃ n : Nat, x = (n : Int) ∧ n < 65536 := by
  simp [Lit.wf, IntKind.min, IntKind.max, IntKind.signed, IntKind.bits] at h
  exact ⟨x.toNat, by omega, by omega⟩
set_option maxHeartbeats 8000000 in
set_option maxRecDepth 100000 in
/-- made, whatever New answers. -/
theorem made_due (P : Addr → World → Prop) (sl wd n wn : Nat) (hsl : sl < 256) (hwd : wd < 65536) (Hn : Hid (2 + sl % 64 = n)) (Hwn : Hid (1 + wd % 1000 = wn)) (w : World)
    (KN : Hid (Calls Tryd.prog 5 #[.int .i64 (n : Int), .int .u64 (wn : Int), .int .i64 200] w fun e W' => ∃ b, e = .returned (.tuple #[.pointer (some b), .int .i64 0]) ∧ Hid (P b W'))) :
    Calls Tryd.prog 22 #[.int .u8 (sl : Int), .int .u16 (wd : Int)] w fun e W' => ∃ b, e = .returned (.tuple #[.pointer (some b), .int .u64 (wn : Int), .bool true]) ∧ Hid (P b W') := by
  obtain ⟨a0, Ha0⟩ : ∃ a, Hid (sl % 64 = a) := ⟨_, Lib.hid rfl⟩
  have ha0 : a0 < 64 := by rw [← Ha0.out]; exact Nat.mod_lt _ (by omega)
  have hr3 : Int.tmod (sl : Int) 64 = (a0 : Int) := by rw [← Ha0.out]; rfl
  have hr4 : (sl : Int) % 64 = (a0 : Int) := by rw [← Ha0.out]; rfl
  obtain ⟨b0, Hb0⟩ : ∃ b, Hid (wd % 1000 = b) := ⟨_, Lib.hid rfl⟩
  have hb0 : b0 < 1000 := by rw [← Hb0.out]; exact Nat.mod_lt _ (by omega)
  have hr5 : Int.tmod (wd : Int) 1000 = (b0 : Int) := by rw [← Hb0.out]; rfl
  have hr6 : (wd : Int) % 1000 = (b0 : Int) := by rw [← Hb0.out]; rfl
  have hna : (2 : Int) + (a0 : Int) = (n : Int) := by have := Hn.out; have := Ha0.out; omega
  have hwb : (1 : Int) + (b0 : Int) = (wn : Int) := by have := Hwn.out; have := Hb0.out; omega
  have hn2 : 2 ≤ n ∧ n ≤ 65 := by omega
  have hwn1 : 1 ≤ wn ∧ wn ≤ 1000 := by omega
  clear Ha0 Hb0
  go_enter Tryd.func22, Tryd.ntmps22
  go_wp2_with (go_at_call 5; refine KN.out.mono ?_; rintro e W1 ⟨b, rfl, S1⟩)
  go_ret3
  exact ⟨b, rfl, S1⟩

/-- Below w.heap.size w w' -/
theorem wheelDue_walk (a0 : Int) (a1 : Int) (a2 : Option Addr) (len2 cap2 : Nat) (z2 : List (List Value)) (w : World) (w0 : (Lit.int .u8 a0).wf = true) (w1 : (Lit.int .u16 a1).wf = true) (w2 : RowOf [some .u8, some .u64, some .u64] w a2 len2 cap2 z2) (hT : Tab w) :
    Calls Tryd.prog 4 #[.int .u8 a0, .int .u16 a1, .slice a2 len2 cap2] w fun e w' => e = .returned (.bool true) ∧ Below w.heap.size w w' := by
  obtain ⟨sl, rfl, hsl⟩ := nat_u8 w0
  obtain ⟨wd, rfl, hwd⟩ := nat_16d w1
  obtain ⟨n, Hn⟩ : ∃ n, Hid (2 + sl % 64 = n) := ⟨_, Lib.hid rfl⟩
  obtain ⟨wn, Hwn⟩ : ∃ n, Hid (1 + wd % 1000 = n) := ⟨_, Lib.hid rfl⟩
  have hn2 : 2 ≤ n ∧ n ≤ 65 := by have := Hn.out; omega
  have hwn1 : 1 ≤ wn ∧ wn ≤ 1000 := by have := Hwn.out; omega
  have KM := Lib.hid (made_due (fun b W' => WSt wheelK w W' b ⟨n, wn, 200, 0, [], [], 0⟩) sl wd n wn hsl hwd Hn Hwn w (Lib.hid (WSt.new_ wheelK n wn 200 w w (Below.refl _ _) (by omega) (by omega) (by omega) (by omega) (by omega) (by omega))))
  exact wheelDue_of wheelK n wn hn2 hwn1 _ _ w KM (ops_of w2) hT (Lib.hid (awake9_of wheelK)) (Lib.hid fun t W ht => slot_below t wn W hwn1.1 (by omega) ht (slotW_lt hwn1.1 ht))

end Go.Proofs.YtkiibobpejoaeaaDoor
