/-
  WheelNone, walked.
-/
import Derived.Test.YtmaofmbnlfggiaaDoorWheelNoneCalls
namespace Go.Proofs.YtmaofmbnlfggiaaDoor
open Go.RowKit
set_option linter.unusedVariables false

theorem wheelNone_of (v t : Int) (w : World) (hT : Tab w) (HA0 : Hid (∀ w : World, Tab w → Calls Tryd.prog 11 #[] w fun e w' => e = .returned (.bool true) ∧ Below w.heap.size w w')) :
    Calls Tryd.prog 8 #[.int .u64 v, .int .u64 t] w fun e w' => e = .returned (.bool true) ∧ Below w.heap.size w w' := by
  have HT := Lib.hid hT
  have bx := Box.new w 64 zeroW
  have HB := Lib.hid (((Below.refl _ w).alloc (Nat.le_refl _) (.cells zeroW 64)).alloc (by simp) (.cells #[.pointer none, .pointer (some ⟨w.heap.size, 0, none⟩)] 24))
  have HX := Lib.hid (bx.alloc (.cells #[.pointer none, .pointer (some ⟨w.heap.size, 0, none⟩)] 24))
  have HR := Lib.hid (Box.new (w.alloc (.cells zeroW 64)) 24 #[.pointer none, .pointer (some ⟨w.heap.size, 0, none⟩)])
  rw [World.size_alloc] at HR
  clear hT bx
  unfold zeroW at HB HX HR
  go_enter Tryd.func8, Tryd.ntmps8
  go_upto_region 2 with fail
  obtain ⟨W, HW⟩ : ∃ W, Hid ((w.alloc (.cells #[.pointer none, .int .u64 0, .int .i64 0, .int .u64 0, .slice none 0 0, .pointer none, .int .i64 0, .int .u64 0, .slice none 0 0] 64)).alloc (.cells #[.pointer none, .pointer (some ⟨w.heap.size, 0, none⟩)] 24) = W) := ⟨_, Lib.hid rfl⟩
  rw [HW.out] at HB HX HR ⊢
  clear HW
  go_loopg [15] 2 (fun s v15 wx => ∃ j : Nat, 2 - j = s ∧ j ≤ 2 ∧ v15 = .int .i64 (j : Int) ∧ wx = W)
  case atStart => exact ⟨0, rfl, by omega, rfl, rfl⟩
  case round =>
    obtain ⟨j, rfl, hj, rfl, rfl⟩ := hrel
    by_cases hj2 : j = 2
    · subst hj2
      have HA := Lib.hid (HA0.out wr (HT.out.below HB.out))
      clear HA0
      go_wp2_with fail
      refine HA.out.mono ?_
      rintro e w1 ⟨rfl, b1⟩
      go_wp2_with fail
      go_ret
      exact ⟨rfl, below_tr HB.out b1⟩
    · obtain ⟨p, HP, HC⟩ : ∃ p, NoWheel p wr ∧ wr.cell? ⟨w.heap.size + 1, j, none⟩ = some (.pointer p) := by
        have h01 : j = 0 ∨ j = 1 := by omega
        rcases h01 with rfl | rfl
        · exact ⟨none, NoWheel.none _, HR.out.cell 0⟩
        · exact ⟨some ⟨w.heap.size, 0, none⟩, fun b hb => ⟨w.heap.size, by cases hb; rfl, HX.out⟩, HR.out.cell 1⟩
      have hz : (j : Int) < 2 := by omega
      have K1 := Lib.hid (nonew_take HP)
      have K2 := Lib.hid (nonew_next HP)
      have K3 := Lib.hid (nonew_put HP v t)
      have K4 := Lib.hid (nonew_adv HP t)
      have K5 := Lib.hid (nonew_due HP)
      have K6 := Lib.hid (nonew_waits HP)
      have K7 := Lib.hid (nonew_held HP)
      have K8 := Lib.hid (nonew_cursor HP)
      clear HP
      go_wp2_with fail
      refine K1.out.mono ?_
      rintro e w1 ⟨rfl, rfl⟩
      go_wp2_with fail
      refine K2.out.mono ?_
      rintro e w1 ⟨rfl, rfl⟩
      go_wp2_with fail
      refine K3.out.mono ?_
      rintro e w1 ⟨rfl, rfl⟩
      go_wp2_with fail
      refine K4.out.mono ?_
      rintro e w1 ⟨rfl, rfl⟩
      go_wp2_with fail
      refine K5.out.mono ?_
      rintro e w1 ⟨rfl, rfl⟩
      go_wp2_with fail
      refine K6.out.mono ?_
      rintro e w1 ⟨rfl, rfl⟩
      go_wp2_with fail
      refine K7.out.mono ?_
      rintro e w1 ⟨rfl, rfl⟩
      go_wp2_with fail
      refine K8.out.mono ?_
      rintro e w1 ⟨rfl, rfl⟩
      clear K1 K2 K3 K4 K5 K6 K7 K8 HC
      go_wp2_with fail
      go_roundg (2 - (j + 1))
      case measure => omega
      case rel => exact ⟨j + 1, rfl, by omega, by go_num, rfl⟩

end Go.Proofs.YtmaofmbnlfggiaaDoor
