/-
  BitmapNone, walked.
-/
import Derived.Test.YtlpniacffahnkabDoorBitNoneCalls
namespace Go.Proofs.YtlpniacffahnkabDoor
open Go.RowKit
set_option linter.unusedVariables false

/-- Below w.heap.size w w' -/
theorem bitmapNone_walk (i : Int) (w : World) (hi : (Lit.int .i64 i).wf = true) (hT : Tab w) :
    Calls Tryd.prog 8 #[.int .i64 i] w fun e w' => e = .returned (.bool true) ∧ Below w.heap.size w w' := by
  have HT := Lib.hid hT
  have bx := Box.new w 54 #[.pointer none, .int .i64 0, .int .i64 0, .slice none 0 0]
  have HB := Lib.hid (((Below.refl _ w).alloc (Nat.le_refl _) (.cells #[.pointer none, .int .i64 0, .int .i64 0, .slice none 0 0] 54)).alloc (by simp) (.cells #[.pointer none, .pointer (some ⟨w.heap.size, 0, none⟩)] 23))
  have HX := Lib.hid (bx.alloc (.cells #[.pointer none, .pointer (some ⟨w.heap.size, 0, none⟩)] 23))
  have HR := Lib.hid (Box.new (w.alloc (.cells #[.pointer none, .int .i64 0, .int .i64 0, .slice none 0 0] 54)) 23 #[.pointer none, .pointer (some ⟨w.heap.size, 0, none⟩)])
  rw [World.size_alloc] at HR
  clear hT bx hi
  go_enter Tryd.func8, Tryd.ntmps8
  go_upto_region 2 with fail
  obtain ⟨W, HW⟩ : ∃ W, Hid ((w.alloc (.cells #[.pointer none, .int .i64 0, .int .i64 0, .slice none 0 0] 54)).alloc (.cells #[.pointer none, .pointer (some ⟨w.heap.size, 0, none⟩)] 23) = W) := ⟨_, Lib.hid rfl⟩
  rw [HW.out] at HB HX HR ⊢
  go_loopg [13] 2 (fun s v13 wx => ∃ j : Nat, 2 - j = s ∧ j ≤ 2 ∧ v13 = .int .i64 (j : Int) ∧ Hid (Below W.heap.size W wx))
  case atStart => exact ⟨0, rfl, by omega, rfl, Lib.hid (Below.refl _ _)⟩
  case round =>
    obtain ⟨j, rfl, hj, rfl, HBr⟩ := hrel
    by_cases hj2 : j = 2
    · subst hj2
      have HA := Lib.hid (awake8 wr (HT.out.below (below_tr HB.out HBr.out)))
      have HL := Lib.hid (below_tr HB.out HBr.out)
      clear HBr
      go_wp2_with fail
      refine HA.out.mono ?_
      rintro e w1 ⟨rfl, b1⟩
      go_wp2_with fail
      go_ret
      exact ⟨rfl, below_tr HL.out b1⟩
    · obtain ⟨p, HP, HC⟩ : ∃ p, NotMade p wr ∧ wr.cell? ⟨w.heap.size + 1, j, none⟩ = some (.pointer p) := by
        have hR := HR.out.below HBr.out HR.out.lt
        have h01 : j = 0 ∨ j = 1 := by omega
        rcases h01 with rfl | rfl
        · exact ⟨none, NotMade.none _, hR.cell 0⟩
        · exact ⟨some ⟨w.heap.size, 0, none⟩, fun b hb => ⟨w.heap.size, by cases hb; rfl, HX.out.below HBr.out HX.out.lt⟩, hR.cell 1⟩
      have hz : (j : Int) < 2 := by omega
      have K1 := Lib.hid (none_next HP i)
      have K2 := Lib.hid (none_round HP i)
      have K3 := Lib.hid (none_set HP i)
      have HPH := Lib.hid HP
      clear HP
      go_wp2_with fail
      refine K1.out.mono ?_
      rintro e w1 ⟨rfl, rfl⟩
      go_wp2_with fail
      refine K2.out.mono ?_
      rintro e w1 ⟨rfl, rfl⟩
      go_wp2_with fail
      refine K3.out.mono ?_
      rintro e w2 ⟨rfl, b2⟩
      clear K1 K2 K3
      have K4 := Lib.hid (none_clear (HPH.out.below b2) i)
      go_wp2_with fail
      refine K4.out.mono ?_
      rintro e w3 ⟨rfl, b3⟩
      have b3' := below_tr b2 b3
      have K5 := Lib.hid (none_has (HPH.out.below b3') i)
      clear b2 b3 K4
      go_wp2_with fail
      refine K5.out.mono ?_
      rintro e w4 ⟨rfl, b4⟩
      have b4' := below_tr b3' b4
      have K6 := Lib.hid (none_len (HPH.out.below b4'))
      have K7 := Lib.hid (none_all (HPH.out.below b4'))
      clear b3' b4 K5
      go_wp2_with fail
      refine K6.out.mono ?_
      rintro e w5 ⟨rfl, rfl⟩
      go_wp2_with fail
      refine K7.out.mono ?_
      rintro e w6 ⟨q, c, rfl, b6⟩
      have HB6 := Lib.hid (below_tr HBr.out (below_tr b4' b6))
      clear b4' b6 K6 K7 HPH HC
      go_wp2_with fail
      go_roundg (2 - (j + 1))
      case measure => omega
      case rel => exact ⟨j + 1, rfl, by omega, by go_num, HB6⟩

end Go.Proofs.YtlpniacffahnkabDoor
