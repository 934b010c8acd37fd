/-
  FifoNone, walked.
-/
import Derived.Test.YtkiibobpejoaeabFifoNoneCalls
namespace Go.Proofs.Ytkiibobpejoaeab
open Go.RowKit
set_option linter.unusedVariables false
set_option linter.unusedSimpArgs false

set_option maxHeartbeats 8000000 in
set_option maxRecDepth 100000 in
/-- Below w.heap.size w w' -/
theorem fifoNone_walk (a0 : Int) (a1 : List Value) (w : World) (w0 : (Lit.int .u64 a0).wf = true) (w1 : Fits [some .u64, some .u64] a1) :
    Calls Try.prog 6 #[.int .u64 a0, .agg a1.toArray] w fun e w' => e = .returned (.bool true) ∧ Below w.heap.size w w' := by
  obtain ⟨v0, v1, rfl⟩ : ∃ v0 v1, a1 = [v0, v1] := by
    have := w1.length
    match a1, this with
    | [v0, v1], _ => exact ⟨v0, v1, rfl⟩
  obtain ⟨⟨s, rfl, _⟩, ⟨c, rfl, _⟩, _⟩ := w1
  clear w0
  have b1 := (Below.refl _ w).alloc (Nat.le_refl _) (.cells #[.int .u64 s, .int .u64 c] 33)
  have x1 := Box.new w 33 #[.int .u64 s, .int .u64 c]
  obtain ⟨W1, HW1⟩ : ∃ W1, Hid (w.alloc (.cells #[.int .u64 s, .int .u64 c] 33) = W1) := ⟨_, Lib.hid rfl⟩
  obtain ⟨xb, HXb⟩ : ∃ xb, Hid (w.heap.size = xb) := ⟨_, Lib.hid rfl⟩
  rw [HW1.out] at b1 x1
  rw [HXb.out] at x1
  have bx := Box.new W1 49 zeroF
  have HB := Lib.hid (below_tr b1 (((Below.refl _ W1).alloc (Nat.le_refl _) (.cells zeroF 49)).alloc (by simp) (.cells #[.pointer none, .pointer (some ⟨W1.heap.size, 0, none⟩)] 25)))
  have HX := Lib.hid (bx.alloc (.cells #[.pointer none, .pointer (some ⟨W1.heap.size, 0, none⟩)] 25))
  have HP := Lib.hid ((x1.alloc (.cells zeroF 49)).alloc (.cells #[.pointer none, .pointer (some ⟨W1.heap.size, 0, none⟩)] 25))
  have HR := Lib.hid (Box.new (W1.alloc (.cells zeroF 49)) 25 #[.pointer none, .pointer (some ⟨W1.heap.size, 0, none⟩)])
  rw [World.size_alloc] at HR
  clear b1 x1 bx
  go_enter Try.func6, Try.ntmps6
  go_upto_region 1 with fail
  rw [HW1.out, HXb.out]
  go_upto_region 2 with fail
  obtain ⟨W, HW⟩ : ∃ W, Hid ((W1.alloc (.cells zeroF 49)).alloc (.cells #[.pointer none, .pointer (some ⟨W1.heap.size, 0, none⟩)] 25) = W) := ⟨_, Lib.hid rfl⟩
  rw [HW.out] at HB HX HR HP ⊢
  clear HW HW1
  go_loopg [17] 2 (fun n v17 wx => ∃ j : Nat, 2 - j = n ∧ j ≤ 2 ∧ v17 = .int .i64 (j : Int) ∧ Hid (Below W.heap.size W wx))
  case atStart => exact ⟨0, rfl, by omega, rfl, Lib.hid (Below.refl _ _)⟩
  case round =>
    obtain ⟨j, rfl, hj, rfl, HBr⟩ := hrel
    by_cases hj2 : j = 2
    · subst hj2
      have HA := Lib.hid (awake11 wr)
      have HL := Lib.hid (below_tr HB.out HBr.out)
      clear HBr
      go_wp2_with fail
      refine HA.out.mono ?_
      rintro e w1 ⟨rfl, b1⟩
      have HE := Lib.hid (below_tr HL.out b1)
      clear b1
      go_wp2_with fail
      go_ret
      exact ⟨rfl, HE.out⟩
    · obtain ⟨p, HPn, HC⟩ : ∃ p, NoFifo p wr ∧ wr.cell? ⟨W1.heap.size + 1, j, none⟩ = some (.pointer p) := by
        have hR := HR.out.below HBr.out HR.out.lt
        have h01 : j = 0 ∨ j = 1 := by omega
        rcases h01 with rfl | rfl
        · exact ⟨none, NoFifo.none _, hR.cell 0⟩
        · exact ⟨some ⟨W1.heap.size, 0, none⟩, fun b hb => ⟨W1.heap.size, by cases hb; rfl, HX.out.below HBr.out HX.out.lt⟩, hR.cell 1⟩
      have hz : (j : Int) < 2 := by omega
      have hjz0 : (0 : Int) ≤ (j : Int) := by omega
      have hwi : IntKind.i64.wrap ((j : Int) + 1) = ((j + 1 : Nat) : Int) := by rw [IntKind.wrap_i64]; omega
      have HPH := Lib.hid HPn
      have K2 := Lib.hid (nof_head HPn)
      clear HPn
      go_wp2_with fail
      refine K2.out.mono ?_
      rintro e V2 ⟨rfl, c2⟩
      have HA2 := Lib.hid (below_tr c2 ((Below.refl _ V2).alloc (Nat.le_refl _) (.cells #[.int .u64 0, .int .u64 0] 33)))
      have HX2 := Lib.hid (Box.new V2 33 #[.int .u64 0, .int .u64 0])
      clear c2 K2 HC
      go_upto_region 5 with fail
      obtain ⟨x2, HX2n⟩ : ∃ x2, Hid (V2.heap.size = x2) := ⟨_, Lib.hid rfl⟩
      obtain ⟨V3, HV3⟩ : ∃ V3, Hid (V2.alloc (.cells #[.int .u64 0, .int .u64 0] 33) = V3) := ⟨_, Lib.hid rfl⟩
      rw [HV3.out] at HX2 HA2 ⊢
      rw [HX2n.out] at HX2 ⊢
      clear HV3 HX2n
      have K3 := Lib.hid (nof_pop (HPH.out.below HA2.out))
      go_wp2_with fail
      refine K3.out.mono ?_
      rintro e V4 ⟨rfl, c4⟩
      have HX4 := Lib.hid ((HX2.out.below c4 HX2.out.lt).alloc (.cells #[.int .u64 0, .int .u64 0] 33))
      have HA4 := Lib.hid (below_tr (below_tr HA2.out c4) ((Below.refl _ V4).alloc (Nat.le_refl _) (.cells #[.int .u64 0, .int .u64 0] 33)))
      have HY4 := Lib.hid (Box.new V4 33 #[.int .u64 0, .int .u64 0])
      clear c4 K3 HA2 HX2
      go_upto_region 6 with fail
      obtain ⟨x4, HX4n⟩ : ∃ x4, Hid (V4.heap.size = x4) := ⟨_, Lib.hid rfl⟩
      obtain ⟨V5, HV5⟩ : ∃ V5, Hid (V4.alloc (.cells #[.int .u64 0, .int .u64 0] 33) = V5) := ⟨_, Lib.hid rfl⟩
      rw [HV5.out] at HY4 HA4 HX4 ⊢
      rw [HX4n.out] at HY4 ⊢
      clear HV5 HX4n
      have hP5 := HP.out.below (below_tr HBr.out HA4.out) HP.out.lt
      have y0 : V5.cell? ⟨xb, 0, none⟩ = some (.int .u64 s) := hP5.cell 0
      have y1 : V5.cell? ⟨xb, 1, none⟩ = some (.int .u64 c) := hP5.cell 1
      have K5 := Lib.hid (nof_push (HPH.out.below HA4.out) a0 s c)
      clear hP5
      go_wp2_with fail
      refine K5.out.mono ?_
      rintro e V6 ⟨rfl, b6⟩
      have hX6 := HX4.out.below b6 HX4.out.lt
      have hY6 := HY4.out.below b6 HY4.out.lt
      have p0 : V6.cell? ⟨x2, 0, none⟩ = some (.int .u64 0) := hX6.cell 0
      have p1 : V6.cell? ⟨x2, 1, none⟩ = some (.int .u64 0) := hX6.cell 1
      have q0 : V6.cell? ⟨x4, 0, none⟩ = some (.int .u64 0) := hY6.cell 0
      have q1 : V6.cell? ⟨x4, 1, none⟩ = some (.int .u64 0) := hY6.cell 1
      have K6 := Lib.hid (nof_len (HPH.out.below (below_tr HA4.out b6)))
      have K7 := Lib.hid (nof_all (HPH.out.below (below_tr HA4.out b6)))
      have HBn := Lib.hid (below_tr HBr.out (below_tr HA4.out b6))
      clear b6 hX6 hY6 K5 y0 y1 HX4 HY4 HA4
      go_wp2_with fail
      refine K6.out.mono ?_
      rintro e w5 ⟨rfl, rfl⟩
      go_wp2_with fail
      refine K7.out.mono ?_
      rintro e w5 ⟨rfl, rfl⟩
      clear K6 K7 p0 p1 q0 q1
      go_wp2_with fail
      go_roundg (2 - (j + 1))
      case measure => omega
      case rel => exact ⟨j + 1, rfl, by omega, by go_num, HBn⟩

end Go.Proofs.Ytkiibobpejoaeab
