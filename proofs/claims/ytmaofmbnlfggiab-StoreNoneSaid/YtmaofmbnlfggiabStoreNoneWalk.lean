/-
  StoreNone, walked.
-/
import Derived.Test.YtmaofmbnlfggiabStoreNoneCalls
namespace Go.Proofs.Ytmaofmbnlfggiab
open Go.RowKit
set_option linter.unusedVariables false
set_option linter.unusedSimpArgs false

set_option maxHeartbeats 8000000 in
set_option maxRecDepth 100000 in
/-- Below w.heap.size w w' -/
theorem storeNone_walk (a0 : List Value) (a1 : Int) (w : World) (w0 : Fits [some .u64, some .u64, some .i64, some .u8, some .u64] a0) (w1 : (Lit.int .u64 a1).wf = true) :
    Calls Try.prog 7 #[.agg a0.toArray, .int .u64 a1] w fun e w' => e = .returned (.bool true) ∧ Below w.heap.size w w' := by
  obtain ⟨v0, v1, v2, v3, v4, rfl⟩ : ∃ v0 v1 v2 v3 v4, a0 = [v0, v1, v2, v3, v4] := by
    have := w0.length
    match a0, this with
    | [v0, v1, v2, v3, v4], _ => exact ⟨v0, v1, v2, v3, v4, rfl⟩
  obtain ⟨⟨s, rfl, _⟩, ⟨c, rfl, _⟩, ⟨l, rfl, _⟩, ⟨r, rfl, _⟩, ⟨t, rfl, _⟩, _⟩ := w0
  clear w1
  have b1 := (Below.refl _ w).alloc (Nat.le_refl _) (.cells #[.int .u64 s, .int .u64 c, .int .i64 l, .int .u8 r, .int .u64 t] 40)
  have x1 := Box.new w 40 #[.int .u64 s, .int .u64 c, .int .i64 l, .int .u8 r, .int .u64 t]
  obtain ⟨W1, HW1⟩ : ∃ W1, Hid (w.alloc (.cells #[.int .u64 s, .int .u64 c, .int .i64 l, .int .u8 r, .int .u64 t] 40) = W1) := ⟨_, Lib.hid rfl⟩
  obtain ⟨xb, HXb⟩ : ∃ xb, Hid (w.heap.size = xb) := ⟨_, Lib.hid rfl⟩
  rw [HW1.out] at b1 x1
  rw [HXb.out] at x1
  have bx := Box.new W1 66 zeroS
  have HB := Lib.hid (below_tr b1 (((Below.refl _ W1).alloc (Nat.le_refl _) (.cells zeroS 66)).alloc (by simp) (.cells #[.pointer none, .pointer (some ⟨W1.heap.size, 0, none⟩)] 23)))
  have HX := Lib.hid (bx.alloc (.cells #[.pointer none, .pointer (some ⟨W1.heap.size, 0, none⟩)] 23))
  have HP := Lib.hid ((x1.alloc (.cells zeroS 66)).alloc (.cells #[.pointer none, .pointer (some ⟨W1.heap.size, 0, none⟩)] 23))
  have HR := Lib.hid (Box.new (W1.alloc (.cells zeroS 66)) 23 #[.pointer none, .pointer (some ⟨W1.heap.size, 0, none⟩)])
  rw [World.size_alloc] at HR
  clear b1 x1 bx
  go_enter Try.func7, Try.ntmps7
  go_upto_region 1 with fail
  rw [HW1.out, HXb.out]
  go_upto_region 2 with fail
  obtain ⟨W, HW⟩ : ∃ W, Hid ((W1.alloc (.cells zeroS 66)).alloc (.cells #[.pointer none, .pointer (some ⟨W1.heap.size, 0, none⟩)] 23) = W) := ⟨_, Lib.hid rfl⟩
  rw [HW.out] at HB HX HR HP ⊢
  clear HW HW1
  go_loopg [17] 2 (fun n v17 wx => ∃ j : Nat, 2 - j = n ∧ j ≤ 2 ∧ v17 = .int .i64 (j : Int) ∧ Hid (Below W.heap.size W wx))
  case atStart => exact ⟨0, rfl, by omega, rfl, Lib.hid (Below.refl _ _)⟩
  case round =>
    obtain ⟨j, rfl, hj, rfl, HBr⟩ := hrel
    by_cases hj2 : j = 2
    · subst hj2
      have HA := Lib.hid (awake10 wr)
      have HL := Lib.hid (below_tr HB.out HBr.out)
      clear HBr
      go_wp2_with fail
      refine HA.out.mono ?_
      rintro e w1 ⟨rfl, b1⟩
      have HE := Lib.hid (below_tr HL.out b1)
      clear b1
      go_wp2_with fail
      go_ret
      exact ⟨rfl, HE.out⟩
    · obtain ⟨p, HPn, HC⟩ : ∃ p, NoStore p wr ∧ wr.cell? ⟨W1.heap.size + 1, j, none⟩ = some (.pointer p) := by
        have hR := HR.out.below HBr.out HR.out.lt
        have h01 : j = 0 ∨ j = 1 := by omega
        rcases h01 with rfl | rfl
        · exact ⟨none, NoStore.none _, hR.cell 0⟩
        · exact ⟨some ⟨W1.heap.size, 0, none⟩, fun b hb => ⟨W1.heap.size, by cases hb; rfl, HX.out.below HBr.out HX.out.lt⟩, hR.cell 1⟩
      have hz : (j : Int) < 2 := by omega
      have hjz0 : (0 : Int) ≤ (j : Int) := by omega
      have hwi : IntKind.i64.wrap ((j : Int) + 1) = ((j + 1 : Nat) : Int) := by rw [IntKind.wrap_i64]; omega
      have HPH := Lib.hid HPn
      have HP2 := HP.out.below HBr.out HP.out.lt
      have y0 : wr.cell? ⟨xb, 0, none⟩ = some (.int .u64 s) := HP2.cell 0
      have y1 : wr.cell? ⟨xb, 1, none⟩ = some (.int .u64 c) := HP2.cell 1
      have y2 : wr.cell? ⟨xb, 2, none⟩ = some (.int .i64 l) := HP2.cell 2
      have y3 : wr.cell? ⟨xb, 3, none⟩ = some (.int .u8 r) := HP2.cell 3
      have y4 : wr.cell? ⟨xb, 4, none⟩ = some (.int .u64 t) := HP2.cell 4
      have K1 := Lib.hid (nos_put HPn s c l r t a1)
      clear HPn HP2
      go_wp2_with fail
      refine K1.out.mono ?_
      rintro e V1 ⟨rfl, c1⟩
      have HC1 := Lib.hid c1
      have K2 := Lib.hid (nos_get (HPH.out.below c1) a1)
      clear c1 y0 y1 y2 y3 y4 HC K1
      go_wp2_with fail
      refine K2.out.mono ?_
      rintro e V2 ⟨rfl, c2⟩
      have HA2 := Lib.hid (below_tr (below_tr HC1.out c2) ((Below.refl _ V2).alloc (Nat.le_refl _) (.cells cs0 48)))
      have HX2 := Lib.hid (zeros_box V2)
      clear c2 K2 HC1
      go_upto_region 6 with fail
      obtain ⟨x2, HX2n⟩ : ∃ x2, Hid (V2.heap.size = x2) := ⟨_, Lib.hid rfl⟩
      obtain ⟨V3, HV3⟩ : ∃ V3, Hid (V2.alloc (.cells #[.int .u64 0, .int .u64 0, .int .i64 0, .int .u8 0, .int .u64 0, .int .u64 0, .int .u64 0] 48) = V3) := ⟨_, Lib.hid rfl⟩
      rw [HV3.out] at HX2 ⊢
      rw [show V2.alloc (.cells cs0 48) = V3 from HV3.out] at HA2
      rw [HX2n.out] at HX2 ⊢
      clear HV3 HX2n
      have K3 := Lib.hid (nos_free (HPH.out.below HA2.out) a1)
      go_wp2_with fail
      refine K3.out.mono ?_
      rintro e V4 ⟨rfl, c4⟩
      have HX4 := Lib.hid ((HX2.out.below c4 HX2.out.lt).alloc (.cells cs0 48))
      have HA4 := Lib.hid (below_tr (below_tr HA2.out c4) ((Below.refl _ V4).alloc (Nat.le_refl _) (.cells cs0 48)))
      have HY4 := Lib.hid (zeros_box V4)
      clear c4 K3 HA2 HX2
      go_upto_region 7 with fail
      obtain ⟨x4, HX4n⟩ : ∃ x4, Hid (V4.heap.size = x4) := ⟨_, Lib.hid rfl⟩
      obtain ⟨V5, HV5⟩ : ∃ V5, Hid (V4.alloc (.cells #[.int .u64 0, .int .u64 0, .int .i64 0, .int .u8 0, .int .u64 0, .int .u64 0, .int .u64 0] 48) = V5) := ⟨_, Lib.hid rfl⟩
      rw [HV5.out] at HY4 ⊢
      rw [show V4.alloc (.cells cs0 48) = V5 from HV5.out] at HA4 HX4
      rw [HX4n.out] at HY4 ⊢
      clear HV5 HX4n
      have p0 : V5.cell? ⟨x2, 0, none⟩ = some (.int .u64 0) := HX4.out.cell 0
      have p1 : V5.cell? ⟨x2, 1, none⟩ = some (.int .u64 0) := HX4.out.cell 1
      have p2 : V5.cell? ⟨x2, 2, none⟩ = some (.int .i64 0) := HX4.out.cell 2
      have p3 : V5.cell? ⟨x2, 3, none⟩ = some (.int .u8 0) := HX4.out.cell 3
      have p4 : V5.cell? ⟨x2, 4, none⟩ = some (.int .u64 0) := HX4.out.cell 4
      have p5 : V5.cell? ⟨x2, 5, none⟩ = some (.int .u64 0) := HX4.out.cell 5
      have p6 : V5.cell? ⟨x2, 6, none⟩ = some (.int .u64 0) := HX4.out.cell 6
      have q0 : V5.cell? ⟨x4, 0, none⟩ = some (.int .u64 0) := HY4.out.cell 0
      have q1 : V5.cell? ⟨x4, 1, none⟩ = some (.int .u64 0) := HY4.out.cell 1
      have q2 : V5.cell? ⟨x4, 2, none⟩ = some (.int .i64 0) := HY4.out.cell 2
      have q3 : V5.cell? ⟨x4, 3, none⟩ = some (.int .u8 0) := HY4.out.cell 3
      have q4 : V5.cell? ⟨x4, 4, none⟩ = some (.int .u64 0) := HY4.out.cell 4
      have q5 : V5.cell? ⟨x4, 5, none⟩ = some (.int .u64 0) := HY4.out.cell 5
      have q6 : V5.cell? ⟨x4, 6, none⟩ = some (.int .u64 0) := HY4.out.cell 6
      have hne := zero_neq
      have K5 := Lib.hid (nos_count (HPH.out.below HA4.out))
      have K6 := Lib.hid (nos_bytes (HPH.out.below HA4.out))
      have K7 := Lib.hid (nos_next (HPH.out.below HA4.out))
      go_wp2_with fail
      refine K5.out.mono ?_
      rintro e w5 ⟨rfl, rfl⟩
      go_wp2_with fail
      refine K6.out.mono ?_
      rintro e w5 ⟨rfl, rfl⟩
      go_wp2_with fail
      refine K7.out.mono ?_
      rintro e w5 ⟨rfl, rfl⟩
      clear p0 p1 p2 p3 p4 p5 p6 q0 q1 q2 q3 q4 q5 q6 hne K5 K6 K7
      have HBn := Lib.hid (below_tr HBr.out HA4.out)
      go_wp2_with fail
      go_roundg (2 - (j + 1))
      case measure => omega
      case rel => exact ⟨j + 1, rfl, by omega, by go_num, HBn⟩

end Go.Proofs.Ytmaofmbnlfggiab
