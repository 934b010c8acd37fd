/-
  ChainApart's walk, over whatever the program's chains are (ChainK).
-/
import Derived.Test.YthdgpnkkeeebkaaChainApartFacts
import Derived.LoopN
namespace Go.Proofs.Ythdgpnkkeeebkaa
open Go.RowKit
set_option linter.unusedVariables false

set_option maxHeartbeats 8000000 in
set_option maxRecDepth 100000 in
theorem chainApart_of (K : ChainK) (HA : Hid Awake) (A : Option Addr) (len cap : Nat) (z0 : List (List Value)) (r : Nat) (hr : r < 256) (A2 : Option Addr) (len2 cap2 : Nat) (z2 : List (List Value)) (w : World)
    (HR : Hid (RowOf [some .u8, some .i64, some .i64] w A len cap z0)) (HR2 : Hid (RowOf [some .u8, some .i64, some .i64] w A2 len2 cap2 z2)) :
    Calls Try.prog 6 #[.slice A len cap, .int .u8 (r : Int), .slice A2 len2 cap2] w fun e w' => e = .returned (.bool true) ∧ Below w.heap.size w w' := by
  have R1 := Lib.hid (law_played K A len cap z0 w HR)
  obtain ⟨k, Hk⟩ : ∃ k, Hid (r % 4 = k) := ⟨_, Lib.hid rfl⟩
  have hk : k < 4 := by have := Hk.out; omega
  have hkz : (r : Int) % 4 = (k : Int) := by have := Hk.out; omega
  have ik : I64 (k : Int) := ⟨by omega, by omega⟩
  have hlc2 := (row_fit HR2.out).1
  have hcap2 := (row_fit HR2.out).2
  obtain ⟨n2, Hn2⟩ : ∃ n, Hid (min len2 30 = n) := ⟨_, Lib.hid rfl⟩
  have hn21 : n2 ≤ len2 := by have := Hn2.out; omega
  have hn22 : n2 ≤ 30 := by have := Hn2.out; omega
  go_enter Try.func6, Try.ntmps6
  go_wp2_with fail
  refine R1.out.mono ?_
  rintro e w1 ⟨a, rfl, N1, g, P1, hd1, hd2⟩
  obtain ⟨l0, l1, l2, l3, hls⟩ : ∃ l0 l1 l2 l3, g.ls = [l0, l1, l2, l3] := by
    match h : g.ls, hd1 with
    | [l0, l1, l2, l3], _ => exact ⟨l0, l1, l2, l3, rfl⟩
  have e0 : g.list 0 = l0 := list_nat (i := 0) (by rw [hls]; rfl)
  have e1 : g.list 1 = l1 := list_nat (i := 1) (by rw [hls]; rfl)
  have e2 : g.list 2 = l2 := list_nat (i := 2) (by rw [hls]; rfl)
  have e3 : g.list 3 = l3 := list_nat (i := 3) (by rw [hls]; rfl)
  have HK0 := Lib.hid (fun W N (h : OwnC K w W a N g) => h.list 0 ⟨by decide, by decide⟩)
  have HK1 := Lib.hid (fun W N (h : OwnC K w W a N g) => h.list 1 ⟨by decide, by decide⟩)
  have HK2 := Lib.hid (fun W N (h : OwnC K w W a N g) => h.list 2 ⟨by decide, by decide⟩)
  have HK3 := Lib.hid (fun W N (h : OwnC K w W a N g) => h.list 3 ⟨by decide, by decide⟩)
  rw [e0] at HK0
  rw [e1] at HK1
  rw [e2] at HK2
  rw [e3] at HK3
  have S0 : Hid (ApS K w (w1.alloc (.cells #[.slice none 0 0, .slice none 0 0, .slice none 0 0, .slice none 0 0] 53)) a N1 g w1.heap.size (.slice none 0 0) (.slice none 0 0) (.slice none 0 0) (.slice none 0 0)) :=
    ⟨P1.below ((Below.refl _ w1).alloc (Nat.le_refl _) _), Box.new _ _ _, fun h => absurd (K.lt P1.at_ _ h) (Nat.lt_irrefl _), P1.lo.size⟩
  have HLS := Lib.hid hls
  clear P1 R1 e0 e1 e2 e3 hls
  go_upto_block 0 with fail
  rw [hkz]
  obtain ⟨q, hq⟩ : ∃ q, w1.heap.size = q := ⟨_, rfl⟩
  rw [hq] at S0 ⊢
  obtain ⟨W1, HW1⟩ : ∃ W1, Hid (w1.alloc (.cells #[.slice none 0 0, .slice none 0 0, .slice none 0 0, .slice none 0 0] 53) = W1) := ⟨_, Lib.hid rfl⟩
  rw [HW1.out] at S0 ⊢
  clear HW1 hq
  go_cut [] (fun wx => Hid (ApAt K w wx a k q l0 l1 l2 l3))
  case first =>
    go_wp2_with fail
    refine wp_loop_rounds 5 ?_
    rw [rounds_succ]
    go_wp2_with (first
      | (go_at_call 18; refine (HK0.out _ _ S0.out.own).mono ?_; rintro e w2 ⟨p0, c0, rfl, M0, P2, b2⟩; have T0 := Lib.hid (S0.out.below b2); have f0 := T0.out.box.frozen; obtain ⟨x0, x1, x2, x3⟩ := T0.out.cells; have HM0 := Lib.hid M0; clear M0 P2 b2))
    have U0 : Hid (Was w w2 N1 (.slice p0 l0.length c0) l0) := ⟨p0, c0, rfl, HM0.out⟩
    have S1 := Lib.hid (T0.out.set0 (.slice p0 l0.length c0))
    have A0 := Lib.hid (T0.out.was (i := 0) (u := .slice p0 l0.length c0) U0.out)
    obtain ⟨W2, HW2⟩ : ∃ W2, Hid (w2.setCell ⟨q, 0, none⟩ (.slice p0 l0.length c0) = W2) := ⟨_, Lib.hid rfl⟩
    rw [HW2.out] at S1 A0 ⊢
    clear HW2 T0 f0 x0 x1 x2 x3 HM0 U0 S0
    rw [rounds_succ]
    go_wp2_with (first
      | (go_at_call 18; refine (HK1.out _ _ S1.out.own).mono ?_; rintro e w3 ⟨p1, c1, rfl, M1, P3, b3⟩; have T1 := Lib.hid (S1.out.below b3); have B0 := Lib.hid (A0.out.below b3); have f1 := T1.out.box.frozen; obtain ⟨x0, x1, x2, x3⟩ := T1.out.cells; have HM1 := Lib.hid M1; clear M1 P3 b3))
    have U1 : Hid (Was w w3 N1 (.slice p1 l1.length c1) l1) := ⟨p1, c1, rfl, HM1.out⟩
    have S2 := Lib.hid (T1.out.set1 (.slice p1 l1.length c1))
    have C0 := Lib.hid (T1.out.was (i := 1) (u := .slice p1 l1.length c1) B0.out)
    have C1 := Lib.hid (T1.out.was (i := 1) (u := .slice p1 l1.length c1) U1.out)
    obtain ⟨W3, HW3⟩ : ∃ W3, Hid (w3.setCell ⟨q, 1, none⟩ (.slice p1 l1.length c1) = W3) := ⟨_, Lib.hid rfl⟩
    rw [HW3.out] at S2 C0 C1 ⊢
    clear HW3 T1 f1 x0 x1 x2 x3 HM1 U1 S1 A0 B0
    rw [rounds_succ]
    go_wp2_with (first
      | (go_at_call 18; refine (HK2.out _ _ S2.out.own).mono ?_; rintro e w4 ⟨p2, c2, rfl, M2, P4, b4⟩; have T2 := Lib.hid (S2.out.below b4); have D0 := Lib.hid (C0.out.below b4); have D1 := Lib.hid (C1.out.below b4); have f2 := T2.out.box.frozen; obtain ⟨x0, x1, x2, x3⟩ := T2.out.cells; have HM2 := Lib.hid M2; clear M2 P4 b4))
    have U2 : Hid (Was w w4 N1 (.slice p2 l2.length c2) l2) := ⟨p2, c2, rfl, HM2.out⟩
    have S3 := Lib.hid (T2.out.set2 (.slice p2 l2.length c2))
    have E0 := Lib.hid (T2.out.was (i := 2) (u := .slice p2 l2.length c2) D0.out)
    have E1 := Lib.hid (T2.out.was (i := 2) (u := .slice p2 l2.length c2) D1.out)
    have E2 := Lib.hid (T2.out.was (i := 2) (u := .slice p2 l2.length c2) U2.out)
    obtain ⟨W4, HW4⟩ : ∃ W4, Hid (w4.setCell ⟨q, 2, none⟩ (.slice p2 l2.length c2) = W4) := ⟨_, Lib.hid rfl⟩
    rw [HW4.out] at S3 E0 E1 E2 ⊢
    clear HW4 T2 f2 x0 x1 x2 x3 HM2 U2 S2 C0 C1 D0 D1
    rw [rounds_succ]
    go_wp2_with (first
      | (go_at_call 18; refine (HK3.out _ _ S3.out.own).mono ?_; rintro e w5 ⟨p3, c3, rfl, M3, P5, b5⟩; have T3 := Lib.hid (S3.out.below b5); have F0 := Lib.hid (E0.out.below b5); have F1 := Lib.hid (E1.out.below b5); have F2 := Lib.hid (E2.out.below b5); have f3 := T3.out.box.frozen; obtain ⟨x0, x1, x2, x3⟩ := T3.out.cells; have HM3 := Lib.hid M3; clear M3 P5 b5))
    have U3 : Hid (Was w w5 N1 (.slice p3 l3.length c3) l3) := ⟨p3, c3, rfl, HM3.out⟩
    have HE : Hid (ApAt K w (w5.setCell ⟨q, 3, none⟩ (.slice p3 l3.length c3)) a k q l0 l1 l2 l3) :=
      ⟨N1, g, _, _, _, _, T3.out.set3 (.slice p3 l3.length c3), hd1, fun i _ => by rw [HLS.out], T3.out.was F0.out, T3.out.was F1.out, T3.out.was F2.out, T3.out.was U3.out⟩
    clear T3 f3 x0 x1 x2 x3 HM3 U3 S3 E0 E1 E2 F0 F1 F2
    rw [rounds_succ]
    go_wp2_with fail
    go_meet
    exact HE
  case rest =>
    have HO := hcut
    clear hcut S0
    go_upto_region 9 with fail
    go_cut [34, 35, 36] (fun s l i wx => s = .slice A2 n2 cap2 ∧ l = .int .i64 (n2 : Int) ∧ i = .int .i64 0 ∧ wx = wc)
    case first =>
      by_cases h30 : 30 < len2
      · have h30z : (30 : Int) < (len2 : Int) := by omega
        obtain rfl : n2 = 30 := by have := Hn2.out; omega
        go_wp2_with fail
        go_meet
        exact ⟨rfl, rfl, rfl, rfl⟩
      · have h30z : ¬ (30 : Int) < (len2 : Int) := by omega
        obtain rfl : n2 = len2 := by have := Hn2.out; omega
        go_wp2_with fail
        go_meet
        exact ⟨rfl, rfl, rfl, rfl⟩
    case rest =>
      obtain ⟨rfl, rfl, rfl, rfl⟩ := hcut
      go_upto_block 2 with fail
      go_cut [] (fun wx => Hid (ApAt K w wx a k q l0 l1 l2 l3))
      case first =>
        go_wp2_with fail
        go_loopg [36] n2 (fun d i wx => ∃ (j : Nat), n2 - j = d ∧ j ≤ n2 ∧ i = .int .i64 (j : Int) ∧ Hid (ApAt K w wx a k q l0 l1 l2 l3))
        case atStart => exact ⟨0, rfl, by omega, rfl, HO⟩
        case round =>
          clear HO
          obtain ⟨j, rfl, hj, rfl, HQ⟩ := hrel
          by_cases h0 : j = n2
          · have h0z : ¬ (j : Int) < (n2 : Int) := by omega
            have h0n : ¬ j < n2 := by omega
            clear h0
            go_wp2_with fail
            go_meet
            exact HQ
          · have hjl : j < n2 := by omega
            have hjz : (j : Int) < (n2 : Int) := by omega
            obtain ⟨N, g2, v0, v1, v2, v3, P, hd, ho, U0, U1, U2, U3⟩ := HQ.out
            have HP := Lib.hid P
            have HU : Hid (Was w wr N v0 l0 ∧ Was w wr N v1 l1 ∧ Was w wr N v2 l2 ∧ Was w wr N v3 l3) := ⟨U0, U1, U2, U3⟩
            have HO2 := Lib.hid ho
            clear HQ P h0 U0 U1 U2 U3 ho
            obtain ⟨ad, kd, i, x, rfl, hkd, hi, hx, HC⟩ := opc_cells HR2.out (show j < len2 by omega)
            obtain ⟨o0, o1, o2⟩ := HC wr HP.out.own.lo
            clear HC
            go_upto_block 3 with fail
            go_cut [] (fun wx => Hid (ApAt K w wx a k q l0 l1 l2 l3))
            case first =>
              go_upto_region 12 with fail
              have bA := (Below.refl _ wr).alloc (Nat.le_refl _) (.cells #[.int .u8 (kd : Int), .int .i64 i, .int .i64 x] 34)
              have HP1 := Lib.hid (HP.out.below bA)
              have HU1 : Hid (Was w _ N v0 l0 ∧ Was w _ N v1 l1 ∧ Was w _ N v2 l2 ∧ Was w _ N v3 l3) := ⟨HU.out.1.below bA, HU.out.2.1.below bA, HU.out.2.2.1.below bA, HU.out.2.2.2.below bA⟩
              have X1 := Lib.hid (Box.new wr 34 #[.int .u8 (kd : Int), .int .i64 i, .int .i64 x])
              have HS : Hid (wr.heap.size < (wr.alloc (.cells #[.int .u8 (kd : Int), .int .i64 i, .int .i64 x] 34)).heap.size) := X1.out.lt
              obtain ⟨W1, HW1⟩ : ∃ W1, Hid (wr.alloc (.cells #[.int .u8 (kd : Int), .int .i64 i, .int .i64 x] 34) = W1) := ⟨_, Lib.hid rfl⟩
              rw [HW1.out] at HP1 HU1 X1 HS ⊢
              obtain ⟨bq, hbq⟩ : ∃ bq, wr.heap.size = bq := ⟨_, rfl⟩
              rw [hbq] at X1 HS ⊢
              clear HW1 HP HU o0 o1 o2 bA hbq
              have y0 : W1.cell? ⟨bq, 0, none⟩ = some (.int .u8 (kd : Int)) := X1.out.cell 0
              have y1 : W1.cell? ⟨bq, 1, none⟩ = some (.int .i64 i) := X1.out.cell 1
              have y2 : W1.cell? ⟨bq, 2, none⟩ = some (.int .i64 x) := X1.out.cell 2
              have HK := Lib.hid (HP1.out.own.inn x hx)
              go_wp2_with fail
              refine HK.out.mono ?_
              rintro e w3 ⟨rfl, P3, b3⟩
              have HP3 := Lib.hid (HP1.out.below b3)
              have HU3 : Hid (Was w w3 N v0 l0 ∧ Was w w3 N v1 l1 ∧ Was w w3 N v2 l2 ∧ Was w w3 N v3 l3) := ⟨HU1.out.1.below b3, HU1.out.2.1.below b3, HU1.out.2.2.1.below b3, HU1.out.2.2.2.below b3⟩
              have X3 := Lib.hid (X1.out.below b3 X1.out.lt)
              have y0' : w3.cell? ⟨bq, 0, none⟩ = some (.int .u8 (kd : Int)) := X3.out.cell 0
              have y1' : w3.cell? ⟨bq, 1, none⟩ = some (.int .i64 i) := X3.out.cell 1
              have y2' : w3.cell? ⟨bq, 2, none⟩ = some (.int .i64 x) := X3.out.cell 2
              clear P3 b3 HP1 HU1 X1 HK y0 y1 y2 HS
              have HSTEP : Hid (∀ (g3 : Ch) (w4 : World) (N4 : Nat → Prop), OwnC K w w4 a N4 g3 → Stepped w3 w4 N N4 → g3.ls.length = g2.ls.length → (∀ i, i ≠ k → g3.ls[i]? = g2.ls[i]?) → ApAt K w w4 a k q l0 l1 l2 l3) := by
                intro g3 w4 N4 o s h1 h2
                exact ⟨N4, g3, v0, v1, v2, v3, HP3.out.step o s, h1.trans hd, fun i hi => (h2 i hi).trans (HO2.out i hi), HU3.out.1.step s, HU3.out.2.1.step s, HU3.out.2.2.1.step s, HU3.out.2.2.2.step s⟩
              have HSAME : Hid (ApAt K w w3 a k q l0 l1 l2 l3) := ⟨N, g2, v0, v1, v2, v3, HP3.out, hd, HO2.out, HU3.out.1, HU3.out.2.1, HU3.out.2.2.1, HU3.out.2.2.2⟩
              cases hin : g2.inn x with
              | none =>
                have HIN : Hid (∀ j, g2.inn x = some j → j = k) := fun j hj => by rw [hin] at hj; cases hj
                clear hin
                unfold outV
                simp only [Option.getD_none, Option.isSome_none]
                by_cases k1 : kd = 1
                · subst k1
                  go_wp2_with fail
                  refine (HP3.out.own.push k x ik hx).mono ?_
                  rintro e w4 ⟨rfl, N4, P4, s4⟩
                  have HE := Lib.hid (HSTEP.out _ _ _ P4 s4 (push_dims g2 k x).1 (fun i hi => push_other hi))
                  clear P4 s4 HP3 HU3 X3 y0' y1' y2' HSTEP HSAME
                  go_wp2_with fail
                  go_meet
                  exact HE
                · by_cases k2 : kd = 2
                  · subst k2
                    go_wp2_with fail
                    refine (HP3.out.own.pop k ik).mono ?_
                    rintro e w4 ⟨rfl, N4, P4, s4⟩
                    have HE := Lib.hid (HSTEP.out _ _ _ P4 s4 (pop_dims g2 k).1 (fun i hi => pop_other HP3.out.own.ok hi))
                    clear P4 s4 HP3 HU3 X3 y0' y1' y2' HSTEP HSAME
                    go_wp2_with fail
                    go_meet
                    exact HE
                  · by_cases k3 : kd = 3
                    · subst k3
                      go_wp2_with fail
                      refine (HP3.out.own.drop x hx).mono ?_
                      rintro e w4 ⟨rfl, N4, P4, s4⟩
                      have HE := Lib.hid (HSTEP.out _ _ _ P4 s4 (drop_dims g2 x).1 (fun i hi => drop_other HIN.out hi))
                      clear P4 s4 HP3 HU3 X3 y0' y1' y2' HSTEP HSAME
                      go_wp2_with fail
                      go_meet
                      exact HE
                    · have k1z : ((kd : Int) == 1) = false := by rw [beq_eq_false_iff_ne]; omega
                      have k2z : ((kd : Int) == 2) = false := by rw [beq_eq_false_iff_ne]; omega
                      have k3z : ((kd : Int) == 3) = false := by rw [beq_eq_false_iff_ne]; omega
                      clear k1 k2 k3
                      go_wp2_with fail
                      go_meet
                      exact HSAME
              | some j2 =>
                unfold outV
                simp only [Option.getD_some, Option.isSome_some]
                by_cases hjk : j2 = k
                · have HIN : Hid (∀ j, g2.inn x = some j → j = k) := fun j hj => by rw [hin] at hj; rw [← Option.some.inj hj]; exact hjk
                  have hjkz : ((j2 : Int) != (k : Int)) = false := by simp [hjk]
                  clear hin hjk
                  by_cases k1 : kd = 1
                  · subst k1
                    go_wp2_with fail
                    refine (HP3.out.own.push k x ik hx).mono ?_
                    rintro e w4 ⟨rfl, N4, P4, s4⟩
                    have HE := Lib.hid (HSTEP.out _ _ _ P4 s4 (push_dims g2 k x).1 (fun i hi => push_other hi))
                    clear P4 s4 HP3 HU3 X3 y0' y1' y2' HSTEP HSAME
                    go_wp2_with fail
                    go_meet
                    exact HE
                  · by_cases k2 : kd = 2
                    · subst k2
                      go_wp2_with fail
                      refine (HP3.out.own.pop k ik).mono ?_
                      rintro e w4 ⟨rfl, N4, P4, s4⟩
                      have HE := Lib.hid (HSTEP.out _ _ _ P4 s4 (pop_dims g2 k).1 (fun i hi => pop_other HP3.out.own.ok hi))
                      clear P4 s4 HP3 HU3 X3 y0' y1' y2' HSTEP HSAME
                      go_wp2_with fail
                      go_meet
                      exact HE
                    · by_cases k3 : kd = 3
                      · subst k3
                        go_wp2_with fail
                        refine (HP3.out.own.drop x hx).mono ?_
                        rintro e w4 ⟨rfl, N4, P4, s4⟩
                        have HE := Lib.hid (HSTEP.out _ _ _ P4 s4 (drop_dims g2 x).1 (fun i hi => drop_other HIN.out hi))
                        clear P4 s4 HP3 HU3 X3 y0' y1' y2' HSTEP HSAME
                        go_wp2_with fail
                        go_meet
                        exact HE
                      · have k1z : ((kd : Int) == 1) = false := by rw [beq_eq_false_iff_ne]; omega
                        have k2z : ((kd : Int) == 2) = false := by rw [beq_eq_false_iff_ne]; omega
                        have k3z : ((kd : Int) == 3) = false := by rw [beq_eq_false_iff_ne]; omega
                        clear k1 k2 k3
                        go_wp2_with fail
                        go_meet
                        exact HSAME
                · have hjkz : ((j2 : Int) != (k : Int)) = true := by rw [bne_iff_ne]; omega
                  clear hin hjk
                  go_wp2_with fail
                  go_meet
                  exact HSAME
            case rest =>
              have HE := hcut
              clear hcut HP HU
              go_wp2_with fail
              go_roundg (n2 - (j + 1))
              case measure => omega
              case rel => exact ⟨j + 1, rfl, by omega, by go_num, HE⟩
      case rest =>
        have HO3 := hcut
        clear hcut HO
        go_upto_block 5 with fail
        go_cut [] (fun wx => Hid (Below w.heap.size w wx))
        case first =>
          go_wp2_with fail
          go_loopg [74] 4 (fun d i wx => ∃ (j : Nat), 4 - j = d ∧ j ≤ 4 ∧ i = .int .i64 (j : Int) ∧ Hid (ApAt K w wx a k q l0 l1 l2 l3))
          case atStart => exact ⟨0, rfl, by omega, rfl, HO3⟩
          case round =>
            clear HO3
            obtain ⟨j, rfl, hj, rfl, HQ⟩ := hrel
            by_cases h0 : j = 4
            · subst h0
              have HB := Lib.hid HQ.out.lo
              clear HQ
              go_wp2_with fail
              go_meet
              exact HB
            · have hjl : j < 4 := by omega
              have hjz : (j : Int) < 4 := by omega
              have ij : I64 (j : Int) := ⟨by omega, by omega⟩
              clear h0
              by_cases hjk : j = k
              · have hz : ((j : Int) != (k : Int)) = false := by simp [hjk]
                clear hjk
                go_upto_region 25 with fail
                go_quiet (fail)
                have HE := Lib.hid (HQ.out.below (below_drewN (Below.refl _ wr) nq))
                clear HQ
                go_wp2_with fail
                go_roundg (4 - (j + 1))
                case measure => omega
                case rel => exact ⟨j + 1, rfl, by omega, by go_num, HE⟩
              · have hz : ((j : Int) != (k : Int)) = true := by rw [bne_iff_ne]; omega
                obtain ⟨N, g2, v, l, P, hc, U, hlen, hlist, hql⟩ := HQ.out.get hjl hjk
                obtain ⟨pv, cv, rfl, M⟩ := U
                have HKL := Lib.hid (P.below (Below.refl _ wr).drew |>.list j ij)
                rw [hlist] at HKL
                have HM := Lib.hid M
                clear hjk hlist M P
                go_upto_region 25 with fail
                go_region_held3 (fun w' => w'.cell? ⟨q, j, none⟩ = some (.slice pv l.length cv))
                  (first | go_keep | exact d5 | exact d6)
                  (first
                    | (go_at_call 18; refine HKL.out.mono ?_; rintro e w3 ⟨p3, c3, rfl, M3, P3, b3⟩; have d5 := (b3.cell (p := ⟨q, j, none⟩) hql).trans hc)
                    | (go_at_call 21; refine (law_ints p3 pv c3 cv _ _ l l w3 hlen hlen M3.row ((HM.out.below (Below.refl _ wr).drew).below b3).row).mono ?_; rintro e w4 ⟨rfl, b4⟩; have d6 := (b4.cell (p := ⟨q, j, none⟩) (Nat.lt_of_lt_of_le hql b3.size)).trans d5))
                have HE := Lib.hid (((HQ.out.below (Below.refl _ wr).drew).below b3).below b4)
                clear HQ b3 b4 M3 P3 d5 d6 HKL HM hc
                go_wp2_with fail
                go_roundg (4 - (j + 1))
                case measure => omega
                case rel => exact ⟨j + 1, rfl, by omega, by go_num, HE⟩
        case rest =>
          have HB := hcut
          clear hcut HO3
          go_wp2_with fail
          refine (HA.out _).mono ?_
          rintro e w10 ⟨rfl, b10⟩
          go_wp2_with fail
          go_ret
          exact ⟨rfl, below_tr HB.out b10⟩

end Go.Proofs.Ythdgpnkkeeebkaa
