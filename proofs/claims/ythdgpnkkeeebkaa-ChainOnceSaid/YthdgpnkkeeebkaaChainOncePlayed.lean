/-
  ChainOnce's walk, over whatever the program's chains are (ChainK).
-/
import Derived.Test.YthdgpnkkeeebkaaChainOnceFacts
import Derived.LoopN
namespace Go.Proofs.Ythdgpnkkeeebkaa
open Go.RowKit
set_option linter.unusedVariables false

set_option maxHeartbeats 8000000 in
set_option maxRecDepth 100000 in
theorem chainOnce_of (K : ChainK) (HA : Hid Awake) (A : Option Addr) (len cap : Nat) (z0 : List (List Value)) (w : World) (HR : Hid (RowOf [some .u8, some .i64, some .i64] w A len cap z0)) :
    Calls Try.prog 5 #[.slice A len cap] w fun e w' => e = .returned (.bool true) ∧ Below w.heap.size w w' := by
  have R1 := Lib.hid (law_played K A len cap z0 w HR)
  go_enter Try.func5, Try.ntmps5
  go_wp2_with fail
  refine R1.out.mono ?_
  rintro e w1 ⟨a, rfl, N1, g, P1, hd1, hd2⟩
  clear R1
  have hlt20 : ∀ (i : Nat) (l : List Nat), g.ls[i]? = some l → l.length ≤ 20 ∧ ∀ x, x ∈ l → x < 20 := fun i l h => ⟨by rw [← hd2]; exact short_list P1.ok h, fun x hx => by rw [← hd2]; exact P1.ok.lt i l h x hx⟩
  have HLT := Lib.hid hlt20
  have S0 : Hid (On K w (w1.alloc (.cells #[.int .i64 0, .int .i64 0, .int .i64 0, .int .i64 0, .int .i64 0, .int .i64 0, .int .i64 0, .int .i64 0, .int .i64 0, .int .i64 0, .int .i64 0, .int .i64 0, .int .i64 0, .int .i64 0, .int .i64 0, .int .i64 0, .int .i64 0, .int .i64 0, .int .i64 0, .int .i64 0] 51)) a N1 w1.heap.size g (met g 0 [])) :=
    Lib.hid ⟨P1.below ((Below.refl _ w1).alloc (Nat.le_refl _) _), ⟨_, Box.new _ _ _, rfl, fun i hi => by
      rw [met_start]
      have : i = 0 ∨ i = 1 ∨ i = 2 ∨ i = 3 ∨ i = 4 ∨ i = 5 ∨ i = 6 ∨ i = 7 ∨ i = 8 ∨ i = 9 ∨ i = 10 ∨ i = 11 ∨ i = 12 ∨ i = 13 ∨ i = 14 ∨ i = 15 ∨ i = 16 ∨ i = 17 ∨ i = 18 ∨ i = 19 := by omega
      rcases this with rfl | rfl | rfl | rfl | rfl | rfl | rfl | rfl | rfl | rfl | rfl | rfl | rfl | rfl | rfl | rfl | rfl | rfl | rfl | rfl <;> rfl⟩, fun h => absurd (K.lt P1.at_ _ h) (Nat.lt_irrefl _), P1.lo.size⟩
  have HD1 := Lib.hid hd1
  have HD2 := Lib.hid hd2
  have HOK := Lib.hid P1.ok
  clear P1 hd1 hd2 hlt20
  go_upto_block 0 with fail
  obtain ⟨q, hq⟩ : ∃ q, w1.heap.size = q := ⟨_, rfl⟩
  rw [hq] at S0 ⊢
  obtain ⟨W1, HW1⟩ : ∃ W1, Hid (w1.alloc (.cells #[.int .i64 0, .int .i64 0, .int .i64 0, .int .i64 0, .int .i64 0, .int .i64 0, .int .i64 0, .int .i64 0, .int .i64 0, .int .i64 0, .int .i64 0, .int .i64 0, .int .i64 0, .int .i64 0, .int .i64 0, .int .i64 0, .int .i64 0, .int .i64 0, .int .i64 0, .int .i64 0] 51) = W1) := ⟨_, Lib.hid rfl⟩
  rw [HW1.out] at S0 ⊢
  clear HW1 hq
  go_cut [5] (fun v wx => v = .int .i64 (sumLen g 4 : Int) ∧ Hid (∃ N, OwnC K w wx a N g))
  case first =>
    go_wp2_with fail
    go_loopg [5, 18] 4 (fun k v i wx => ∃ (j : Nat), 4 - j = k ∧ j ≤ 4 ∧ v = .int .i64 (sumLen g j : Int) ∧ i = .int .i64 (j : Int) ∧ sumLen g j ≤ 20 * j ∧ Hid (∃ N, On K w wx a N q g (met g j [])))
    case atStart => exact ⟨0, rfl, by omega, rfl, rfl, by unfold sumLen; simp, Lib.hid ⟨N1, S0.out⟩⟩
    case round =>
      obtain ⟨j, rfl, hj, rfl, rfl, hsum, HO⟩ := hrel
      clear S0
      by_cases hj4 : j = 4
      · subst hj4
        clear hj
        go_wp2_with fail
        go_meet
        obtain ⟨N, O⟩ := HO.out
        exact ⟨rfl, Lib.hid ⟨N, O.own⟩⟩
      · have hjl : j < 4 := by omega
        have hjz : (j : Int) < 4 := by omega
        have ij : I64 (j : Int) := ⟨by omega, by omega⟩
        obtain ⟨l, HL⟩ : ∃ l, Hid (g.ls[j]? = some l) := by
          obtain ⟨l, hl⟩ := ch_row (g := g) (k := j) (by rw [HD1.out]; exact hjl)
          exact ⟨l, Lib.hid hl⟩
        have hll : l.length ≤ 20 := (HLT.out j l HL.out).1
        obtain ⟨N, O⟩ := HO.out
        have HO1 := Lib.hid O
        have KL := Lib.hid (O.own.list j ij)
        rw [list_nat HL.out] at KL
        have KN : Hid (∀ W, OwnC K w W a N g → Calls Try.prog 22 #[.pointer (some a), .int .i64 (j : Int)] W fun e W' => e = .returned (.int .i64 (l.length : Int)) ∧ OwnC K w W' a N g ∧ Below W.heap.size W W') := by
          refine Lib.hid fun W h => ?_
          have h1 := h.len j ij
          rw [list_nat HL.out] at h1
          exact h1
        have HS := Lib.hid (sumLen_next HL.out)
        clear O HO hj4 hj
        go_wp2_with fail
        refine KL.out.mono ?_
        rintro e w2 ⟨p, c, rfl, M, P2, b2⟩
        have HM2 := Lib.hid M
        have HO2 := Lib.hid (HO1.out.below b2)
        clear M P2 b2 HO1 KL
        go_wp2_with fail
        refine (KN.out _ HO2.out.own).mono ?_
        rintro e w3 ⟨rfl, P3, b3⟩
        have HM3 := Lib.hid (HM2.out.below b3)
        have HO3 := Lib.hid (HO2.out.below b3)
        clear P3 b3 HO2 HM2
        go_wp2_with fail
        refine (KN.out _ HO3.out.own).mono ?_
        rintro e w4 ⟨rfl, P4, b4⟩
        have HM4 := Lib.hid (HM3.out.below b4)
        have HO4 := Lib.hid (HO3.out.below b4)
        clear P4 b4 HO3 HM3 KN
        go_wp2_with fail
        go_loopg [37] l.length (fun k i wx => ∃ (r : Nat), l.length - r = k ∧ r ≤ l.length ∧ i = .int .i64 (r : Int) ∧ Hid (∃ N, On K w wx a N q g (met g j (l.take r)) ∧ Mine w wx N 3 (.slice p l.length c) l.length (l.map natV)))
        case atStart => exact ⟨0, rfl, by omega, rfl, Lib.hid ⟨N, HO4.out, HM4.out⟩⟩
        case round =>
          obtain ⟨r, rfl, hr, rfl, HI⟩ := hrel
          clear HO4 HM4
          by_cases hrl : r = l.length
          · subst hrl
            have HE : Hid (∃ N, On K w wr a N q g (met g (j + 1) [])) := by
              obtain ⟨N', O, _⟩ := HI.out
              exact Lib.hid ⟨N', O.congr fun n => met_list HOK.out HL.out n⟩
            clear HI hr
            go_wp2_with fail
            go_roundg (4 - (j + 1))
            case measure => omega
            case rel => exact ⟨j + 1, rfl, by omega, by rw [HS.out]; go_num, by go_num, by rw [HS.out]; omega, HE⟩
          · have hrl' : r < l.length := by omega
            have hrz : (r : Int) < (l.length : Int) := by omega
            obtain ⟨N', O, M⟩ := HI.out
            clear HI hr hrl
            obtain ⟨x, HX⟩ : ∃ x, Hid (l[r] = x) := ⟨_, Lib.hid rfl⟩
            have hx20 : x < 20 := (HLT.out j l HL.out).2 x (by rw [← HX.out]; exact List.getElem_mem _)
            have hxz : ¬ (x : Int) < 0 := by omega
            have hxz2 : ¬ (19 : Int) < (x : Int) := by omega
            have hxz3 : (x : Int) < 20 := by omega
            have ix : I64 (x : Int) := ⟨by omega, by omega⟩
            have ha : g.at x = some j := HOK.out.at_of HL.out (by rw [← HX.out]; exact List.getElem_mem _)
            obtain ⟨gb, rfl, d0⟩ : ∃ gb, p = some ⟨gb, 0, none⟩ ∧ wr.cell? ⟨gb, r, none⟩ = some (.int .i64 (x : Int)) := by
              obtain ⟨_, hq⟩ := owns_nat M.row
              rcases hq with ⟨_, e⟩ | ⟨gb, rfl, _, hc⟩
              · rw [e] at hrl'; simp at hrl'
              · exact ⟨gb, rfl, by rw [hc r hrl', HX.out]⟩
            have KI := Lib.hid (O.own.inn x ix)
            rw [Ch.inn_nat, ha] at KI
            have HO := Lib.hid O
            have HM := Lib.hid M
            have HM0 : Hid (met g j (l.take r) x = 0) := by
              have h := met_not HOK.out HL.out hrl'
              rw [HX.out] at h
              exact Lib.hid h
            have KP : Hid (∀ W, OwnC K w W a N' g → Calls Try.prog 12 #[.pointer (some a), .int .i64 (j : Int), .int .i64 (x : Int)] W fun e W' => e = .returned (.int .i64 50) ∧ ∃ N2, OwnC K w W' a N2 g ∧ Stepped W W' N' N2) := by
              refine Lib.hid fun W h => ?_
              have h1 := h.push j x ij ix
              have e1 := push_in HL.out (by rw [HD2.out]; exact hx20) ha
              have e2 : g.push (j : Int) (x : Int) = g := by unfold Ch.push; rw [e1]; rfl
              rw [e1, e2] at h1
              exact h1
            have HN : Hid (∀ n, upd (met g j (l.take r)) x 1 n = met g j (l.take (r + 1)) n) := by
              refine Lib.hid fun n => ?_
              rw [← HX.out]
              exact met_next hrl' n
            clear O M ha
            go_wp2_with fail
            refine KI.out.mono ?_
            rintro e w5 ⟨rfl, P5, b5⟩
            have HO5 := Lib.hid (HO.out.below b5)
            have HM5 := Lib.hid (HM.out.below b5)
            have d1 := HO5.out.row.cell hx20
            rw [HM0.out] at d1
            have f1 := HO5.out.row.frozen x
            clear P5 b5 HO HM KI d0
            have hov : outV (some j) = .tuple #[.int .i64 (j : Int), .bool true] := rfl
            rw [hov]
            clear hov
            go_upto_region 18 with fail
            have HO6 := Lib.hid ((HO5.out.set x 1 (u := 1) rfl).congr HN.out)
            have HM6 := Lib.hid (HO5.out.mine (i := x) (u := .int .i64 1) HM5.out (by decide))
            have d2 := (HO5.out.set x 1 (u := 1) rfl).row.cell hx20
            rw [upd_at] at d2
            obtain ⟨W6, HW6⟩ : ∃ W6, Hid (w5.setCell ⟨q, x, none⟩ (.int .i64 1) = W6) := ⟨_, Lib.hid rfl⟩
            rw [HW6.out] at HO6 HM6 d2 ⊢
            have d3 : W6.cell? ⟨q, x, none⟩ = some (.int .i64 1) := d2
            clear d1 f1 HO5 HM5 HM0 HN d2 HW6
            go_wp2_with fail
            refine (KP.out _ HO6.out.own).mono ?_
            rintro e w7 ⟨rfl, N2, P7, s7⟩
            have HE : Hid (∃ N, On K w w7 a N q g (met g j (l.take (r + 1))) ∧ Mine w w7 N 3 (.slice (some ⟨gb, 0, none⟩) l.length c) l.length (l.map natV)) := Lib.hid ⟨N2, HO6.out.step P7 s7, HM6.out.step s7⟩
            clear P7 s7 HO6 HM6 d3 KP
            go_wp2_with fail
            go_roundg (l.length - (r + 1))
            case measure => omega
            case rel => exact ⟨r + 1, rfl, by omega, by go_num, HE⟩
  case rest =>
    obtain ⟨rfl, HP⟩ := hcut
    clear S0
    have HCL : Hid (∀ n, cntIn g n ≤ n) := Lib.hid (cntIn_le g)
    go_wp2_with fail
    go_loopg [6, 80] 20 (fun k v i wx => ∃ (j : Nat), 20 - j = k ∧ j ≤ 20 ∧ v = .int .i64 (cntIn g j : Int) ∧ i = .int .i64 (j : Int) ∧ Hid (∃ N, OwnC K w wx a N g))
    case atStart => exact ⟨0, rfl, by omega, rfl, rfl, HP⟩
    case round =>
      obtain ⟨j, rfl, hj, rfl, rfl, HO⟩ := hrel
      clear HP
      by_cases hj4 : j = 20
      · subst hj4
        clear hj
        have hs : sumLen g 4 = cntIn g 20 := by
          have h := all_in HOK.out
          rw [HD1.out, HD2.out] at h
          exact h
        rw [hs]
        clear hs
        go_wp2_with fail
        refine (HA.out _).mono ?_
        rintro e w10 ⟨rfl, b10⟩
        go_wp2_with fail
        go_ret
        obtain ⟨N, O⟩ := HO.out
        exact ⟨rfl, below_tr O.lo b10⟩
      · have hjl : j < 20 := by omega
        have hjz : (j : Int) < 20 := by omega
        have ij : I64 (j : Int) := ⟨by omega, by omega⟩
        obtain ⟨N, O⟩ := HO.out
        have KI := Lib.hid (O.inn j ij)
        rw [Ch.inn_nat] at KI
        have HS := Lib.hid (cntIn_next g j)
        have hcl := HCL.out j
        clear O HO hj4
        cases hx : g.at j with
        | none =>
          rw [hx] at KI HS
          clear hx
          go_wp2_with fail
          refine KI.out.mono ?_
          rintro e w2 ⟨rfl, P2, b2⟩
          have HE : Hid (∃ N, OwnC K w w2 a N g) := Lib.hid ⟨N, P2⟩
          clear P2 b2 KI
          have hov : outV none = .tuple #[.int .i64 0, .bool false] := rfl
          rw [hov]
          clear hov
          go_wp2_with fail
          go_roundg (20 - (j + 1))
          case measure => omega
          case rel => exact ⟨j + 1, rfl, by omega, by rw [HS.out]; rfl, by go_num, HE⟩
        | some i =>
          rw [hx] at KI HS
          clear hx
          go_wp2_with fail
          refine KI.out.mono ?_
          rintro e w2 ⟨rfl, P2, b2⟩
          have HE : Hid (∃ N, OwnC K w w2 a N g) := Lib.hid ⟨N, P2⟩
          clear P2 b2 KI
          have hov : outV (some i) = .tuple #[.int .i64 (i : Int), .bool true] := rfl
          rw [hov]
          clear hov
          go_wp2_with fail
          go_roundg (20 - (j + 1))
          case measure => omega
          case rel => exact ⟨j + 1, rfl, by omega, by rw [HS.out]; simp, by go_num, HE⟩

end Go.Proofs.Ythdgpnkkeeebkaa
