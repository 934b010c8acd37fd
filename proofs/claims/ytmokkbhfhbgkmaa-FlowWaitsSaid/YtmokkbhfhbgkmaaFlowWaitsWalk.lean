/-
  FlowWaits' walk.
-/
import Derived.Test.YtmokkbhfhbgkmaaFlowWaitsFacts
namespace Go.Proofs.Ytmokkbhfhbgkmaa
open Go.RowKit
set_option linter.unusedVariables false
set_option linter.unusedSimpArgs false
set_option maxRecDepth 100000

theorem wrap_rem (x : Int) (h : Num.Word x) : Num.Word (x % 1099511627777) := by unfold Num.Word at *; omega

set_option maxHeartbeats 8000000 in
/-- Below w.heap.size w w' -/
theorem flowWaits_walk (a0 : List Value) (a1 : Int) (a2 : Option Addr) (len2 cap2 : Nat) (z2 : List (List Value)) (a3 : Int) (w : World) (w0 : Fits [some .i64, some .i64, some .u64, some .u64, some .u64] a0) (w1 : (Lit.int .u64 a1).wf = true) (w2 : RowOf [some .u16] w a2 len2 cap2 z2) (w3 : (Lit.int .u32 a3).wf = true) :
    Calls Try.prog 7 #[.agg a0.toArray, .int .u64 a1, .slice a2 len2 cap2, .int .u32 a3] w fun e w' => e = .returned (.bool true) ∧ Below w.heap.size w w' := by
  obtain ⟨p, hp, e⟩ := pc_of w0
  rw [e]
  clear e w0
  have h1 := word_of_wf w1
  have h3 := u32_of w3
  clear w1 w3
  have hcap := row_fit w2
  have HRow := Lib.hid w2
  clear w2
  have LO := Lib.hid (Below.refl w.heap.size w)
  have KR := Lib.hid fun W => flow_right p W
  have KB := Lib.hid fun W => flow_born 1 1 p W
  have KA := Lib.hid fun W => awake12 W
  obtain ⟨rt, Hrt⟩ : ∃ rt, Hid (a1 % 1099511627777 = rt) := ⟨_, Lib.hid rfl⟩
  have hrt : Num.Word rt := by rw [← Hrt.out]; exact wrap_rem a1 h1
  have hfb : (Fl.born 1 1 p).Fits := Fl.Fits.born (by simp [Num.Word]) (by simp [Num.Word]) hp
  have hf0 : (⟨1, 1, rt, p.first, 0, 0, 0⟩ : Fl).Fits := hfb.rated hrt
  obtain ⟨R, HR⟩ : ∃ R, Hid ((⟨1, 1, rt, p.first, 0, 0, 0⟩ : Fl).by p = R) := ⟨_, Lib.hid rfl⟩
  have KRt := Lib.hid fun W => flow_rate_b ⟨1, 1, rt, p.first, 0, 0, 0⟩ p hf0 hp W
  have hRw : Num.Word R := by rw [← HR.out]; exact Fl.by_word hf0 hp
  rw [HR.out] at KRt
  have HP := Lib.hid hp
  have HRw := Lib.hid hRw
  have hR0 := hRw.1
  have HF0 := Lib.hid hf0
  have ha1 := h1.1
  have ha2 := h1.2
  obtain ⟨ht0, ht1⟩ := h3
  have hrem : a1 % 1099511627777 = rt := Hrt.out
  clear hp h1 hfb hf0 hRw hrt Hrt
  simp only [Fl.v, Pc.v, Fl.c, Pc.c, Fl.born] at KR KB KRt
  simp only [Pc.c]
  obtain ⟨m, Hm⟩ : ∃ m, Hid (min len2 30 = m) := ⟨_, Lib.hid rfl⟩
  have hm1 : m ≤ len2 := by have := Hm.out; omega
  have hm2 : m ≤ 30 := by have := Hm.out; omega
  go_enter Try.func7, Try.ntmps7
  go_upto_region 1 with fail
  obtain ⟨V1, b1, hW, hb, XP, LO6⟩ := one_more w (Pc.c p) 59
  simp only [Fl.c, Pc.c] at hW
  rw [hW.out, hb.out]
  have hB1 : Hid (w.heap.size ≤ b1) := Lib.hid (Nat.le_of_eq hb.out)
  have L6 := Lib.hid LO6.out
  replace LO := Lib.hid (below_tr LO.out L6.out)
  have BP : Hid (PBox V1 b1 p) := XP
  clear hW hb LO6 L6 XP
  cases hr : p.right with
  | false =>
    rw [hr] at KR
    clear hrem
    obtain ⟨cP0, cP1, cP2, cP3, cP4⟩ := (BP.out : PBox _ _ _).cells
    go_wp2_with (first | (go_at_call 21; refine (KR.out _).mono ?_; rintro e W5 ⟨rfl, g5⟩; replace LO := Lib.hid (below_tr LO.out g5); clear g5) | (go_at_call 23; refine (KA.out _).mono ?_; rintro e W6 ⟨rfl, g6⟩; replace LO := Lib.hid (below_tr LO.out g6); clear g6))
    go_ret
    exact ⟨rfl, LO.out⟩
  | true =>
    rw [hr] at KR
    have HRt := Lib.hid hr
    clear hr
    obtain ⟨cP0, cP1, cP2, cP3, cP4⟩ := (BP.out : PBox _ _ _).cells
    go_upto_region 3 with (go_at_call 21; refine (KR.out _).mono ?_; rintro e W5 ⟨rfl, g5⟩)
    clear cP0 cP1 cP2 cP3 cP4
    replace BP := Lib.hid (BP.out.below g5 BP.out.lt)
    replace LO := Lib.hid (below_tr LO.out g5)
    clear g5
    obtain ⟨cP0, cP1, cP2, cP3, cP4⟩ := (BP.out : PBox _ _ _).cells
    go_upto_region 5 with (go_at_call 24; refine (KB.out _).mono ?_; rintro e W5 ⟨rfl, g5⟩)
    clear cP0 cP1 cP2 cP3 cP4
    obtain ⟨V2, b2, hW, hb, XF, LO6⟩ := one_more W5 (Fl.c ⟨1, 1, rt, p.first, 0, 0, 0⟩) 63
    simp only [Fl.c, Pc.c] at hW
    have NPF : Hid (b1 < b2) := Lib.hid (by have h1 := BP.out.lt; have h3 := hb.out; have h2 := g5.size; omega)
    rw [hW.out, hb.out]
    have L6 := Lib.hid (below_tr g5 LO6.out)
    replace BP := Lib.hid (BP.out.below L6.out BP.out.lt)
    replace LO := Lib.hid (below_tr LO.out L6.out)
    have BF : Hid (FBox V2 b2 63 ⟨1, 1, rt, p.first, 0, 0, 0⟩) := XF
    clear hW hb LO6 L6 XF g5
    clear hrem
    obtain ⟨cF0, cF1, cF2, cF3, cF4, cF5, cF6⟩ := (BF.out : FBox _ _ _ _).cells
    obtain ⟨cP0, cP1, cP2, cP3, cP4⟩ := (BP.out : PBox _ _ _).cells
    go_upto_region 6 with (go_at_call 34; refine (KRt.out _).mono ?_; rintro e W5 ⟨rfl, g5⟩)
    clear cF0 cF1 cF2 cF3 cF4 cF5 cF6 cP0 cP1 cP2 cP3 cP4
    replace BP := Lib.hid (BP.out.below g5 BP.out.lt)
    replace BF := Lib.hid (BF.out.below g5 BF.out.lt)
    replace LO := Lib.hid (below_tr LO.out g5)
    clear g5
    go_cut [36, 37, 38] (fun v36 v37 v38 wx => v36 = .slice a2 m cap2 ∧ v37 = .int .i64 (m : Int) ∧ v38 = .int .i64 0 ∧ W5 = wx)
    case first =>
      by_cases h80 : 30 < len2
      · have h80z : (30 : Int) < (len2 : Int) := by omega
        obtain rfl : m = 30 := by have := Hm.out; omega
        go_wp2_with fail
        go_meet
        refine ⟨?_, ?_, rfl, rfl⟩ <;> first | rfl | (congr 1; omega) | (congr 1; simp; omega)
      · have h80z : ¬ (30 : Int) < (len2 : Int) := by omega
        obtain rfl : m = len2 := by have := Hm.out; omega
        go_wp2_with fail
        go_meet
        refine ⟨?_, ?_, rfl, rfl⟩ <;> first | rfl | (congr 1; omega) | (congr 1; simp; omega)
    case rest =>
      obtain ⟨rfl, rfl, rfl, rfl⟩ := hcut
      have HS0 : Hid (WSt2 p R 0 ⟨1, 1, rt, p.first, 0, 0, 0⟩ 0 a3) := by
        obtain ⟨_, ⟨q0, q1⟩, _⟩ := Pc.right_iff.1 HRt.out
        exact Lib.hid ⟨HF0.out, ⟨ht0, by omega⟩, HR.out, by show _ ≤ p.first; omega, by show p.first ≤ _; omega, by omega, by simp, fun _ => rfl, fun _ => rfl⟩
      clear KR KB KRt HF0 HR Hm
      go_wp2_with fail
      go_loopg [11, 12, 38] m (fun k v11 v12 v38 wx => ∃ (i : Nat) (f : Fl) (D t : Int), i + k = m ∧ v11 = .int .u64 D ∧ v12 = .int .u64 t ∧ v38 = .int .i64 (i : Int) ∧ Hid (WSt2 p R i f D t) ∧ Hid (PBox wx b1 p ∧ FBox wx b2 63 f ∧ Below w.heap.size w wx))
      case atStart => exact ⟨0, _, 0, a3, by omega, rfl, rfl, rfl, HS0, Lib.hid ⟨BP.out, BF.out, LO.out⟩⟩
      case round =>
        clear HS0 BP BF LO
        obtain ⟨i, f, D, t, hik, rfl, rfl, rfl, HS, HB⟩ := hrel
        have BP := Lib.hid HB.out.1
        have BF := Lib.hid HB.out.2.1
        have LO := Lib.hid HB.out.2.2
        clear HB
        by_cases hin : i = m
        · have hiz : ¬ (i : Int) < (m : Int) := by omega
          clear hin
          go_wp2_with (go_at_call 23; refine (KA.out _).mono ?_; rintro e W6 ⟨rfl, g6⟩; replace LO := Lib.hid (below_tr LO.out g6); clear g6)
          go_ret
          exact ⟨rfl, LO.out⟩
        · have hiz : (i : Int) < (m : Int) := by omega
          have hi30 : i < 30 := by omega
          obtain ⟨A, rfl, hwf, hcx⟩ := row_int HRow.out (show i < len2 by omega)
          obtain ⟨x, hx⟩ : ∃ x, Hid (rowI z2 i = x) := ⟨_, Lib.hid rfl⟩
          rw [hx.out] at hwf hcx
          obtain ⟨hx0, hx1⟩ := u16_of hwf
          have cx := hcx _ LO.out
          have HCX := Lib.hid hcx
          clear hcx hwf
          go_wp2_with fail
          go_loopg [] (1 - f.cr).toNat (fun k wx => ∃ (f' : Fl), (1 - f'.cr).toNat = k ∧ Hid (WSt2 p R i f' D t) ∧ Hid (PBox wx b1 p ∧ FBox wx b2 63 f' ∧ Below w.heap.size w wx))
          case atStart => exact ⟨f, rfl, HS, Lib.hid ⟨BP.out, BF.out, LO.out⟩⟩
          case round =>
            clear HS BP BF LO cx
            clear f
            obtain ⟨f, hcnt, HS, HB⟩ := hrel
            have BP := Lib.hid HB.out.1
            have BF := Lib.hid HB.out.2.1
            have LO := Lib.hid HB.out.2.2
            clear HB
            have hlo := HS.out.lo
            have hhi := HS.out.hi
            by_cases hcr : f.cr ≤ 0
            · have HN := Lib.hid (HS.out.fill HRt.out hcr)
              have KF := Lib.hid fun W => flow_fill f p HS.out.fits HP.out W
              have hq1 : 1 ≤ p.q := (Pc.right_iff.1 HRt.out).1.1
              obtain ⟨f', hf'⟩ : ∃ f', Hid (f.fill p = f') := ⟨_, Lib.hid rfl⟩
              rw [hf'.out] at HN KF
              simp only [Fl.v, Pc.v, Fl.c, Pc.c] at KF
              clear hf'
              obtain ⟨cF0, cF1, cF2, cF3, cF4, cF5, cF6⟩ := BF.out.cells
              obtain ⟨cP0, cP1, cP2, cP3, cP4⟩ := BP.out.cells
              go_wp2_with (go_at_call 28; refine (KF.out _).mono ?_; rintro e W7 ⟨rfl, g7⟩; have F7 := Lib.hid (BF.out.below g7 BF.out.lt); have P7 := Lib.hid (BP.out.below g7 BP.out.lt); have L7 := Lib.hid (below_tr LO.out g7); obtain ⟨y0, y1, y2, y3, y4, y5, y6⟩ := F7.out.cells; obtain ⟨z0, z1, z2, z3, z4, z5, z6⟩ := F7.out.frozen; clear g7 cF0 cF1 cF2 cF3 cF4 cF5 cF6 cP0 cP1 cP2 cP3 cP4)
              go_roundg (1 - f'.cr).toNat
              case measure => have := HN.out.2; omega
              case rel =>
                have hbne : b1 ≠ b2 := by have := NPF.out; omega
                exact ⟨f', rfl, Lib.hid HN.out.1, Lib.hid ⟨putF_other (show Box _ b1 _ _ from P7.out) hbne f', putF_box F7.out f', putF_below L7.out (by have := NPF.out; have := hB1.out; omega) f'⟩⟩
            · have hcrz : decide (f.cr ≤ 0) = false := by simpa using hcr
              clear hcnt
              obtain ⟨cF0, cF1, cF2, cF3, cF4, cF5, cF6⟩ := BF.out.cells
              have HSr := Lib.hid HS.out.ready
              have KY := Lib.hid fun W => flow_ready f t HS.out.fits HS.out.t W
              obtain ⟨tt, Htt⟩ : ∃ tt, Hid (max t f.nx = tt) := ⟨_, Lib.hid rfl⟩
              rw [Htt.out] at HSr KY
              have hc0 : 0 < f.cr := by omega
              have HCh := Lib.hid (HSr.out.charge HP.out hc0 (n := 1 + x) (by omega) (by omega) hi30)
              have KC := Lib.hid fun W => flow_charge f (1 + x) tt p HS.out.fits HP.out ⟨by omega, by omega⟩ HSr.out.t W
              have hd0 := HSr.out.d0
              have hd1 := HSr.out.d1
              have hi31 : (i : Int) * 65536 ≤ 29 * 65536 := Int.mul_le_mul_of_nonneg_right (by omega) (by omega)
              have HD1 := Lib.hid hd1
              have hd2 : D ≤ 1900544 := by omega
              clear hd1 hi31
              obtain ⟨htt0, htt1⟩ := HSr.out.t
              have HTT := Lib.hid HSr.out.t
              obtain ⟨G, hG⟩ : ∃ G, Hid (f.charge (1 + x) tt p = G) := ⟨_, Lib.hid rfl⟩
              rw [hG.out] at HCh KC
              simp only [Fl.v, Pc.v, Fl.c, Pc.c] at KY KC
              clear hG Htt HSr HS
              go_upto_region 12 with (go_at_call 36; refine (KY.out _).mono ?_; rintro e W5 ⟨rfl, g5⟩)
              clear cF0 cF1 cF2 cF3 cF4 cF5 cF6 KY hcrz
              replace BP := Lib.hid (BP.out.below g5 BP.out.lt)
              replace BF := Lib.hid (BF.out.below g5 BF.out.lt)
              replace LO := Lib.hid (below_tr LO.out g5)
              clear g5
              obtain ⟨cF0, cF1, cF2, cF3, cF4, cF5, cF6⟩ := (BF.out : FBox _ _ _ _).cells
              obtain ⟨cP0, cP1, cP2, cP3, cP4⟩ := (BP.out : PBox _ _ _).cells
              go_upto_region 14 with (go_at_call 26; refine (KC.out _).mono ?_; rintro e W5 ⟨rfl, g5⟩)
              clear cF0 cF1 cF2 cF3 cF4 cF5 cF6 cP0 cP1 cP2 cP3 cP4
              obtain ⟨V3, b3, hW, hb, XG, LO6⟩ := one_more W5 (Fl.c G) 63
              simp only [Fl.c, Pc.c] at hW
              have NPG : Hid (b1 < b3) := Lib.hid (by have h1 := BP.out.lt; have h3 := hb.out; have h2 := g5.size; omega)
              have NFG : Hid (b2 < b3) := Lib.hid (by have h1 := BF.out.lt; have h3 := hb.out; have h2 := g5.size; omega)
              rw [hW.out, hb.out]
              have L6 := Lib.hid (below_tr g5 LO6.out)
              replace BP := Lib.hid (BP.out.below L6.out BP.out.lt)
              replace BF := Lib.hid (BF.out.below L6.out BF.out.lt)
              replace LO := Lib.hid (below_tr LO.out L6.out)
              have BG : Hid (FBox V3 b3 63 G) := XG
              clear hW hb LO6 L6 XG g5
              clear KC
              rcases HCh.out with ⟨hR, en, ed, ec, hN⟩ | ⟨hR, hor, en, ed, ec, hN⟩ | ⟨hR, hlow, hcp, en, ed, ec, hN⟩
              · have HN := Lib.hid hN
                have c1 : (R == 0) = true := by simpa using hR
                have c2 : (G.nx != f.nx) = false := by simpa using en
                have c3 : (G.db != 0) = false := by simpa using ed
                have c4 : (G.cr != f.cr - 1 - x) = false := by rw [bne_eq_false_iff_eq]; omega
                clear hN en ed ec hR HCh
                obtain ⟨cF0, cF1, cF2, cF3, cF4, cF5, cF6⟩ := (BF.out : FBox _ _ _ _).cells
                obtain ⟨cP0, cP1, cP2, cP3, cP4⟩ := (BP.out : PBox _ _ _).cells
                obtain ⟨cG0, cG1, cG2, cG3, cG4, cG5, cG6⟩ := (BG.out : FBox _ _ _ _).cells
                obtain ⟨z0, z1, z2, z3, z4, z5, z6⟩ := BF.out.frozen
                go_wp2_with fail
                have hbne : b1 ≠ b2 := by have := NPF.out; omega
                go_roundg (m - (i + 1))
                case measure => omega
                case rel => exact ⟨i + 1, G, _, tt, by omega, rfl, rfl, by go_num, HN, Lib.hid ⟨putF_other (show Box _ b1 _ _ from BP.out) hbne G, putF_box BF.out G, putF_below LO.out (by have := NPF.out; have := hB1.out; omega) G⟩⟩
              · have HN := Lib.hid hN
                have c1 : (R == 0) = false := by simpa using hR
                have KT := Lib.hid fun W => time_b (D + (1 + x)) R W ⟨by omega, by omega⟩ HRw.out
                have KS := Lib.hid fun W => sat_add tt (Num.time (D + (1 + x)) R) W HTT.out (Num.time_word ⟨by omega, by omega⟩ HRw.out)
                obtain ⟨aw0, aw1⟩ := Num.add_word HTT.out (Num.time_word (n := D + (1 + x)) (r := R) ⟨by omega, by omega⟩ HRw.out)
                obtain ⟨y, hy⟩ : ∃ y, Hid (Num.add tt (Num.time (D + (1 + x)) R) = y) := ⟨_, Lib.hid rfl⟩
                rw [hy.out] at KS en aw0 aw1
                have c2 : (G.nx != max f.nx y) = false := by simpa using en
                have c3 : (G.db != 0) = false := by simpa using ed
                have c4 : decide (0 < G.cr) = false := by simpa using ec
                have hwD : IntKind.u64.wrap (D + (1 + x)) = D + (1 + x) := by rw [IntKind.wrap_u64]; omega
                have HOR := Lib.hid hor
                clear hN en ed ec hR hor HCh hy
                obtain ⟨cF0, cF1, cF2, cF3, cF4, cF5, cF6⟩ := (BF.out : FBox _ _ _ _).cells
                obtain ⟨cP0, cP1, cP2, cP3, cP4⟩ := (BP.out : PBox _ _ _).cells
                obtain ⟨cG0, cG1, cG2, cG3, cG4, cG5, cG6⟩ := (BG.out : FBox _ _ _ _).cells
                by_cases hl : R < p.low
                · skip
                  clear hwD
                  go_upto_region 21 with fail
                  have hwD : IntKind.u64.wrap (D + (1 + x)) = D + (1 + x) := by rw [IntKind.wrap_u64]; omega
                  go_region_held3 (fun w' => w'.cell? ⟨b3, 4, none⟩ = some (.int .u64 G.nx) ∧ w'.cell? ⟨b2, 4, none⟩ = some (.int .u64 f.nx) ∧ w'.cell? ⟨b3, 5, none⟩ = some (.int .u64 G.db) ∧ w'.cell? ⟨b3, 3, none⟩ = some (.int .i64 G.cr)) (first | exact ⟨cG4, cF4, cG5, cG3⟩ | exact ⟨y4, y5, y6, y7⟩)
                    (first
                      | (go_at_call 41; refine (KT.out _).mono ?_; rintro e W7 ⟨rfl, g7⟩; have G7 := Lib.hid (below_tr (Below.refl _ _).drew g7); have y4 : W7.cell? ⟨b3, 4, none⟩ = some (.int .u64 G.nx) := (BG.out.below G7.out BG.out.lt).cells.2.2.2.2.1; have y5 : W7.cell? ⟨b2, 4, none⟩ = some (.int .u64 f.nx) := (BF.out.below G7.out BF.out.lt).cells.2.2.2.2.1; have y6 : W7.cell? ⟨b3, 5, none⟩ = some (.int .u64 G.db) := (BG.out.below G7.out BG.out.lt).cells.2.2.2.2.2.1; have y7 : W7.cell? ⟨b3, 3, none⟩ = some (.int .i64 G.cr) := (BG.out.below G7.out BG.out.lt).cells.2.2.2.1; clear g7)
                      | (go_at_call 39; refine (KS.out _).mono ?_; rintro e w' ⟨rfl, rfl⟩))
                  all_goals
                    replace BP := Lib.hid (BP.out.below G7.out BP.out.lt)
                    replace BF := Lib.hid (BF.out.below G7.out BF.out.lt)
                    replace BG := Lib.hid (BG.out.below G7.out BG.out.lt)
                    replace LO := Lib.hid (below_tr LO.out G7.out)
                    clear G7 y4 y5 y6 y7 hwD
                    clear cF0 cF1 cF2 cF3 cF4 cF5 cF6 cP0 cP1 cP2 cP3 cP4 cG0 cG1 cG2 cG3 cG4 cG5 cG6
                    obtain ⟨cF0, cF1, cF2, cF3, cF4, cF5, cF6⟩ := (BF.out : FBox _ _ _ _).cells
                    obtain ⟨cP0, cP1, cP2, cP3, cP4⟩ := (BP.out : PBox _ _ _).cells
                    obtain ⟨cG0, cG1, cG2, cG3, cG4, cG5, cG6⟩ := (BG.out : FBox _ _ _ _).cells
                    obtain ⟨z0, z1, z2, z3, z4, z5, z6⟩ := BF.out.frozen
                    go_wp2_with fail
                    have hbne : b1 ≠ b2 := by have := NPF.out; omega
                    go_roundg (m - (i + 1))
                    case measure => omega
                    case rel => exact ⟨i + 1, G, _, tt, by omega, rfl, rfl, by go_num, HN, Lib.hid ⟨putF_other (show Box _ b1 _ _ from BP.out) hbne G, putF_box BF.out G, putF_below LO.out (by have := NPF.out; have := hB1.out; omega) G⟩⟩
                · have hl1 : decide (R < p.low) = false := by simpa using hl
                  have hl2 : f.cr - 1 - x ≤ 0 := by rcases HOR.out with h | h <;> omega
                  clear hwD
                  go_upto_region 21 with fail
                  have hwD : IntKind.u64.wrap (D + (1 + x)) = D + (1 + x) := by rw [IntKind.wrap_u64]; omega
                  go_region_held3 (fun w' => w'.cell? ⟨b3, 4, none⟩ = some (.int .u64 G.nx) ∧ w'.cell? ⟨b2, 4, none⟩ = some (.int .u64 f.nx) ∧ w'.cell? ⟨b3, 5, none⟩ = some (.int .u64 G.db) ∧ w'.cell? ⟨b3, 3, none⟩ = some (.int .i64 G.cr)) (first | exact ⟨cG4, cF4, cG5, cG3⟩ | exact ⟨y4, y5, y6, y7⟩)
                    (first
                      | (go_at_call 41; refine (KT.out _).mono ?_; rintro e W7 ⟨rfl, g7⟩; have G7 := Lib.hid (below_tr (Below.refl _ _).drew g7); have y4 : W7.cell? ⟨b3, 4, none⟩ = some (.int .u64 G.nx) := (BG.out.below G7.out BG.out.lt).cells.2.2.2.2.1; have y5 : W7.cell? ⟨b2, 4, none⟩ = some (.int .u64 f.nx) := (BF.out.below G7.out BF.out.lt).cells.2.2.2.2.1; have y6 : W7.cell? ⟨b3, 5, none⟩ = some (.int .u64 G.db) := (BG.out.below G7.out BG.out.lt).cells.2.2.2.2.2.1; have y7 : W7.cell? ⟨b3, 3, none⟩ = some (.int .i64 G.cr) := (BG.out.below G7.out BG.out.lt).cells.2.2.2.1; clear g7)
                      | (go_at_call 39; refine (KS.out _).mono ?_; rintro e w' ⟨rfl, rfl⟩))
                  all_goals
                    replace BP := Lib.hid (BP.out.below G7.out BP.out.lt)
                    replace BF := Lib.hid (BF.out.below G7.out BF.out.lt)
                    replace BG := Lib.hid (BG.out.below G7.out BG.out.lt)
                    replace LO := Lib.hid (below_tr LO.out G7.out)
                    clear G7 y4 y5 y6 y7 hwD
                    clear cF0 cF1 cF2 cF3 cF4 cF5 cF6 cP0 cP1 cP2 cP3 cP4 cG0 cG1 cG2 cG3 cG4 cG5 cG6
                    obtain ⟨cF0, cF1, cF2, cF3, cF4, cF5, cF6⟩ := (BF.out : FBox _ _ _ _).cells
                    obtain ⟨cP0, cP1, cP2, cP3, cP4⟩ := (BP.out : PBox _ _ _).cells
                    obtain ⟨cG0, cG1, cG2, cG3, cG4, cG5, cG6⟩ := (BG.out : FBox _ _ _ _).cells
                    obtain ⟨z0, z1, z2, z3, z4, z5, z6⟩ := BF.out.frozen
                    go_wp2_with fail
                    have hbne : b1 ≠ b2 := by have := NPF.out; omega
                    go_roundg (m - (i + 1))
                    case measure => omega
                    case rel => exact ⟨i + 1, G, _, tt, by omega, rfl, rfl, by go_num, HN, Lib.hid ⟨putF_other (show Box _ b1 _ _ from BP.out) hbne G, putF_box BF.out G, putF_below LO.out (by have := NPF.out; have := hB1.out; omega) G⟩⟩
              · have HN := Lib.hid hN
                have c1 : (R == 0) = false := by simpa using hR
                have c2 : (G.nx != f.nx) = false := by simpa using en
                have c3 : (G.db != D + (1 + x)) = false := by simpa using ed
                have c4 : (G.cr != f.cr - 1 - x) = false := by rw [bne_eq_false_iff_eq]; omega
                have hl1 : decide (R < p.low) = false := by simpa using hlow
                have hl2 : decide (f.cr - 1 - x ≤ 0) = false := by rw [decide_eq_false_iff_not]; omega
                clear hN en ed ec hR HCh hlow hcp
                obtain ⟨cF0, cF1, cF2, cF3, cF4, cF5, cF6⟩ := (BF.out : FBox _ _ _ _).cells
                obtain ⟨cP0, cP1, cP2, cP3, cP4⟩ := (BP.out : PBox _ _ _).cells
                obtain ⟨cG0, cG1, cG2, cG3, cG4, cG5, cG6⟩ := (BG.out : FBox _ _ _ _).cells
                obtain ⟨z0, z1, z2, z3, z4, z5, z6⟩ := BF.out.frozen
                go_wp2_with fail
                have hbne : b1 ≠ b2 := by have := NPF.out; omega
                go_roundg (m - (i + 1))
                case measure => omega
                case rel => exact ⟨i + 1, G, _, tt, by omega, rfl, rfl, by go_num, HN, Lib.hid ⟨putF_other (show Box _ b1 _ _ from BP.out) hbne G, putF_box BF.out G, putF_below LO.out (by have := NPF.out; have := hB1.out; omega) G⟩⟩

end Go.Proofs.Ytmokkbhfhbgkmaa
