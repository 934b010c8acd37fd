/-
  FifoTurn, walked.
-/
import Derived.Test.YtkiibobpejoaeabFifoTurnFacts
namespace Go.Proofs.Ytkiibobpejoaeab
open Go.RowKit Go.Maps
set_option linter.unusedVariables false
set_option linter.unusedSimpArgs false

set_option maxHeartbeats 8000000 in
set_option maxRecDepth 100000 in
/-- Below w.heap.size w w' -/
theorem fifoTurn_walk (a0 : Option Addr) (len0 cap0 : Nat) (z0 : List (List Value)) (a1 : Int) (a2 : Option Addr) (len2 cap2 : Nat) (z2 : List (List Value)) (w : World) (w0 : RowOf [some .u16] w a0 len0 cap0 z0) (w1 : (Lit.int .u64 a1).wf = true) (w2 : RowOf [some .u8] w a2 len2 cap2 z2) :
    Calls Try.prog 3 #[.slice a0 len0 cap0, .int .u64 a1, .slice a2 len2 cap2] w fun e w' => e = .returned (.bool true) ∧ Below w.heap.size w w' := by
  obtain ⟨v, rfl, hv⟩ := nat_u64 w1
  obtain ⟨hlo0, hco0⟩ := row_fit w0
  obtain ⟨hlo2, hco2⟩ := row_fit w2
  have HR0 := Lib.hid w0
  have HR2 := Lib.hid w2
  have HA := Lib.hid awake11
  have KN := Lib.hid (FSt.new_ 60 (by decide) (by decide) w w (Below.refl _ _))
  obtain ⟨n, Hn⟩ : ∃ n, Hid (min len0 30 = n) := ⟨_, Lib.hid rfl⟩
  obtain ⟨n2, Hn2⟩ : ∃ n, Hid (min len2 30 = n) := ⟨_, Lib.hid rfl⟩
  have hn30 : n ≤ 30 := by have := Hn.out; omega
  have hn1 : n ≤ len0 := by have := Hn.out; omega
  have hn230 : n2 ≤ 30 := by have := Hn2.out; omega
  have hn21 : n2 ≤ len2 := by have := Hn2.out; omega
  clear w0 w1 w2
  go_enter Try.func3, Try.ntmps3
  go_upto_region 4 with (go_at_call 7; refine KN.out.mono ?_; rintro e W1 ⟨a, rfl, S1⟩)
  clear KN
  have HP0 : Hid (TSt [W1.heap.size] w (W1.alloc (.map #[] 0)) a ⟨60, []⟩) := by
    obtain ⟨N, h⟩ := S1.out
    have t0 : TSt [] w W1 a ⟨60, []⟩ := ⟨N, h, fun x hx => (by cases hx)⟩
    exact Lib.hid (t0.add ((Below.refl _ W1).alloc (Nat.le_refl _) (.map #[] 0)) (by rw [World.size_alloc]; omega))
  have HM0 : Hid (MapU (W1.alloc (.map #[] 0)) W1.heap.size 0 (.map [])) := Lib.hid (World.ownsMap_made W1 _ _ _)
  have hmm := @run_makeMap Try.prog
  go_upto_region 5 with fail
  clear hmm S1
  obtain ⟨W2, HW2⟩ : ∃ W2, Hid (W1.alloc (.map #[] 0) = W2) := ⟨_, Lib.hid rfl⟩
  obtain ⟨bm, HBM⟩ : ∃ bm, Hid (W1.heap.size = bm) := ⟨_, Lib.hid rfl⟩
  rw [HW2.out, HBM.out] at HP0 HM0
  rw [HW2.out, HBM.out]
  clear HW2 HBM
  go_cut [36, 37, 38] (fun s l i wx => s = .slice a0 n cap0 ∧ l = .int .i64 (n : Int) ∧ i = .int .i64 0 ∧ W2 = wx)
  case first =>
    by_cases h60 : 30 < len0
    · have h60z : (30 : Int) < (len0 : Int) := by omega
      obtain rfl : n = 30 := by have := Hn.out; omega
      go_wp2_with fail
      go_meet
      exact ⟨by first | rfl | rw [show (min (len0 : Int) 30).toNat = 30 by omega], congrArg (Value.int .i64) (by omega), rfl, rfl⟩
    · have h60z : ¬ (30 : Int) < (len0 : Int) := by omega
      obtain rfl : n = len0 := by have := Hn.out; omega
      go_wp2_with fail
      go_meet
      exact ⟨by first | rfl | rw [show (min (n : Int) 30).toNat = n by omega], congrArg (Value.int .i64) (by omega), rfl, rfl⟩
  case rest =>
  obtain ⟨rfl, rfl, rfl, rfl⟩ := hcut
  go_wp2_with fail
  go_loopg [38] n (fun s i wx => ∃ (j : Nat) (l : List En) (D : DataW Unit) (c : Nat → Nat), n - j = s ∧ j ≤ n ∧ i = .int .i64 (j : Int) ∧ Hid (TSt [bm] w wx a ⟨60, l⟩) ∧ Hid (MapU wx bm j D) ∧ Hid (MetP v D l c j))
  case atStart => exact ⟨0, _, _, _, rfl, by omega, rfl, HP0, HM0, Lib.hid (met_none v)⟩
  case round =>
  clear HP0 HM0
  obtain ⟨j, l, D, c, rfl, hj, rfl, HP, HMp, HM⟩ := hrel
  by_cases hjn : j = n
  · subst hjn
    have hz : ¬ (j : Int) < (j : Int) := by omega
    have HL0 := Lib.hid (left_start HM.out HP.out.ok.rises)
    clear HM
    go_upto_region 14 with fail
    obtain ⟨rb, HRB⟩ : ∃ rb, Hid (wr.heap.size = rb) := ⟨_, Lib.hid rfl⟩
    go_wp2_with (at_range; refine wpList_range_own _ rfl _ 29 rfl 30 3 lawU Try.underlying29 _ bm j D rfl HMp.out ?_; intro w3 hrg0 hg0 hs0)
    have HB3 : Below wr.heap.size wr w3 := ⟨hg0.os, hg0.tape, hg0.output, hg0.size, fun k hk => hg0.block k hk (by simp)⟩
    have HP3 := Lib.hid (HP.out.add HB3 (by omega))
    rw [HRB.out] at HP3 hrg0
    rw [HRB.out]
    have HR3 := Lib.hid hrg0
    clear hrg0 hg0 hs0 HB3 HP HMp HRB
    go_loopg [13] (Maps.size D) (fun s v13 wx => ∃ (left : Lit → Bool) (cnt : Nat) (l2 : List En) (K : List Nat) (last : Nat), cnt = s ∧ v13 = .int .u64 (last : Int) ∧ Hid (TSt [rb, bm] w wx a ⟨60, l2⟩) ∧ Hid (RngU wx bm rb j D left cnt) ∧ Hid (Left2 v last l2 K left))
    case atStart => exact ⟨_, _, _, _, 0, rfl, rfl, HP3, HR3, HL0⟩
    case round =>
    clear HP3 HR3 HL0
    obtain ⟨left, cnt, l2, K, last, rfl, rfl, HP, HRg, HL⟩ := hrel
    go_wp2_with (at_next; refine wpList_next_ranges_ii _ rfl _ rfl 30 3 .u16 .i64 lawU Try.underlying30 Try.underlying3 bm rb j D left cnt rfl HRg.out ?_ ?_)
    · intro hc0 hl0
      obtain rfl := left_end HL.out hl0
      have HS := Lib.hid HP.out.fst
      clear hc0 hl0 HRg HL HP
      go_upto_region 21 with fail
      go_cut [18] (fun m wx => m = .int .i64 (n2 : Int) ∧ wr = wx)
      case first =>
        by_cases h60 : 30 < len2
        · have h60z : (30 : Int) < (len2 : Int) := by omega
          obtain rfl : n2 = 30 := by have := Hn2.out; omega
          go_wp2_with fail
          go_meet
          exact ⟨congrArg (Value.int .i64) (by omega), rfl⟩
        · have h60z : ¬ (30 : Int) < (len2 : Int) := by omega
          obtain rfl : n2 = len2 := by have := Hn2.out; omega
          go_wp2_with fail
          go_meet
          exact ⟨congrArg (Value.int .i64) (by omega), rfl⟩
      case rest =>
      obtain ⟨rfl, rfl⟩ := hcut
      clear Hn2
      have hnz2 : (n2 : Int) ≤ (cap2 : Int) := by omega
      go_wp2_with fail
      go_loopg [17, 110] n2 (fun s t17 i wx => ∃ (q wh : Nat) (l3 : List En), n2 - q = s ∧ q ≤ n2 ∧ t17 = .int .u64 (wh : Int) ∧ i = .int .i64 (q : Int) ∧ Hid (FSt w wx a ⟨60, l3⟩ [] []) ∧ Hid (Row3 q wh l3))
      case atStart => exact ⟨0, 0, [], rfl, by omega, rfl, rfl, HS, Lib.hid ⟨rfl, fun k e he => by simp at he, by omega⟩⟩
      case round =>
      clear HS
      obtain ⟨q, wh, l3, rfl, hq, rfl, rfl, HS, H3⟩ := hrel
      by_cases hqn : q = n2
      · subst hqn
        have hz2 : ¬ (q : Int) < (q : Int) := by omega
        have H4 := Lib.hid (row4_start H3.out)
        clear H3
        go_wp2_with fail
        go_loopg [130] q (fun s i wx => ∃ (p : Nat) (m : List En), q - p = s ∧ p ≤ q ∧ i = .int .i64 (p : Int) ∧ Hid (FSt w wx a ⟨60, m⟩ [] []) ∧ Hid (Row4 q p m))
        case atStart => exact ⟨0, _, rfl, by omega, rfl, HS, H4⟩
        case round =>
        clear HS H4
        obtain ⟨p, m, rfl, hp, rfl, HS, H4⟩ := hrel
        by_cases hpn : p = q
        · subst hpn
          have hz3 : ¬ (p : Int) < (p : Int) := by omega
          obtain rfl : m = [] := List.eq_nil_of_length_eq_zero (by have := H4.out.len; omega)
          have K4 : Hid (Calls Try.prog 10 #[.pointer (some a)] wr fun e W' => e = .returned (.int .i64 0) ∧ Hid (FSt w W' a ⟨60, []⟩ [] [])) := Lib.hid HS.out.len
          clear HS H4
          go_wp2_with fail
          refine K4.out.mono ?_
          rintro e W5 ⟨rfl, S5⟩
          have HAw := Lib.hid (HA.out W5)
          have HLo := Lib.hid S5.out.lo
          clear K4 S5
          go_wp2_with fail
          refine HAw.out.mono ?_
          rintro e W8 ⟨rfl, b8⟩
          have HE := Lib.hid (below_tr HLo.out b8)
          clear b8 HAw
          go_wp2_with fail
          go_ret
          exact ⟨rfl, HE.out⟩
        · have hz3 : (p : Int) < (q : Int) := by omega
          have hwp : IntKind.i64.wrap ((p : Int) + 1) = ((p + 1 : Nat) : Int) := by rw [IntKind.wrap_i64]; omega
          have hpu : IntKind.u64.wrap (p : Int) = (p : Int) := by rw [IntKind.wrap_u64]; omega
          obtain ⟨x, m', rfl, hxv, h4'⟩ := row4_next H4.out (by omega)
          have H4' := Lib.hid h4'
          have K4 : Hid (Calls Try.prog 9 #[.pointer (some a)] wr fun e W' => e = .returned (.tuple #[.int .u64 x.val, kyV x.key, .bool true]) ∧ Hid (FSt w W' a ⟨60, m'⟩ [] [])) := Lib.hid HS.out.pop
          rw [hxv] at K4
          unfold kyV at K4
          clear HS H4 h4' hxv
          go_wp2_with fail
          refine K4.out.mono ?_
          rintro e W5 ⟨rfl, S5⟩
          have S6 := Lib.hid (S5.out.below ((Below.refl _ W5).alloc (Nat.le_refl _) (.cells #[.int .u64 (x.key.at_ : Int), .int .u64 (x.key.seq : Int)] 33)))
          clear K4 S5
          go_wp2_with fail
          go_roundg (q - (p + 1))
          case measure => omega
          case rel => exact ⟨p + 1, m', rfl, by omega, by go_num, S6, H4'⟩
      · have hz2 : (q : Int) < (n2 : Int) := by omega
        obtain ⟨ad, x, rfl, hx, HO⟩ := u8_cell HR2.out (show q < len2 by omega)
        have d0 := HO wr HS.out.lo
        obtain ⟨e0, h3⟩ := row3_next H3.out (show q < 60 by omega) hx
        have hwl := h3.le
        have KP0 := HS.out.push (q : Int) ⟨by omega, by omega⟩ ⟨wh + x, q⟩ (ky_fits _ _ (by omega) (by omega))
        rw [show putE (⟨60, l3⟩ : Fg).room (⟨60, l3⟩ : Fg).l ⟨wh + x, q⟩ = 0 from e0] at KP0
        have H3' := Lib.hid h3
        obtain ⟨wh', hwh⟩ : ∃ y, wh + x = y := ⟨_, rfl⟩
        have hww : IntKind.u64.wrap ((wh : Int) + (x : Int)) = (wh' : Int) := by rw [IntKind.wrap_u64]; omega
        rw [hwh] at KP0 H3'
        unfold kyV at KP0
        have KP := Lib.hid KP0
        have hxu : IntKind.u64.wrap (x : Int) = (x : Int) := by rw [IntKind.wrap_u64]; omega
        have hqu : IntKind.u64.wrap (q : Int) = (q : Int) := by rw [IntKind.wrap_u64]; omega
        have hwq : IntKind.i64.wrap ((q : Int) + 1) = ((q + 1 : Nat) : Int) := by rw [IntKind.wrap_i64]; omega
        clear HO KP0 h3 e0 H3 HS hwl hwh
        go_wp2_with fail
        refine KP.out.mono ?_
        rintro e W6 ⟨rfl, S6⟩
        clear KP d0
        go_wp2_with fail
        go_roundg (n2 - (q + 1))
        case measure => omega
        case rel => exact ⟨q + 1, wh', _, rfl, by omega, rfl, by go_num, S6, H3'⟩
    · intro x' c' w' cnt' hwx hwc hlx hat hrg hlt hg1 hs1 hen
      obtain ⟨s, rfl, hs⟩ := nat_u16 hwx
      obtain ⟨q, m, rfl, hq, hlast, hl2⟩ := left_next HL.out hs hlx
      have HL2 := Lib.hid hl2
      have HP' := Lib.hid (HP.out.put (x := rb) List.mem_cons_self hg1)
      have K4 : Hid (Calls Try.prog 9 #[.pointer (some a)] w' fun e W' => e = .returned (.tuple #[.int .u64 ((q + 1 : Nat) : Int), .agg #[.int .u64 (v : Int), .int .u64 (q : Int)], .bool true]) ∧ Hid (TSt [rb, bm] w W' a ⟨60, m⟩) ∧ Hid (∀ x, x ∈ [rb, bm] → W'.heap[x]? = w'.heap[x]?)) := Lib.hid HP'.out.pop
      have HR' := Lib.hid hrg
      obtain ⟨q1, Hq1⟩ : ∃ y, Hid (q + 1 = y) := ⟨_, Lib.hid rfl⟩
      have hqw : IntKind.u64.wrap ((q : Int) + 1) = (q1 : Int) := by rw [IntKind.wrap_u64]; have := Hq1.out; omega
      have hle : ¬ (q1 : Int) ≤ (last : Int) := by have := Hq1.out; omega
      rw [Hq1.out] at HL2 K4
      clear hwx hwc hlx hat hrg hg1 hs1 HP HRg HL hl2 hlast Hq1 HP'
      go_wp2_with fail
      refine K4.out.mono ?_
      rintro e W5 ⟨rfl, S5, X5⟩
      have B6 := (Below.refl _ W5).alloc (Nat.le_refl _) (.cells #[.int .u64 (v : Int), .int .u64 (q : Int)] 33)
      have S6 := Lib.hid (S5.out.below B6)
      have R6 : Hid (RngU (W5.alloc (.cells #[.int .u64 (v : Int), .int .u64 (q : Int)] 33)) bm rb j D _ cnt') := Lib.hid (rngU_same HR'.out ((S5.out.block B6 bm (by simp)).trans (X5.out bm (by simp))) ((S5.out.block B6 rb (by simp)).trans (X5.out rb (by simp))))
      have y1 := Box.new W5 33 #[.int .u64 (v : Int), .int .u64 (q : Int)]
      clear B6 K4 HR' S5 X5
      go_upto_region 17 with fail
      obtain ⟨kb, HKb⟩ : ∃ x, Hid (W5.heap.size = x) := ⟨_, Lib.hid rfl⟩
      obtain ⟨V5, HV5⟩ : ∃ V, Hid (W5.alloc (.cells #[.int .u64 (v : Int), .int .u64 (q : Int)] 33) = V) := ⟨_, Lib.hid rfl⟩
      rw [HV5.out] at S6 R6 y1
      rw [HKb.out] at y1
      rw [HV5.out, HKb.out]
      have k0 : V5.cell? ⟨kb, 0, none⟩ = some (.int .u64 (v : Int)) := y1.cell 0
      have k1 : V5.cell? ⟨kb, 1, none⟩ = some (.int .u64 (q : Int)) := y1.cell 1
      clear y1 HV5 HKb
      go_wp2_with fail
      go_roundg cnt'
      case measure => exact hlt
      case rel => exact ⟨_, cnt', m, _, q1, rfl, rfl, S6, R6, HL2⟩
  · have hz : (j : Int) < (n : Int) := by omega
    obtain ⟨ad, s, rfl, hs, HO⟩ := u16_cell HR0.out (show j < len0 by omega)
    have d0 := HO wr HP.out.lo
    obtain ⟨e0, hm⟩ := met_put HM.out hs (show j < 60 by omega)
    have HM2 := Lib.hid hm
    have HAT := Lib.hid (HM.out.at_ s)
    have hcl := HM.out.le s
    obtain ⟨cs, hcs⟩ : ∃ y, c s = y := ⟨_, rfl⟩
    obtain ⟨c1, hc1⟩ : ∃ y, cs + 1 = y := ⟨_, rfl⟩
    obtain ⟨s1, hs1⟩ : ∃ y, s + 1 = y := ⟨_, rfl⟩
    have HC2 : Hid (c s + 1 = c1) := Lib.hid (by omega)
    have wf_c1 : (Lit.int .i64 (c1 : Int)).wf = true := by
      simp [Lit.wf, IntKind.min, IntKind.max, IntKind.signed, IntKind.bits]
      omega
    have HWc := Lib.hid wf_c1
    clear wf_c1
    rw [hcs] at e0 HAT hcl
    have HKP := Lib.hid (key_u16 (wf_u16 hs))
    have KP0 := HP.out.push ((s + 1 : Nat) : Int) ⟨by omega, by omega⟩ ⟨v, s⟩ (ky_fits _ _ hv (by omega))
    rw [show putE (⟨60, l⟩ : Fg).room (⟨60, l⟩ : Fg).l ⟨v, s⟩ = _ from e0] at KP0
    have HMD := Lib.hid HMp.out
    have hsu : IntKind.u64.wrap (s : Int) = (s : Int) := by rw [IntKind.wrap_u64]; omega
    have hsw : IntKind.u64.wrap ((s : Int) + 1) = (s1 : Int) := by rw [IntKind.wrap_u64]; omega
    have hcw : IntKind.i64.wrap ((cs : Int) + 1) = (c1 : Int) := by rw [IntKind.wrap_i64]; omega
    have hwj : IntKind.i64.wrap ((j : Int) + 1) = ((j + 1 : Nat) : Int) := by rw [IntKind.wrap_i64]; omega
    have HM3 : Hid (MetP v (D.put (.int .u16 (s : Int)) (.lit (.int .i64 (c1 : Int)))) (putL 60 l ⟨v, s⟩ (s1 : Int)) (fun x => if x = s then c s + 1 else c x) (j + 1)) := by
      rw [hcs, hc1, hs1] at HM2
      rw [hcs, hc1]
      exact HM2
    rw [hs1] at KP0
    unfold kyV at KP0
    have KP := Lib.hid KP0
    clear HO KP0 hm HM2 HP HM hcs hs1
    by_cases hc0 : 0 < cs
    · rw [if_pos hc0] at KP
      have hg : (1 : Int) < (c1 : Int) := by omega
      clear e0 hc1
      go_wp2_with fail
      refine KP.out.mono ?_
      rintro e W6 ⟨rfl, S6, X6⟩
      have M6 : MapU W6 bm j D := mapU_same HMD.out (X6.out bm (by simp))
      obtain ⟨cc, hrun1, hat1, _⟩ := M6.lookup_int lawU Try.underlying29 Try.underlying3 (zeroU _) HKP.out
      obtain rfl : cc = (cs : Int) := by
        have := hat1.symm.trans HAT.out
        simpa using this
      have HM6 := Lib.hid M6
      clear KP d0 hat1 M6 HMD X6
      go_wp2_with (at_mapUpdate; refine wpList_mapUpdate_own _ rfl _ _ _ 29 rfl 30 3 lawU Try.underlying29 _ bm j D rfl HM6.out (by unfold maxLen; omega) _ _ _ rfl rfl HKP.out (.lit (.int .i64 (c1 : Int))) [] (plainElem_int Try.underlying3 HWc.out) ?_; intro w4 own4 gr4; have HP4 := Lib.hid (S6.out.put (x := bm) (by simp) gr4); obtain ⟨cc, hrun2, hat2, _⟩ := own4.lookup_int lawU Try.underlying29 Try.underlying3 (zeroU _) HKP.out; obtain rfl : cc = (c1 : Int) := (by have := hat2.symm.trans (HM3.out.at_ s); rw [if_pos rfl, HC2.out] at this; simpa using this); have OW := Lib.hid own4; clear own4 gr4 hat2 hrun1 S6 HM6)
      go_roundg (n - (j + 1))
      case measure => omega
      case rel => exact ⟨j + 1, _, _, _, rfl, by omega, by go_num, HP4, OW, HM3⟩
    · rw [if_neg hc0] at KP
      obtain rfl : cs = 0 := by omega
      obtain rfl : c1 = 1 := by omega
      clear e0 hc1
      go_wp2_with fail
      refine KP.out.mono ?_
      rintro e W6 ⟨rfl, S6, X6⟩
      have M6 : MapU W6 bm j D := mapU_same HMD.out (X6.out bm (by simp))
      obtain ⟨cc, hrun1, hat1, _⟩ := M6.lookup_int lawU Try.underlying29 Try.underlying3 (zeroU _) HKP.out
      obtain rfl : cc = 0 := by
        have := hat1.symm.trans HAT.out
        simpa using this
      have HM6 := Lib.hid M6
      clear KP d0 hat1 M6 HMD X6
      go_wp2_with (at_mapUpdate; refine wpList_mapUpdate_own _ rfl _ _ _ 29 rfl 30 3 lawU Try.underlying29 _ bm j D rfl HM6.out (by unfold maxLen; omega) _ _ _ rfl rfl HKP.out (.lit (.int .i64 1)) [] (plainElem_int Try.underlying3 (by decide)) ?_; intro w4 own4 gr4; have HP4 := Lib.hid (S6.out.put (x := bm) (by simp) gr4); obtain ⟨cc, hrun2, hat2, _⟩ := own4.lookup_int lawU Try.underlying29 Try.underlying3 (zeroU _) HKP.out; obtain rfl : cc = 1 := (by have := hat2.symm.trans (HM3.out.at_ s); rw [if_pos rfl, HC2.out] at this; simpa using this); have OW := Lib.hid own4; clear own4 gr4 hat2 hrun1 S6 HM6)
      go_roundg (n - (j + 1))
      case measure => omega
      case rel => exact ⟨j + 1, _, _, _, rfl, by omega, by go_num, HP4, OW, HM3⟩

end Go.Proofs.Ytkiibobpejoaeab
