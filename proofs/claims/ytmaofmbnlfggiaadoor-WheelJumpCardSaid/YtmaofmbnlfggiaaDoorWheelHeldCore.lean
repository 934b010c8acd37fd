/-
  WheelHeld's walk, over any wheel.
-/
import Derived.Test.YtmaofmbnlfggiaaDoorWheelK
import Derived.Test.YtmaofmbnlfggiaaDoorWheelOps
namespace Go.Proofs.YtmaofmbnlfggiaaDoor
open Go.RowKit
set_option linter.unusedVariables false
set_option linter.unusedSimpArgs false

theorem slotW_lt {t width : Nat} (h1 : 1 ≤ width) (ht : t < 18446744073709551616) : slotW t width < 18446744073709551616 := by
  unfold slotW
  have : (t + (width - 1)) / width ≤ t := by
    rcases Nat.eq_zero_or_pos t with rfl | h
    · rw [Nat.zero_add, Nat.div_eq_of_lt (by omega)]; exact Nat.le_refl _
    · have h2 : t + (width - 1) < width * (t + 1) := by
        rw [Nat.mul_succ]
        have : t ≤ width * t := Nat.le_mul_of_pos_left t h1
        omega
      have := (Nat.div_lt_iff_lt_mul h1).2 (by rw [Nat.mul_comm]; exact h2)
      omega
  omega
theorem sum_take_le (l : List Nat) (j : Nat) : (l.take j).sum ≤ l.sum := by
  have h := congrArg List.sum (List.take_append_drop j l)
  rw [List.sum_append] at h
  omega
theorem sum_take_succ {l : List Nat} {j : Nat} (h : j < l.length) : (l.take (j + 1)).sum = (l.take j).sum + l[j] := by
  rw [List.take_succ_eq_append_getElem h, List.sum_append]
  simp
theorem nat_cell {W : World} {base e n c j : Nat} {p : Option Addr} {l : List Nat} (h : W.ownsRow base e 1 (.slice p n c) n (l.map natV)) (hl : l.length = n) (hj : j < l.length) : ∃ g, p = some ⟨g, 0, none⟩ ∧ W.cell? ⟨g, j, none⟩ = some (.int .i64 ((l[j] : Nat) : Int)) := by
  rcases h.2 with ⟨_, e⟩ | ⟨g, cap, cur, e, h2, h3, h4, h5, h6, h7⟩
  · omega
  · cases e
    refine ⟨g, rfl, ?_⟩
    have hb : Box W g _ cur := h3
    rw [hb.cell]
    have hx : cur[j]? = (l.map natV)[j]? := by rw [← h7, List.getElem?_take, if_pos (by omega), Array.getElem?_toList]
    rw [hx, List.getElem?_map, List.getElem?_eq_getElem hj]
    rfl
def Awake9 : Prop := ∀ w : World, Tab w → Calls Tryd.prog 11 #[] w fun e w' => e = .returned (.bool true) ∧ Below w.heap.size w w'

set_option maxHeartbeats 8000000 in
set_option maxRecDepth 100000 in
theorem wheelHeld_of (K : WheelK) {A : Option Addr} {len cap : Nat} {os : List OpW} (sl wd : Nat) (hsl : sl < 256) (hwd : wd < 65536) (w : World) (hos : OpsW w A len cap os) (hT : Tab w) (HA : Hid Awake9) :
    Calls Tryd.prog 6 #[.int .u8 (sl : Int), .int .u16 (wd : Int), .slice A len cap] w fun e w' => e = .returned (.bool true) ∧ Below w.heap.size w w' := by
  have hlo := hos.le
  have hco := hos.capLe
  have HOs := Lib.hid hos
  have HT := Lib.hid hT
  clear hos hT
  obtain ⟨a0, Ha0⟩ : ∃ a, Hid (sl % 64 = a) := ⟨_, Lib.hid rfl⟩
  have ha0 : a0 < 64 := by rw [← Ha0.out]; exact Nat.mod_lt _ (by omega)
  have hr3 : Int.tmod (sl : Int) 64 = (a0 : Int) := by rw [← Ha0.out]; rfl
  have hr4 : (sl : Int) % 64 = (a0 : Int) := by rw [← Ha0.out]; rfl
  obtain ⟨b0, Hb0⟩ : ∃ b, Hid (wd % 1000 = b) := ⟨_, Lib.hid rfl⟩
  have hb0 : b0 < 1000 := by rw [← Hb0.out]; exact Nat.mod_lt _ (by omega)
  have hr5 : Int.tmod (wd : Int) 1000 = (b0 : Int) := by rw [← Hb0.out]; rfl
  have hr6 : (wd : Int) % 1000 = (b0 : Int) := by rw [← Hb0.out]; rfl
  have KN0 := WSt.new_ K (2 + a0) (1 + b0) 12 w w (Below.refl _ _) (by omega) (by omega) (by omega) (by omega) (by omega) (by omega)
  obtain ⟨n, Hn⟩ : ∃ n, Hid (2 + a0 = n) := ⟨_, Lib.hid rfl⟩
  obtain ⟨wn, Hwn⟩ : ∃ n, Hid (1 + b0 = n) := ⟨_, Lib.hid rfl⟩
  rw [Hn.out, Hwn.out] at KN0
  have KN := Lib.hid KN0
  clear KN0
  have hn2 : 2 ≤ n ∧ n ≤ 65 := by have := Hn.out; omega
  have hwn1 : 1 ≤ wn ∧ wn ≤ 1000 := by have := Hwn.out; omega
  have hna : (2 : Int) + (a0 : Int) = (n : Int) := by have := Hn.out; omega
  have hwb : (1 : Int) + (b0 : Int) = (wn : Int) := by have := Hwn.out; omega
  clear Ha0 Hb0
  go_enter Tryd.func6, Tryd.ntmps6
  go_upto_region 4 with (go_at_call 9; refine KN.out.mono ?_; rintro e W1 ⟨a, rfl, S1⟩)
  clear KN
  obtain ⟨m, Hm⟩ : ∃ m, Hid (min len 80 = m) := ⟨_, Lib.hid rfl⟩
  have hm1 : m ≤ len := by have := Hm.out; omega
  have hm2 : m ≤ 80 := by have := Hm.out; omega
  go_upto_region 5 with fail
  go_cut [38, 39, 40] (fun v38 v39 v40 wx => v38 = .slice A m cap ∧ v39 = .int .i64 (m : Int) ∧ v40 = .int .i64 0 ∧ wx = W1)
  case first =>
    by_cases h80 : 80 < len
    · have h80z : (80 : Int) < (len : Int) := by omega
      obtain rfl : m = 80 := by have := Hm.out; omega
      go_wp2_with fail
      go_meet
      exact ⟨rfl, rfl, rfl, rfl⟩
    · have h80z : ¬ (80 : Int) < (len : Int) := by omega
      obtain rfl : m = len := by have := Hm.out; omega
      go_wp2_with fail
      go_meet
      exact ⟨rfl, rfl, rfl, rfl⟩
  case rest =>
    obtain ⟨rfl, rfl, rfl, rfl⟩ := hcut
    clear Hm
    go_wp2_with fail
    go_loopg [9, 10, 11, 40] m (fun s v9 v10 v11 v40 wx => ∃ (i pt tk cu : Nat) (g : Wg), i + s = m ∧ v9 = .int .i64 (pt : Int) ∧ v10 = .int .i64 (tk : Int) ∧ v11 = .int .u64 (cu : Int) ∧ v40 = .int .i64 (i : Int) ∧ pt = tk + (g.l.length + g.due.length) ∧ pt ≤ i ∧ cu ≤ g.cur ∧ Hid (g.room = 12 ∧ g.slots = n ∧ g.width = wn ∧ g.n ≤ i) ∧ Hid (WSt K w wx a g))
    case atStart => exact ⟨0, 0, 0, 0, _, by omega, rfl, rfl, rfl, rfl, rfl, by omega, Nat.le_refl _, Lib.hid ⟨rfl, rfl, rfl, Nat.le_refl _⟩, S1⟩
    case round =>
      obtain ⟨i, pt, tk, cu, g, his, rfl, rfl, rfl, rfl, hpt, hpi, hcu, HG, HS⟩ := hrel
      clear S1
      by_cases hin : i = m
      · have hiz : ¬ (i : Int) < (m : Int) := by omega
        have HAw := Lib.hid (HA.out wr (HT.out.below HS.out.lo))
        go_wp2_with fail
        refine HAw.out.mono ?_
        rintro e w9 ⟨rfl, b9⟩
        have HB9 := Lib.hid (below_tr HS.out.lo b9)
        clear b9
        go_wp2_with fail
        go_ret
        exact ⟨rfl, HB9.out⟩
      · have hiz : (i : Int) < (m : Int) := by omega
        obtain ⟨o, ho⟩ : ∃ o, os[i]? = some o := ⟨_, List.getElem?_eq_getElem (by rw [HOs.out.len]; omega)⟩
        have hof := HOs.out.fits o (List.mem_of_getElem? ho)
        obtain ⟨ad, had, hc⟩ := HOs.out.at_ i o ho
        subst had
        obtain ⟨o0, o1, o2⟩ := hc wr HS.out.lo
        have HOF := Lib.hid hof
        obtain ⟨W5, HW5⟩ : ∃ W5, Hid (wr.alloc (.cells #[.int .u8 (o.kind : Int), .int .u64 (o.v : Int), .int .u64 (o.at_ : Int)] 36) = W5) := ⟨_, Lib.hid rfl⟩
        obtain ⟨ob, HOB⟩ : ∃ ob, Hid (wr.heap.size = ob) := ⟨_, Lib.hid rfl⟩
        have HS5 := Lib.hid (HS.out.below (W' := W5) (by rw [← HW5.out]; exact (Below.refl _ _).alloc (Nat.le_refl _) _))
        have bx : Box W5 ob 36 #[.int .u8 (o.kind : Int), .int .u64 (o.v : Int), .int .u64 (o.at_ : Int)] := by rw [← HW5.out, ← HOB.out]; exact Box.new _ _ _
        clear hc ho hof HS
        go_upto_region 8 with fail
        rw [HW5.out, HOB.out]
        have c0 := bx.cell 0
        have c1 := bx.cell 1
        have c2 := bx.cell 2
        clear o0 o1 o2 bx HW5 HOB
        have hwi : IntKind.i64.wrap ((i : Int) + 1) = ((i + 1 : Nat) : Int) := by rw [IntKind.wrap_i64]; omega
        have hpt80 : pt ≤ 80 := by omega
        go_upto_block 2 with fail
        go_cut [9, 10] (fun v9 v10 wx => ∃ (pt' tk' : Nat) (g' : Wg), v9 = .int .i64 (pt' : Int) ∧ v10 = .int .i64 (tk' : Int) ∧ pt' = tk' + (g'.l.length + g'.due.length) ∧ pt' ≤ i + 1 ∧ cu ≤ g'.cur ∧ Hid (g'.room = 12 ∧ g'.slots = n ∧ g'.width = wn ∧ g'.n ≤ i + 1) ∧ Hid (WSt K w wx a g'))
        case first =>
          have hhi := HS5.out.ok.full
          have hroom := HG.out.1
          obtain ⟨kd, v, tt⟩ := o
          obtain ⟨hof1, hof2, hof3⟩ := HOF.out
          simp only at hof1 hof2 hof3 c0 c1 c2
          have HF2 := Lib.hid hof2
          have HF3 := Lib.hid hof3
          obtain ⟨q, Hq⟩ : ∃ q, Hid (g.l.length + g.due.length = q) := ⟨_, Lib.hid rfl⟩
          rw [Hq.out] at hpt hhi
          rw [hroom] at hhi
          have Hpt := Lib.hid hpt
          have hpq : q ≤ pt ∧ tk ≤ pt := by omega
          clear hof2 hof3 hroom hpt
          by_cases h1 : kd = 1
          · subst h1
            have hs := slotW_lt (t := tt) HS5.out.ok.w1 HF3.out
            have KP := Lib.hid (HS5.out.put (by have := HG.out.2.2.2; omega) v tt HF2.out HF3.out hs)
            have hqd : IntKind.i64.wrap ((pt : Int) - (tk : Int)) = (q : Int) := by have := Hpt.out; rw [IntKind.wrap_i64]; omega
            have hwp : IntKind.i64.wrap ((pt : Int) + 1) = ((pt + 1 : Nat) : Int) := by rw [IntKind.wrap_i64]; omega
            clear hs
            by_cases hq : q < 12
            · have hqz : ¬ (12 : Int) ≤ (q : Int) := by omega
              have hE : g.putE = 0 := by unfold Wg.putE; rw [if_pos (by rw [Hq.out, HG.out.1]; exact hq)]
              have hP : g.put v (slotW tt g.width) = { g with l := g.l ++ [⟨v, slotW tt g.width, standW g.slots g.cur (slotW tt g.width)⟩], n := g.n + 1 } := by unfold Wg.put; rw [if_pos (by rw [Hq.out, HG.out.1]; exact hq)]
              rw [hE, hP] at KP
              clear hE hP
              go_wp2_with (go_at_call 12; refine KP.out.mono ?_; rintro e W6 ⟨rfl, S6⟩; clear c0 c1 c2 KP)
              go_meet
              exact ⟨pt + 1, tk, { g with l := g.l ++ [⟨v, slotW tt g.width, standW g.slots g.cur (slotW tt g.width)⟩], n := g.n + 1 }, by simp, rfl, by have := Hq.out; have := Hpt.out; simp only [List.length_append, List.length_cons, List.length_nil]; omega, by omega, hcu, Lib.hid ⟨HG.out.1, HG.out.2.1, HG.out.2.2.1, Nat.succ_le_succ HG.out.2.2.2⟩, S6⟩
            · have hqz : (12 : Int) ≤ (q : Int) := by omega
              have hE : g.putE = 4 := by unfold Wg.putE; rw [if_neg (by rw [Hq.out, HG.out.1]; exact hq)]
              have hP : g.put v (slotW tt g.width) = g := by unfold Wg.put; rw [if_neg (by rw [Hq.out, HG.out.1]; exact hq)]
              rw [hE, hP] at KP
              clear hE hP
              go_wp2_with (go_at_call 12; refine KP.out.mono ?_; rintro e W6 ⟨rfl, S6⟩; clear c0 c1 c2 KP)
              go_meet
              exact ⟨pt, tk, g, rfl, rfl, by have := Hq.out; have := Hpt.out; omega, by omega, hcu, Lib.hid ⟨HG.out.1, HG.out.2.1, HG.out.2.2.1, Nat.le_succ_of_le HG.out.2.2.2⟩, S6⟩
          · by_cases h2 : kd = 2
            · subst h2
              have KP := Lib.hid (HS5.out.advance HT.out tt HF3.out)
              have hadv : (g.adv tt).l.length + (g.adv tt).due.length = q := by
                have h9 := ripe_rest g tt
                show (g.rest tt).length + (g.due ++ (sortT (g.ripe tt)).map Th.v).length = q
                rw [List.length_append, List.length_map, sortT_len]
                have := Hq.out
                omega
              have hcu2 : cu ≤ (g.adv tt).cur := Nat.le_trans hcu (Nat.le_max_left _ _)
              have HAd := Lib.hid (And.intro hadv hcu2)
              clear hadv hcu2
              go_wp2_with (go_at_call 14; refine KP.out.mono ?_; rintro e W6 ⟨rfl, S6⟩; clear c0 c1 c2 KP)
              go_meet
              exact ⟨pt, tk, g.adv tt, rfl, rfl, by rw [HAd.out.1]; exact Hpt.out, by omega, HAd.out.2, Lib.hid ⟨HG.out.1, HG.out.2.1, HG.out.2.2.1, Nat.le_succ_of_le HG.out.2.2.2⟩, S6⟩
            · by_cases h3 : kd = 3
              · subst h3
                have KP := Lib.hid HS5.out.take
                have hwt : IntKind.i64.wrap ((tk : Int) + 1) = ((tk + 1 : Nat) : Int) := by rw [IntKind.wrap_i64]; omega
                cases hd : g.due with
                | nil =>
                  rw [hd] at KP
                  simp only [List.isEmpty_nil, Bool.not_true] at KP
                  have HD := Lib.hid hd
                  clear hd
                  go_wp2_with (go_at_call 16; refine KP.out.mono ?_; rintro e W6 ⟨rfl, S6⟩; clear c0 c1 c2 KP)
                  go_meet
                  exact ⟨pt, tk, g.took, rfl, rfl, by have h9 := Hq.out; have h8 := Hpt.out; rw [HD.out] at h9; simp only [Wg.took, HD.out, List.tail_nil]; omega, by omega, hcu, Lib.hid ⟨HG.out.1, HG.out.2.1, HG.out.2.2.1, Nat.le_succ_of_le HG.out.2.2.2⟩, S6⟩
                | cons d ds =>
                  rw [hd] at KP
                  simp only [List.isEmpty_cons, Bool.not_false] at KP
                  have HD := Lib.hid hd
                  clear hd
                  go_wp2_with (go_at_call 16; refine KP.out.mono ?_; rintro e W6 ⟨rfl, S6⟩; clear c0 c1 c2 KP)
                  go_meet
                  exact ⟨pt, tk + 1, g.took, rfl, by simp, by have h9 := Hq.out; have h8 := Hpt.out; rw [HD.out] at h9; simp only [List.length_cons] at h9; simp only [Wg.took, HD.out, List.tail_cons]; omega, by omega, hcu, Lib.hid ⟨HG.out.1, HG.out.2.1, HG.out.2.2.1, Nat.le_succ_of_le HG.out.2.2.2⟩, S6⟩
              · have h1z : ((kd : Int) == 1) = false := by rw [beq_eq_false_iff_ne]; omega
                have h2z : ((kd : Int) == 2) = false := by rw [beq_eq_false_iff_ne]; omega
                have h3z : ((kd : Int) == 3) = false := by rw [beq_eq_false_iff_ne]; omega
                have h1n : ¬ (kd : Int) = 1 := by omega
                have h2n : ¬ (kd : Int) = 2 := by omega
                have h3n : ¬ (kd : Int) = 3 := by omega
                go_wp2_with fail
                go_meet
                exact ⟨pt, tk, g, rfl, rfl, by have := Hq.out; have := Hpt.out; omega, by omega, hcu, Lib.hid ⟨HG.out.1, HG.out.2.1, HG.out.2.2.1, Nat.le_succ_of_le HG.out.2.2.2⟩, HS5⟩
        case rest =>
          obtain ⟨pt', tk', g', rfl, rfl, hpt', hpi', hcu', HG', S7⟩ := hcut
          have Hpt0 := Lib.hid hpt'
          clear hpt'
          clear HS5 c0 c1 c2 HG hpi hcu hpt80 hpt
          have KH := Lib.hid (S7.out.held HG'.out.2.1)
          have hlen := held_len g'
          rw [HG'.out.2.1] at hlen
          have HLen := Lib.hid hlen
          have HSum := Lib.hid (held_sum S7.out.ok)
          clear hlen
          go_wp2_with (go_at_call 24; refine KH.out.mono ?_; rintro e W8 ⟨ph, ch, rfl, H8⟩; clear KH)
          obtain ⟨nl, HNl⟩ : ∃ nl, Hid (g'.l.length = nl) := ⟨_, Lib.hid rfl⟩
          obtain ⟨nd, HNd⟩ : ∃ nd, Hid (g'.due.length = nd) := ⟨_, Lib.hid rfl⟩
          have hfull := H8.out.2.ok.full
          rw [HG'.out.1, HNl.out, HNd.out] at hfull
          have hpt' := Hpt0.out
          clear Hpt0
          rw [HNl.out, HNd.out] at hpt'
          have Hpt' := Lib.hid hpt'
          have hq1 : tk' ≤ pt' := by omega
          have HS9 := Lib.hid H8.out.2
          have HRow := Lib.hid H8.out.1
          obtain ⟨hl, HH⟩ : ∃ hl, Hid (g'.held = hl) := ⟨_, Lib.hid rfl⟩
          rw [HH.out] at HRow HLen HSum
          rw [HNl.out] at HSum
          clear H8 S7 hpt'
          go_loopg [17, 92] n (fun s v17 v92 wx => ∃ (j sm : Nat), j + s = n ∧ v17 = .int .i64 (sm : Int) ∧ v92 = .int .i64 (j : Int) ∧ Hid ((hl.take j).sum = sm) ∧ wx = W8)
          case atStart => exact ⟨0, 0, by omega, rfl, rfl, Lib.hid rfl, rfl⟩
          case round =>
            obtain ⟨j, sm, hjs, rfl, rfl, HSm, rfl⟩ := hrel
            by_cases hje : j = n
            · have hjz : ¬ (j : Int) < (n : Int) := by omega
              have hsm : sm = nl := by rw [← HSm.out, List.take_of_length_le (by rw [HLen.out]; omega)]; exact HSum.out
              subst hsm
              have K1 := Lib.hid HS9.out.waits
              rw [HNl.out] at K1
              have hws : IntKind.i64.wrap ((sm : Int) + (nd : Int)) = ((sm + nd : Nat) : Int) := by rw [IntKind.wrap_i64]; omega
              have hwd : IntKind.i64.wrap ((pt' : Int) - (tk' : Int)) = ((sm + nd : Nat) : Int) := by have := Hpt'.out; rw [IntKind.wrap_i64]; omega
              have hcz : ¬ (g'.cur : Int) < (cu : Int) := by omega
              go_wp2_with fail
              refine K1.out.mono ?_
              rintro e V1 ⟨rfl, T1⟩
              have K2 := Lib.hid T1.out.waits
              rw [HNl.out] at K2
              clear K1 HS9 HRow
              go_wp2_with fail
              refine K2.out.mono ?_
              rintro e V2 ⟨rfl, T2⟩
              have K3 := Lib.hid T2.out.due
              rw [HNd.out] at K3
              clear K2 T1
              go_wp2_with fail
              refine K3.out.mono ?_
              rintro e V3 ⟨rfl, T3⟩
              have K4 := Lib.hid T3.out.cursor
              clear K3 T2
              go_wp2_with fail
              refine K4.out.mono ?_
              rintro e V4 ⟨rfl, T4⟩
              have K5 := Lib.hid (T4.out.held HG'.out.2.1)
              clear K4 T3
              go_wp2_with fail
              refine K5.out.mono ?_
              rintro e V5 ⟨p5, c5, rfl, T5⟩
              have T6 := Lib.hid T5.out.2
              have K6 := Lib.hid T6.out.cursor
              clear K5 T4 T5
              go_wp2_with fail
              refine K6.out.mono ?_
              rintro e V6 ⟨rfl, T7⟩
              clear K6 T6
              go_wp2_with fail
              go_roundg (m - (i + 1))
              case measure => omega
              case rel => exact ⟨i + 1, pt', tk', g'.cur, g', by omega, rfl, rfl, rfl, by go_num, by rw [HNl.out, HNd.out]; exact Hpt'.out, hpi', Nat.le_refl _, HG', T7⟩
            · have hjz : (j : Int) < (n : Int) := by omega
              have hjl : j < hl.length := by rw [HLen.out]; omega
              obtain ⟨gh, hgh, hch⟩ := nat_cell HRow.out HLen.out hjl
              subst hgh
              have hsc := sum_take_succ hjl
              have hsl := sum_take_le hl (j + 1)
              rw [HSum.out] at hsl
              rw [hsc, HSm.out] at hsl
              have HSm2 : Hid ((hl.take (j + 1)).sum = sm + hl[j]) := Lib.hid (by rw [hsc, HSm.out])
              obtain ⟨x, HX⟩ : ∃ x, Hid (hl[j] = x) := ⟨_, Lib.hid rfl⟩
              rw [HX.out] at hch hsl HSm2
              have hwx : IntKind.i64.wrap ((sm : Int) + (x : Int)) = ((sm + x : Nat) : Int) := by rw [IntKind.wrap_i64]; omega
              have hwj : IntKind.i64.wrap ((j : Int) + 1) = ((j + 1 : Nat) : Int) := by rw [IntKind.wrap_i64]; omega
              clear hsc
              go_wp2_with fail
              go_roundg (n - (j + 1))
              case measure => omega
              case rel => exact ⟨j + 1, sm + x, by omega, by simp, by go_num, HSm2, rfl⟩

end Go.Proofs.YtmaofmbnlfggiaaDoor
