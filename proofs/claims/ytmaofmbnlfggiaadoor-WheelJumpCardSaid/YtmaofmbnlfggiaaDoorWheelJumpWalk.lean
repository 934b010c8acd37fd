/-
  WheelJump, of the program's own wheel.
-/
import Derived.Test.YtmaofmbnlfggiaaDoorWheelNextWalk
import Derived.Test.YtmaofmbnlfggiaaDoorWheelJumpFacts
import Derived.Test.YtmaofmbnlfggiaaDoorWheelTwo
namespace Go.Proofs.YtmaofmbnlfggiaaDoor
open Go.RowKit
set_option linter.unusedVariables false
set_option linter.unusedSimpArgs false

set_option maxHeartbeats 8000000 in
set_option maxRecDepth 100000 in
/-- made, whatever New answers. -/
theorem made_as (P : Addr → World → Prop) (sl wd n wn : Nat) (hsl : sl < 256) (hwd : wd < 65536) (Hn : Hid (2 + sl % 64 = n)) (Hwn : Hid (1 + wd % 1000 = wn)) (w : World)
    (KN : Hid (Calls Tryd.prog 9 #[.int .i64 (n : Int), .int .u64 (wn : Int), .int .i64 200] w fun e W' => ∃ b, e = .returned (.tuple #[.pointer (some b), .int .i64 0]) ∧ Hid (P b W'))) :
    Calls Tryd.prog 26 #[.int .u8 (sl : Int), .int .u16 (wd : Int)] w fun e W' => ∃ b, e = .returned (.tuple #[.pointer (some b), .int .u64 (wn : Int), .bool true]) ∧ Hid (P b W') := by
  obtain ⟨a0, Ha0⟩ : ∃ a, Hid (sl % 64 = a) := ⟨_, Lib.hid rfl⟩
  have ha0 : a0 < 64 := by rw [← Ha0.out]; exact Nat.mod_lt _ (by omega)
  have hr3 : Int.tmod (sl : Int) 64 = (a0 : Int) := by rw [← Ha0.out]; rfl
  have hr4 : (sl : Int) % 64 = (a0 : Int) := by rw [← Ha0.out]; rfl
  obtain ⟨b0, Hb0⟩ : ∃ b, Hid (wd % 1000 = b) := ⟨_, Lib.hid rfl⟩
  have hb0 : b0 < 1000 := by rw [← Hb0.out]; exact Nat.mod_lt _ (by omega)
  have hr5 : Int.tmod (wd : Int) 1000 = (b0 : Int) := by rw [← Hb0.out]; rfl
  have hr6 : (wd : Int) % 1000 = (b0 : Int) := by rw [← Hb0.out]; rfl
  have hna : (2 : Int) + (a0 : Int) = (n : Int) := by have := Hn.out; have := Ha0.out; omega
  have hwb : (1 : Int) + (b0 : Int) = (wn : Int) := by have := Hwn.out; have := Hb0.out; omega
  have hn2 : 2 ≤ n ∧ n ≤ 65 := by omega
  have hwn1 : 1 ≤ wn ∧ wn ≤ 1000 := by omega
  clear Ha0 Hb0
  go_enter Tryd.func26, Tryd.ntmps26
  go_wp2_with (go_at_call 9; refine KN.out.mono ?_; rintro e W1 ⟨b, rfl, S1⟩)
  go_ret3
  exact ⟨b, rfl, S1⟩

theorem u64_cell9 {w : World} {A : Option Addr} {len cap : Nat} {rows : List (List Value)} (h : RowOf [some .u64] w A len cap rows) {j : Nat} (hj : j < len) :
    ∃ (a : Addr) (x : Nat), A = some a ∧ x < 18446744073709551616 ∧ ∀ W, Below w.heap.size w W → W.cell? (a.add j) = some (.int .u64 (x : Int)) := by
  obtain ⟨h1, _, h3⟩ := h
  obtain ⟨hf, a, rfl, hc⟩ := h3 j (by omega)
  obtain ⟨v, e⟩ : ∃ v, rows[j] = [v] := by
    have := hf.length
    match hr : rows[j], this with
    | [v], _ => exact ⟨v, rfl⟩
  rw [e] at hf hc
  obtain ⟨⟨n0, rfl, w0⟩, _⟩ := hf
  obtain ⟨x, rfl, hx⟩ := nat_u64 w0
  have c0 := hc 0 _ rfl
  refine ⟨a, x, rfl, hx, fun W b => ?_⟩
  have c1 : w.cell? (a.add j) = some (.int .u64 (x : Int)) := by simpa using c0
  exact (b.cell (World.block_lt_of_cell? w _ c1)).trans c1

set_option maxHeartbeats 8000000 in
set_option maxRecDepth 100000 in
/-- Below w.heap.size w w' -/
theorem wheelJump_walk (a0 : Int) (a1 : Int) (a2 : Option Addr) (len2 cap2 : Nat) (z2 : List (List Value)) (a3 : Option Addr) (len3 cap3 : Nat) (z3 : List (List Value)) (w : World) (w0 : (Lit.int .u8 a0).wf = true) (w1 : (Lit.int .u16 a1).wf = true) (w2 : RowOf [some .u64] w a2 len2 cap2 z2) (w3 : RowOf [some .u64] w a3 len3 cap3 z3) (hT : Tab w) :
    Calls Tryd.prog 5 #[.int .u8 a0, .int .u16 a1, .slice a2 len2 cap2, .slice a3 len3 cap3] w fun e w' => e = .returned (.bool true) ∧ Below w.heap.size w w' := by
  obtain ⟨sl, rfl, hsl⟩ := nat_u8 w0
  obtain ⟨wd, rfl, hwd⟩ := nat_16 w1
  clear w0 w1
  have hf2 := row_fit w2
  have hf3 := row_fit w3
  have HR2 := Lib.hid w2
  have HR3 := Lib.hid w3
  have HT := Lib.hid hT
  have HA := Lib.hid awake9
  clear w2 w3 hT
  obtain ⟨n, Hn⟩ : ∃ n, Hid (2 + sl % 64 = n) := ⟨_, Lib.hid rfl⟩
  obtain ⟨wn, Hwn⟩ : ∃ n, Hid (1 + wd % 1000 = n) := ⟨_, Lib.hid rfl⟩
  have hn2 : 2 ≤ n ∧ n ≤ 65 := by have := Hn.out; omega
  have hwn1 : 1 ≤ wn ∧ wn ≤ 1000 := by have := Hwn.out; omega
  have KM := Lib.hid (made_as (fun b W' => WSt wheelK w W' b ⟨n, wn, 200, 0, [], [], 0⟩) sl wd n wn hsl hwd Hn Hwn w (Lib.hid (WSt.new_ wheelK n wn 200 w w (Below.refl _ _) (by omega) (by omega) (by omega) (by omega) (by omega) (by omega))))
  obtain ⟨m, Hm⟩ : ∃ m, Hid (min len2 40 = m) := ⟨_, Lib.hid rfl⟩
  have hm1 : m ≤ len2 := by have := Hm.out; omega
  have hm2 : m ≤ 40 := by have := Hm.out; omega
  obtain ⟨k3, Hk3⟩ : ∃ m, Hid (min len3 40 = m) := ⟨_, Lib.hid rfl⟩
  have hk1 : k3 ≤ len3 := by have := Hk3.out; omega
  have hk2 : k3 ≤ 40 := by have := Hk3.out; omega
  go_enter Tryd.func5, Tryd.ntmps5
  go_upto_region 2 with (go_at_call 26; refine KM.out.mono ?_; rintro e W1 ⟨a, rfl, S1⟩; clear KM)
  have KM2 := Lib.hid (made_as (fun b W' => WTwo wheelK w W' a b ⟨n, wn, 200, 0, [], [], 0⟩ ⟨n, wn, 200, 0, [], [], 0⟩) sl wd n wn hsl hwd Hn Hwn W1 (Lib.hid (WTwo.new_ S1.out n wn 200 (by omega) (by omega) (by omega) (by omega) (by omega) (by omega))))
  go_upto_region 5 with (go_at_call 26; refine KM2.out.mono ?_; rintro e W2 ⟨b, rfl, S2⟩; clear KM2)
  go_cut [48, 49, 50] (fun v48 v49 v50 wx => v48 = .slice a2 m cap2 ∧ v49 = .int .i64 (m : Int) ∧ v50 = .int .i64 0 ∧ W2 = wx)
  case first =>
    by_cases h40 : 40 < len2
    · have h40z : (40 : Int) < (len2 : Int) := by omega
      obtain rfl : m = 40 := by have := Hm.out; omega
      go_wp2_with fail
      go_meet
      exact ⟨by first | rfl | rw [show (min (len2 : Int) 40).toNat = 40 by omega], congrArg (Value.int .i64) (by omega), rfl, rfl⟩
    · have h40z : ¬ (40 : Int) < (len2 : Int) := by omega
      obtain rfl : m = len2 := by have := Hm.out; omega
      go_wp2_with fail
      go_meet
      exact ⟨by first | rfl | rw [show (min (m : Int) 40).toNat = m by omega], congrArg (Value.int .i64) (by omega), rfl, rfl⟩
  case rest =>
  obtain ⟨rfl, rfl, rfl, rfl⟩ := hcut
  clear Hm
  go_wp2_with fail
  go_loopg [50] m (fun k v50 wx => ∃ (i : Nat) (g : Wg), i + k = m ∧ v50 = .int .i64 (i : Int) ∧ Hid (g.cur = 0 ∧ g.due = [] ∧ g.l.length = i ∧ g.width = wn ∧ g.room = 200 ∧ g.n ≤ i) ∧ Hid (WTwo wheelK w wx a b g g))
  case atStart => exact ⟨0, _, by omega, rfl, Lib.hid ⟨rfl, rfl, rfl, rfl, rfl, Nat.le_refl _⟩, S2⟩
  case round =>
  clear S1 S2
  obtain ⟨i, g, hik, rfl, HG, HS⟩ := hrel
  by_cases hin : i = m
  · subst hin
    have hiz : ¬ (i : Int) < (i : Int) := by omega
    clear hik
    go_upto_region 12 with fail
    go_cut [74, 75, 76] (fun v74 v75 v76 wx => v74 = .slice a3 k3 cap3 ∧ v75 = .int .i64 (k3 : Int) ∧ v76 = .int .i64 0 ∧ wr = wx)
    case first =>
      by_cases h40 : 40 < len3
      · have h40z : (40 : Int) < (len3 : Int) := by omega
        obtain rfl : k3 = 40 := by have := Hk3.out; omega
        go_wp2_with fail
        go_meet
        exact ⟨by first | rfl | rw [show (min (len3 : Int) 40).toNat = 40 by omega], congrArg (Value.int .i64) (by omega), rfl, rfl⟩
      · have h40z : ¬ (40 : Int) < (len3 : Int) := by omega
        obtain rfl : k3 = len3 := by have := Hk3.out; omega
        go_wp2_with fail
        go_meet
        exact ⟨by first | rfl | rw [show (min (k3 : Int) 40).toNat = k3 by omega], congrArg (Value.int .i64) (by omega), rfl, rfl⟩
    case rest =>
    obtain ⟨rfl, rfl, rfl, rfl⟩ := hcut
    clear Hk3
    go_wp2_with fail
    go_loopg [17, 76] k3 (fun k v17 v76 wx => ∃ (j ls : Nat) (h : Wg), j + k = k3 ∧ v17 = .int .u64 (ls : Int) ∧ v76 = .int .i64 (j : Int) ∧ ls < 18446744073709551616 ∧ Hid ((h = g ∧ ls = 0) ∨ Steps g h (ls / g.width)) ∧ Hid (WTwo wheelK w wx a b g h))
    case atStart => exact ⟨0, 0, g, by omega, rfl, rfl, by omega, Lib.hid (.inl ⟨rfl, rfl⟩), HS⟩
    case round =>
    clear HS
    obtain ⟨j, ls, h, hjk, rfl, rfl, hls, HSt, HS⟩ := hrel
    by_cases hjn : j = k3
    · have hjz : ¬ (j : Int) < (k3 : Int) := by omega
      have K1 := Lib.hid (HS.out.advance HT.out ls hls)
      have Hsame : Hid ((g.adv ls).due = (h.adv ls).due ∧ (g.adv ls).l.length = (h.adv ls).l.length ∧ (g.adv ls).cur = (h.adv ls).cur) := by
        have f1 := steps_first HG.out.1 HG.out.2.1 ls
        rcases HSt.out with ⟨rfl, _⟩ | st
        · exact Lib.hid ⟨rfl, rfl, rfl⟩
        · have f2 := steps_adv st ls
          rw [Nat.max_self] at f2
          exact Lib.hid (steps_same f1 f2)
      obtain ⟨g', Hg'⟩ : ∃ g', Hid (g.adv ls = g') := ⟨_, Lib.hid rfl⟩
      obtain ⟨h', Hh'⟩ : ∃ h', Hid (h.adv ls = h') := ⟨_, Lib.hid rfl⟩
      rw [Hg'.out, Hh'.out] at Hsame
      rw [Hg'.out] at K1
      obtain ⟨d, Hd⟩ : ∃ d, Hid (h'.due.length = d) := ⟨_, Lib.hid rfl⟩
      obtain ⟨q, Hq⟩ : ∃ d, Hid (h'.l.length = d) := ⟨_, Lib.hid rfl⟩
      obtain ⟨cu, Hcu⟩ : ∃ d, Hid (h'.cur = d) := ⟨_, Lib.hid rfl⟩
      clear HS HSt
      go_wp2_with fail
      refine K1.out.mono ?_
      rintro e V1 ⟨rfl, T1⟩
      have K2 := Lib.hid (T1.out.swap.advance HT.out ls hls)
      rw [Hh'.out] at K2
      clear K1 T1
      go_wp2_with fail
      refine K2.out.mono ?_
      rintro e V2 ⟨rfl, T2⟩
      have hd64 : d ≤ 65536 := by
        have f1 := T2.out.ok1.full
        have f2 := T2.out.ok1.r2
        rw [Hd.out] at f1
        omega
      have K3 := Lib.hid T2.out.swap.due
      rw [Hsame.out.1, Hd.out] at K3
      clear K2 T2
      go_wp2_with fail
      refine K3.out.mono ?_
      rintro e V3 ⟨rfl, T3⟩
      have K4 := Lib.hid T3.out.swap.due
      rw [Hd.out] at K4
      clear K3 T3
      go_wp2_with fail
      refine K4.out.mono ?_
      rintro e V4 ⟨rfl, T4⟩
      have K5 := Lib.hid T4.out.swap.waits
      rw [Hsame.out.2.1, Hq.out] at K5
      clear K4 T4
      go_wp2_with fail
      refine K5.out.mono ?_
      rintro e V5 ⟨rfl, T5⟩
      have K6 := Lib.hid T5.out.swap.waits
      rw [Hq.out] at K6
      clear K5 T5
      go_wp2_with fail
      refine K6.out.mono ?_
      rintro e V6 ⟨rfl, T6⟩
      have K7 := Lib.hid T6.out.swap.cursor
      rw [Hsame.out.2.2, Hcu.out] at K7
      clear K6 T6
      go_wp2_with fail
      refine K7.out.mono ?_
      rintro e V7 ⟨rfl, T7⟩
      have K8 := Lib.hid T7.out.swap.cursor
      rw [Hcu.out] at K8
      clear K7 T7
      go_wp2_with fail
      refine K8.out.mono ?_
      rintro e V8 ⟨rfl, T8⟩
      have K9 := Lib.hid T8.out.swap.due
      rw [Hsame.out.1, Hd.out] at K9
      clear K8 T8
      go_wp2_with fail
      refine K9.out.mono ?_
      rintro e V9 ⟨rfl, T9⟩
      clear K9
      go_wp2_with fail
      go_loopg [114] d (fun k v114 wx => ∃ (t : Nat) (g2 h2 : Wg), t + k = d ∧ v114 = .int .i64 (t : Int) ∧ Hid (g2.due = h2.due ∧ g2.due.length + t = d) ∧ Hid (WTwo wheelK w wx a b g2 h2))
      case atStart => exact ⟨0, g', h', by omega, rfl, Lib.hid ⟨Hsame.out.1, by rw [Hsame.out.1]; exact Hd.out⟩, T9⟩
      case round =>
      clear T9
      obtain ⟨t, g2, h2, htd, rfl, HD, HS⟩ := hrel
      by_cases htn : t = d
      · have htz : ¬ (t : Int) < (d : Int) := by omega
        have HAw := Lib.hid (HA.out wr (HT.out.below HS.out.lo))
        go_wp2_with (go_at_call 11; refine HAw.out.mono ?_; rintro e WB ⟨rfl, bB⟩)
        go_ret
        exact ⟨rfl, below_tr HS.out.lo bB⟩
      · have htz : (t : Int) < (d : Int) := by omega
        have hwt : IntKind.i64.wrap ((t : Int) + 1) = ((t + 1 : Nat) : Int) := by rw [IntKind.wrap_i64]; omega
        obtain ⟨x, ds, hx⟩ : ∃ x ds, g2.due = x :: ds := by
          cases e : g2.due with
          | nil => have h9 := HD.out.2; rw [e] at h9; simp at h9; omega
          | cons x ds => exact ⟨x, ds, rfl⟩
        have hx2 : h2.due = x :: ds := HD.out.1 ▸ hx
        have K1a := HS.out.take
        rw [hx] at K1a
        have K1 : Hid (Calls Tryd.prog 16 #[.pointer (some a)] wr fun e W' => e = .returned (.tuple #[.int .u64 (x : Int), .bool true]) ∧ Hid (WTwo wheelK w W' a b g2.took h2)) := Lib.hid K1a
        have HD2 : Hid (g2.took.due = h2.took.due ∧ g2.took.due.length + (t + 1) = d) := Lib.hid (by
          have h9 := HD.out.2
          rw [hx, List.length_cons] at h9
          show g2.due.tail = h2.due.tail ∧ g2.due.tail.length + (t + 1) = d
          rw [hx, hx2]
          exact ⟨rfl, by rw [List.tail_cons]; omega⟩)
        have HX2 := Lib.hid hx2
        clear K1a hx hx2 HS
        go_wp2_with fail
        refine K1.out.mono ?_
        rintro e Y1 ⟨rfl, T1⟩
        have K2a := T1.out.swap.take
        rw [HX2.out] at K2a
        have K2 : Hid (Calls Tryd.prog 16 #[.pointer (some b)] Y1 fun e W' => e = .returned (.tuple #[.int .u64 (x : Int), .bool true]) ∧ Hid (WTwo wheelK w W' b a h2.took g2.took)) := Lib.hid K2a
        clear K1 K2a T1
        go_wp2_with fail
        refine K2.out.mono ?_
        rintro e Y2 ⟨rfl, T2⟩
        have HE := Lib.hid T2.out.swap
        clear K2 T2
        go_wp2_with fail
        go_roundg (d - (t + 1))
        case measure => omega
        case rel => exact ⟨t + 1, _, _, by omega, by go_num, HD2, HE⟩
    · have hjz : (j : Int) < (k3 : Int) := by omega
      obtain ⟨ad, s, rfl, hs, HO⟩ := u64_cell9 HR3.out (show j < len3 by omega)
      have o0 := HO wr HS.out.lo
      have hwj : IntKind.i64.wrap ((j : Int) + 1) = ((j + 1 : Nat) : Int) := by rw [IntKind.wrap_i64]; omega
      have K1 := Lib.hid (HS.out.swap.advance HT.out s hs)
      obtain ⟨mx, Hmx⟩ : ∃ mx, Hid (max ls s = mx) := ⟨_, Lib.hid rfl⟩
      have hmx : mx < 18446744073709551616 := by have := Hmx.out; omega
      have HS2 : Hid ((h.adv s = g ∧ mx = 0) ∨ Steps g (h.adv s) (mx / g.width)) := by
        refine Lib.hid (.inr ?_)
        rw [← Hmx.out, max_div]
        rcases HSt.out with ⟨rfl, rfl⟩ | st
        · have h1 := steps_first HG.out.1 HG.out.2.1 s
          rw [Nat.zero_div, Nat.zero_max]
          exact h1
        · exact steps_adv st s
      clear HO HS HSt
      go_wp2_with (go_at_call 14; refine K1.out.mono ?_; rintro e W6 ⟨rfl, T6⟩)
      have HE := Lib.hid T6.out.swap
      go_roundg (k3 - (j + 1))
      case measure => omega
      case rel => exact ⟨j + 1, mx, _, by omega, congrArg (Value.int .u64) (by have := Hmx.out; omega), by go_num, hmx, HS2, HE⟩
  · have hiz : (i : Int) < (m : Int) := by omega
    have hi40 : i < 40 := by omega
    obtain ⟨ad, tt, rfl, htt, HO⟩ := u64_cell9 HR2.out (show i < len2 by omega)
    have o0 := HO wr HS.out.lo
    have hwi : IntKind.i64.wrap ((i : Int) + 1) = ((i + 1 : Nat) : Int) := by rw [IntKind.wrap_i64]; omega
    have hwu : IntKind.u64.wrap (i : Int) = (i : Int) := by rw [IntKind.wrap_u64]; omega
    have hs := slotW_lt (t := tt) HS.out.ok1.w1 htt
    have hrm : g.l.length + g.due.length < g.room := by rw [HG.out.2.1, HG.out.2.2.1, HG.out.2.2.2.2.1]; show i + 0 < 200; omega
    have hE : g.putE = 0 := by unfold Wg.putE; rw [if_pos hrm]
    have hP : g.put i (slotW tt g.width) = { g with l := g.l ++ [⟨i, slotW tt g.width, standW g.slots g.cur (slotW tt g.width)⟩], n := g.n + 1 } := by unfold Wg.put; rw [if_pos hrm]
    obtain ⟨g1, Hg1⟩ : ∃ g1, Hid (g.put i (slotW tt g.width) = g1) := ⟨_, Lib.hid rfl⟩
    have HG1 : Hid (g1.cur = 0 ∧ g1.due = [] ∧ g1.l.length = i + 1 ∧ g1.width = wn ∧ g1.room = 200 ∧ g1.n ≤ i + 1) := Lib.hid (by
      rw [← Hg1.out, hP]
      exact ⟨HG.out.1, HG.out.2.1, by simp [HG.out.2.2.1], HG.out.2.2.2.1, HG.out.2.2.2.2.1, Nat.succ_le_succ HG.out.2.2.2.2.2⟩)
    have K1 := Lib.hid (HS.out.put (by have := HG.out.2.2.2.2.2; omega) i tt (by omega) htt hs)
    rw [hE, Hg1.out] at K1
    have HE1 := Lib.hid hE
    have Hs := Lib.hid hs
    have hgn : g.n < 4294967296 := by have := HG.out.2.2.2.2.2; omega
    have HGn := Lib.hid hgn
    clear HO HS hP hrm hE hs hgn HG
    go_wp2_with fail
    refine K1.out.mono ?_
    rintro e W6 ⟨rfl, T6⟩
    have K2 := Lib.hid (T6.out.swap.put HGn.out i tt (by omega) htt Hs.out)
    rw [HE1.out, Hg1.out] at K2
    clear K1 T6
    go_wp2_with fail
    refine K2.out.mono ?_
    rintro e W7 ⟨rfl, T7⟩
    have HE := Lib.hid T7.out.swap
    clear K2 T7 o0
    go_wp2_with fail
    go_roundg (m - (i + 1))
    case measure => omega
    case rel => exact ⟨i + 1, g1, by omega, by go_num, HG1, HE⟩

end Go.Proofs.YtmaofmbnlfggiaaDoor
