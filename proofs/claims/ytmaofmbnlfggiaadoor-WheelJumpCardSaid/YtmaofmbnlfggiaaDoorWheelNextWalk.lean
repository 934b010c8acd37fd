/-
  WheelNext, of the program's own wheel.
-/
import Derived.Test.YtmaofmbnlfggiaaDoorWheelHeldWalk
import Derived.Test.YtmaofmbnlfggiaaDoorWheelNextFacts
namespace Go.Proofs.YtmaofmbnlfggiaaDoor
open Go.RowKit
set_option linter.unusedVariables false
set_option linter.unusedSimpArgs false

set_option maxHeartbeats 8000000 in
set_option maxRecDepth 100000 in
theorem made9 (sl wd : Nat) (hsl : sl < 256) (hwd : wd < 65536) (w : World) :
    Calls Tryd.prog 26 #[.int .u8 (sl : Int), .int .u16 (wd : Int)] w fun e W' => ∃ (a : Addr) (n wn : Nat), e = .returned (.tuple #[.pointer (some a), .int .u64 (wn : Int), .bool true]) ∧ (2 ≤ n ∧ n ≤ 65) ∧ (1 ≤ wn ∧ wn ≤ 1000) ∧ Hid (WSt wheelK w W' a ⟨n, wn, 200, 0, [], [], 0⟩) := by
  obtain ⟨a0, Ha0⟩ : ∃ a, Hid (sl % 64 = a) := ⟨_, Lib.hid rfl⟩
  have ha0 : a0 < 64 := by rw [← Ha0.out]; exact Nat.mod_lt _ (by omega)
  have hr3 : Int.tmod (sl : Int) 64 = (a0 : Int) := by rw [← Ha0.out]; rfl
  have hr4 : (sl : Int) % 64 = (a0 : Int) := by rw [← Ha0.out]; rfl
  obtain ⟨b0, Hb0⟩ : ∃ b, Hid (wd % 1000 = b) := ⟨_, Lib.hid rfl⟩
  have hb0 : b0 < 1000 := by rw [← Hb0.out]; exact Nat.mod_lt _ (by omega)
  have hr5 : Int.tmod (wd : Int) 1000 = (b0 : Int) := by rw [← Hb0.out]; rfl
  have hr6 : (wd : Int) % 1000 = (b0 : Int) := by rw [← Hb0.out]; rfl
  have KN0 := WSt.new_ wheelK (2 + a0) (1 + b0) 200 w w (Below.refl _ _) (by omega) (by omega) (by omega) (by omega) (by omega) (by omega)
  obtain ⟨n, Hn⟩ : ∃ n, Hid (2 + a0 = n) := ⟨_, Lib.hid rfl⟩
  obtain ⟨wn, Hwn⟩ : ∃ n, Hid (1 + b0 = n) := ⟨_, Lib.hid rfl⟩
  rw [Hn.out, Hwn.out] at KN0
  have KN := Lib.hid KN0
  clear KN0
  have hn2 : 2 ≤ n ∧ n ≤ 65 := by have := Hn.out; omega
  have hwn1 : 1 ≤ wn ∧ wn ≤ 1000 := by have := Hwn.out; omega
  have hna : (2 : Int) + (a0 : Int) = (n : Int) := by have := Hn.out; omega
  have hwb : (1 : Int) + (b0 : Int) = (wn : Int) := by have := Hwn.out; omega
  clear Ha0 Hb0
  go_enter Tryd.func26, Tryd.ntmps26
  go_wp2_with (go_at_call 9; refine KN.out.mono ?_; rintro e W1 ⟨a, rfl, S1⟩)
  go_ret3
  exact ⟨a, n, wn, rfl, hn2, hwn1, S1⟩
theorem put_same (g : Wg) (v s : Nat) : (g.put v s).slots = g.slots ∧ (g.put v s).width = g.width ∧ (g.put v s).n ≤ g.n + 1 := by
  unfold Wg.put
  split
  · exact ⟨rfl, rfl, Nat.le_refl _⟩
  · exact ⟨rfl, rfl, Nat.le_succ _⟩

set_option maxHeartbeats 8000000 in
set_option maxRecDepth 100000 in
/-- Below w.heap.size w w' -/
theorem wheelNext_walk (a0 : Int) (a1 : Int) (a2 : Option Addr) (len2 cap2 : Nat) (z2 : List (List Value)) (a3 : Int) (w : World) (w0 : (Lit.int .u8 a0).wf = true) (w1 : (Lit.int .u16 a1).wf = true) (w2 : RowOf [some .u8, some .u64, some .u64] w a2 len2 cap2 z2) (w3 : (Lit.int .u64 a3).wf = true) (hT : Tab w) :
    Calls Tryd.prog 7 #[.int .u8 a0, .int .u16 a1, .slice a2 len2 cap2, .int .u64 a3] w fun e w' => e = .returned (.bool true) ∧ Below w.heap.size w w' := by
  obtain ⟨sl, rfl, hsl⟩ := nat_u8 w0
  obtain ⟨wd, rfl, hwd⟩ := nat_16 w1
  obtain ⟨ls, rfl, hls⟩ := nat_u64 w3
  clear w0 w1 w3
  have hos := ops_of w2
  clear w2
  have hlo := hos.le
  have hco := hos.capLe
  have HOs := Lib.hid hos
  have HT := Lib.hid hT
  have KM := Lib.hid (made9 sl wd hsl hwd w)
  have HA := Lib.hid awake9
  clear hos hT
  obtain ⟨m, Hm⟩ : ∃ m, Hid (min len2 60 = m) := ⟨_, Lib.hid rfl⟩
  have hm1 : m ≤ len2 := by have := Hm.out; omega
  have hm2 : m ≤ 60 := by have := Hm.out; omega
  go_enter Tryd.func7, Tryd.ntmps7
  go_upto_region 4 with (go_at_call 26; refine KM.out.mono ?_; rintro e W1 ⟨a, n, wn, rfl, hn2, hwn1, S1⟩)
  clear KM
  go_cut [34, 35, 36] (fun v34 v35 v36 wx => v34 = .slice a2 m cap2 ∧ v35 = .int .i64 (m : Int) ∧ v36 = .int .i64 0 ∧ W1 = wx)
  case first =>
    by_cases h60 : 60 < len2
    · have h60z : (60 : Int) < (len2 : Int) := by omega
      obtain rfl : m = 60 := by have := Hm.out; omega
      go_wp2_with fail
      go_meet
      exact ⟨by rw [show (min (len2 : Int) 60).toNat = 60 by omega], congrArg (Value.int .i64) (by omega), rfl, rfl⟩
    · have h60z : ¬ (60 : Int) < (len2 : Int) := by omega
      obtain rfl : m = len2 := by have := Hm.out; omega
      go_wp2_with fail
      go_meet
      exact ⟨by rw [show (min (m : Int) 60).toNat = m by omega], congrArg (Value.int .i64) (by omega), rfl, rfl⟩
  case rest =>
    obtain ⟨rfl, rfl, rfl, rfl⟩ := hcut
    clear Hm
    go_wp2_with fail
    go_loopg [36] m (fun k v36 wx => ∃ (i : Nat) (g : Wg), i + k = m ∧ v36 = .int .i64 (i : Int) ∧ Hid (g.width = wn ∧ g.n ≤ i) ∧ Hid (WSt wheelK w wx a g))
    case atStart => exact ⟨0, _, by omega, rfl, Lib.hid ⟨rfl, Nat.le_refl _⟩, S1⟩
    case round =>
      clear S1
      obtain ⟨i, g, hik, rfl, HG, HS⟩ := hrel
      by_cases hin : i = m
      · have hiz : ¬ (i : Int) < (m : Int) := by omega
        have hok := HS.out.ok
        have KX := HS.out.next HT.out
        have HWn := Lib.hid HG.out.1
        have hw1 : 1 ≤ g.width := hok.w1
        cases hnx : g.next with
        | none =>
          have hl : g.l = [] := next_none.1 hnx
          have KX1 : Hid (Calls Tryd.prog 18 #[.pointer (some a)] wr fun e W' => e = .returned (.tuple #[.int .u64 0, .bool false]) ∧ Hid (WSt wheelK w W' a g)) := by
            have e : nextV g = .tuple #[.int .u64 0, .bool false] := by unfold nextV; rw [hnx]; rfl
            rw [e] at KX
            exact Lib.hid KX
          clear KX HS hnx
          go_upto_region 14 with (go_at_call 18; refine KX1.out.mono ?_; rintro e W2 ⟨rfl, S2⟩; clear KX1)
          have KW : Hid (Calls Tryd.prog 21 #[.pointer (some a)] W2 fun e W' => e = .returned (.int .i64 0) ∧ Hid (WSt wheelK w W' a g)) := by
            have h := S2.out.waits
            rw [hl] at h
            exact Lib.hid h
          clear hl S2
          go_upto_region 16 with (go_at_call 21; refine KW.out.mono ?_; rintro e W3 ⟨rfl, S3⟩; clear KW)
          have HAw := Lib.hid (HA.out W3 (HT.out.below S3.out.lo))
          go_wp2_with (go_at_call 11; refine HAw.out.mono ?_; rintro e W4 ⟨rfl, b4⟩)
          go_ret
          exact ⟨rfl, below_tr S3.out.lo b4⟩
        | some s =>
          obtain ⟨N, HN⟩ : ∃ N, Hid (beginW s g.width = N) := ⟨_, Lib.hid rfl⟩
          obtain ⟨q, Hq⟩ : ∃ q, Hid (g.l.length = q) := ⟨_, Lib.hid rfl⟩
          obtain ⟨cu, Hcu⟩ : ∃ q, Hid (g.cur = q) := ⟨_, Lib.hid rfl⟩
          have hq0 : 0 < q := by
            rw [← Hq.out]
            refine List.length_pos_iff.2 fun e => ?_
            rw [next_none.2 e] at hnx
            cases hnx
          have hN : N < 18446744073709551616 := by rw [← HN.out]; unfold beginW; omega
          have hcs : cu ≤ s := by
            obtain ⟨⟨x, hx, rfl⟩, _⟩ := next_of hnx
            rw [← Hcu.out]
            exact (hok.low x hx).1
          have hs64 : s < 18446744073709551616 := by
            obtain ⟨⟨x, hx, rfl⟩, _⟩ := next_of hnx
            have := (hok.low x hx).2
            unfold lastW at this
            omega
          have hcu64 : cu < 18446744073709551616 := by rw [← Hcu.out]; exact hok.cur
          have KX1 : Hid (Calls Tryd.prog 18 #[.pointer (some a)] wr fun e W' => e = .returned (.tuple #[.int .u64 (N : Int), .bool true]) ∧ Hid (WSt wheelK w W' a g)) := by
            have e : nextV g = .tuple #[.int .u64 (N : Int), .bool true] := by unfold nextV; rw [hnx, ← HN.out]; rfl
            rw [e] at KX
            exact Lib.hid KX
          have HNx := Lib.hid hnx
          have HOk := Lib.hid hok
          clear KX HS hnx hok
          go_upto_region 14 with (go_at_call 18; refine KX1.out.mono ?_; rintro e W2 ⟨rfl, S2⟩; clear KX1)
          have KW : Hid (Calls Tryd.prog 21 #[.pointer (some a)] W2 fun e W' => e = .returned (.int .i64 (q : Int)) ∧ Hid (WSt wheelK w W' a g)) := by
            have h := S2.out.waits
            rw [Hq.out] at h
            exact Lib.hid h
          have hq0z : (0 : Int) < (q : Int) := by omega
          clear S2
          go_upto_region 16 with (go_at_call 21; refine KW.out.mono ?_; rintro e W3 ⟨rfl, S3⟩; clear KW)
          by_cases hz0 : N = 0
          · have hz1 : ((N : Int) == 0) = true := by rw [beq_iff_eq]; omega
            have HAw := Lib.hid (HA.out W3 (HT.out.below S3.out.lo))
            clear hz0
            go_wp2_with (go_at_call 11; refine HAw.out.mono ?_; rintro e W4 ⟨rfl, b4⟩)
            go_ret
            exact ⟨rfl, below_tr S3.out.lo b4⟩
          by_cases hzm : N = 18446744073709551615
          · have hz1 : ((N : Int) == 0) = false := by rw [beq_eq_false_iff_ne]; omega
            have hz2 : ((N : Int) == 18446744073709551615) = true := by rw [beq_iff_eq]; omega
            have HAw := Lib.hid (HA.out W3 (HT.out.below S3.out.lo))
            clear hz0 hzm
            go_wp2_with (go_at_call 11; refine HAw.out.mono ?_; rintro e W4 ⟨rfl, b4⟩)
            go_ret
            exact ⟨rfl, below_tr S3.out.lo b4⟩
          have hz1 : ((N : Int) == 0) = false := by rw [beq_eq_false_iff_ne]; omega
          have hz2 : ((N : Int) == 18446744073709551615) = false := by rw [beq_eq_false_iff_ne]; omega
          have HNm : Hid (beginW s g.width ≠ 18446744073709551615) := Lib.hid (by rw [HN.out]; exact hzm)
          have hN0 : 0 < N := by omega
          obtain ⟨B, HB⟩ : ∃ B, Hid (beginW cu g.width = B) := ⟨_, Lib.hid rfl⟩
          have KB : Hid (∀ W, Calls Tryd.prog 28 #[.int .u64 (cu : Int), .int .u64 (wn : Int)] W fun e w' => e = .returned (.int .u64 (B : Int)) ∧ W = w') := Lib.hid fun W => by
            have h := span_begin (cu : Int) (wn : Int) W (by unfold Num.Word; omega) (by unfold Num.Word; omega)
            rw [begin_num hwn1.1, ← HWn.out, HB.out] at h
            rw [← HWn.out]
            exact h
          have KC : Hid (Calls Tryd.prog 22 #[.pointer (some a)] W3 fun e W' => e = .returned (.int .u64 (cu : Int)) ∧ Hid (WSt wheelK w W' a g)) := by
            have h := S3.out.cursor
            rw [Hcu.out] at h
            exact Lib.hid h
          obtain ⟨t, Ht⟩ : ∃ t, Hid (decide (B < N) = t) := ⟨_, Lib.hid rfl⟩
          clear hz0 hzm S3
          go_upto_region 19 with (first
            | (go_at_call 22; refine KC.out.mono ?_; rintro e W4 ⟨rfl, S4⟩)
            | (go_at_call 28; refine (KB.out _).mono ?_; rintro e W5 ⟨rfl, rfl⟩))
          clear KC KB
          go_cut [84] (fun v84 wx => v84 = .bool t ∧ W4 = wx)
          case first =>
            go_wp2_with fail
            go_meet
            exact ⟨by rw [Ht.out], rfl⟩
          case rest =>
          obtain ⟨rfl, rfl⟩ := hcut
          go_upto_if 84 with fail
          go_cut [] (fun wx => ∃ (V : World) (g' : Wg), V = wx ∧ Hid (g'.next = some s ∧ g'.l.length = q ∧ g'.width = wn ∧ g'.cur ≤ s) ∧ Hid (WSt wheelK w wx a g'))
          case first =>
            cases t
            · go_wp2_with fail
              go_meet
              exact ⟨_, g, rfl, Lib.hid ⟨HNx.out, Hq.out, HWn.out, by rw [Hcu.out]; exact hcs⟩, S4⟩
            · have hBN : B < N := by simpa using Ht.out
              obtain ⟨r, Hr⟩ : ∃ r, Hid (ls % N = r) := ⟨_, Lib.hid rfl⟩
              have hrN : r < N := by rw [← Hr.out]; exact Nat.mod_lt _ hN0
              have hr1 : (ls : Int) % (N : Int) = (r : Int) := by rw [← Hr.out]; simp
              have hr2 : Int.tmod (ls : Int) (N : Int) = (r : Int) := by rw [Int.tmod_eq_emod_of_nonneg (by omega)]; exact hr1
              obtain ⟨n1, Hn1⟩ : ∃ r, Hid (N - 1 = r) := ⟨_, Lib.hid rfl⟩
              obtain ⟨tt, Htt⟩ : ∃ tt, Hid (n1 - r = tt) := ⟨_, Lib.hid rfl⟩
              have hw5 : IntKind.u64.wrap ((N : Int) - 1) = (n1 : Int) := by have := Hn1.out; rw [IntKind.wrap_u64]; omega
              have hw6 : IntKind.u64.wrap ((n1 : Int) - (r : Int)) = (tt : Int) := by have := Hn1.out; have := Htt.out; rw [IntKind.wrap_u64]; omega
              have htN : tt < N := by have := Hn1.out; have := Htt.out; omega
              have hQ := quiet_adv HOk.out HNx.out (t := tt) (begin_cur HNm.out (by rw [Hcu.out, HB.out, HN.out]; exact hBN)) (by
                have h1 := (begin_is HNm.out).1
                rw [HN.out] at h1
                exact (Nat.div_lt_iff_lt_mul hw1).2 (by omega))
              have KA0 := S4.out.advance HT.out tt (by omega)
              rw [hQ.1, hQ.2] at KA0
              have KA : Hid (Calls Tryd.prog 14 #[.pointer (some a), .int .u64 (tt : Int)] W4 fun e W' => e = .returned (.int .i64 0) ∧ Hid (WSt wheelK w W' a { g with cur := g.to tt })) := Lib.hid KA0
              have hts : g.to tt ≤ s := by
                have h1 := (begin_is HNm.out).1
                rw [HN.out] at h1
                have h2 : tt / g.width < s := (Nat.div_lt_iff_lt_mul hw1).2 (by omega)
                have h3 := Hcu.out
                unfold Wg.to
                omega
              have HTs := Lib.hid hts
              clear KA0 hQ hts S4
              go_wp2_with (go_at_call 14; refine KA.out.mono ?_; rintro e W6 ⟨rfl, S6⟩)
              go_meet
              exact ⟨_, { g with cur := g.to tt }, rfl, Lib.hid ⟨HNx.out, Hq.out, HWn.out, HTs.out⟩, S6⟩
          case rest =>
          obtain ⟨V, g', rfl, HG', S6⟩ := hcut
          have hok' := S6.out.ok
          have KW2 : Hid (Calls Tryd.prog 21 #[.pointer (some a)] V fun e W' => e = .returned (.int .i64 (q : Int)) ∧ Hid (WSt wheelK w W' a g')) := by
            have h := S6.out.waits
            rw [HG'.out.2.1] at h
            exact Lib.hid h
          have hs63 : s < 18446744073709551615 := by
            have h1 := (begin_is HNm.out).2
            have h2 : s ≤ s * g.width := Nat.le_mul_of_pos_right s hw1
            omega
          have hto : g'.to N = s := by
            have h1 := (begin_is HNm.out).1
            rw [HN.out] at h1
            have h2 : N / g'.width = s := by rw [h1, HG'.out.2.2.1, HWn.out]; exact begin_div hwn1.1
            have h3 := HG'.out.2.2.2
            unfold Wg.to
            omega
          obtain ⟨g2, Hg2⟩ : ∃ g2, Hid (g'.adv N = g2) := ⟨_, Lib.hid rfl⟩
          obtain ⟨mn, Hmn⟩ : ∃ mn, Hid ((g'.ripe N).length = mn) := ⟨_, Lib.hid rfl⟩
          obtain ⟨q2, Hq2⟩ : ∃ q2, Hid (g2.l.length = q2) := ⟨_, Lib.hid rfl⟩
          have hsum : mn + q2 = q := by
            have h1 := ripe_rest g' N
            rw [Hmn.out, HG'.out.2.1] at h1
            rw [← Hq2.out, ← Hg2.out]
            exact h1
          have hlast : ∀ s2, g2.next = some s2 → s < s2 := fun s2 h2 => last_adv hok' HG'.out.1 hs63 hto (by rw [Hg2.out]; exact h2)
          have HLast := Lib.hid hlast
          have Hg2w : Hid (g2.width = g.width) := Lib.hid (by rw [← Hg2.out]; exact HG'.out.2.2.1.trans HWn.out.symm)
          clear S6 hok' hlast hto
          go_upto_region 23 with (go_at_call 21; refine KW2.out.mono ?_; rintro e W7 ⟨rfl, S7⟩; clear KW2)
          have KA0 := S7.out.advance HT.out N hN
          rw [Hmn.out, Hg2.out] at KA0
          have KA := Lib.hid KA0
          clear KA0 S7
          go_upto_region 24 with (go_at_call 14; refine KA.out.mono ?_; rintro e W8 ⟨rfl, S8⟩; clear KA)
          have KY := S8.out.next HT.out
          have hwq : IntKind.i64.wrap ((q : Int) - (mn : Int)) = (q2 : Int) := by
            have h1 := HOk.out.full
            have h2 := HOk.out.r2
            rw [Hq.out] at h1
            rw [IntKind.wrap_i64]
            omega
          cases hn2 : g2.next with
          | none =>
            have hl2 : q2 = 0 := by rw [← Hq2.out, next_none.1 hn2]; rfl
            have hmn : (0 : Int) < (mn : Int) := by omega
            have KY1 : Hid (Calls Tryd.prog 18 #[.pointer (some a)] W8 fun e W' => e = .returned (.tuple #[.int .u64 0, .bool false]) ∧ Hid (WSt wheelK w W' a g2)) := by
              have e : nextV g2 = .tuple #[.int .u64 0, .bool false] := by unfold nextV; rw [hn2]; rfl
              rw [e] at KY
              exact Lib.hid KY
            clear KY S8 hn2 hl2
            go_upto_region 25 with (go_at_call 18; refine KY1.out.mono ?_; rintro e W9 ⟨rfl, S9⟩; clear KY1)
            have KW3 : Hid (Calls Tryd.prog 21 #[.pointer (some a)] W9 fun e W' => e = .returned (.int .i64 (q2 : Int)) ∧ Hid (WSt wheelK w W' a g2)) := by
              have h := S9.out.waits
              rw [Hq2.out] at h
              exact Lib.hid h
            go_wp2_with (first
              | (go_at_call 21; refine KW3.out.mono ?_; rintro e WA ⟨rfl, SA⟩; have HAw := Lib.hid (HA.out WA (HT.out.below SA.out.lo)))
              | (go_at_call 11; refine HAw.out.mono ?_; rintro e WB ⟨rfl, bB⟩))
            go_ret
            exact ⟨rfl, below_tr SA.out.lo bB⟩
          | some s2 =>
            obtain ⟨N2, HN2⟩ : ∃ N2, Hid (beginW s2 g2.width = N2) := ⟨_, Lib.hid rfl⟩
            have hNN : N < N2 := by
              have h1 := begin_lt hw1 (HLast.out s2 hn2) HNm.out
              rw [HN.out, ← Hg2w.out, HN2.out] at h1
              exact h1
            have hNNz : (N : Int) < (N2 : Int) := by omega
            have KY1 : Hid (Calls Tryd.prog 18 #[.pointer (some a)] W8 fun e W' => e = .returned (.tuple #[.int .u64 (N2 : Int), .bool true]) ∧ Hid (WSt wheelK w W' a g2)) := by
              have e : nextV g2 = .tuple #[.int .u64 (N2 : Int), .bool true] := by unfold nextV; rw [hn2, ← HN2.out]; rfl
              rw [e] at KY
              exact Lib.hid KY
            clear KY S8 hn2 hNN
            go_upto_region 25 with (go_at_call 18; refine KY1.out.mono ?_; rintro e W9 ⟨rfl, S9⟩; clear KY1)
            have KW3 : Hid (Calls Tryd.prog 21 #[.pointer (some a)] W9 fun e W' => e = .returned (.int .i64 (q2 : Int)) ∧ Hid (WSt wheelK w W' a g2)) := by
              have h := S9.out.waits
              rw [Hq2.out] at h
              exact Lib.hid h
            rcases Nat.eq_zero_or_pos mn with hm0 | hm0
            · have hwq2 : IntKind.i64.wrap (q : Int) = (q2 : Int) := by rw [← hwq, hm0]; simp
              have hmn : ¬ (0 : Int) < (mn : Int) := by omega
              have hmz : (mn : Int) = 0 := by omega
              clear hm0 hmn hwq
              go_wp2_with (first
                | (go_at_call 21; refine KW3.out.mono ?_; rintro e WA ⟨rfl, SA⟩; have HAw := Lib.hid (HA.out WA (HT.out.below SA.out.lo)))
                | (go_at_call 11; refine HAw.out.mono ?_; rintro e WB ⟨rfl, bB⟩))
              go_ret
              exact ⟨rfl, below_tr SA.out.lo bB⟩
            · have hmn : (0 : Int) < (mn : Int) := by omega
              clear hm0
              go_wp2_with (first
                | (go_at_call 21; refine KW3.out.mono ?_; rintro e WA ⟨rfl, SA⟩; have HAw := Lib.hid (HA.out WA (HT.out.below SA.out.lo)))
                | (go_at_call 11; refine HAw.out.mono ?_; rintro e WB ⟨rfl, bB⟩))
              go_ret
              exact ⟨rfl, below_tr SA.out.lo bB⟩
      · have hiz : (i : Int) < (m : Int) := by omega
        obtain ⟨o, ho⟩ : ∃ o, (z2.map opOf)[i]? = some o := ⟨_, List.getElem?_eq_getElem (by rw [HOs.out.len]; omega)⟩
        have hof := HOs.out.fits o (List.mem_of_getElem? ho)
        obtain ⟨ad, had, hc⟩ := HOs.out.at_ i o ho
        subst had
        obtain ⟨o0, o1, o2⟩ := hc wr HS.out.lo
        obtain ⟨kd, v, tt⟩ := o
        obtain ⟨hof1, hof2, hof3⟩ := hof
        simp only at hof1 hof2 hof3 o0 o1 o2
        obtain ⟨W5, HW5⟩ : ∃ W5, Hid (wr.alloc (.cells #[.int .u8 (kd : Int), .int .u64 (v : Int), .int .u64 (tt : Int)] 36) = W5) := ⟨_, Lib.hid rfl⟩
        obtain ⟨ob, HOB⟩ : ∃ ob, Hid (wr.heap.size = ob) := ⟨_, Lib.hid rfl⟩
        have HS5 := Lib.hid (HS.out.below (W' := W5) (by rw [← HW5.out]; exact (Below.refl _ _).alloc (Nat.le_refl _) _))
        have bx : Box W5 ob 36 #[.int .u8 (kd : Int), .int .u64 (v : Int), .int .u64 (tt : Int)] := by rw [← HW5.out, ← HOB.out]; exact Box.new _ _ _
        clear hc ho HS
        go_upto_region 7 with fail
        rw [HW5.out, HOB.out]
        have c0 := bx.cell 0
        have c1 := bx.cell 1
        have c2 := bx.cell 2
        clear o0 o1 o2 bx HW5 HOB
        have hwi : IntKind.i64.wrap ((i : Int) + 1) = ((i + 1 : Nat) : Int) := by rw [IntKind.wrap_i64]; omega
        by_cases h1 : kd = 1
        · subst h1
          have hs := slotW_lt (t := tt) HS5.out.ok.w1 hof3
          have KP := Lib.hid (HS5.out.put (by have := HG.out.2; omega) v tt hof2 hof3 hs)
          have HG2 : Hid ((g.put v (slotW tt g.width)).width = wn ∧ (g.put v (slotW tt g.width)).n ≤ i + 1) := Lib.hid ⟨(put_same _ _ _).2.1.trans HG.out.1, Nat.le_trans (put_same _ _ _).2.2 (Nat.succ_le_succ HG.out.2)⟩
          clear hs HS5
          go_wp2_with (go_at_call 12; refine KP.out.mono ?_; rintro e W6 ⟨rfl, S6⟩; clear c0 c1 c2 KP)
          go_roundg (m - (i + 1))
          case measure => omega
          case rel => exact ⟨i + 1, _, by omega, by go_num, HG2, S6⟩
        · by_cases h2 : kd = 2
          · subst h2
            have KP := Lib.hid (HS5.out.advance HT.out tt hof3)
            have HG2 : Hid ((g.adv tt).width = wn ∧ (g.adv tt).n ≤ i + 1) := Lib.hid ⟨HG.out.1, Nat.le_succ_of_le HG.out.2⟩
            clear HS5
            go_wp2_with (go_at_call 14; refine KP.out.mono ?_; rintro e W6 ⟨rfl, S6⟩; clear c0 c1 c2 KP)
            go_roundg (m - (i + 1))
            case measure => omega
            case rel => exact ⟨i + 1, _, by omega, by go_num, HG2, S6⟩
          · have h1z : ((kd : Int) == 1) = false := by rw [beq_eq_false_iff_ne]; omega
            have h2z : ((kd : Int) == 2) = false := by rw [beq_eq_false_iff_ne]; omega
            have h1n : ¬ (kd : Int) = 1 := by omega
            have h2n : ¬ (kd : Int) = 2 := by omega
            have HG2 : Hid (g.width = wn ∧ g.n ≤ i + 1) := Lib.hid ⟨HG.out.1, Nat.le_succ_of_le HG.out.2⟩
            go_wp2_with fail
            go_roundg (m - (i + 1))
            case measure => omega
            case rel => exact ⟨i + 1, _, by omega, by go_num, HG2, HS5⟩

end Go.Proofs.YtmaofmbnlfggiaaDoor
