/-
  WheelDue's walk, over any wheel.
-/
import Derived.Test.YtkiibobpejoaeaaDoorWheelDueSt
import Derived.Test.YtkiibobpejoaeaaDoorWheelDueFacts
import Derived.Test.YtkiibobpejoaeaaDoorWheelOps
import Derived.Test.YtkiibobpejoaeaaDoorWheelHeldCore
import Derived.Test.YtkiibobpejoaeaaDoorWheelAwakeCore
import Derived.Test.YtkiibobpejoaeaaDoorSpan
namespace Go.Proofs.YtkiibobpejoaeaaDoor
open Go.RowKit
set_option linter.unusedVariables false
set_option linter.unusedSimpArgs false

set_option maxHeartbeats 8000000 in
set_option maxRecDepth 100000 in
theorem wheelDue_of (K : WheelK) (n wn : Nat) (hn2 : 2 ≤ n ∧ n ≤ 65) (hwn1 : 1 ≤ wn ∧ wn ≤ 1000) (v0 v1 : Value) {a2 : Option Addr} {len2 cap2 : Nat} {os : List OpW} (w : World) (KM : Hid (Calls Tryd.prog 22 #[v0, v1] w fun e W' => ∃ b, e = .returned (.tuple #[.pointer (some b), .int .u64 (wn : Int), .bool true]) ∧ Hid (WSt K w W' b ⟨n, wn, 200, 0, [], [], 0⟩))) (hos : OpsW w a2 len2 cap2 os) (hT : Tab w) (HA : Hid Awake9) (KS : Hid (∀ (t : Nat) (W : World), t < 18446744073709551616 → Calls Tryd.prog 23 #[.int .u64 (t : Int), .int .u64 (wn : Int)] W fun e w' => e = .returned (.int .u64 ((slotW t wn : Nat) : Int)) ∧ Below W.heap.size W w')) :
    Calls Tryd.prog 4 #[v0, v1, .slice a2 len2 cap2] w fun e w' => e = .returned (.bool true) ∧ Below w.heap.size w w' := by
  have hlo := hos.le
  have hco := hos.capLe
  have HOs := Lib.hid hos
  have HT := Lib.hid hT
  clear hos hT
  obtain ⟨m, Hm⟩ : ∃ m, Hid (min len2 80 = m) := ⟨_, Lib.hid rfl⟩
  have hm1 : m ≤ len2 := by have := Hm.out; omega
  have hm2 : m ≤ 80 := by have := Hm.out; omega
  go_enter Tryd.func4, Tryd.ntmps4
  go_upto_region 7 with (go_at_call 22; refine KM.out.mono ?_; rintro e W1 ⟨a, rfl, S1⟩)
  clear KM
  go_cut [38, 39, 40] (fun v38 v39 v40 wx => v38 = .slice a2 m cap2 ∧ v39 = .int .i64 (m : Int) ∧ v40 = .int .i64 0 ∧ W1 = wx)
  case first =>
    by_cases h80 : 80 < len2
    · have h80z : (80 : Int) < (len2 : Int) := by omega
      obtain rfl : m = 80 := by have := Hm.out; omega
      go_wp2_with fail
      go_meet
      exact ⟨by first | rfl | rw [show (min (len2 : Int) 80).toNat = 80 by omega], congrArg (Value.int .i64) (by omega), rfl, rfl⟩
    · have h80z : ¬ (80 : Int) < (len2 : Int) := by omega
      obtain rfl : m = len2 := by have := Hm.out; omega
      go_wp2_with fail
      go_meet
      exact ⟨by first | rfl | rw [show (min (m : Int) 80).toNat = m by omega], congrArg (Value.int .i64) (by omega), rfl, rfl⟩
  case rest =>
  obtain ⟨rfl, rfl, rfl, rfl⟩ := hcut
  clear Hm
  have S2 := Lib.hid (DSt.of S1.out)
  go_wp2_with fail
  go_loopg [10, 11, 12, 40] m (fun k v10 v11 v12 v40 wx => ∃ (i : Nat) (g : Wg) (p p' : Option Addr) (c c' : Nat) (xs : List Nat) (bs : List Bool) (nw : Nat), i + k = m ∧ v10 = .slice p xs.length c ∧ v11 = .slice p' bs.length c' ∧ v12 = .int .u64 (nw : Int) ∧ v40 = .int .i64 (i : Int) ∧ Hid (bs.length = xs.length) ∧ xs.length ≤ i ∧ nw < 18446744073709551616 ∧ Hid (∀ y, y ∈ xs → y < 18446744073709551616) ∧ Hid (g.width = wn ∧ g.n ≤ i ∧ g.room = 200 ∧ g.due = [] ∧ g.l.length ≤ i ∧ g.cur = nw / wn ∧ DueI g xs bs) ∧ Hid (DSt K w wx a g (.slice p xs.length c) (.slice p' bs.length c') xs bs))
  case atStart => exact ⟨0, _, none, none, 0, 0, [], [], 0, by omega, rfl, rfl, rfl, rfl, Lib.hid rfl, Nat.le_refl _, by omega, Lib.hid (fun y hy => by cases hy), Lib.hid ⟨rfl, Nat.le_refl _, rfl, rfl, Nat.le_refl _, (Nat.zero_div _).symm, ⟨rfl, List.Pairwise.nil, fun x hx => (by cases hx), fun x hx => (by cases hx), fun i hi => (by cases hi)⟩⟩, S2⟩
  case round =>
  clear S1 S2
  obtain ⟨i, g, p, p', c, c', xs, bs, nw, hik, rfl, rfl, rfl, rfl, hbx, hxi, hnw, HXw, HG, HS⟩ := hrel
  by_cases hin : i = m
  · have hiz : ¬ (i : Int) < (m : Int) := by omega
    have HAw := Lib.hid (HA.out wr (HT.out.below HS.out.lo))
    go_wp2_with (go_at_call 7; refine HAw.out.mono ?_; rintro e W4 ⟨rfl, b4⟩)
    go_ret
    exact ⟨rfl, below_tr HS.out.lo b4⟩
  have hiz : (i : Int) < (m : Int) := by omega
  have hi80 : i < 80 := by omega
  obtain ⟨o, ho⟩ : ∃ o, os[i]? = some o := ⟨_, List.getElem?_eq_getElem (by rw [HOs.out.len]; omega)⟩
  have hof := HOs.out.fits o (List.mem_of_getElem? ho)
  obtain ⟨ad, had, hc⟩ := HOs.out.at_ i o ho
  subst had
  obtain ⟨o0, o1, o2⟩ := hc wr HS.out.lo
  obtain ⟨kd, v, tt⟩ := o
  obtain ⟨hof1, hof2, hof3⟩ := hof
  simp only at hof1 hof2 hof3 o0 o1 o2
  obtain ⟨W5, HW5⟩ : ∃ W5, Hid (wr.alloc (.cells #[.int .u8 (kd : Int), .int .u64 (v : Int), .int .u64 (tt : Int)] 36) = W5) := ⟨_, Lib.hid rfl⟩
  obtain ⟨ob, HOB⟩ : ∃ ob, Hid (wr.heap.size = ob) := ⟨_, Lib.hid rfl⟩
  have HS5 := Lib.hid (HS.out.below (W' := W5) (by rw [← HW5.out]; exact (Below.refl _ _).alloc (Nat.le_refl _) _))
  have bx : Box W5 ob 36 #[.int .u8 (kd : Int), .int .u64 (v : Int), .int .u64 (tt : Int)] := by rw [← HW5.out, ← HOB.out]; exact Box.new _ _ _
  have HB5 : Hid (Below wr.heap.size wr W5) := by rw [← HW5.out]; exact Lib.hid ((Below.refl _ _).alloc (Nat.le_refl _) _)
  have HOB2 : Hid (wr.heap.size ≤ ob) := Lib.hid (by rw [HOB.out]; exact Nat.le_refl _)
  clear hc ho
  go_upto_region 10 with fail
  rw [HW5.out, HOB.out]
  have c0 := bx.cell 0
  have c1 := bx.cell 1
  have c2 := bx.cell 2
  have HBX := Lib.hid bx
  clear o0 o1 o2 bx HW5 HOB
  have hwi : IntKind.i64.wrap ((i : Int) + 1) = ((i + 1 : Nat) : Int) := by rw [IntKind.wrap_i64]; omega
  by_cases h1 : kd = 1
  · subst h1
    have hs := slotW_lt (t := tt) HS5.out.ok.w1 hof3
    have hrm : g.l.length + g.due.length < g.room := by rw [HG.out.2.2.1, HG.out.2.2.2.1]; have := HG.out.2.2.2.2.1; show g.l.length + 0 < 200; omega
    have hE : g.putE = 0 := by unfold Wg.putE; rw [if_pos hrm]
    have hP : g.put xs.length (slotW tt g.width) = { g with l := g.l ++ [⟨xs.length, slotW tt g.width, standW g.slots g.cur (slotW tt g.width)⟩], n := g.n + 1 } := by unfold Wg.put; rw [if_pos hrm]
    obtain ⟨g1, Hg1⟩ : ∃ g1, Hid (g.put xs.length (slotW tt g.width) = g1) := ⟨_, Lib.hid rfl⟩
    have HG1 : Hid (g1.width = wn ∧ g1.n ≤ i + 1 ∧ g1.room = 200 ∧ g1.due = [] ∧ g1.l.length ≤ i + 1 ∧ g1.cur = nw / wn ∧ DueI g1 (xs ++ [tt]) (bs ++ [false])) := Lib.hid (by
      have hd := dueI_put HG.out.2.2.2.2.2.2 tt hrm
      rw [Hg1.out] at hd
      refine ⟨?_, ?_, ?_, ?_, ?_, ?_, hd⟩
      · rw [← Hg1.out, hP]; exact HG.out.1
      · rw [← Hg1.out, hP]; exact Nat.succ_le_succ HG.out.2.1
      · rw [← Hg1.out, hP]; exact HG.out.2.2.1
      · rw [← Hg1.out, hP]; exact HG.out.2.2.2.1
      · rw [← Hg1.out, hP]; show (g.l ++ [_]).length ≤ _; rw [List.length_append, List.length_singleton]; exact Nat.succ_le_succ HG.out.2.2.2.2.1
      · rw [← Hg1.out, hP]; exact HG.out.2.2.2.2.2.1)
    have KP := Lib.hid (HS.out.putB HB5.out HBX.out HOB2.out (by have := HG.out.2.1; omega) xs.length tt (by omega) hof3 hs)
    rw [hE, Hg1.out] at KP
    have hwl : IntKind.u64.wrap (xs.length : Int) = (xs.length : Int) := by rw [IntKind.wrap_u64]; omega
    clear hs hrm hE hP HS5 HS
    go_upto_region 13 with (go_at_call 8; refine KP.out.mono ?_; rintro e W6 ⟨rfl, S6, HX6⟩)
    have d2 : W6.cell? ⟨ob, 2, none⟩ = some (.int .u64 (tt : Int)) := HX6.out.cell 2
    clear KP c0 c1 c2 HX6 HBX
    obtain ⟨i0, hi0, hz0, hz1, hz2⟩ := info_parts (P := Tryd.prog) (e := 22) (z := .int .u64 0) (size := 1) (bytes := 8) (by kernel_rfl)
    obtain ⟨i1, hi1, hy0, hy1, hy2⟩ := info_parts (P := Tryd.prog) (e := 4) (z := .bool false) (size := 1) (bytes := 1) (by kernel_rfl)
    have hml : xs.length + 1 ≤ maxLen := by unfold maxLen; omega
    have hb80 : bs.length < 80 := by have := hbx.out; omega
    have hml2 : bs.length + 1 ≤ maxLen := by unfold maxLen; omega
    have S7 := Lib.hid (S6.out.below (W' := W6.alloc (.cells #[.int .u64 (tt : Int)] 22)) ((Below.refl _ _).alloc (Nat.le_refl _) _))
    have hsl := lit_one (e := 22) W6 (.int .u64 (tt : Int))
    have hbz : w.heap.size ≤ (W6.alloc (.cells #[.int .u64 (tt : Int)] 22)).heap.size := S7.out.lo.size
    have r5 := S7.out.ra
    have el : (xs ++ [tt]).length = xs.length + 1 := by simp
    have el2 : (bs ++ [false]).length = bs.length + 1 := by simp
    have EL := Lib.hid el
    have EL2 := Lib.hid el2
    clear el el2 S6
    go_wp2_with (first
      | (at_builtin; (refine wpList_append_any _ rfl (.tmp 55) (.tmp 58) 29 rfl w.heap.size 22 i0 (.int .u64 0) 1 8 Tryd.underlying29 hi0 hz0 hz1 hz2 rfl (by decide) (.slice p xs.length c) xs.length _ rfl r5 0 _ 1 [.int .u64 (tt : Int)] rfl hsl (by intro u hu; simp at hu; subst hu; rfl) hml (by omega) hbz ?_; intro p5 c5 w5 own5 gr5 loc5; have S8 : Hid (DSt K w w5 a g1 (.slice p5 (xs ++ [tt]).length c5) (.slice p' bs.length c') (xs ++ [tt]) bs) := Lib.hid (S7.out.growA (by rw [EL.out, List.map_append]; exact own5) gr5 (by rw [EL.out]; exact loc5)); have S9 := Lib.hid (S8.out.below (W' := w5.alloc (.cells #[.bool false] 4)) ((Below.refl _ _).alloc (Nat.le_refl _) _)); have hsl2 := lit_one (e := 4) w5 (.bool false); have r6 := S9.out.rc; have hbz2 : w.heap.size ≤ (w5.alloc (.cells #[.bool false] 4)).heap.size := S9.out.lo.size))
      | (at_builtin; (refine wpList_append_any _ rfl (.tmp 60) (.tmp 61) 56 rfl w.heap.size 4 i1 (.bool false) 1 1 Tryd.underlying56 hi1 hy0 hy1 hy2 rfl (by decide) (.slice p' bs.length c') bs.length _ rfl r6 0 _ 1 [.bool false] rfl hsl2 (by intro u hu; simp at hu; subst hu; rfl) hml2 (by omega) hbz2 ?_; intro p6 c6 w6 own6 gr6 loc6; have HE : Hid (DSt K w w6 a g1 (.slice p5 (xs ++ [tt]).length c5) (.slice p6 (bs ++ [false]).length c6) (xs ++ [tt]) (bs ++ [false])) := Lib.hid (S9.out.growC (by rw [EL2.out, List.map_append]; exact own6) gr6 (by rw [EL2.out]; exact loc6)))))
    clear own5 gr5 loc5 r5 hsl S7 S8 S9 own6 gr6 loc6 r6 hsl2 hbz hbz2 hi0 hz0 hz1 hz2 hi1 hy0 hy1 hy2 d2
    go_roundg (m - (i + 1))
    case measure => omega
    case rel => exact ⟨i + 1, g1, p5, p6, c5, c6, xs ++ [tt], bs ++ [false], nw, by omega, by rw [EL.out], by rw [EL2.out], rfl, by go_num, Lib.hid (by rw [EL.out, EL2.out, hbx.out]), by rw [EL.out]; omega, hnw, Lib.hid (fun y hy => by rcases List.mem_append.1 hy with h | h; exact HXw.out y h; rw [List.mem_singleton.1 h]; exact hof3), HG1, HE⟩
  · have h1z : ((kd : Int) == 1) = false := by rw [beq_eq_false_iff_ne]; omega
    have h1n : ¬ (kd : Int) = 1 := by omega
    obtain ⟨nx, Hnx⟩ : ∃ nx, Hid (max nw tt = nx) := ⟨_, Lib.hid rfl⟩
    have hnx : nx < 18446744073709551616 := by have := Hnx.out; omega
    clear HS HB5 HOB2
    go_upto_region 14 with fail
    go_cut [12] (fun v12 wx => v12 = .int .u64 (nx : Int) ∧ W5 = wx)
    case first =>
      go_wp2_with fail
      go_meet
      exact ⟨congrArg (Value.int .u64) (by have := Hnx.out; omega), rfl⟩
    case rest =>
    obtain ⟨rfl, rfl⟩ := hcut
    have HI := Lib.hid HG.out.2.2.2.2.2.2
    have HW := Lib.hid HG.out.1
    have hto : g.to tt = nx / wn := by
      unfold Wg.to
      rw [HG.out.2.2.2.2.2.1, HG.out.1, ← max_div, Hnx.out]
    have HTo := Lib.hid hto
    obtain ⟨D, HD⟩ : ∃ D, Hid (sortT (g.ripe tt) = D) := ⟨_, Lib.hid rfl⟩
    have hDl : (g.ripe tt).length = D.length := by rw [← HD.out, sortT_len]
    have hD80 : D.length ≤ 80 := by
      have h2 := List.length_filter_le (fun x : Th => decide (x.slot ≤ g.to tt)) g.l
      have h3 := HG.out.2.2.2.2.1
      unfold Wg.ripe at hDl
      omega
    have KA := HS5.out.advance HT.out tt hof3
    rw [hDl] at KA
    obtain ⟨g1, Hg1⟩ : ∃ g1, Hid (g.adv tt = g1) := ⟨_, Lib.hid rfl⟩
    rw [Hg1.out] at KA
    have HKA := Lib.hid KA
    have HG1 : Hid (g1.width = wn ∧ g1.n ≤ i ∧ g1.room = 200 ∧ g1.due = D.map Th.v ∧ g1.l.length ≤ i ∧ g1.cur = nx / wn) := Lib.hid (by
      rw [← Hg1.out]
      refine ⟨HG.out.1, HG.out.2.1, HG.out.2.2.1, ?_, ?_, hto⟩
      · show g.due ++ _ = _
        rw [HG.out.2.2.2.1, HD.out]; rfl
      · have h2 := ripe_rest g tt
        have h3 := HG.out.2.2.2.2.1
        show (g.rest tt).length ≤ i
        omega)
    clear KA hto hDl HS5
    go_upto_region 17 with (go_at_call 10; refine HKA.out.mono ?_; rintro e W6 ⟨rfl, S6⟩)
    clear HKA c0 c1 c2 HBX
    go_upto_block 2 with fail
    go_cut [] (fun wx => ∃ V : World, V = wx ∧ Hid (DSt K w V a { g1 with due := [] } (.slice p xs.length c) (.slice p' bs.length c') xs (markT bs D)))
    case first =>
      go_wp2_with fail
      go_loopg [16, 72] D.length (fun k v16 v72 wx => ∃ (j : Nat) (ls : Int), j + k = D.length ∧ v16 = .int .i64 ls ∧ v72 = .int .i64 (j : Int) ∧ Hid ((j = 0 ∧ ls = -1) ∨ ∃ j' y, j = j' + 1 ∧ D[j']? = some y ∧ ls = (y.v : Int)) ∧ Hid (DSt K w wx a { g1 with due := (D.drop j).map Th.v } (.slice p xs.length c) (.slice p' bs.length c') xs (markT bs (D.take j))))
      case atStart => exact ⟨0, -1, by omega, rfl, rfl, Lib.hid (.inl ⟨rfl, rfl⟩), by
        have e : ({ g1 with due := (D.drop 0).map Th.v } : Wg) = g1 := by rw [List.drop_zero, ← HG1.out.2.2.2.1]
        rw [e]
        exact S6⟩
      case round =>
      clear S6
      obtain ⟨j, ls, hjk, rfl, rfl, HL, HS⟩ := hrel
      by_cases hjn : j = D.length
      · have hjz : ¬ (j : Int) < (D.length : Int) := by omega
        have HE : Hid (DSt K w wr a { g1 with due := [] } (.slice p xs.length c) (.slice p' bs.length c') xs (markT bs D)) := by
          have h := HS.out
          rw [hjn, List.drop_length, List.take_length] at h
          exact Lib.hid h
        go_wp2_with fail
        go_meet
        exact ⟨_, rfl, HE⟩
      · have hjz : (j : Int) < (D.length : Int) := by omega
        obtain ⟨x, hx⟩ : ∃ x, D[j]? = some x := ⟨_, List.getElem?_eq_getElem (by omega)⟩
        obtain ⟨at_, ha1, ha2, ha3, ha4⟩ := dueI_at HI.out (t := tt) (j := j) (x := x) (by rw [HD.out]; exact hx)
        rw [HD.out] at ha4
        obtain ⟨v', Hv⟩ : ∃ v, Hid (x.v = v) := ⟨_, Lib.hid rfl⟩
        rw [Hv.out] at ha1 ha4
        rw [HW.out] at ha2
        rw [HTo.out] at ha3
        have hvl : v' < xs.length := (List.getElem?_eq_some_iff.1 ha1).1
        have hat : at_ ≤ nx := slot_le_at hwn1.1 (by rw [← ha2]; exact ha3)
        have hdr : D.drop j = x :: D.drop (j + 1) := by
          obtain ⟨h2, rfl⟩ := List.getElem?_eq_some_iff.1 hx
          exact List.drop_eq_getElem_cons h2
        have KT : Hid (Calls Tryd.prog 12 #[.pointer (some a)] wr fun e W' => e = .returned (.tuple #[.int .u64 (v' : Int), .bool true]) ∧ Hid (DSt K w W' a { g1 with due := (D.drop (j + 1)).map Th.v } (.slice p xs.length c) (.slice p' bs.length c') xs (markT bs (D.take j)))) := by
          have h := HS.out.take
          simp only [Wg.took, hdr, List.map_cons, List.headD_cons, List.isEmpty_cons, Bool.not_false, List.tail_cons, Hv.out] at h
          exact Lib.hid h
        have HX := Lib.hid hx
        have Ha1 := Lib.hid ha1
        have Ha2 := Lib.hid ha2
        have Ha4 := Lib.hid ha4
        have hwl : IntKind.u64.wrap (xs.length : Int) = (xs.length : Int) := by rw [IntKind.wrap_u64]; omega
        have hvz : ¬ (xs.length : Int) ≤ (v' : Int) := by omega
        have hnl : ¬ (nx : Int) < (at_ : Int) := by omega
        have hwv : IntKind.i64.wrap (v' : Int) = (v' : Int) := by rw [IntKind.wrap_i64]; omega
        have hwj : IntKind.i64.wrap ((j : Int) + 1) = ((j + 1 : Nat) : Int) := by rw [IntKind.wrap_i64]; omega
        clear hx ha1 ha2 ha3 ha4 hdr HS
        go_upto_region 20 with (go_at_call 12; refine KT.out.mono ?_; rintro e W7 ⟨rfl, S7⟩)
        clear KT
        have rc := S7.out.rc
        have ra := S7.out.ra
        obtain ⟨gC, rfl⟩ := (own_form rc).2 (by rw [markT_len, hbx.out]; omega)
        obtain ⟨gA, rfl⟩ := (own_form ra).2 (by omega)
        rw [markT_len] at rc
        have cC : W7.cell? ⟨gC, v', none⟩ = some (.bool false) := by rw [rc.cellAt v' (by rw [hbx.out]; omega), List.getElem?_map, Ha4.out]; rfl
        have cA : W7.cell? ⟨gA, v', none⟩ = some (.int .u64 (at_ : Int)) := by rw [ra.cellAt v' (by omega), List.getElem?_map, Ha1.out]; rfl
        have fC : W7.frozen? ⟨gC, v', none⟩ = false := (own_put rc (by rw [hbx.out]; omega) (.bool true)).2.1
        have S8 : Hid (DSt K w (W7.setCell ⟨gC, v', none⟩ (.bool true)) a { g1 with due := (D.drop (j + 1)).map Th.v } (.slice (some ⟨gA, 0, none⟩) xs.length c) (.slice (some ⟨gC, 0, none⟩) bs.length c') xs (markT bs (D.take (j + 1)))) := by
          have h := S7.out.mark (j := v') true
          have e := mark_next (g := g) (came := bs) (t := tt) (j := j) (x := x) (by rw [HD.out]; exact HX.out)
          rw [HD.out, Hv.out] at e
          rw [← e] at h
          exact Lib.hid h
        have hvb : (v' : Int) < (bs.length : Int) := by rw [hbx.out]; omega
        clear rc ra S7
        go_upto_region 23 with fail
        clear hvb hvz hnl
        obtain ⟨W8, HW8⟩ : ∃ W8, Hid (W7.setCell ⟨gC, v', none⟩ (.bool true) = W8) := ⟨_, Lib.hid rfl⟩
        rw [HW8.out] at S8 ⊢
        clear cC cA fC HW8
        have hvn : (0 : Int) ≤ (v' : Int) := by omega
        rcases HL.out with ⟨rfl, rfl⟩ | ⟨j', y, rfl, hy, rfl⟩
        · go_wp2_with fail
          go_roundg (D.length - (0 + 1))
          case measure => omega
          case rel => exact ⟨0 + 1, (v' : Int), by omega, rfl, by go_num, Lib.hid (.inr ⟨0, x, rfl, HX.out, by rw [Hv.out]⟩), S8⟩
        · obtain ⟨at2, hb1, hb2, hb3, _⟩ := dueI_at HI.out (t := tt) (j := j') (x := y) (by rw [HD.out]; exact hy)
          rw [HW.out] at hb2
          rw [HTo.out] at hb3
          have hlx := dueI_order HI.out (t := tt) (by rw [HD.out]; exact hy) (by rw [HD.out]; exact HX.out)
          unfold LexT at hlx
          rw [Hv.out, hb2, Ha2.out] at hlx
          have hat2 : at2 ≤ nx := slot_le_at hwn1.1 (by rw [← hb2]; exact hb3)
          obtain ⟨yv, Hy⟩ : ∃ v, Hid (y.v = v) := ⟨_, Lib.hid rfl⟩
          rw [Hy.out] at hb1 hlx ⊢
          have hyl : yv < xs.length := (List.getElem?_eq_some_iff.1 hb1).1
          obtain ⟨sl, Hsl⟩ : ∃ s, Hid (slotW at2 wn = s) := ⟨_, Lib.hid rfl⟩
          obtain ⟨sv, Hsv⟩ : ∃ s, Hid (slotW at_ wn = s) := ⟨_, Lib.hid rfl⟩
          rw [Hsl.out, Hsv.out] at hlx
          have KS1 := Lib.hid (fun W => KS.out at2 W (by omega))
          have KS2 := Lib.hid (fun W => KS.out at_ W (by omega))
          rw [Hsl.out] at KS1
          rw [Hsv.out] at KS2
          have HC : Hid (∀ wy, Below W8.heap.size W8 wy → wy.cell? ⟨gA, yv, none⟩ = some (.int .u64 (at2 : Int)) ∧ wy.cell? ⟨gA, v', none⟩ = some (.int .u64 (at_ : Int))) := by
            refine Lib.hid fun wy b => ?_
            have r := (S8.out.below b).ra
            exact ⟨by rw [r.cellAt yv (by omega), List.getElem?_map, hb1]; rfl, by rw [r.cellAt v' (by omega), List.getElem?_map, Ha1.out]; rfl⟩
          have HLX := Lib.hid hlx
          have hyn : (0 : Int) ≤ (yv : Int) := by omega
          have hyz : (yv : Int) < (xs.length : Int) := by omega
          have hvz2 : (v' : Int) < (xs.length : Int) := by omega
          clear hb1 hb2 hb3 hlx hy Hsl Hsv
          go_upto_region 24 with fail
          go_cut [19, 20] (fun v19 v20 wx => ∃ V : World, V = wx ∧ v19 = .int .u64 (sl : Int) ∧ v20 = .int .u64 (sv : Int) ∧ Hid (Below W8.heap.size W8 V))
          case first =>
            go_region_held3 (fun wy => wy.cell? ⟨gA, yv, none⟩ = some (.int .u64 (at2 : Int)) ∧ wy.cell? ⟨gA, v', none⟩ = some (.int .u64 (at_ : Int)))
              (first | exact HC.out _ (Below.refl _ _).drew | exact HC.out _ (by assumption))
              (first | (go_at_call 23; (first | (refine Calls.mono (KS1.out _) ?_; rintro e W9 ⟨rfl, b9⟩) | (refine Calls.mono (KS2.out _) ?_; rintro e W9 ⟨rfl, b9⟩)); (first | (have bb := below_tr (a := W8) (by assumption) b9) | (have bb := below_tr (Below.refl _ W8).drew b9))))
            all_goals
              have BB := Lib.hid bb
              clear bb b9 KS1 KS2 HC
              go_wp2_with fail
              go_meet
              exact ⟨_, rfl, rfl, rfl, BB⟩
          case rest =>
          obtain ⟨V, rfl, rfl, rfl, b9⟩ := hcut
          have S9 := Lib.hid (S8.out.below b9.out)
          clear S8 HC KS1 KS2 b9
          rcases HLX.out with hlt | ⟨heq, hlt⟩
          · have z1 : ¬ (sv : Int) < (sl : Int) := by omega
            have z2 : ((sl : Int) == (sv : Int)) = false := by rw [beq_eq_false_iff_ne]; omega
            clear hlt
            go_wp2_with fail
            go_roundg (D.length - (j' + 1 + 1))
            case measure => omega
            case rel => exact ⟨j' + 1 + 1, (v' : Int), by omega, rfl, by go_num, Lib.hid (.inr ⟨j' + 1, x, rfl, HX.out, by rw [Hv.out]⟩), S9⟩
          · subst heq
            have z3 : ¬ (v' : Int) < (yv : Int) := by omega
            clear hlt
            go_wp2_with fail
            go_roundg (D.length - (j' + 1 + 1))
            case measure => omega
            case rel => exact ⟨j' + 1 + 1, (v' : Int), by omega, rfl, by go_num, Lib.hid (.inr ⟨j' + 1, x, rfl, HX.out, by rw [Hv.out]⟩), S9⟩
    case rest =>
    obtain ⟨V, rfl, S7⟩ := hcut
    clear S6
    go_wp2_with fail
    go_loopg [138] xs.length (fun k v138 wx => ∃ q : Nat, q + k = xs.length ∧ v138 = .int .i64 (q : Int) ∧ Hid (DSt K w wx a { g1 with due := [] } (.slice p xs.length c) (.slice p' bs.length c') xs (markT bs D)))
    case atStart => exact ⟨0, by omega, rfl, S7⟩
    case round =>
    clear S7
    obtain ⟨q, hqk, rfl, HS⟩ := hrel
    have hwq : IntKind.i64.wrap ((q : Int) + 1) = ((q + 1 : Nat) : Int) := by rw [IntKind.wrap_i64]; omega
    by_cases hqn : q = xs.length
    · have hqz : ¬ (q : Int) < (xs.length : Int) := by omega
      have KT : Hid (Calls Tryd.prog 12 #[.pointer (some a)] wr fun e W' => e = .returned (.tuple #[.int .u64 0, .bool false]) ∧ Hid (DSt K w W' a { g1 with due := [] } (.slice p xs.length c) (.slice p' bs.length c') xs (markT bs D))) := Lib.hid HS.out.take
      have HIn : Hid (DueI { g1 with due := [] } xs (markT bs D)) := by
        have h := dueI_adv HI.out tt
        rw [HD.out, Hg1.out] at h
        exact Lib.hid ⟨h.len, h.inc, h.slot, h.not, h.all⟩
      clear HS hqn
      go_upto_region 36 with (go_at_call 12; refine KT.out.mono ?_; rintro e W8 ⟨rfl, S8⟩)
      have KU : Hid (Calls Tryd.prog 16 #[.pointer (some a)] W8 fun e W' => e = .returned (.int .i64 0) ∧ Hid (DSt K w W' a { g1 with due := [] } (.slice p xs.length c) (.slice p' bs.length c') xs (markT bs D))) := Lib.hid S8.out.due
      clear KT S8
      go_wp2_with (go_at_call 16; refine KU.out.mono ?_; rintro e W9 ⟨rfl, S9⟩)
      go_roundg (m - (i + 1))
      case measure => omega
      case rel =>
        have HL : Hid ((markT bs D).length = bs.length) := Lib.hid (markT_len _ _)
        exact ⟨i + 1, { g1 with due := [] }, p, p', c, c', xs, markT bs D, nx, by omega, rfl, by rw [HL.out], rfl, by go_num, Lib.hid (by rw [HL.out]; exact hbx.out), by omega, hnx, HXw, Lib.hid ⟨HG1.out.1, Nat.le_succ_of_le HG1.out.2.1, HG1.out.2.2.1, rfl, Nat.le_succ_of_le HG1.out.2.2.2.2.1, HG1.out.2.2.2.2.2, HIn.out⟩, by rw [HL.out]; exact S9⟩
    · have hqz : (q : Int) < (xs.length : Int) := by omega
      have rc := HS.out.rc
      have ra := HS.out.ra
      obtain ⟨gC, rfl⟩ := (own_form rc).2 (by rw [markT_len, hbx.out]; omega)
      obtain ⟨gA, rfl⟩ := (own_form ra).2 (by omega)
      rw [markT_len] at rc
      obtain ⟨b, hb⟩ : ∃ b, (markT bs D)[q]? = some b := ⟨_, List.getElem?_eq_getElem (by rw [markT_len, hbx.out]; omega)⟩
      obtain ⟨at_, hat⟩ : ∃ b, xs[q]? = some b := ⟨_, List.getElem?_eq_getElem (by omega)⟩
      have cC : wr.cell? ⟨gC, q, none⟩ = some (.bool b) := by rw [rc.cellAt q (by rw [hbx.out]; omega), List.getElem?_map, hb]; rfl
      have cA : wr.cell? ⟨gA, q, none⟩ = some (.int .u64 (at_ : Int)) := by rw [ra.cellAt q (by omega), List.getElem?_map, hat]; rfl
      have HC : Hid (∀ wy, Below wr.heap.size wr wy → wy.cell? ⟨gC, q, none⟩ = some (.bool b)) := Lib.hid fun wy bl => by
        have r := (HS.out.below bl).rc
        rw [markT_len] at r
        rw [r.cellAt q (by rw [hbx.out]; omega), List.getElem?_map, hb]; rfl
      have hqb : (q : Int) < (bs.length : Int) := by rw [hbx.out]; omega
      have hq0 : (0 : Int) ≤ (q : Int) := by omega
      have HNot : Hid (b = false → nx / wn < slotW at_ wn) := Lib.hid fun e => by
        subst e
        have h := dueI_not HI.out (t := tt) (i := q) (by rw [HD.out]; exact hb) hat
        rw [HTo.out, HW.out] at h
        exact h
      have HAt := Lib.hid (HXw.out at_ (List.mem_of_getElem? hat))
      clear rc ra hb hat hqn
      cases b with
      | true =>
        have S9 := Lib.hid (fun z => HS.out.below (W' := wr.drewN z) (below_drewN (Below.refl _ _) z))
        clear HNot HC
        go_upto_region 32 with fail
        go_quiet (fail)
        go_wp2_with fail
        go_roundg (xs.length - (q + 1))
        case measure => omega
        case rel => exact ⟨q + 1, by omega, by go_num, Lib.hid (S9.out _)⟩
      | false =>
        obtain ⟨s, Hs⟩ : ∃ s, Hid (slotW at_ wn = s) := ⟨_, Lib.hid rfl⟩
        obtain ⟨qn, Hqn⟩ : ∃ s, Hid (nx / wn = s) := ⟨_, Lib.hid rfl⟩
        have hsq : qn < s := by rw [← Hs.out, ← Hqn.out]; exact HNot.out rfl
        have hsz : ¬ (s : Int) ≤ (qn : Int) := by omega
        have hsd : decide ((s : Int) ≤ (qn : Int)) = false := by simpa using hsz
        have hsd2 : decide (s ≤ qn) = false := by simpa using hsq
        have hq1 : (nx : Int) / (wn : Int) = (qn : Int) := by rw [← Hqn.out]; simp
        have hq2 : Int.tdiv (nx : Int) (wn : Int) = (qn : Int) := by rw [Int.tdiv_eq_ediv_of_nonneg (by omega)]; exact hq1
        have hwz : ¬ (wn : Int) = 0 := by omega
        have hwz2 : ((wn : Int) == 0) = false := by rw [beq_eq_false_iff_ne]; omega
        have hwz3 : ¬ wn = 0 := by omega
        have hqw : IntKind.u64.wrap (qn : Int) = (qn : Int) := by
          have h1 := Nat.div_le_self nx wn
          rw [Hqn.out] at h1
          rw [IntKind.wrap_u64]
          omega
        have hatl := HAt.out
        have KS1 := Lib.hid (fun W => KS.out at_ W hatl)
        rw [Hs.out] at KS1
        have S9 := Lib.hid (fun W b => HS.out.below (W' := W) b)
        clear hsq HNot Hs Hqn HS
        go_upto_region 32 with fail
        go_region_held3 (fun wy => wy.cell? ⟨gC, q, none⟩ = some (.bool false))
          (first | exact HC.out _ (Below.refl _ _).drew | exact HC.out _ (by assumption))
          (first | (go_at_call 23; refine Calls.mono (KS1.out _) ?_; rintro e W9 ⟨rfl, b9⟩; have bb := below_tr (Below.refl _ wr).drew b9))
        all_goals
          have SE := Lib.hid (S9.out _ bb)
          clear bb b9 KS1 HC S9
          go_wp2_with fail
          go_roundg (xs.length - (q + 1))
          case measure => omega
          case rel => exact ⟨q + 1, by omega, by go_num, SE⟩

end Go.Proofs.YtkiibobpejoaeaaDoor
