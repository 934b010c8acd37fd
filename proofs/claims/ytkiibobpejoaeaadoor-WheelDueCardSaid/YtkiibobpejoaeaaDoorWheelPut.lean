/-
  The program's own wheel: Put, Take, Due, Waits, Cursor, Next.
-/
import Derived.Test.YtkiibobpejoaeaaDoorWheelCalls
import Derived.Test.YtkiibobpejoaeaaDoorWheelStand
namespace Go.Proofs.YtkiibobpejoaeaaDoor
open Go.RowKit
set_option linter.unusedVariables false
set_option linter.unusedSimpArgs false

theorem WAt.c17 {N : Nat → Prop} {w : World} {b : Nat} {s : Ws} (h : WAt N w ⟨b, 0, none⟩ s) : w.cell? ⟨b, 1, none⟩ = some (.int .u64 (s.width : Int)) ∧ w.cell? ⟨b, 7, none⟩ = some (.int .u64 (s.turns : Int)) := by
  obtain ⟨b', gs, fa, NB, sv, dv, m, e, h1, _⟩ := h
  obtain rfl : b = b' := by cases e; rfl
  exact ⟨h1.box.cells.2.1, h1.box.cells.2.2.2.2.2.2.2.1⟩
section
variable {N : Nat → Prop} {w : World} {a : Addr} {g : Wg}
theorem atw_below {w' : World} (h : AtW N w a g) (b : Below w.heap.size w w') : AtW N w' a g := h.kept fun k hk => b.block k (h.lt k hk)
theorem went_same {w' : World} (h : AtW N w a g) (b : Below w.heap.size w w') : WentG AtW N w a g w' := ⟨N, atw_below h b, Turned.below b, fun k hk => .inl hk⟩
theorem atw_waits (h : AtW N w a g) : Calls Tryd.prog 17 #[.pointer (some a)] w fun e w' => e = .returned (.int .i64 (g.l.length : Nat)) ∧ Below w.heap.size w w' := by
  obtain ⟨_, R, tl, ⟨b, gs, fa, NB, sv, dv, m, rfl, h1, _⟩, _⟩ := h
  refine (w_waits h1.box).mono ?_
  rintro e w' ⟨rfl, rfl⟩
  exact ⟨rfl, Below.refl _ _⟩
theorem atw_cursor (h : AtW N w a g) : Calls Tryd.prog 18 #[.pointer (some a)] w fun e w' => e = .returned (.int .u64 (g.cur : Nat)) ∧ Below w.heap.size w w' := by
  obtain ⟨_, R, tl, ⟨b, gs, fa, NB, sv, dv, m, rfl, h1, _⟩, _⟩ := h
  refine (w_cursor h1.box).mono ?_
  rintro e w' ⟨rfl, rfl⟩
  exact ⟨rfl, Below.refl _ _⟩
theorem atw_due (h : AtW N w a g) : Calls Tryd.prog 16 #[.pointer (some a)] w fun e w' => e = .returned (.int .i64 (g.due.length : Nat)) ∧ Below w.heap.size w w' := by
  obtain ⟨_, R, tl, ⟨b, gs, fa, NB, sv, dv, m, rfl, h1, _⟩, _⟩ := h
  obtain ⟨p, c, e⟩ := tail_form h1.due
  have hb := h1.box
  rw [e] at hb
  refine (w_due hb).mono ?_
  rintro e w' ⟨rfl, rfl⟩
  refine ⟨?_, Below.refl _ _⟩
  show Ending.returned (.int .i64 ((((wsOf g R).due.map u64V).length : Nat) : Int)) = _
  rw [List.length_map]
  rfl
theorem atw_next (h : AtW N w a g) (ok : g.Ok) (hT : Tab w) : Calls Tryd.prog 14 #[.pointer (some a)] w fun e w' => e = .returned (nextV g) ∧ Below w.heap.size w w' := by
  obtain ⟨hn, R, tl, hA, rel⟩ := h
  have HF := Lib.hid (w_first hA (fits_of rel ok hn) (rel.good ok) hT)
  obtain ⟨b, gs, fa, NB, sv, dv, m, rfl, h1, h2, h3⟩ := hA
  have HM := Lib.hid (w_made h1.box)
  have HLie := Lib.hid h1
  have HRel := Lib.hid rel
  have HOk := Lib.hid ok
  have hw1 := ok.w1
  have hw2 := ok.w2
  obtain ⟨c0, c1, c2, c3, c4, c5, c6, c7, c8⟩ := h1.box.cells
  clear h1 rel ok hT h2 h3
  go_enter Tryd.func14, Tryd.ntmps14
  go_wp2_with fail
  refine HM.out.mono ?_
  rintro e w1 ⟨rfl, rfl⟩
  go_wp2_with fail
  refine HF.out.mono ?_
  rintro e W2 ⟨⟨o, ho, rfl⟩, b2⟩
  have HNx := Lib.hid (rel_next HRel.out HOk.out ho)
  have HB2 := Lib.hid b2
  have HLie2 := Lib.hid (HLie.out.below b2)
  clear c0 c1 c2 c3 c4 c5 c6 c7 c8 HF HM b2
  cases o with
  | none =>
    have HV : Hid (nextV g = .tuple #[.int .u64 0, .bool false]) := Lib.hid (by unfold nextV; rw [HNx.out]; rfl)
    clear ho
    simp only [Option.getD_none, Option.isSome_none]
    go_wp2_with fail
    go_ret2
    exact ⟨by rw [HV.out]; rfl, HB2.out⟩
  | some sl =>
    have HV : Hid (nextV g = .tuple #[.int .u64 ((beginW sl g.width : Nat) : Int), .bool true]) := Lib.hid (by unfold nextV; rw [HNx.out]; rfl)
    have hsl : sl < 18446744073709551616 := by
      obtain ⟨p, hp, hne, hs, _⟩ := ho
      rw [hs]
      exact first_lt HOk.out.s1 (HRel.out.good HOk.out) hp hne
    have HS := Lib.hid (fun W : World => (span_begin (sl : Int) (g.width : Int) W ⟨by omega, by omega⟩ ⟨by omega, by omega⟩).mono fun _ _ (h : _ ∧ W = _) => (⟨h.1, h.2.symm⟩ : _ ∧ _ = W))
    rw [begin_num hw1] at HS
    obtain ⟨c0, c1, c2, c3, c4, c5, c6, c7, c8⟩ := HLie2.out.box.cells
    simp only [wsOf] at c1
    clear ho c0 c2 c3 c4 c5 c6 c7 c8
    simp only [Option.getD_some, Option.isSome_some]
    go_wp2_with fail
    refine (HS.out _).mono ?_
    rintro e w3 ⟨rfl, rfl⟩
    go_wp2_with fail
    go_ret2
    exact ⟨by rw [HV.out]; rfl, HB2.out⟩
theorem atw_take (h : AtW N w a g) (ok : g.Ok) : Calls Tryd.prog 12 #[.pointer (some a)] w fun e w' => e = .returned (.tuple #[.int .u64 ((g.due.headD 0 : Nat) : Int), .bool (!g.due.isEmpty)]) ∧ WentG AtW N w a g.took w' := by
  have h0 := h
  obtain ⟨hn, R, tl, ⟨b, gs, fa, NB, sv, dv, m, rfl, h1, h2, h3⟩, rel⟩ := h
  have hrel : RelW g.took R tl := ⟨rel.map, rel.turns, rel.below, rel.perm, rel.mod⟩
  cases hd : g.due with
  | nil =>
    have e0 : g.took = g := by unfold Wg.took; rw [hd]; cases g; simp only at hd; subst hd; rfl
    have hdue := h1.due
    simp only [wsOf, hd, List.map_nil] at hdue
    obtain ⟨p, c, e⟩ := tail_form hdue
    have hb := h1.box
    rw [e] at hb
    refine (w_take_none hb).mono ?_
    rintro e w' ⟨rfl, rfl⟩
    rw [e0]
    exact ⟨rfl, went_same h0 (Below.refl _ _)⟩
  | cons x xs =>
    have hdue := h1.due
    simp only [wsOf, hd, List.map_cons] at hdue
    rcases hdue with ⟨_, e⟩ | ⟨gd, o, cap, cur, rfl, hb0, hg, hle, hcm, hsz, htk⟩
    · cases e
    · have hdue2 : TailRow w 0 22 (.slice (some ⟨gd, o, none⟩) (u64V x :: xs.map u64V).length cap) (u64V x :: xs.map u64V) := .inr ⟨gd, o, cap, cur, rfl, hb0, hg, hle, hcm, hsz, htk⟩
      have hlen : (u64V x :: xs.map u64V).length = xs.length + 1 := by simp
      have hx : w.cell? ⟨gd, o, none⟩ = some (.int .u64 (x : Int)) := by
        have h5 := hdue2.cells rfl 0 (u64V x) rfl
        have e : (⟨gd, o, none⟩ : Addr).add 0 = ⟨gd, o, none⟩ := by simp [Addr.add_lit]
        rw [e] at h5
        exact h5
      have hb := h1.box
      rw [hlen] at hb hle
      refine (w_take hb hle hx).mono ?_
      rintro e w' ⟨v, rfl, rfl, hv⟩
      refine ⟨by simp, ?_⟩
      have hT : TailRow w 0 22 v (xs.map u64V) := by
        rcases hv with ⟨hc, rfl⟩ | ⟨hc, rfl⟩
        · subst hc
          have h6 := hdue2.tail1
          rw [List.length_map] at h6
          exact h6
        · have h6 := hdue2.tail
          rw [List.length_map] at h6
          exact h6
      have hown : v.ownBlock = (Value.slice (some ⟨gd, o, none⟩) (u64V x :: xs.map u64V).length cap).ownBlock := by
        rcases hv with ⟨_, rfl⟩ | ⟨_, rfl⟩ <;> rfl
      have hdb := h1.db
      have h9 : WLie (w.setCell ⟨b, 8, none⟩ v) b gs fa NB sv v m (wsOf g.took R) := by
        refine ⟨Box.set (show Box w b _ _ from h1.box) 8 v, h1.sl.box 8 v, ?_, fun k hk => by rw [hown]; exact h1.nbd k hk⟩
        have e1 : (wsOf g.took R).due = xs := by show g.due.tail = xs; rw [hd]; rfl
        rw [e1]
        exact tail_set hT (by rw [hown]; exact hdb)
      have hNb : N b := (h3 b).2 (.inl rfl)
      refine ⟨N, ⟨hn, R, tl, ⟨b, gs, fa, NB, sv, v, m, rfl, h9, h2, fun k => ?_⟩, hrel⟩, (Turned.refl N w).set hNb v, fun k hk => .inl hk⟩
      rw [h3 k]
      unfold OwnW
      rw [hown]
      exact Iff.rfl
set_option maxHeartbeats 4000000 in
set_option maxRecDepth 100000 in
theorem atw_put (v t : Nat) (h : AtW N w a g) (ok : g.Ok) (hn4 : g.n < 4294967296) (hv : v < 18446744073709551616) (ht : t < 18446744073709551616) (hst : slotW t g.width < 18446744073709551616) :
    Calls Tryd.prog 8 #[.pointer (some a), .int .u64 (v : Int), .int .u64 (t : Int)] w fun e w' => e = .returned (.int .i64 (g.putE : Nat)) ∧ WentG AtW N w a (g.put v (slotW t g.width)) w' := by
  have HAt := Lib.hid h
  obtain ⟨hn, R, tl, hA, rel⟩ := h
  have HFi := Lib.hid (fits_of rel ok hn)
  have HA := Lib.hid hA
  have HRel := Lib.hid rel
  have HOk := Lib.hid ok
  obtain ⟨b, gs, fa, NB, sv, dv, m, rfl, h1, h2, h3⟩ := hA
  have HM := Lib.hid (w_made h1.box)
  have HLie := Lib.hid h1
  have hNb : N b := (h3 b).2 (.inl rfl)
  obtain ⟨pd, cd, ed⟩ := tail_form h1.due
  have eld : ((wsOf g R).due.map u64V).length = g.due.length := by rw [List.length_map]; rfl
  rw [eld] at ed
  obtain ⟨c0, c1, c2, c3, c4, c5, c6, c7, c8⟩ := h1.box.cells
  simp only [wsOf] at c0 c1 c2 c3 c4 c5 c6 c7 c8
  rw [ed] at c8
  obtain ⟨q, HQ⟩ : ∃ q, Hid (g.l.length + g.due.length = q) := ⟨_, Lib.hid rfl⟩
  have hfull := ok.full
  have hr2 := ok.r2
  have hw1 := ok.w1
  have hw2 := ok.w2
  have hs1 := ok.s1
  rw [HQ.out] at hfull
  have hq6 : q ≤ 65536 := by omega
  have hl6 : g.l.length ≤ 65536 := by have := HQ.out; omega
  have hd6 : g.due.length ≤ 65536 := by have := HQ.out; omega
  have hsum : IntKind.i64.wrap ((g.l.length : Int) + (g.due.length : Int)) = (q : Int) := by have := HQ.out; rw [IntKind.wrap_i64]; omega
  clear h1 rel ok h2 h3 ed eld
  by_cases hroom : q = g.room
  · have hb1 : ((q : Int) == (g.room : Int)) = true := by rw [beq_iff_eq]; omega
    have hb2 : (q == g.room) = true := by rw [beq_iff_eq]; exact hroom
    have HE : Hid (g.putE = 4) := Lib.hid (by unfold Wg.putE; rw [if_neg (by rw [HQ.out]; omega)])
    have HP : Hid (g.put v (slotW t g.width) = g) := Lib.hid (by unfold Wg.put; rw [if_neg (by rw [HQ.out]; omega)])
    have HR := Lib.hid hroom
    clear hroom hfull
    go_enter Tryd.func8, Tryd.ntmps8
    go_wp2_with fail
    refine HM.out.mono ?_
    rintro e w1 ⟨rfl, rfl⟩
    go_upto_region 3 with fail
    go_quiet (fail)
    go_wp2_with fail
    go_ret
    exact ⟨by rw [HE.out]; rfl, by rw [HP.out]; exact went_same HAt.out (below_drewN (Below.refl _ _) _)⟩
  · have hb1 : ((q : Int) == (g.room : Int)) = false := by rw [beq_eq_false_iff_ne]; omega
    have hb2 : (q == g.room) = false := by rw [beq_eq_false_iff_ne]; exact hroom
    have HE : Hid (g.putE = 0) := Lib.hid (by unfold Wg.putE; rw [if_pos (by rw [HQ.out]; omega)])
    have hrm : g.l.length + g.due.length < g.room := by rw [HQ.out]; omega
    obtain ⟨s, Hs⟩ : ∃ s, Hid (slotW t g.width = s) := ⟨_, Lib.hid rfl⟩
    have HSl := Lib.hid (fun W => slot_below t g.width W hw1 hw2 ht hst)
    rw [Hs.out] at HSl hst ⊢
    have HRP := Lib.hid (rel_put HRel.out HOk.out v s hrm)
    have HPut : Hid (g.put v s = { g with l := g.l ++ [⟨v, s, standW g.slots g.cur s⟩], n := g.n + 1 }) := Lib.hid (by unfold Wg.put; rw [if_pos hrm])
    have hlp : (R (standW g.slots g.cur s % g.slots)).length < 65536 := by
      have h5 := flat_le (R := R) (S := g.slots) (p := standW g.slots g.cur s % g.slots) (Nat.mod_lt _ (by omega))
      have h6 := HRel.out.len
      omega
    have HStand := Lib.hid (fun (W : World) (bw : Below w.heap.size w W) => (w_stand (HA.out.below bw) HFi.out ⟨v, s, g.n, 0⟩ hst hlp).mono fun e w' (k : _ ∧ WentG WAt N W _ _ w') => (⟨k.1, k.2.after bw⟩ : _ ∧ WentG WAt N w _ _ w'))
    clear hroom hfull hrm hlp HRel
    go_enter Tryd.func8, Tryd.ntmps8
    go_wp2_with fail
    refine HM.out.mono ?_
    rintro e w1 ⟨rfl, rfl⟩
    go_upto_region 3 with fail
    go_quiet (fail)
    clear hsum hb1 hb2 c0 c1 c2 c3 c4 c5 c6 c7 c8
    go_upto_region 5 with fail
    have HB2 := Lib.hid (below_drewN (Below.refl w1.heap.size w1) nq)
    have HLie2 := Lib.hid (HLie.out.below HB2.out)
    obtain ⟨W2, HW2⟩ : ∃ W2, Hid (w1.drewN nq = W2) := ⟨_, Lib.hid rfl⟩
    rw [HW2.out] at HB2 HLie2 ⊢
    clear HW2
    have c1 : W2.cell? ⟨b, 1, none⟩ = some (.int .u64 (g.width : Int)) := HLie2.out.box.cells.2.1
    have c7 : W2.cell? ⟨b, 7, none⟩ = some (.int .u64 (g.n : Int)) := HLie2.out.box.cells.2.2.2.2.2.2.2.1
    go_cut [] (fun wx => ∃ W5, W5 = wx ∧ Hid (WentG WAt N w1 ⟨b, 0, none⟩ { wsOf g R with R := updR R (standW g.slots g.cur s % g.slots) (R (standW g.slots g.cur s % g.slots) ++ [⟨v, s, g.n, standW g.slots g.cur s⟩]) } wx))
    case first =>
      go_region_held3 (fun w' => w'.cell? ⟨b, 1, none⟩ = some (.int .u64 (g.width : Int)) ∧ w'.cell? ⟨b, 7, none⟩ = some (.int .u64 (g.n : Int))) (go_keep)
        (first
          | ((go_at_call 23; refine (HSl.out _).mono ?_; rintro e W3 ⟨rfl, b3⟩; have HB3 := Lib.hid (below_tr (HB2.out.drew) b3); have d1 : W3.cell? ⟨b, 1, none⟩ = some (.int .u64 (g.width : Int)) := (HLie2.out.below (below_tr (Below.refl _ W2).drew b3)).box.cells.2.1; have d7 : W3.cell? ⟨b, 7, none⟩ = some (.int .u64 (g.n : Int)) := (HLie2.out.below (below_tr (Below.refl _ W2).drew b3)).box.cells.2.2.2.2.2.2.2.1; clear b3))
          | ((go_at_call 26; refine (HStand.out _ HB3.out).mono ?_; rintro e W4 ⟨rfl, k4⟩; have HK4 := Lib.hid k4; clear k4; have e1 : W4.cell? ⟨b, 1, none⟩ = some (.int .u64 (g.width : Int)) := (HK4.out.choose_spec.1.c17).1; have e7 : W4.cell? ⟨b, 7, none⟩ = some (.int .u64 (g.n : Int)) := (HK4.out.choose_spec.1.c17).2)))
      all_goals
        go_wp2_with fail
        go_meet
        exact ⟨_, rfl, HK4⟩
    case rest =>
      obtain ⟨W5, rfl, HC⟩ := hcut
      obtain ⟨N5, at5, t5, in5⟩ := HC.out
      obtain ⟨b', gs5, fa5, NB5, sv5, dv5, m5, eb, lie5, hm5, hN5⟩ := at5
      obtain rfl : b = b' := by cases eb; rfl
      have HLie5 := Lib.hid lie5
      have HM5 := Lib.hid (And.intro hm5 hN5)
      have HT5 := Lib.hid (And.intro t5 in5)
      clear lie5 hm5 hN5 t5 in5 eb HC HB2 HLie2 c1 c7
      have c7 : W5.cell? ⟨b, 7, none⟩ = some (.int .u64 (g.n : Int)) := HLie5.out.box.cells.2.2.2.2.2.2.2.1
      have fz := Box.frozen (show Box W5 b _ _ from HLie5.out.box) 7
      have HLie6 := Lib.hid (HLie5.out.setTurns (g.n + 1))
      have hcast : (((g.n + 1 : Nat)) : Int) = (g.n : Int) + 1 := by omega
      rw [hcast] at HLie6
      clear hcast
      go_upto_region 7 with fail
      clear c7 fz
      obtain ⟨W6, HW6⟩ : ∃ W6, Hid (W5.setCell ⟨b, 7, none⟩ (.int .u64 ((g.n : Int) + 1)) = W6) := ⟨_, Lib.hid rfl⟩
      have HT6 : Hid (Turned N w1 W6) := by rw [← HW6.out]; exact Lib.hid (HT5.out.1.set hNb _)
      rw [HW6.out] at HLie6 ⊢
      clear HW6 HLie5
      have c6 : W6.cell? ⟨b, 6, none⟩ = some (.int .i64 (g.l.length : Int)) := HLie6.out.box.cells.2.2.2.2.2.2.1
      have fz := Box.frozen (show Box W6 b _ _ from HLie6.out.box) 6
      have HLie7 := Lib.hid (HLie6.out.setWaits (g.l.length + 1))
      have hcast : (((g.l.length + 1 : Nat)) : Int) = (g.l.length : Int) + 1 := by omega
      rw [hcast] at HLie7
      clear hcast
      have hEnd : WentG AtW N w1 ⟨b, 0, none⟩ (g.put v s) (W6.setCell ⟨b, 6, none⟩ (.int .i64 ((g.l.length : Int) + 1))) := by
        refine ⟨N5, ⟨?_, _, _, ⟨b, gs5, fa5, NB5, sv5, dv5, m5, rfl, ?_, ?_, ?_⟩, HRP.out⟩, HT6.out.set hNb _, HT5.out.2⟩
        · rw [HPut.out]; show g.n + 1 ≤ 4294967296; omega
        · have e : wsOf (g.put v s) (updR R (standW g.slots g.cur s % g.slots) (R (standW g.slots g.cur s % g.slots) ++ [⟨v, s, g.n, standW g.slots g.cur s⟩])) = ⟨g.slots, g.width, g.room, g.cur, g.l.length + 1, g.n + 1, updR R (standW g.slots g.cur s % g.slots) (R (standW g.slots g.cur s % g.slots) ++ [⟨v, s, g.n, standW g.slots g.cur s⟩]), g.due⟩ := by
            rw [HPut.out]
            unfold wsOf
            simp
          rw [e]
          exact HLie7.out
        · rw [HPut.out]; exact HM5.out.1
        · rw [HPut.out]; exact HM5.out.2
      have HEnd := Lib.hid hEnd
      clear hEnd
      go_wp2_with fail
      go_ret
      exact ⟨by rw [HE.out]; rfl, HEnd.out⟩
end

end Go.Proofs.YtkiibobpejoaeaaDoor
