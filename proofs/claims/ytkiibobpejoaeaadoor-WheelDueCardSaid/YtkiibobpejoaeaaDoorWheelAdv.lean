/-
  The program's own wheel: Advance.
-/
import Derived.Test.YtkiibobpejoaeaaDoorWheelRipe
import Derived.Test.YtkiibobpejoaeaaDoorWheelAt
namespace Go.Proofs.YtkiibobpejoaeaaDoor
open Go.RowKit
set_option linter.unusedVariables false
set_option linter.unusedSimpArgs false

theorem one_cell (W : World) (t : TypeId) (v : Value) : (W.alloc (.cells #[v] t)).drew.cell? ((⟨W.heap.size, 0, none⟩ : Addr).add 0) = some v := by
  have h := Box.new W t #[v]
  have e : (⟨W.heap.size, 0, none⟩ : Addr).add 0 = ⟨W.heap.size, 0, none⟩ := by simp [Addr.add_lit]
  rw [e]
  exact h.cell 0
theorem good_mono {S cur nw : Nat} {R : Nat → List Tw} (h : GoodR S cur R) (hc : cur ≤ nw) (h3 : ∀ x, x ∈ flatAll S R → nw < x.at_) : GoodR S nw R := by
  intro p hp x hx
  have h1 := h p hp x hx
  have h2 := h3 x (flat_mem.2 ⟨p, hp, hx⟩)
  exact ⟨by omega, Nat.le_trans h1.2.1 (lastW_mono hc), h1.2.2⟩

set_option maxHeartbeats 8000000 in
set_option maxRecDepth 100000 in
theorem w_advance {N : Nat → Prop} {w : World} {a : Addr} {g : Wg} (now : Nat) (h : AtW N w a g) (ok : g.Ok) (hnow : now < 18446744073709551616) (hT : TabN N w) :
    Calls Tryd.prog 10 #[.pointer (some a), .int .u64 (now : Int)] w fun e w' => e = .returned (.int .i64 ((g.ripe now).length : Nat)) ∧ WentG AtW N w a (g.adv now) w' := by
  obtain ⟨hn, R, lt, hA, rel⟩ := h
  have HFi := Lib.hid (fits_of rel ok hn)
  have HGd := Lib.hid (rel.good ok)
  have HRel := Lib.hid rel
  have HOk := Lib.hid ok
  have HTb := Lib.hid hT
  have hall : (flatAll g.slots R).length ≤ 65536 := by have := rel.len; have := ok.full; have := ok.r2; omega
  have HAll := Lib.hid hall
  have HA := Lib.hid hA
  have hNlt := Lib.hid hA.lt
  obtain ⟨b, gs, fa, NB, sv, dv, m, rfl, h1, h2, h3⟩ := hA
  have HM := Lib.hid (w_made h1.box)
  have HLie := Lib.hid h1
  have hw1 := ok.w1
  have hw2 := ok.w2
  have hcur := ok.cur
  obtain ⟨d, HD⟩ : ∃ d, Hid (now / g.width = d) := ⟨_, Lib.hid rfl⟩
  have hd : d < 18446744073709551616 := by rw [← HD.out]; exact Nat.lt_of_le_of_lt (Nat.div_le_self _ _) hnow
  obtain ⟨nw, HNw⟩ : ∃ nw, Hid (g.to now = nw) := ⟨_, Lib.hid rfl⟩
  have hmax : max g.cur d = nw := by rw [← HNw.out, ← HD.out]; rfl
  have hmx : max (g.cur : Int) (d : Int) = (nw : Int) := by omega
  have hnw : nw < 18446744073709551616 := by omega
  have hdv : Int.tdiv (now : Int) (g.width : Int) = (d : Int) := by rw [← HD.out]; rfl
  have hdv2 : (now : Int) / (g.width : Int) = (d : Int) := by rw [← HD.out]; rfl
  have hz1 : ((g.width : Int) == 0) = false := by rw [beq_eq_false_iff_ne]; omega
  have hz2 : ¬ (g.width : Int) = 0 := by omega
  have hz3 : ¬ g.width = 0 := by omega
  have hwr : IntKind.u64.wrap (d : Int) = (d : Int) := by rw [IntKind.wrap_u64]; omega
  obtain ⟨c0, c1, c2, c3, c4, c5, c6, c7, c8⟩ := h1.box.cells
  simp only [wsOf] at c0 c1 c2 c3 c4 c5 c6 c7 c8
  clear h1 rel ok hT hall hmax
  go_enter Tryd.func10, Tryd.ntmps10
  go_wp2_with fail
  refine HM.out.mono ?_
  rintro e w1 ⟨rfl, rfl⟩
  go_upto_region 3 with fail
  go_cut [5] (fun v5 wx => ∃ w2, w2 = wx ∧ v5 = .pointer (some ⟨w1.heap.size, 0, none⟩) ∧ Hid (Below w1.heap.size w1 wx ∧ wx.cell? ⟨w1.heap.size, 0, none⟩ = some (.int .u64 (nw : Int)) ∧ w1.heap.size < wx.heap.size))
  case first =>
    have HB0 := Lib.hid (((Below.refl _ w1).alloc (Nat.le_refl _) (.cells #[.int .u64 (nw : Int)] 22)).drew)
    have HX0 := Lib.hid (Box.new w1 22 #[.int .u64 (nw : Int)])
    go_region_held3 (fun w' => w'.cell? ⟨b, 3, none⟩ = some (.int .u64 (g.cur : Int)) ∧ w'.cell? ⟨b, 1, none⟩ = some (.int .u64 (g.width : Int))) (go_keep) (fail)
    all_goals
      go_wp2_with fail
      go_meet
      exact ⟨_, rfl, rfl, Lib.hid ⟨HB0.out, HX0.out.cell 0, by simp⟩⟩
  case rest =>
    obtain ⟨w2, rfl, rfl, HW⟩ := hcut
    clear c0 c1 c2 c3 c4 c5 c6 c7 c8 hz1 hz2 hz3 hwr hdv hdv2 hmx HM
    obtain ⟨tb, HTB⟩ : ∃ tb, Hid (w1.heap.size = tb) := ⟨_, Lib.hid rfl⟩
    rw [HTB.out] at HW ⊢
    have HA2 := Lib.hid (HA.out.below (by rw [HTB.out]; exact HW.out.1))
    have HTb2 : Hid (TabN N w2) := Lib.hid ⟨HTb.out.1.below (by rw [HTB.out]; exact HW.out.1), HTb.out.2⟩
    have HL := Lib.hid (w_lift HA2.out HFi.out HGd.out HAll.out HTb2.out nw hnw)
    have x0 := HW.out.2.1
    go_wp2_with fail
    refine HL.out.mono ?_
    rintro e W3 ⟨q, c, lifted, R1, N3, rfl, row3, at3, t3, in3, perm3, le3, far3, good3, sub3⟩
    have H3 := Lib.hid (And.intro perm3 (And.intro le3 (And.intro far3 (And.intro good3 sub3))))
    have HIn3 := Lib.hid in3
    have HT3 := Lib.hid t3
    have HRow3 := Lib.hid row3
    obtain ⟨b', gs', fa', NB', sv', dv', m', eb, lie3, hm3, hN3⟩ := at3
    obtain rfl : b = b' := by cases eb; rfl
    have HN3 := Lib.hid (And.intro hm3 hN3)
    have HLie3 := Lib.hid lie3
    have hb3 := Box.lt (show Box W3 b _ _ from lie3.box)
    have HC3 : Hid (W3.cell? ⟨tb, 0, none⟩ = some (.int .u64 (nw : Int))) := by
      have h1 := HW.out.2.1
      have h2 := HT3.out.block tb HW.out.2.2 (fun hk => by have := hNlt.out tb hk; have := HTB.out; omega)
      unfold World.cell? at h1 ⊢
      simp only at h1 ⊢
      rw [h2]
      exact Lib.hid h1
    clear perm3 le3 far3 good3 sub3 in3 t3 row3 eb lie3 hm3 hN3 x0 HL
    obtain ⟨c0, c1, c2, c3, c4, c5, c6, c7, c8⟩ := HLie3.out.box.cells
    have x0 := HC3.out
    have fz := Box.frozen (show Box W3 b _ _ from HLie3.out.box) 3
    have HLie4 := Lib.hid (HLie3.out.setCur nw)
    have hbt : b ≠ tb := by
      have := hNlt.out b ((h3 b).2 (.inl rfl))
      have := HTB.out
      omega
    go_upto_region 6 with fail
    clear c0 c1 c2 c3 c4 c5 c6 c7 c8 x0 fz
    obtain ⟨W4, HW4⟩ : ∃ W4, Hid (W3.setCell ⟨b, 3, none⟩ (.int .u64 (nw : Int)) = W4) := ⟨_, Lib.hid rfl⟩
    have HN3b := HN3
    have hNb : N b := (h3 b).2 (.inl rfl)
    have HT4 : Hid (Turned N w1 W4) := by
      rw [← HW4.out]
      refine Lib.hid (((Turned.below (N := N) (by rw [HTB.out]; exact HW.out.1)).trans HT3.out).set hNb _)
    have HC4 : Hid (W4.cell? ⟨tb, 0, none⟩ = some (.int .u64 (nw : Int))) := by
      have h1 := HC3.out
      have h2 := Below.heap_setCell W3 ⟨b, 3, none⟩ (.int .u64 (nw : Int)) tb (fun e => hbt (by have : tb = b := e; exact this.symm))
      rw [HW4.out] at h2
      unfold World.cell? at h1 ⊢
      simp only at h1 ⊢
      rw [h2]
      exact Lib.hid h1
    have HRow4 : Hid (W4.ownsRow w2.heap.size 67 3 (.slice q lifted.length c) lifted.length (flatT lifted)) := by
      rw [← HW4.out]
      refine Lib.hid (own_set HRow3.out (fun e => ?_))
      have := (HRow3.out.lt b e).1
      have := hNlt.out b hNb
      have := HW.out.2.2
      have := HTB.out
      omega
    rw [HW4.out] at HLie4 ⊢
    clear HW4 HC3 HRow3 HLie3
    have HAt4 : Hid (WAt N3 W4 ⟨b, 0, none⟩ ⟨g.slots, g.width, g.room, nw, g.l.length, g.n, R1, g.due⟩) := Lib.hid ⟨b, gs', fa', NB', sv', dv', m', rfl, HLie4.out, HN3.out.1, HN3.out.2⟩
    have hcle : g.cur ≤ nw := by have := Nat.le_max_left g.cur (now / g.width); have h5 := HNw.out; unfold Wg.to at h5; omega
    have HGood4 : Hid (GoodR g.slots nw R1) := Lib.hid (good_mono H3.out.2.2.2.1 hcle H3.out.2.2.1)
    have hlens : (flatAll g.slots R1).length + lifted.length ≤ 65536 := by
      have h5 := H3.out.1.length_eq
      rw [List.length_append] at h5
      have h6 := HAll.out
      have h7 : (flatAll (wsOf g R).S (wsOf g R).R).length = (flatAll g.slots R).length := rfl
      have h8 : (flatAll (wsOf g R).S R1).length = (flatAll g.slots R1).length := rfl
      omega
    have HFit4 : Hid (Ws.Fits ⟨g.slots, g.width, g.room, nw, g.l.length, g.n, R1, g.due⟩) := Lib.hid ⟨HFi.out.s1, HFi.out.s2, hw1, hw2, hnw, fun p hp => by
      have := flat_le (R := R1) (S := g.slots) (p := p) hp
      show (R1 p).length ≤ 65536
      omega, fun p hp x hx => HFi.out.word p hp x (H3.out.2.2.2.2 p hp x hx)⟩
    have hwords : ∀ x, x ∈ lifted → x.v < 18446744073709551616 ∧ x.slot < 18446744073709551616 ∧ x.turn < 18446744073709551616 := fun x hx => by
      obtain ⟨p, hp, hx⟩ := flat_mem.1 (H3.out.1.mem_iff.1 (List.mem_append.2 (.inl hx)))
      exact HFi.out.word p hp x hx
    have hoff : OffV N3 (.slice q lifted.length c) := fun k hk e => by
      have h5 := (HRow4.out.lt k e).1
      have h6 := hNlt.out k (HIn3.out k hk)
      have := HW.out.2.2
      have := HTB.out
      omega
    have htb : ¬ N3 tb := fun hk => by
      have h6 := hNlt.out tb (HIn3.out tb hk)
      have := HTB.out
      omega
    have HAp := Lib.hid (w_apart HAt4.out HFit4.out HGood4.out nw tb w2.heap.size c q lifted hlens HRow4.out hoff hwords HC4.out htb)
    clear hlens hwords hoff htb
    go_wp2_with fail
    refine HAp.out.mono ?_
    rintro e W5 ⟨N5, R5, q5, c5, rfl, ap⟩
    have HA5 := Lib.hid ap
    obtain ⟨k, Hk⟩ : ∃ k, Hid ((dueL nw lifted).length = k) := ⟨_, Lib.hid rfl⟩
    have hk6 : k ≤ 65536 := by
      have h5 := H3.out.1.length_eq
      rw [List.length_append] at h5
      have h6 := HAll.out
      have h7 : (flatAll (wsOf g R).S (wsOf g R).R).length = (flatAll g.slots R).length := rfl
      have h8 := List.length_filter_le (fun x : Tw => decide (x.slot ≤ nw)) lifted
      have h9 := Hk.out
      unfold dueL at h9
      omega
    have HSo := Lib.hid (w_sort ap.row (by rw [Hk.out]; exact hk6))
    rw [Hk.out] at HSo ⊢
    clear ap HAp
    go_wp2_with fail
    refine HSo.out.mono ?_
    rintro e W6 ⟨dl, rfl, permd, pw, row6, t6⟩
    have hdl : dl.length = k := by rw [permd.length_eq]; exact Hk.out
    rw [Hk.out, ← hdl] at row6
    have HPm := Lib.hid permd
    have HPw := Lib.hid pw
    have hsz1 := HT4.out.size
    have hfresh : ∀ j, (Value.slice q5 k c5).ownBlock = some j → W4.heap.size ≤ j := fun j hj => by
      rw [← hdl] at hj
      exact (row6.lt j hj).1
    have hin5 : ∀ j, N5 j → N j ∨ w1.heap.size ≤ j := fun j hj => by
      rcases HA5.out.in_ j hj with h5 | h5
      · exact .inl (HIn3.out j h5)
      · exact .inr (by omega)
    have hoff5 : OffV N5 (.slice q5 k c5) := by have h5 := HA5.out.off; rw [Hk.out] at h5; exact h5
    have hT6 : Turned N w1 W6 := by
      refine ⟨t6.os.trans (HA5.out.lo.os.trans HT4.out.os), t6.tape.trans (HA5.out.lo.tape.trans HT4.out.tape), t6.output.trans (HA5.out.lo.output.trans HT4.out.output), Nat.le_trans hsz1 (Nat.le_trans HA5.out.lo.size t6.size), fun j hj hnj => ?_⟩
      have h5 := HA5.out.lo.size
      refine (t6.block j (by omega) (fun e => ?_)).trans ((HA5.out.lo.block j (by omega) (fun h6 => hnj (HIn3.out j h6))).trans (HT4.out.block j hj hnj))
      have := hfresh j e
      omega
    have HD6 : Hid (DueR N N5 w1 W6 ⟨b, 0, none⟩ ⟨g.slots, g.width, g.room, nw, g.l.length, g.n, R5, g.due⟩ W4.heap.size c5 q5 dl 0) := by
      refine Lib.hid ⟨?_, by rw [hdl] at row6 ⊢; exact row6, by rw [hdl]; exact hoff5, hT6, hin5⟩
      have h5 := HA5.out.at_.kept (w' := W6) (fun j hj => t6.block j (HA5.out.at_.lt j hj) (fun e => hoff5 j hj e))
      simpa using h5
    have HA5P := Lib.hid HA5.out.perm
    have HA5G := Lib.hid HA5.out.good
    have HDl := Lib.hid hdl
    obtain ⟨i0, hi1, hi2, hi3, hi4⟩ := info_parts (P := Tryd.prog) (e := 22) (z := .int .u64 0) (size := 1) (bytes := 8) (by kernel_rfl)
    have HI := Lib.hid (And.intro hi1 (And.intro hi2 (And.intro hi3 hi4)))
    have hdue : g.due.length ≤ 65536 := by have := HOk.out.full; have := HOk.out.r2; omega
    obtain ⟨B4, HB4⟩ : ∃ B4, Hid (W4.heap.size = B4) := ⟨_, Lib.hid rfl⟩
    rw [HB4.out] at HD6
    clear row6 permd pw hsz1 hfresh hin5 hoff5 hT6 hdl t6 hi1 hi2 hi3 hi4 HSo HA5
    go_wp2_with fail
    go_loopg [39] k (fun r v39 wx => ∃ (i : Nat) (N' : Nat → Prop), i + r = k ∧ v39 = .int .i64 (i : Int) ∧ Hid (DueR N N' w1 wx ⟨b, 0, none⟩ ⟨g.slots, g.width, g.room, nw, g.l.length, g.n, R5, g.due⟩ B4 c5 q5 dl i))
    case atStart => exact ⟨0, N5, by omega, rfl, HD6⟩
    case round =>
      obtain ⟨i, N', hik, rfl, HR⟩ := hrel
      clear HD6
      by_cases hie : i = k
      · have hiz : ¬ (i : Int) < (k : Int) := by omega
        have HR' := HR
        obtain ⟨⟨b2, gs2, fa2, NB2, sv2, dv2, m2, eb2, lie9, hm9, hN9⟩, row9, off9, lo9, in9⟩ := HR.out
        obtain rfl : b = b2 := by cases eb2; rfl
        have hdone : dl.take i = dl := List.take_of_length_le (by rw [HDl.out]; omega)
        rw [hdone] at lie9
        obtain ⟨hv, lt', hrel'⟩ := rel_adv (now := now) (R1 := R1) (R2 := R5) (lifted := lifted) (due := dl) HRel.out HOk.out H3.out.1 (by rw [HNw.out]; exact H3.out.2.1) (by rw [HNw.out]; exact H3.out.2.2.1) (by rw [HNw.out]; exact HA5P.out) (fun p hp x hx => (HA5G.out p hp x hx).2.2) (by rw [HNw.out]; exact HPm.out) HPw.out
        have hripe : (g.ripe now).length = k := by
          have h5 := congrArg List.length hv
          rw [List.length_map, List.length_map, sortT_len] at h5
          rw [← h5]
          exact HDl.out
        obtain ⟨lw, hlw⟩ : ∃ lw, (g.rest now).length = lw := ⟨_, rfl⟩
        have hrr := ripe_rest g now
        have e1 : (g.l.length : Int) - (k : Int) = (lw : Int) := by omega
        have e2 : IntKind.i64.wrap ((g.l.length : Int) - (k : Int)) = (lw : Int) := by
          have h5 := HOk.out.full
          have h6 := HOk.out.r2
          rw [e1, IntKind.wrap_i64]
          omega
        have HEnd : Hid (WentG AtW N w1 ⟨b, 0, none⟩ (g.adv now) (wr.setCell ⟨b, 6, none⟩ (.int .i64 (lw : Int)))) := by
          refine Lib.hid ⟨N', ⟨hn, R5, lt', ⟨b, gs2, fa2, NB2, sv2, dv2, m2, rfl, ?_, hm9, hN9⟩, hrel'⟩, lo9.set hNb _, in9⟩
          have h5 := lie9.setWaits lw
          have h6 : wsOf (g.adv now) R5 = ⟨g.slots, g.width, g.room, nw, lw, g.n, R5, g.due ++ dl.map Tw.v⟩ := by
            unfold wsOf Wg.adv
            simp only [HNw.out, hv, hlw]
          rw [h6]
          exact h5
        have HRip := Lib.hid hripe
        have hlw6 : lw ≤ 65536 := by have h5 := HOk.out.full; have h6 := HOk.out.r2; omega
        have e3 : wrap64 (lw : Int) = (lw : Int) := by unfold wrap64; omega
        obtain ⟨c0, c1, c2, c3, c4, c5', c6, c7, c8⟩ := lie9.box.cells
        have fz := Box.frozen (show Box wr b _ _ from lie9.box) 6
        clear lie9 hm9 hN9 row9 off9 lo9 in9 eb2 hdone hv hrel' hripe hlw hrr c0 c1 c2 c3 c4 c5' c7 c8
        go_wp2_with fail
        go_ret
        exact ⟨by rw [HRip.out]; rfl, HEnd.out⟩
      · have hiz : (i : Int) < (k : Int) := by omega
        obtain ⟨x, hx⟩ : ∃ x, dl[i]? = some x := ⟨_, List.getElem?_eq_getElem (by rw [HDl.out]; omega)⟩
        obtain ⟨g5, rfl, x0, x1, x2⟩ := thing_cell HR.out.row rfl hx
        have HX := Lib.hid hx
        have hiz0 : (0 : Int) ≤ (i : Int) := by omega
        clear hx
        go_upto_region 11 with fail
        clear x0 x1 x2
        obtain ⟨xb, HXB⟩ : ∃ xb, Hid (wr.heap.size = xb) := ⟨_, Lib.hid rfl⟩
        obtain ⟨W7, HW7⟩ : ∃ W7, Hid (wr.alloc (.cells #[.int .u64 (x.v : Int), .int .u64 (x.slot : Int), .int .u64 (x.turn : Int)] 67) = W7) := ⟨_, Lib.hid rfl⟩
        have HR7 := Lib.hid (HR.out.below (W' := W7) (by rw [← HW7.out]; exact (Below.refl _ _).alloc (Nat.le_refl _) _))
        have HX7 : Hid (Box W7 xb 67 #[.int .u64 (x.v : Int), .int .u64 (x.slot : Int), .int .u64 (x.turn : Int)]) := by rw [← HW7.out, ← HXB.out]; exact Lib.hid (Box.new _ _ _)
        rw [HW7.out, HXB.out]
        clear HW7 HXB HR
        obtain ⟨⟨b2, gs2, fa2, NB2, sv2, dv2, m2, eb2, lie7, hm7, hN7⟩, row7, off7, lo7, in7⟩ := HR7.out
        obtain rfl : b = b2 := by cases eb2; rfl
        have HLie7 := Lib.hid lie7
        have HMN := Lib.hid (And.intro hm7 hN7)
        clear eb2 lie7 hm7 hN7 row7 off7 lo7 in7
        have A1 := Lib.hid (((Below.refl _ W7).alloc (Nat.le_refl _) (.cells #[.int .u64 (x.v : Int)] 22)).drew)
        have HR8 := Lib.hid (HR7.out.below A1.out)
        have HLie8 := Lib.hid (HLie7.out.below A1.out)
        obtain ⟨c0, c1, c2, c3, c4, c5', c6, c7, c8⟩ := HLie7.out.box.cells
        have x0 : W7.cell? ⟨xb, 0, none⟩ = some (.int .u64 (x.v : Int)) := HX7.out.cell 0
        have c8A : (W7.alloc (.cells #[.int .u64 (x.v : Int)] 22)).cell? ⟨b, 8, none⟩ = some dv2 := HLie8.out.box.cells.2.2.2.2.2.2.2.2
        have hlen8 : ((g.due ++ (dl.take i).map Tw.v).map u64V).length ≤ 131072 := by
          rw [List.length_map, List.length_append, List.length_map]
          have : (dl.take i).length ≤ i := List.length_take_le _ _
          omega
        clear c0 c1 c2 c3 c4 c5' c6 c7
        go_region_law
          ((refine step_append_tail (by rfl) (.tmp 47) (.tmp 50) _ (by rfl) 0 22 i0 (.int .u64 0) 8 Tryd.underlying29 HI.out.1 HI.out.2.1 HI.out.2.2.1 HI.out.2.2.2 rfl dv2 _ (by rfl) HLie8.out.due ⟨W7.heap.size, 0, none⟩ 1 (.int .u64 (x.v : Int)) (by rfl) (one_cell W7 22 _) rfl (Nat.le_trans (Nat.succ_le_succ hlen8) (by decide)) (Nat.le_trans (Nat.mul_le_mul_right 8 (Nat.succ_le_succ hlen8)) (by decide)) (Nat.zero_le _) ?_; intro pv nv cv w5 t5 gr5 hat; obtain ⟨N2, hS⟩ := HR8.out.step HX.out HLie8.out HMN.out.1 HMN.out.2 t5 gr5 hat; have HS := Lib.hid hS; have d8 := (gr5.cell_far ⟨b, 8, none⟩ (HLie8.out.lt b (.inl rfl)) (fun e => HLie8.out.db e.symm)).trans c8A; have f8 := ((show Box (W7.alloc (.cells #[.int .u64 (x.v : Int)] 22)).drew b _ _ from HLie8.out.box).grown gr5 (fun e => HLie8.out.db e.symm)).frozen 8; clear t5 gr5 hat hS))
        all_goals
          clear d8 f8
          have hwi : IntKind.i64.wrap ((i : Int) + 1) = ((i + 1 : Nat) : Int) := by rw [IntKind.wrap_i64]; omega
          go_wp2_with fail
          go_roundg (k - (i + 1))
          case measure => omega
          case rel => exact ⟨i + 1, N2, by omega, by go_num, HS⟩

end Go.Proofs.YtkiibobpejoaeaaDoor
