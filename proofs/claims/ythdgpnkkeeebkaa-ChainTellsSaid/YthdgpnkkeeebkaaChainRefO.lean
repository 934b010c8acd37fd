/-
  The document's own chains: Pop.
-/
import Derived.Test.YthdgpnkkeeebkaaChainRefQ
namespace Go.Proofs.Ythdgpnkkeeebkaa
open Go.RowKit
set_option linter.unusedVariables false

section
variable {M : Nat → Prop} {w : World} {s : Value} {g : Ch} {vs : List Value}
theorem RefC.drew {f : Value → Value} {W : World} {e : Ending} (h : RefC f M w g e W) : RefC f M w g e W.drew := by
  obtain ⟨s', M', vs', h1, h2, h3, h4⟩ := h
  exact ⟨s', M', vs', h1, h2.below (Below.refl _ W).drew, h3, below_tr h4 (Below.refl _ W).drew⟩
/-- Drop, of a node that is in a list, out of chains that a call holds. -/
theorem ref_drop_own {P : Option Addr} {C B : Nat} {W : World} (h : RefAt M w (.slice P g.ls.length C) g vs) (ok : g.Ok) (x i : Nat) (ha : g.at x = some i) (T : TwoB w W (.int .i64 (g.nodes : Int)) (.slice P g.ls.length C) B) :
    Calls Try.prog 17 #[.agg #[.int .i64 (g.nodes : Int), .slice P g.ls.length C], .int .i64 (x : Int)] W fun e W' => ∃ P' C' M' vs', e = .returned (.tuple #[.agg #[.int .i64 (g.nodes : Int), .slice P' g.ls.length C'], .bool true]) ∧ RefAt M' W' (.slice P' g.ls.length C') (g.less i x) vs' ∧ (∀ k, M' k → M k ∨ w.heap.size ≤ k) ∧ TwoB w W' (.int .i64 (g.nodes : Int)) (.slice P g.ls.length C) B ∧ Below W.heap.size W W' := by
  have KD := ref_drop (h.kept (fun i hi => T.lo.block i (h.lt i hi)) T.lo.size) ok (x : Int)
  rw [Ch.inn_nat, ha, drop_is ha] at KD
  refine KD.mono ?_
  rintro e W' ⟨s', M', vs', rfl, R2, hM', b2⟩
  obtain ⟨P', C', rfl⟩ := R2.form
  have el : (g.less i x).ls.length = g.ls.length := by simp [Ch.less]
  rw [el] at R2 ⊢
  refine ⟨P', C', M', vs', rfl, R2, fun k hk => ?_, T.below b2, b2⟩
  rcases hM' k hk with h' | h'
  · exact .inl h'
  · exact .inr (Nat.le_trans T.lo.size h')

theorem ref_pop_no (h : RefAt M w s g vs) (ok : g.Ok) (i : Int) (hno : g.list i = []) :
    Calls Try.prog 15 #[refV g s, .int .i64 i] w (RefC (fun v => .tuple #[v, .int .i64 0, .bool false]) M w g) := by
  unfold refV
  obtain ⟨P, C, rfl⟩ := h.form
  have hlen := ok.len
  have hsm := ok.small
  obtain ⟨B, HBE⟩ : ∃ B, Hid (w.heap.size = B) := ⟨_, Lib.hid rfl⟩
  have S0 := Lib.hid (TwoB.start w (.int .i64 (g.nodes : Int)) (.slice P g.ls.length C) B HBE.out)
  obtain ⟨W, HW⟩ : ∃ W, Hid (((w.alloc (.cells #[.int .i64 (g.nodes : Int), .slice P g.ls.length C] 29)).alloc (.cells #[.int .i64 0, .slice none 0 0] 29)) = W) := ⟨_, Lib.hid rfl⟩
  rw [HW.out] at S0
  obtain ⟨d0, d1, d2, d3, d4, d5⟩ := S0.out.cells
  have KL := ref_list (h.kept (fun i hi => S0.out.lo.block i (h.lt i hi)) S0.out.lo.size) i hlen
  rw [hno] at KL
  have KL' : Hid (Calls Try.prog 19 #[.agg #[.int .i64 (g.nodes : Int), .slice P g.ls.length C], .int .i64 i] W fun e w' => ∃ p c, e = .returned (.slice p 0 c) ∧ Below W.heap.size W w') := by
    refine Lib.hid (KL.mono ?_)
    rintro e w' ⟨p, c, rfl, _, b⟩
    exact ⟨p, c, rfl, b⟩
  have HH := Lib.hid h
  clear h ok KL
  go_enter Try.func15, Try.ntmps15
  go_upto_region 1 with fail
  rw [HW.out, HBE.out]
  go_wp2_with fail
  refine KL'.out.mono ?_
  rintro e w1 ⟨p, c, rfl, b1⟩
  have S1 := Lib.hid (S0.out.below b1)
  clear d0 d1 d2 d3 d4 d5 b1 KL' S0
  obtain ⟨d0, d1, d2, d3, d4, d5⟩ := S1.out.cells
  obtain ⟨hE, e0, e1⟩ := ref_same (fun v => .tuple #[v, .int .i64 0, .bool false]) HH.out S1.out
  have HE := Lib.hid hE
  clear hE S1
  go_wp2_with fail
  refine bodyPost_ret (v := .tuple #[.agg #[.int .i64 (g.nodes : Int), .slice P g.ls.length C], .int .i64 0, .bool false]) ?_ rfl HE.out
  simp [results, Try.f15, go_sem, e0, e1]

/-- What Pop holds, behind the leaving: its own chains, what it will answer, and what it has. -/
structure PopAt (M : Nat → Prop) (w wx : World) (g : Ch) (i x B : Nat) (P : Option Addr) (C Q b8 : Nat) (P7 : Option Addr) (C7 : Nat) : Prop where
  two : TwoB w wx (.int .i64 (g.nodes : Int)) (.slice P g.ls.length C) B
  box : Box wx b8 29 #[.int .i64 (g.nodes : Int), .slice P7 g.ls.length C7]
  ref : ∃ M7 vs7, RefAt M7 wx (.slice P7 g.ls.length C7) (g.less i x) vs7 ∧ ∀ k, M7 k → M k ∨ w.heap.size ≤ k
  cx : wx.cell? ⟨Q, 0, none⟩ = some (.int .i64 (x : Int))
  ne : b8 ≠ B + 1
theorem pop_new {P P7 : Option Addr} {C C7 B b i x Q : Nat} {W : World} {M7 : Nat → Prop} {vs7 : List Value} (R : RefAt M7 W (.slice P7 g.ls.length C7) (g.less i x) vs7) (hM : ∀ k, M7 k → M k ∨ w.heap.size ≤ k) (T : TwoB w W (.int .i64 (g.nodes : Int)) (.slice P g.ls.length C) B) (cx : W.cell? ⟨Q, 0, none⟩ = some (.int .i64 (x : Int))) (hb : b = W.heap.size) :
    PopAt M w (W.alloc (.cells #[.int .i64 (g.nodes : Int), .slice P7 g.ls.length C7] 29)) g i x B P C Q b P7 C7 := by
  subst hb
  have bl := (Below.refl W.heap.size W).alloc (Nat.le_refl _) (.cells #[.int .i64 (g.nodes : Int), .slice P7 g.ls.length C7] 29)
  exact ⟨T.below bl, Box.new _ _ _, ⟨M7, vs7, R.below bl, hM⟩, (bl.cell (p := ⟨Q, 0, none⟩) (World.block_lt_of_cell? W _ cx)).trans cx, by have := T.b4.lt; omega⟩
theorem pop_old {P P7 : Option Addr} {C C7 B b i x Q : Nat} {W : World} {M7 : Nat → Prop} {vs7 : List Value} (R : RefAt M7 W (.slice P7 g.ls.length C7) (g.less i x) vs7) (hM : ∀ k, M7 k → M k ∨ w.heap.size ≤ k) (T : TwoB w W (.int .i64 (g.nodes : Int)) (.slice P g.ls.length C) B) (cx : W.cell? ⟨Q, 0, none⟩ = some (.int .i64 (x : Int))) {c0 c1 : Value} (z : Box W b 29 #[c0, c1]) (h1 : B ≠ b) (h2 : B + 1 ≠ b) (h3 : Q ≠ b) (hw : w.heap.size ≤ b) :
    PopAt M w ((W.setCell ⟨b, 0, none⟩ (.int .i64 (g.nodes : Int))).setCell ⟨b, 1, none⟩ (.slice P7 g.ls.length C7)) g i x B P C Q b P7 C7 ∧
    (((W.setCell ⟨b, 0, none⟩ (.int .i64 (g.nodes : Int))).setCell ⟨b, 1, none⟩ (.slice P7 g.ls.length C7)).cell? ⟨B, 0, none⟩ = some (.int .i64 (g.nodes : Int)) ∧ ((W.setCell ⟨b, 0, none⟩ (.int .i64 (g.nodes : Int))).setCell ⟨b, 1, none⟩ (.slice P7 g.ls.length C7)).cell? ⟨B, 1, none⟩ = some (.slice P g.ls.length C) ∧ ((W.setCell ⟨b, 0, none⟩ (.int .i64 (g.nodes : Int))).setCell ⟨b, 1, none⟩ (.slice P7 g.ls.length C7)).cell? ⟨Q, 0, none⟩ = some (.int .i64 (x : Int))) := by
  obtain ⟨r6, x6⟩ := R.put (u0 := .int .i64 (g.nodes : Int)) (u1 := .slice P7 g.ls.length C7) z
  have t : TwoB w ((W.setCell ⟨b, 0, none⟩ (.int .i64 (g.nodes : Int))).setCell ⟨b, 1, none⟩ (.slice P7 g.ls.length C7)) (.int .i64 (g.nodes : Int)) (.slice P g.ls.length C) B :=
    ⟨(T.b2.other h1 _).other h1 _, (T.b4.other h2 _).other h2 _, below_put (q := b) _ _ T.lo hw, T.hB⟩
  have cq : ((W.setCell ⟨b, 0, none⟩ (.int .i64 (g.nodes : Int))).setCell ⟨b, 1, none⟩ (.slice P7 g.ls.length C7)).cell? ⟨Q, 0, none⟩ = some (.int .i64 (x : Int)) := by
    have e : ((W.setCell ⟨b, 0, none⟩ (.int .i64 (g.nodes : Int))).setCell ⟨b, 1, none⟩ (.slice P7 g.ls.length C7)).heap[Q]? = W.heap[Q]? := (Below.heap_setCell _ ⟨b, 1, none⟩ _ Q h3).trans (Below.heap_setCell _ ⟨b, 0, none⟩ _ Q h3)
    rw [← cx]
    unfold World.cell?
    rw [e]
  exact ⟨⟨t, x6, ⟨M7, vs7, r6, hM⟩, cq, by omega⟩, t.b2.cell 0, t.b2.cell 1, cq⟩

set_option maxHeartbeats 8000000 in
theorem ref_pop_yes (h : RefAt M w s g vs) (ok : g.Ok) (i x : Nat) (L : List Nat) (hL : g.ls[i]? = some (x :: L)) :
    Calls Try.prog 15 #[refV g s, .int .i64 (i : Int)] w (RefC (fun v => .tuple #[v, .int .i64 (x : Int), .bool true]) M w (g.less i x)) := by
  unfold refV
  have ha : g.at x = some i := ok.at_of hL (by simp)
  have hlen := ok.len
  have hsm := ok.small
  have hLl := Nat.le_trans (short_list ok hL) hsm
  obtain ⟨P, C, rfl⟩ := h.form
  obtain ⟨B, HBE⟩ : ∃ B, Hid (w.heap.size = B) := ⟨_, Lib.hid rfl⟩
  have S0 := Lib.hid (TwoB.start w (.int .i64 (g.nodes : Int)) (.slice P g.ls.length C) B HBE.out)
  obtain ⟨W, HW⟩ : ∃ W, Hid (((w.alloc (.cells #[.int .i64 (g.nodes : Int), .slice P g.ls.length C] 29)).alloc (.cells #[.int .i64 0, .slice none 0 0] 29)) = W) := ⟨_, Lib.hid rfl⟩
  rw [HW.out] at S0
  obtain ⟨d0, d1, d2, d3, d4, d5⟩ := S0.out.cells
  have KL := ref_list (h.kept (fun i hi => S0.out.lo.block i (h.lt i hi)) S0.out.lo.size) (i : Int) hlen
  rw [list_nat hL] at KL
  have HN : Hid ((g.less i x).nodes = g.nodes) := Lib.hid rfl
  have KL' : Hid (Calls Try.prog 19 #[.agg #[.int .i64 (g.nodes : Int), .slice P g.ls.length C], .int .i64 (i : Int)] W fun e w' => ∃ Q c, e = .returned (.slice (some ⟨Q, 0, none⟩) (L.length + 1) c) ∧ w'.cell? ⟨Q, 0, none⟩ = some (.int .i64 (x : Int)) ∧ Q < w'.heap.size ∧ (∃ cs, w'.heap[Q]? = some (.cells cs 3 (0, 0))) ∧ Below W.heap.size W w') := by
    refine Lib.hid (KL.mono ?_)
    rintro e w' ⟨p, c, rfl, hin, b⟩
    obtain ⟨Q, rfl, cx⟩ := hin.cells (j := 0) (by simp)
    refine ⟨Q, c, rfl, cx, World.block_lt_of_cell? w' _ cx, ?_, b⟩
    obtain ⟨p', c', e', r, _⟩ := hin
    cases e'
    rcases r.2 with ⟨e, _⟩ | ⟨Q', cap, cur, e, _, hc, _⟩
    · cases e
    · cases e
      exact ⟨cur, hc⟩
  have HH := Lib.hid h
  have HOK := Lib.hid ok
  have HAT := Lib.hid ha
  clear h ok KL ha hL
  go_enter Try.func15, Try.ntmps15
  go_upto_region 1 with fail
  rw [HW.out, HBE.out]
  go_wp2_with fail
  refine KL'.out.mono ?_
  rintro e w1 ⟨Q, c, rfl, cx, hQ, ⟨cs, hcs⟩, b1⟩
  have S1 := Lib.hid (S0.out.below b1)
  have HQ := Lib.hid hQ
  have HCS := Lib.hid hcs
  have HCX := Lib.hid cx
  clear d0 d1 d2 d3 d4 d5 b1 KL' S0 hQ hcs
  obtain ⟨d0, d1, d2, d3, d4, d5⟩ := S1.out.cells
  have hl1 : (L.length : Int) + 1 ≠ 0 := by omega
  go_upto_region 4 with fail
  have hb0 : ((L.length : Int) + 1 == 0) = false := by simpa using hl1
  rw [hb0]
  clear hb0 hl1
  have hB1 : B < w1.heap.size := S1.out.b2.lt
  have hB2 : B + 1 < w1.heap.size := S1.out.b4.lt
  have hQ1 : Q < w1.heap.size := HQ.out
  have hQB : Q ≠ B + 1 := by
    intro e
    have h1 := S1.out.b4
    rw [← e] at h1
    have h2 := h1.symm.trans HCS.out
    simp at h2
  have T1 : Hid (TwoB w w1.drew (.int .i64 (g.nodes : Int)) (.slice P g.ls.length C) B) := Lib.hid (S1.out.below (Below.refl _ w1).drew)
  have T2 : Hid (TwoB w (w1.alloc (.cells #[.int .i64 0, .slice none 0 0] 29)).drew (.int .i64 (g.nodes : Int)) (.slice P g.ls.length C) B) := Lib.hid (S1.out.below (((Below.refl _ w1).alloc (Nat.le_refl _) _).drew))
  have ZB : Hid (Box (w1.alloc (.cells #[.int .i64 0, .slice none 0 0] 29)).drew w1.heap.size 29 #[.int .i64 0, .slice none 0 0]) := Lib.hid (Box.new w1 _ _)
  have CQ2 : Hid ((w1.alloc (.cells #[.int .i64 0, .slice none 0 0] 29)).drew.cell? ⟨Q, 0, none⟩ = some (.int .i64 (x : Int))) := Lib.hid ((((Below.refl w1.heap.size w1).alloc (Nat.le_refl _) (.cells #[.int .i64 0, .slice none 0 0] 29)).cell (p := ⟨Q, 0, none⟩) hQ1).trans HCX.out)
  go_cut [8] (fun v wx => ∃ b8 P7 C7, v = .pointer (some ⟨b8, 0, none⟩) ∧ Hid (PopAt M w wx g i x B P C Q b8 P7 C7))
  case first =>
    go_region_held3 (fun w' => w'.cell? ⟨B, 0, none⟩ = some (.int .i64 (g.nodes : Int)) ∧ w'.cell? ⟨B, 1, none⟩ = some (.slice P g.ls.length C) ∧ w'.cell? ⟨Q, 0, none⟩ = some (.int .i64 (x : Int)))
      (first | go_keep | exact k7 | exact k8)
      (first
        | (go_at_call 17; refine (ref_drop_own HH.out HOK.out x i HAT.out T1.out).mono ?_; rintro e w5 ⟨P7, C7, M7, vs7, rfl, R7, hM7, T7, b7⟩; have k7 : w5.cell? ⟨B, 0, none⟩ = some (.int .i64 (g.nodes : Int)) ∧ w5.cell? ⟨B, 1, none⟩ = some (.slice P g.ls.length C) ∧ w5.cell? ⟨Q, 0, none⟩ = some (.int .i64 (x : Int)) := ⟨T7.b2.cell 0, T7.b2.cell 1, (b7.cell (p := ⟨Q, 0, none⟩) hQ1).trans HCX.out⟩; have HE := Lib.hid (pop_new (b := w5.heap.size) R7 hM7 T7 k7.2.2 rfl); clear R7 hM7 T7 b7)
        | (go_at_call 17; refine (ref_drop_own HH.out HOK.out x i HAT.out T2.out).mono ?_; rintro e w5 ⟨P7, C7, M7, vs7, rfl, R7, hM7, T7, b7⟩; have k7 : w5.cell? ⟨B, 0, none⟩ = some (.int .i64 (g.nodes : Int)) ∧ w5.cell? ⟨B, 1, none⟩ = some (.slice P g.ls.length C) ∧ w5.cell? ⟨Q, 0, none⟩ = some (.int .i64 (x : Int)) := ⟨T7.b2.cell 0, T7.b2.cell 1, (b7.cell (p := ⟨Q, 0, none⟩) (by show Q < _; simp; omega)).trans CQ2.out⟩; have z5 := ZB.out.below b7 ZB.out.lt; have z0 := z5.cell 0; have z1 := z5.cell 1; have f0 := z5.frozen 0; have f1 := z5.frozen 1; obtain ⟨hE, k8⟩ := pop_old R7 hM7 T7 k7.2.2 z5 (by omega) (by omega) (by omega) S1.out.lo.size; have HE := Lib.hid hE; clear hE R7 hM7 T7 b7 z5))
    all_goals
      clear k7 d0 d1 d2 d3 d4 d5 cx
      go_wp2_with fail
      go_meet
      exact ⟨_, P7, C7, rfl, HE⟩
  case rest =>
    obtain ⟨b8, P7, C7, rfl, HP⟩ := hcut
    clear d0 d1 d2 d3 d4 d5 cx T1 T2 ZB CQ2
    obtain ⟨M7, vs7, R7, hM7⟩ := HP.out.ref
    obtain ⟨_, _, d2, d3, d4, d5⟩ := HP.out.two.cells
    have k0 := HP.out.box.cell 0
    have k1 := HP.out.box.cell 1
    have k2 := HP.out.cx
    have k9 : ((wc.setCell ⟨B + 1, 0, none⟩ (.int .i64 (g.nodes : Int))).setCell ⟨B + 1, 1, none⟩ (.slice P7 g.ls.length C7)).cell? ⟨b8, 0, none⟩ = some (.int .i64 (g.nodes : Int)) ∧ ((wc.setCell ⟨B + 1, 0, none⟩ (.int .i64 (g.nodes : Int))).setCell ⟨B + 1, 1, none⟩ (.slice P7 g.ls.length C7)).cell? ⟨b8, 1, none⟩ = some (.slice P7 g.ls.length C7) ∧ ((wc.setCell ⟨B + 1, 0, none⟩ (.int .i64 (g.nodes : Int))).setCell ⟨B + 1, 1, none⟩ (.slice P7 g.ls.length C7)).cell? ⟨Q, 0, none⟩ = some (.int .i64 (x : Int)) := by
      have x8 := (HP.out.box.other (c := B + 1) (i := 0) HP.out.ne (.int .i64 (g.nodes : Int))).other (c := B + 1) (i := 1) HP.out.ne (.slice P7 g.ls.length C7)
      refine ⟨x8.cell 0, x8.cell 1, ?_⟩
      have e : ((wc.setCell ⟨B + 1, 0, none⟩ (.int .i64 (g.nodes : Int))).setCell ⟨B + 1, 1, none⟩ (.slice P7 g.ls.length C7)).heap[Q]? = wc.heap[Q]? := (Below.heap_setCell _ ⟨B + 1, 1, none⟩ _ Q hQB).trans (Below.heap_setCell _ ⟨B + 1, 0, none⟩ _ Q hQB)
      rw [← HP.out.cx]
      unfold World.cell?
      rw [e]
    obtain ⟨hE, e0, e1⟩ := ref_done (fun v => .tuple #[v, .int .i64 (x : Int), .bool true]) (ls := (g.less i x).ls) (n := g.nodes) R7 hM7 HP.out.two
    have HE := Lib.hid hE
    clear hE R7 hM7 HP
    have k0' : wc.cell? ⟨b8, 0, none⟩ = some (.int .i64 (g.nodes : Int)) := k0
    have k1' : wc.cell? ⟨b8, 1, none⟩ = some (.slice P7 g.ls.length C7) := k1
    clear k0 k1
    go_upto_region 5 with fail
    go_region_held3 (fun w' => w'.cell? ⟨b8, 0, none⟩ = some (.int .i64 (g.nodes : Int)) ∧ w'.cell? ⟨b8, 1, none⟩ = some (.slice P7 g.ls.length C7) ∧ w'.cell? ⟨Q, 0, none⟩ = some (.int .i64 (x : Int)))
      (first | go_keep | exact k9)
      (fail)
    all_goals
      go_wp2_with fail
      refine bodyPost_ret (v := .tuple #[.agg #[.int .i64 (g.nodes : Int), .slice P7 g.ls.length C7], .int .i64 (x : Int), .bool true]) ?_ rfl HE.out.drew
      simp [results, Try.f15, go_sem, e0, e1]

theorem ref_pop (h : RefAt M w s g vs) (ok : g.Ok) (i : Int) :
    Calls Try.prog 15 #[refV g s, .int .i64 i] w (RefC (fun v => .tuple #[v, .int .i64 (((g.list i).head?.getD 0 : Nat) : Int), .bool (g.list i).head?.isSome]) M w (g.pop i)) := by
  cases e : g.list i with
  | nil =>
    rw [pop_not e]
    exact ref_pop_no h ok i e
  | cons x t =>
    by_cases hi : i < 0
    · unfold Ch.list at e
      rw [Ch.row_neg hi] at e
      cases e
    · obtain ⟨k, rfl⟩ : ∃ k : Nat, i = (k : Int) := ⟨i.toNat, by omega⟩
      have hl : g.ls[k]? = some (x :: t) := by
        unfold Ch.list at e
        rw [Ch.row_nat] at e
        cases h2 : g.ls[k]? with
        | none => rw [h2] at e; cases e
        | some l => rw [h2] at e; exact congrArg some e
      rw [(pop_is ok hl).1]
      exact ref_pop_yes h ok k x t hl
end
end Go.Proofs.Ythdgpnkkeeebkaa
