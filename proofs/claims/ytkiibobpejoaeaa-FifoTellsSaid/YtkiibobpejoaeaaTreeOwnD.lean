/-
  The program's own tree: mendRed.
-/
import Derived.Test.YtkiibobpejoaeaaTreeOwnB
namespace Go.Proofs.Ytkiibobpejoaeaa
open Go.RowKit
set_option linter.unusedVariables false

theorem plug_ne : ∀ (z : List Fr) {t : T}, t ≠ .leaf → plug z t ≠ .leaf
  | [], _, h => h
  | f :: z, t, _ => plug_ne z (T.mk_ne)
theorem open_any {t : T} (h : t ≠ .leaf) (s : Nat) : ∃ p c e x y, t = T.mk s p c e x y := by
  cases t with
  | leaf => exact absurd rfl h
  | node p c l e r =>
    by_cases h0 : s = 0
    · exact ⟨p, c, e, l, r, by unfold T.mk; rw [if_pos h0]⟩
    · exact ⟨p, c, e, r, l, by unfold T.mk; rw [if_neg h0]⟩
/-- A node by whichever side. -/
theorem mk_any {s p m : Nat} {c : Bool} {e : En} {x y : T} {q1 q2 : Bool} (hs : s < 2) (hx : x.Bal q1 m) (hy : y.Bal q1 m) (s' : Nat) (hs' : s' < 2) : ∃ x' y', T.mk s p c e x y = T.mk s' p c e x' y' ∧ x'.Bal q1 m ∧ y'.Bal q1 m := by
  by_cases h : s = s'
  · subst h
    exact ⟨x, y, rfl, hx, hy⟩
  · exact ⟨y, x, (T.mk_swap (by omega)).symm, hy, hx⟩
/-- Where nothing red is above: black at the root, the tree is in order. -/
theorem red_done {z : List Fr} {p m : Nat} {e : En} {x y : T} (hx : x.Bal true m) (hy : y.Bal true m) (hg : Good z m) (h : z = [] ∨ pr z = false) : ∃ m', (plug z (T.mk 0 p true e x y)).black.Bal true m' := by
  by_cases hz : z = []
  · subst hz
    rw [plug, T.mk_black]
    exact ⟨m + 1, T.mk_bal.2 ⟨fun k => (by cases k), m, rfl, hx.weak, hy.weak⟩⟩
  · have h' : pr z = false := h.resolve_left hz
    rw [T.black_same (good_root hg hz _)]
    exact good_plug hg (by rw [h']; exact red_weak hx hy)
/-- Two levels are painted. -/
theorem recolor {G : Gr} {z : List Fr} {f g : Fr} {t : T} {q : Nat} {eq : En} {qx qy : T} (h : Sits G (f :: g :: z) t) (hq : g.sib = T.mk 0 q true eq qx qy) :
    Sits (((G.setRed q false).setRed g.p true).setRed f.p false) z (T.mk g.s g.p true g.e (T.mk f.s f.p false f.e t f.sib) (T.mk 0 q false eq qx qy)) := by
  have fs := h.side_lt
  simp only [side] at fs
  have h1 := h.up_
  have gs := h1.side_lt
  simp only [side] at gs
  have h2 := h1.up_
  rw [Fr.fill, Fr.fill, hq, ← T.mk_swap (s := g.s) (o := 1 - g.s) (by omega)] at h2
  have h3 := (h2.down (s := 1 - g.s) (o := g.s) (by omega)).paint (o := 1) (c' := false) rfl
  have h4 := h3.up_
  simp only [Fr.fill] at h4
  rw [T.mk_swap (s := g.s) (o := 1 - g.s) (by omega)] at h4
  have h5 := h4.paint (o := 1 - g.s) (c' := true) (by omega)
  have h6 := (h5.down (o := 1 - g.s) (by omega)).paint (o := 1 - f.s) (c' := false) (by omega)
  exact h6.up_

section
variable {w w' : World} {b B c room n : Nat} {G : Gr} {z : List Fr}
/-- A red node, whose upper one may be red too; all else is in order. -/
structure RedSt (w wx : World) (b B c room n : Nat) (L : List En) (O : Nat → Nat) (G : Gr) (z : List Fr) (p m : Nat) (e : En) (x y : T) : Prop where
  lie : LieT wx b B c room n G z (T.mk 0 p true e x y)
  bx : x.Bal true m
  by_ : y.Bal true m
  good : Good z m
  toL : (plug z (T.mk 0 p true e x y)).toL = L
  occ : ∀ q, (plug z (T.mk 0 p true e x y)).occ q = O q
  turned : Turned (Own2 b B) w wx
/-- All is in order, but for the root's colour. -/
structure RedEnd (w wx : World) (b B c room n : Nat) (L : List En) (O : Nat → Nat) (G : Gr) (p : Nat) (cc : Bool) (e : En) (x y : T) : Prop where
  lie : LieT wx b B c room n G [] (T.mk 0 p cc e x y)
  bal : ∃ m, (T.mk 0 p false e x y).Bal true m
  toL : (T.mk 0 p cc e x y).toL = L
  occ : ∀ q, (T.mk 0 p cc e x y).occ q = O q
  turned : Turned (Own2 b B) w wx
theorem red_end {wx : World} {L : List En} {O : Nat → Nat} {t : T} (h : LieT wx b B c room n G z t) (ht : t ≠ .leaf) (hb : ∃ m, (plug z t).black.Bal true m) (h1 : (plug z t).toL = L) (h2 : ∀ q, (plug z t).occ q = O q) (h3 : Turned (Own2 b B) w wx) : ∃ p cc e x y, RedEnd w wx b B c room n L O G p cc e x y := by
  obtain ⟨p, cc, e, x, y, he⟩ := open_any (plug_ne z ht) 0
  have h' := h.out
  rw [he] at h' hb h1 h2
  rw [T.mk_black] at hb
  exact ⟨p, cc, e, x, y, h', hb, h1, h2, h3⟩

theorem red_open {wx : World} {L : List En} {O : Nat → Nat} {p m : Nat} {e : En} {x y : T} (h : RedSt w wx b B c room n L O G z p m e x y) (hr : G.red (above z) = true) :
    ∃ k fp fe fs s tp te gs z3, z = ⟨k, fp, true, fe, fs⟩ :: ⟨s, tp, false, te, gs⟩ :: z3 ∧ fs.Bal true m ∧ gs.Bal false m ∧ Good z3 (m + 1) := by
  have hg := h.good
  have hl := h.lie
  cases z with
  | nil =>
    rw [above, hl.sits.red0] at hr
    cases hr
  | cons f z =>
    obtain ⟨_, _, _, _, _, k6, _⟩ := hl.over
    rw [above, k6] at hr
    obtain ⟨fk, fp, fc, fe, fs⟩ := f
    simp only at hr
    subst hr
    obtain ⟨h1, h2, h3⟩ := hg
    cases z with
    | nil => exact absurd (h1 rfl) (by decide)
    | cons g z =>
      obtain ⟨gk, gp, gc, ge, gs⟩ := g
      have hc : gc = false := h1 rfl
      subst hc
      exact ⟨fk, fp, fe, fs, gk, gp, ge, gs, z, rfl, h2, h3.2.1, h3.2.2⟩
theorem red_stop {wx : World} {L : List En} {O : Nat → Nat} {p m : Nat} {e : En} {x y : T} (h : RedSt w wx b B c room n L O G z p m e x y) (hr : G.red (above z) = false) : ∃ p cc e x y, RedEnd w wx b B c room n L O G p cc e x y := by
  refine red_end h.lie T.mk_ne (red_done h.bx h.by_ h.good ?_) h.toL h.occ h.turned
  have hl := h.lie
  cases z with
  | nil => exact .inl rfl
  | cons f z =>
    obtain ⟨_, _, _, _, _, k6, _⟩ := hl.over
    rw [above, k6] at hr
    exact .inr hr
theorem red_row {wx w2 : World} {L : List En} {O : Nat → Nat} {t t' : T} {m : Nat} {G' : Gr} (hz : Good z (m + 1)) (h : Mended w w2 b B c room n z t (m + 1) G' t') (ht : t ≠ .leaf) (h1 : (plug z t).toL = L) (h2 : ∀ q, (plug z t).occ q = O q) (h3 : Turned (Own2 b B) wx w2) : ∃ p cc e x y, RedEnd wx w2 b B c room n L O G' p cc e x y := by
  obtain ⟨m', hm⟩ := good_plug hz (h.bal.strong h.bal.top (pr z))
  refine red_end h.lie ?_ ⟨m', ?_⟩ ((plug_toL z h.toL).trans h1) (fun q => ?_) h3
  · intro e
    obtain ⟨p, c, e', x, y, rfl⟩ := open_any ht 0
    have := h.occ p
    rw [e, T.mk_occ] at this
    simp [T.occ] at this
    omega
  · rw [T.black_same hm.top]
    exact hm
  · rw [plug_occ, h.occ, ← plug_occ]
    exact h2 q

theorem lie_mendRed {p m : Nat} {e : En} {x y : T} (h : LieT w b B c room n G z (T.mk 0 p true e x y)) (hx : x.Bal true m) (hy : y.Bal true m) (hg : Good z m) :
    Calls Try.prog 74 #[.pointer (some ⟨b, 0, none⟩), .int .i64 (p : Int)] w fun e' w' => e' = .returned (.tuple #[]) ∧ (∃ G' t', LieT w' b B c room n G' [] t' ∧ (∃ m', t'.Bal true m') ∧ t'.toL = (plug z (T.mk 0 p true e x y)).toL ∧ ∀ q, t'.occ q = (plug z (T.mk 0 p true e x y)).occ q) ∧ Turned (Own2 b B) w w' := by
  have HI : Hid (RedSt w w b B c room n (plug z (T.mk 0 p true e x y)).toL (plug z (T.mk 0 p true e x y)).occ G z p m e x y) := Lib.hid ⟨h, hx, hy, hg, rfl, fun _ => rfl, Turned.refl _ _⟩
  obtain ⟨p0, pn, _, _, _, pu, _⟩ := h.node (o := 1) rfl
  obtain ⟨c0, c1, c2⟩ := h.raw.cells
  have d0 := h.raw.c_up pn
  rw [pu] at d0
  have n2 := h.raw.n2
  have hz1 : (p : Int) < (n : Int) := by omega
  clear h hx hy hg p0 pu
  generalize (plug z (T.mk 0 p true e x y)).toL = L at *
  generalize (plug z (T.mk 0 p true e x y)).occ = O at *
  obtain ⟨u, HU⟩ : ∃ u, Hid (above z = u) := ⟨_, Lib.hid rfl⟩
  rw [HU.out] at d0
  go_enter Try.func74, Try.ntmps74
  go_upto_block 0 with fail
  go_cut [4] (fun v wx => ∃ (G' : Gr) (p' : Nat) (cc : Bool) (e' : En) (x' y' : T), Hid (RedEnd w wx b B c room n L O G' p' cc e' x' y'))
  case first =>
    go_wp2_with fail
    go_loopg [1, 4] z.length (fun k v1 v4 wx => ∃ (G' : Gr) (z' : List Fr) (p' m' : Nat) (e' : En) (x' y' : T) (u' : Nat), z'.length = k ∧ v1 = .int .i64 (p' : Int) ∧ v4 = .int .i64 (u' : Int) ∧ Hid (above z' = u') ∧ Hid (RedSt w wx b B c room n L O G' z' p' m' e' x' y'))
    case atStart => exact ⟨G, z, p, m, e, x, y, u, rfl, rfl, rfl, HU, HI⟩
    case round =>
      obtain ⟨G', z', p', m', e', x', y', u', rfl, rfl, rfl, HU', HI'⟩ := hrel
      clear HI HU c0 c1 c2 d0 pn hz1
      have hst := HI'.out
      have un : u' < n := by
        rw [← HU'.out]
        exact hst.lie.above_lt
      obtain ⟨c0, c1, c2⟩ := hst.lie.raw.cells
      have dr := hst.lie.raw.c_red un
      have hz1 : (u' : Int) < (n : Int) := by omega
      cases hcr : G'.red u' with
      | false =>
        rw [hcr] at dr
        rw [← HU'.out] at hcr
        have HE := Lib.hid (red_stop hst hcr)
        clear hst hcr HI' HU'
        go_wp2_with fail
        go_meet
        exact ⟨G', HE.out⟩
      | true =>
        rw [hcr] at dr
        rw [← HU'.out] at hcr
        obtain ⟨k, fp, fe, fs, s, tp, te, gs, z3, rfl, bf, bg, gz⟩ := red_open hst hcr
        obtain rfl : fp = u' := HU'.out
        clear HU' hcr
        obtain ⟨f0, fn, k2, _, _, _, fu, _, _, fsd⟩ := hst.lie.over
        obtain ⟨t0, tn, s2, _, _, _, tu, _, tdn, _⟩ := hst.lie.up_.over
        simp only [side, above] at f0 fn k2 fu fsd t0 tn s2 tu tdn
        obtain ⟨o, hso⟩ : ∃ o, s + o = 1 := ⟨1 - s, by omega⟩
        rw [show 1 - s = o by omega] at tdn
        have HS := Lib.hid (raw_sideOf hst.lie.raw f0 fn)
        rw [fsd] at HS
        have d4 := hst.lie.raw.c_up fn
        rw [fu] at d4
        have d5 := hst.lie.raw.c_dn (s := o) tn (by omega)
        rw [tdn] at d5
        have hgl : LieT wr b B c room n G' (⟨o, tp, false, te, T.mk k fp true fe (T.mk 0 p' true e' x' y') fs⟩ :: z3) gs := hst.lie.up_.up_.down2 hso
        have gn := hgl.pl_lt
        have d6 := hst.lie.raw.c_red gn
        rw [hgl.red] at d6
        obtain ⟨gp, HGP⟩ : ∃ gp, Hid (gs.pl = gp) := ⟨_, Lib.hid rfl⟩
        rw [HGP.out] at d5 d6 gn
        have hz2 : (tp : Int) < (n : Int) := by omega
        have hz3 : (gp : Int) < (n : Int) := by omega
        have hz4 : (o : Int) < 2 := by omega
        have hsz : (1 : Int) - (s : Int) = (o : Int) := by omega
        cases hgr : gs.isRed with
        | false =>
          rw [hgr] at d6
          obtain ⟨x1, y1, e1, bx1, by1⟩ := mk_any (s := 0) (p := p') (c := true) (e := e') (q2 := true) (by omega) hst.bx hst.by_ s s2
          have HM : Hid (∀ k', Calls Try.prog 85 #[.pointer (some ⟨b, 0, none⟩), .int .i64 (p' : Int), .int .i64 (fp : Int), .int .i64 (tp : Int), .int .i64 (s : Int)] (wr.drewN k') fun e w2 => e = .returned (.tuple #[]) ∧ ∃ G2, ∃ p cc e x y, RedEnd w w2 b B c room n L O G2 p cc e x y) := by
            refine Lib.hid fun k' => ?_
            have hl := hst.lie.below (below_drewN (Below.refl _ _) k')
            have e1' := hst.toL
            have e2' := hst.occ
            rw [e1] at hl e1' e2'
            refine (lie_mendRow hso hl bx1 by1 bf (bg.strong hgr true)).mono ?_
            rintro e w2 ⟨rfl, ⟨G2, t2, M⟩, T2⟩
            exact ⟨rfl, G2, red_row gz M T.mk_ne e1' e2' (hst.turned.trans ((Turned.below (below_drewN (Below.refl _ _) k')).trans T2))⟩
          clear hst HI' bf bg gz hgl hgr HGP e1 bx1 by1 f0 t0 fu fsd tu tdn
          go_wp2_with fail
          refine HS.out.mono ?_
          rintro e w1 ⟨rfl, k1, rfl⟩
          clear HS
          go_wp2_with fail
          refine (HM.out _).mono ?_
          rintro e w2 ⟨rfl, G2, HX⟩
          have HE := Lib.hid HX
          clear HX HM c0 c1 c2 dr d4 d5 d6
          go_wp2_with fail
          go_meet
          exact ⟨G2, HE.out⟩
        | true =>
          rw [hgr] at d6
          obtain ⟨q, qe, qx, qy, hq⟩ := T.open_red hgr 0
          obtain rfl : q = gp := by
            rw [← HGP.out, hq, T.mk_pl]
          clear HGP hgr
          have HQ : Hid (∀ k', RawT ((wr.drewN k').setCell ⟨B, q * 7 + 3, none⟩ (.bool false)) b B c room n (G'.setRed q false)) := Lib.hid fun k' => (hst.lie.raw.drewN k').setRed gn false
          have HF : Hid (∀ k', (wr.drewN k').frozen? ⟨B, q * 7 + 3, none⟩ = false) := Lib.hid fun k' => (hst.lie.raw.drewN k').row.frozen _
          have HN : Hid (∀ w3, RawT w3 b B c room n (((G'.setRed q false).setRed tp true).setRed fp false) → Turned (Own2 b B) w w3 → ∃ (G' : Gr) (z' : List Fr) (p' m' : Nat) (e' : En) (x' y' : T) (u' : Nat), z'.length = z3.length ∧ Value.int .i64 (tp : Int) = .int .i64 (p' : Int) ∧ Value.int .i64 (above z3 : Int) = .int .i64 (u' : Int) ∧ Hid (above z' = u') ∧ Hid (RedSt w w3 b B c room n L O G' z' p' m' e' x' y')) := by
            refine Lib.hid fun w3 r3 t3 => ?_
            have S := recolor hst.lie.sits hq
            simp only at S
            rw [hq] at bg
            obtain ⟨_, m2, em, bqx, bqy⟩ := T.mk_bal.1 bg
            simp only [if_true] at em
            subst em
            obtain ⟨x2, y2, e2, bx2, by2⟩ := mk_any (s := s) (p := tp) (c := true) (e := te) (x := T.mk k fp false fe (T.mk 0 p' true e' x' y') fs) (y := T.mk 0 q false qe qx qy) (q1 := true) (q2 := true) (m := m' + 1) s2
              (T.mk_bal.2 ⟨fun k => (by cases k), m', rfl, red_weak hst.bx hst.by_, bf.weak⟩) (T.mk_bal.2 ⟨fun k => (by cases k), m', rfl, bqx.weak, bqy.weak⟩) 0 (by omega)
            rw [e2] at S
            have hoc : ∀ v, (T.mk 0 tp true te x2 y2).occ v = (T.mk s tp false te (T.mk k fp true fe (T.mk 0 p' true e' x' y') fs) gs).occ v := by
              intro v
              rw [← e2, hq]
              simp only [T.mk_occ]
            have htl : (T.mk 0 tp true te x2 y2).toL = (T.mk s tp false te (T.mk k fp true fe (T.mk 0 p' true e' x' y') fs) gs).toL := by
              rw [← e2, hq]
              simp only [T.mk_toL]
            refine ⟨_, z3, tp, m' + 1, te, x2, y2, above z3, rfl, rfl, rfl, Lib.hid rfl, Lib.hid ⟨⟨r3, S, fun v hv => hst.lie.lt v ?_⟩, bx2, by2, gz, ?_, fun v => ?_, t3⟩⟩
            · rw [hoc] at hv
              simp only [T.mk_occ, occZ] at hv ⊢
              omega
            · rw [plug_toL z3 htl]
              exact hst.toL
            · rw [plug_occ, hoc, ← plug_occ]
              exact hst.occ v
          have HT := Lib.hid hst.turned
          have HU : Hid (G'.up tp = above z3) := Lib.hid tu
          clear hst HI' bf bg gz hgl hq f0 t0 fu fsd tu tdn
          go_wp2_with fail
          refine HS.out.mono ?_
          rintro e w1 ⟨rfl, k1, rfl⟩
          clear HS
          have ff := HF.out k1
          go_upto_region 8 with fail
          have HP := Lib.hid (raw_paint (HQ.out k1) tn fn)
          have HT1 : Hid (Turned (Own2 b B) w ((wr.drewN k1).setCell ⟨B, q * 7 + 3, none⟩ (.bool false))) := Lib.hid ((HT.out.trans (Turned.below (below_drewN (Below.refl _ _) k1))).set (.inr rfl) _)
          clear HQ HF HT c0 c1 c2 dr d4 d5 d6 ff
          go_wp2_with fail
          refine HP.out.mono ?_
          rintro e w3 ⟨rfl, r3, t3⟩
          obtain ⟨g0, g1, g2⟩ := r3.cells
          have i4 := r3.c_up tn
          rw [show (((G'.setRed q false).setRed tp true).setRed fp false).up tp = above z3 from HU.out] at i4
          have HR3 := Lib.hid r3
          have HT3 := Lib.hid (HT1.out.trans t3)
          clear r3 t3 HP HT1 HU
          go_wp2_with fail
          go_quiet (fail)
          go_wp2_with fail
          go_roundg z3.length
          case measure => simp only [List.length_cons]; omega
          case rel => exact HN.out _ (HR3.out.drewN _) (HT3.out.trans (Turned.below (below_drewN (Below.refl _ _) _)))
  case rest =>
    obtain ⟨G', p', cc, e', x', y', HE⟩ := hcut
    clear HI HU c0 c1 c2 d0 pn hz1
    obtain ⟨c0, c1, c2⟩ := HE.out.lie.raw.cells
    obtain ⟨_, pn, _⟩ := HE.out.lie.node (o := 1) rfl
    have d3 := HE.out.lie.raw.c_red pn
    have f3 := HE.out.lie.raw.row.frozen (p' * 7 + 3)
    have hz1 : (p' : Int) < (n : Int) := by omega
    have HS : Hid (∀ W, RawT W b B c room n G' → Calls Try.prog 82 #[.pointer (some ⟨b, 0, none⟩)] W fun e w' => e = .returned (.int .i64 (p' : Int)) ∧ w' = W) := by
      refine Lib.hid fun W r => (raw_root r).mono fun e w' ⟨e1, e2⟩ => ⟨?_, e2⟩
      rw [e1, show G'.dn 0 0 = p' from HE.out.lie.sits.hole.trans T.mk_pl]
    have HR := Lib.hid HE.out.lie.raw
    have HF : Hid (∀ W, RawT W b B c room n (G'.setRed p' false) → Turned (Own2 b B) w W → (∃ G' t', LieT W b B c room n G' [] t' ∧ (∃ m', t'.Bal true m') ∧ t'.toL = L ∧ ∀ q, t'.occ q = O q) ∧ Turned (Own2 b B) w W) := by
      refine Lib.hid fun W r t => ⟨⟨_, _, lie_paint (o := 1) rfl HE.out.lie r, HE.out.bal, ?_, fun q => ?_⟩, t⟩
      · rw [← HE.out.toL]
        simp only [T.mk_toL]
      · rw [← HE.out.occ]
        simp only [T.mk_occ]
    have HT := Lib.hid HE.out.turned
    have k2 := (HR.out.setRed pn false).cells.2.2
    clear HE
    go_upto_region 10 with fail
    go_region_held3 (fun w' => w'.cell? ⟨b, 2, none⟩ = some (.slice (some ⟨B, 0, none⟩) n c))
      (first | exact c2 | exact k2)
      (first | (go_at_call 82; refine (HS.out _ HR.out.drew).mono ?_; rintro e w3 ⟨rfl, rfl⟩))
    go_wp2_with fail
    go_end0
    exact ⟨rfl, HF.out _ (HR.out.setRed pn false).drew (HT.out.set (.inr rfl) _).drew⟩
end

end Go.Proofs.Ytkiibobpejoaeaa
