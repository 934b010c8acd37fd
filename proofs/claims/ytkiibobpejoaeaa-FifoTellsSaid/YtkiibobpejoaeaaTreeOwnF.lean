/-
  The program's own tree: mendBlack.
-/
import Derived.Test.YtkiibobpejoaeaaTreeOwnE
namespace Go.Proofs.Ytkiibobpejoaeaa
open Go.RowKit
set_option linter.unusedVariables false

/-- Some tree that is in order lies there, with the entries and the places of another one. -/
def TreeEnd (w' : World) (b B c room n : Nat) (t0 : T) : Prop :=
  ∃ G' t', LieT w' b B c room n G' [] t' ∧ (∃ m, t'.Bal true m) ∧ t'.toL = t0.toL ∧ ∀ i, t'.occ i = t0.occ i
section
variable {w w' : World} {b B c room n : Nat} {G : Gr} {z : List Fr}
theorem tree_end {t : T} {m : Nat} {t0 : T} (h : LieT w b B c room n G z t) (hg : Good z m) (hb : t.Bal (pr z) m) (h1 : (plug z t).toL = t0.toL) (h2 : ∀ i, (plug z t).occ i = t0.occ i) : TreeEnd w b B c room n t0 :=
  ⟨G, _, h.out, good_plug hg hb, h1, h2⟩
/-- A tree that lacks a black node; all else is in order. -/
structure BlackSt (w wx : World) (b B c room n : Nat) (t0 : T) (G : Gr) (z : List Fr) (t : T) (m : Nat) : Prop where
  lie : LieT wx b B c room n G z t
  bal : t.Bal true m
  good : Good z (m + 1)
  toL : (plug z t).toL = t0.toL
  occ : ∀ i, (plug z t).occ i = t0.occ i
  turned : Turned (Own2 b B) w wx
/-- The one at the other side is black. -/
structure BlackMid (w wx : World) (b B c room n : Nat) (t0 : T) (G : Gr) (s p : Nat) (cf : Bool) (ef : En) (z : List Fr) (t : T) (m q : Nat) (eq : En) (v x : T) : Prop where
  st : BlackSt w wx b B c room n t0 G (⟨s, p, cf, ef, T.mk s q false eq v x⟩ :: z) t m
theorem sib_paint {s o p q s' o' : Nat} {cc c1 c' : Bool} {e eq : En} {v x t : T} (hs : s + o = 1) (hs' : s' + o' = 1) (h : Sits G (⟨s, p, cc, e, T.mk s' q c1 eq v x⟩ :: z) t) : Sits (G.setRed q c') (⟨s, p, cc, e, T.mk s' q c' eq v x⟩ :: z) t := by
  have h1 := h.up_
  simp only [Fr.fill] at h1
  rw [← T.mk_swap hs] at h1
  have h2 := ((h1.down (s := o) (o := s) (by omega)).paint hs' (c' := c')).up_
  simp only [Fr.fill] at h2
  rw [T.mk_swap hs] at h2
  exact h2.down hs
theorem kids {s o q m : Nat} {cq : Bool} {eq : En} {v x : T} (hs : s + o = 1) : ∃ y0 y1, T.mk s q cq eq v x = T.mk 0 q cq eq y0 y1 ∧ ((y0.isRed = true ∨ y1.isRed = true) → (x.isRed = true ∨ v.isRed = true)) ∧ ((y0.isRed = false ∧ y1.isRed = false) → (x.isRed = false ∧ v.isRed = false)) := by
  rcases (by omega : s = 0 ∨ s = 1) with rfl | rfl
  · exact ⟨v, x, rfl, fun h => h.symm, fun h => h.symm⟩
  · exact ⟨x, v, (T.mk_swap (s := 0) (o := 1) rfl), fun h => h, fun h => h⟩

set_option maxRecDepth 4000 in
set_option maxHeartbeats 1600000 in
theorem lie_mendBlack {t : T} {m : Nat} (h : LieT w b B c room n G z t) (ht : t.Bal true m) (hg : Good z (m + 1)) :
    Calls Try.prog 88 #[.pointer (some ⟨b, 0, none⟩), .int .i64 (above z : Int), .int .i64 (side z : Int)] w fun e' w' => e' = .returned (.tuple #[]) ∧ TreeEnd w' b B c room n (plug z t) ∧ Turned (Own2 b B) w w' := by
  have HI : Hid (BlackSt w w b B c room n (plug z t) G z t m) := Lib.hid ⟨h, ht, hg, rfl, fun _ => rfl, Turned.refl _ _⟩
  have n2 := h.raw.n2
  clear h ht hg
  generalize plug z t = t0 at *
  obtain ⟨u, HU⟩ : ∃ u, Hid (above z = u) := ⟨_, Lib.hid rfl⟩
  obtain ⟨sz, HZ⟩ : ∃ sz, Hid (side z = sz) := ⟨_, Lib.hid rfl⟩
  rw [HU.out, HZ.out]
  go_enter Try.func88, Try.ntmps88
  go_wp2_with fail
  go_loopg [1, 2] z.length (fun k v1 v2 wx => ∃ (G' : Gr) (z' : List Fr) (t' : T) (m' u' s' : Nat), z'.length = k ∧ v1 = .int .i64 (u' : Int) ∧ v2 = .int .i64 (s' : Int) ∧ Hid (above z' = u') ∧ Hid (side z' = s') ∧ Hid (BlackSt w wx b B c room n t0 G' z' t' m'))
  case atStart => exact ⟨G, z, t, m, u, sz, rfl, rfl, rfl, HU, HZ, HI⟩
  case round =>
    obtain ⟨G', z', t', m', u', s', rfl, rfl, rfl, HU', HZ', HI'⟩ := hrel
    clear HI HU HZ
    have hst := HI'.out
    cases z' with
    | nil =>
      obtain rfl : u' = 0 := HU'.out.symm
      have HE := Lib.hid (tree_end hst.lie (trivial : Good [] m') (hst.bal : t'.Bal (pr []) m') hst.toL hst.occ)
      have HT := Lib.hid hst.turned
      clear hst HI'
      go_wp2_with fail
      go_end0
      exact ⟨rfl, HE.out, HT.out⟩
    | cons f z3 =>
      obtain ⟨s, p, cf, ef, sib⟩ := f
      obtain rfl : p = u' := HU'.out
      obtain rfl : s = s' := HZ'.out
      clear HU' HZ'
      obtain ⟨p0, pn, s2, _, _, pc, pu, _, pdn, psd⟩ := hst.lie.over
      simp only at p0 pn s2 pc pu pdn psd
      obtain ⟨o, hso⟩ : ∃ o, s + o = 1 := ⟨1 - s, by omega⟩
      rw [show 1 - s = o by omega] at pdn
      obtain ⟨g1, g2, g3⟩ := hst.good
      simp only at g1 g2 g3
      obtain ⟨q, cq, eq, v, x, rfl⟩ := T.Bal.open g2 s
      rw [T.mk_pl] at pdn
      have hsl : LieT wr b B c room n G' (⟨o, p, cf, ef, t'⟩ :: z3) (T.mk s q cq eq v x) := hst.lie.up_.down2 hso
      obtain ⟨q0, qn, _, _, qc, _⟩ := hsl.node hso
      obtain ⟨c0, c1, c2⟩ := hst.lie.raw.cells
      have d5 := hst.lie.raw.c_dn (s := o) pn (by omega)
      rw [pdn] at d5
      have d3 := hst.lie.raw.c_red qn
      rw [qc] at d3
      have hz0 : ((p : Int) != 0) = true := by rw [bne_iff_ne]; omega
      have hz1 : (p : Int) < (n : Int) := by omega
      have hz2 : (q : Int) < (n : Int) := by omega
      have hz3 : (o : Int) < 2 := by omega
      have hz4 : (s : Int) < 2 := by omega
      have hsz : (1 : Int) - (s : Int) = (o : Int) := by omega
      go_upto_if 28 with fail
      go_cut [6] (fun v6 wx => ∃ (G2 : Gr) (cf2 : Bool) (z2 : List Fr) (q2 : Nat) (eq2 : En) (v2 x2 : T), v6 = .int .i64 (q2 : Int) ∧ (cf2 = false → z2.length = z3.length) ∧ Hid (BlackMid w wx b B c room n t0 G2 s p cf2 ef z2 t' m' q2 eq2 v2 x2))
      case first =>
        cases cq with
        | false =>
          have HE : Hid (BlackMid w wr b B c room n t0 G' s p cf ef z3 t' m' q eq v x) := Lib.hid ⟨hst⟩
          clear hst hsl g1 g2 g3 HI'
          go_wp2_with fail
          go_meet
          exact ⟨_, _, _, _, _, _, _, rfl, fun _ => rfl, HE⟩
        | true =>
          obtain ⟨b1, m2, em, b2, b3⟩ := T.mk_bal.1 g2
          simp only [if_true] at em
          subst em
          obtain rfl : cf = false := b1 rfl
          obtain ⟨q2, cq2, eq2, v2, x2, rfl⟩ := T.Bal.open b2 s
          obtain rfl : cq2 = false := by
            have := b2.top
            rwa [T.mk_red] at this
          have HT : Hid (Calls Try.prog 90 #[.pointer (some ⟨b, 0, none⟩), .int .i64 (p : Int), .int .i64 (s : Int)] wr fun e' w' => e' = .returned (.tuple #[]) ∧ (∃ G', LieT w' b B c room n G' z3 (T.mk s q true eq (T.mk s p false ef t' (T.mk s q2 false eq2 v2 x2)) x)) ∧ Turned (Own2 b B) wr w') := Lib.hid (lie_turn hso hst.lie.up_)
          have HN : Hid (∀ w3 G3, LieT w3 b B c room n G3 z3 (T.mk s q false eq (T.mk s p true ef t' (T.mk s q2 false eq2 v2 x2)) x) → Turned (Own2 b B) wr w3 → BlackMid w w3 b B c room n t0 G3 s p true ef (⟨s, q, false, eq, x⟩ :: z3) t' m' q2 eq2 v2 x2) := by
            refine Lib.hid fun w3 G3 l t3 => ⟨⟨(l.down hso).down hso, hst.bal, ⟨fun _ => rfl, b2, fun k => (by cases k), b3.weak, g3⟩, ?_, fun i => ?_, hst.turned.trans t3⟩⟩
            · rw [← hst.toL]
              refine plug_toL z3 ?_
              simp only [Fr.fill, T.mk_toL]
              split <;> simp
            · rw [← hst.occ, plug_occ, plug_occ]
              simp only [occZ, T.mk_occ]
              omega
          clear hst hsl g1 g2 g3 HI' b1 b2 b3 pdn pc pu psd qc
          go_wp2_with fail
          refine HT.out.mono ?_
          rintro e w1 ⟨rfl, ⟨G1, l1⟩, t1⟩
          have HP := Lib.hid (raw_paint l1.raw pn qn)
          have HL1 := Lib.hid l1
          have HT1 := Lib.hid t1
          clear l1 t1 HT c0 c1 c2 d5 d3
          go_wp2_with fail
          refine HP.out.mono ?_
          rintro e w2 ⟨rfl, r2, t2⟩
          have l2 := lie_paint2 hso HL1.out r2
          have HE := Lib.hid (HN.out _ _ l2 (HT1.out.trans t2))
          obtain ⟨_, _, _, _, _, _, _, pdn2, _⟩ := (l2.down hso).node hso
          rw [T.mk_pl] at pdn2
          obtain ⟨c0, c1, c2⟩ := l2.raw.cells
          have d5 := l2.raw.c_dn (s := o) pn (by omega)
          rw [pdn2] at d5
          clear r2 t2 l2 HN HP HL1 HT1 pdn2
          go_wp2_with fail
          go_meet
          exact ⟨_, _, _, _, _, _, _, rfl, fun k => (by cases k), HE⟩
      case rest =>
        obtain ⟨G2, cf2, z2, q2, eq2, v2, x2, rfl, hlen, HM⟩ := hcut
        clear hst hsl g1 g2 g3 HI' c0 c1 c2 d5 d3 q0 qn qc pdn pc pu psd hz2
        have hst := HM.out.st
        obtain ⟨g1, g2, g3⟩ := hst.good
        simp only at g1 g2 g3
        obtain ⟨_, pn2, _, _, _, pc, pu, _, _, psd⟩ := hst.lie.over
        simp only at pn2 pc pu psd
        obtain ⟨y0, y1, ey, hy1, hy2⟩ := kids (q := q2) (m := m') (cq := false) (eq := eq2) (v := v2) (x := x2) hso
        have hsl : LieT wc b B c room n G2 (⟨o, p, cf2, ef, t'⟩ :: z2) (T.mk s q2 false eq2 v2 x2) := hst.lie.up_.down2 hso
        obtain ⟨_, qn, _⟩ := hsl.node hso
        have hsl0 := hsl
        rw [ey] at hsl0
        obtain ⟨_, _, _, _, _, _, q5, q6, _⟩ := hsl0.node (o := 1) rfl
        have l0 := hsl0.down (o := 1) rfl
        have l1 := hsl0.down2 (o := 1) rfl
        have y0n := l0.pl_lt
        have y1n := l1.pl_lt
        have e5 := hst.lie.raw.c_dn0 qn
        have e6 := hst.lie.raw.c_dn1 qn
        rw [q5] at e5
        rw [q6] at e6
        obtain ⟨_, _, c2⟩ := hst.lie.raw.cells
        have hz2 : (q2 : Int) < (n : Int) := by omega
        go_upto_region 7 with fail
        obtain ⟨W, HWW⟩ : ∃ W, Hid (wc.alloc (.cells #[.int .i64 (y0.pl : Int), .int .i64 (y1.pl : Int)] 141) = W) := ⟨_, Lib.hid rfl⟩
        rw [HWW.out]
        have bl : Below wc.heap.size wc W := by
          rw [← HWW.out]
          exact (Below.refl _ _).alloc (Nat.le_refl _) _
        have bx : Box W wc.heap.size 141 #[.int .i64 (y0.pl : Int), .int .i64 (y1.pl : Int)] := by
          rw [← HWW.out]
          exact Box.new _ _ _
        clear HWW c2 e5 e6 q5 q6
        have x0 := bx.cell 0
        have x1 := bx.cell 1
        have l0' := l0.below bl
        have l1' := l1.below bl
        have hlW := hst.lie.below bl
        have htW := hst.turned.trans (Turned.below bl)
        obtain ⟨c0, c1, c2⟩ := hlW.raw.cells
        have e7 := hlW.raw.c_red y0n
        have e8 := hlW.raw.c_red y1n
        rw [l0'.red] at e7
        rw [l1'.red] at e8
        have r2 := hlW.raw.setRed qn true
        have e9 := hlW.raw.c_red qn
        have ea := hlW.raw.row.frozen (q2 * 7 + 3)
        obtain ⟨bq1, m2, em, bq2, bq3⟩ := T.mk_bal.1 g2
        have em' : m2 = m' := by
          simp at em
          exact em.symm
        subst em'
        have hbl := hst.bal
        have hpl := hst.toL
        have hpo := hst.occ
        clear hst l0 l1 l0' l1' hsl0 hsl HM bx bl em g2
        have HLend : Hid ((y0.isRed = true ∨ y1.isRed = true) → ∀ k, Calls Try.prog 91 #[.pointer (some ⟨b, 0, none⟩), .int .i64 (p : Int), .int .i64 (s : Int), .int .i64 (q2 : Int)] (W.drewN k) fun e' w' => e' = .returned (.tuple #[]) ∧ TreeEnd w' b B c room n t0 ∧ Turned (Own2 b B) w w') := by
          refine Lib.hid fun hr k => ?_
          refine (lie_lend hso ((hlW.below (below_drewN (Below.refl _ _) k)).up_) hbl bq2 bq3 (hy1 hr)).mono ?_
          rintro e' w' ⟨e1, ⟨G3, t3, l3, b3, a3, o3⟩, tt⟩
          refine ⟨e1, tree_end l3 (m := if cf2 then m2 + 1 else m2 + 2) ?_ (b3 _ g1) ?_ (fun i => ?_), (htW.trans (Turned.below (below_drewN (Below.refl _ _) k))).trans tt⟩
          · cases cf2 <;> exact g3
          · rw [plug_toL z2 a3]
            exact hpl
          · rw [plug_occ, o3, ← plug_occ]
            exact hpo i
        generalize hk0 : y0.pl = k0 at *
        generalize hk1 : y1.pl = k1 at *
        clear hk0 hk1
        have hz5 : (k0 : Int) < (n : Int) := by omega
        have hz6 : (k1 : Int) < (n : Int) := by omega
        cases hr0 : y0.isRed with
        | true =>
          rw [hr0] at e7
          have HD := Lib.hid (HLend.out (.inl hr0))
          clear HLend hr0 e8 e9 ea r2 hlW htW hbl hpl hpo bq1 bq2 bq3 hy1 hy2 ey g1 g3
          go_quiet (fail)
          go_wp2_with fail
          refine (HD.out _).mono ?_
          rintro e w5 ⟨rfl, E5, T5⟩
          have HE := Lib.hid E5
          have HT := Lib.hid T5
          clear E5 T5 HD c0 c1 c2 e7 x0 x1
          go_wp2_with fail
          refine bodyPost_ret (results_none rfl _ _ _) rfl ?_
          exact ⟨rfl, HE.out, HT.out⟩
        | false =>
          rw [hr0] at e7
          cases hr1 : y1.isRed with
          | true =>
            rw [hr1] at e8
            have HD := Lib.hid (HLend.out (.inr hr1))
            clear HLend hr0 hr1 e9 ea r2 hlW htW hbl hpl hpo bq1 bq2 bq3 hy1 hy2 ey g1 g3
            go_quiet (fail)
            go_wp2_with fail
            refine (HD.out _).mono ?_
            rintro e w5 ⟨rfl, E5, T5⟩
            have HE := Lib.hid E5
            have HT := Lib.hid T5
            clear E5 T5 HD c0 c1 c2 e7 e8 x0 x1
            go_wp2_with fail
            refine bodyPost_ret (results_none rfl _ _ _) rfl ?_
            exact ⟨rfl, HE.out, HT.out⟩
          | false =>
            rw [hr1] at e8
            obtain ⟨xr, vr⟩ := hy2 ⟨hr0, hr1⟩
            have pq : p ≠ q2 := by
              rintro rfl
              have := hlW.sits.once p
              simp only [occZ, T.mk_occ] at this
              simp at this
              omega
            have S2 := sib_paint (c' := true) hso hso hlW.sits
            have bs : (T.mk s q2 true eq2 v2 x2).Bal false m2 := T.mk_bal.2 ⟨fun _ => rfl, m2, rfl, bq2.strong vr true, bq3.strong xr true⟩
            have HQ : Hid (∀ k, RawT ((W.drewN k).setCell ⟨B, q2 * 7 + 3, none⟩ (.bool true)) b B c room n (G2.setRed q2 true)) := Lib.hid fun k => (hlW.raw.drewN k).setRed qn true
            have HTQ : Hid (∀ k, Turned (Own2 b B) w ((W.drewN k).setCell ⟨B, q2 * 7 + 3, none⟩ (.bool true))) := Lib.hid fun k => (htW.trans (Turned.below (below_drewN (Below.refl _ _) k))).set (.inr rfl) _
            have f1 : ∀ k, (W.drewN k).frozen? ⟨B, q2 * 7 + 3, none⟩ = false := fun k => (hlW.raw.drewN k).row.frozen _
            have f2 : ∀ k, ((W.drewN k).setCell ⟨B, q2 * 7 + 3, none⟩ (.bool true)).cell? ⟨b, 2, none⟩ = some (.slice (some ⟨B, 0, none⟩) n c) := fun k => (HQ.out k).cells.2.2
            have f3 : ∀ k, ((W.drewN k).setCell ⟨B, q2 * 7 + 3, none⟩ (.bool true)).cell? ⟨B, p * 7 + 3, none⟩ = some (.bool cf2) := fun k => by
              have := (HQ.out k).c_red pn
              rwa [show (G2.setRed q2 true).red p = cf2 from (if_neg pq).trans pc] at this
            have f4 : ∀ k, ((W.drewN k).setCell ⟨B, q2 * 7 + 3, none⟩ (.bool true)).frozen? ⟨B, p * 7 + 3, none⟩ = false := fun k => (HQ.out k).row.frozen _
            have f5 : ∀ k, ((W.drewN k).setCell ⟨B, q2 * 7 + 3, none⟩ (.bool true)).cell? ⟨B, p * 7 + 4, none⟩ = some (.int .i64 (above z2 : Int)) := fun k => by
              have := (HQ.out k).c_up pn
              rwa [show (G2.setRed q2 true).up p = above z2 from pu] at this
            have hlt := hlW.lt
            clear HLend hr0 hr1 ea r2 hlW htW bq1 bq2 bq3 hy1 hy2 ey xr vr
            cases cf2 with
            | true =>
              have HE : Hid (∀ W3, RawT W3 b B c room n ((G2.setRed q2 true).setRed p false) → TreeEnd W3 b B c room n t0) := by
                refine Lib.hid fun W3 r3 => ?_
                have S3 := Sits.paint (c' := false) hso S2.up_
                refine tree_end (t := T.mk s p false ef t' (T.mk s q2 true eq2 v2 x2)) ⟨r3, S3, fun i hi => hlt i ?_⟩ (m := m2 + 1) g3 (T.mk_bal.2 ⟨fun k => (by cases k), m2, rfl, hbl.weak, bs⟩) ?_ (fun i => ?_)
                · simp only [T.mk_occ, occZ] at hi ⊢
                  omega
                · rw [← hpl]
                  refine plug_toL z2 ?_
                  simp only [Fr.fill, T.mk_toL]
                · rw [← hpo, plug_occ, plug_occ]
                  simp only [T.mk_occ, occZ]
                  omega
              clear S2 bs hbl hpl hpo hlt g1 g3 f5
              go_quiet (fail)
              go_wp2_with fail
              refine bodyPost_ret (results_none rfl _ _ _) rfl ?_
              exact ⟨rfl, HE.out _ ((HQ.out _).setRed pn false), (HTQ.out _).set (.inr rfl) _⟩
            | false =>
              have HE : Hid (∀ W3, RawT W3 b B c room n (G2.setRed q2 true) → Turned (Own2 b B) w W3 → BlackSt w W3 b B c room n t0 (G2.setRed q2 true) z2 (T.mk s p false ef t' (T.mk s q2 true eq2 v2 x2)) (m2 + 1)) := by
                refine Lib.hid fun W3 r3 t3 => ⟨⟨r3, S2.up_, fun i hi => hlt i ?_⟩, T.mk_bal.2 ⟨fun k => (by cases k), m2, rfl, hbl.weak, bs⟩, g3, ?_, fun i => ?_, t3⟩
                · simp only [T.mk_occ, occZ] at hi ⊢
                  omega
                · rw [← hpl]
                  refine plug_toL z2 ?_
                  simp only [Fr.fill, T.mk_toL]
                · rw [← hpo, plug_occ, plug_occ]
                  simp only [T.mk_occ, occZ]
                  omega
              have hl3 := hlen rfl
              have HS : Hid (∀ k k', Calls Try.prog 84 #[.pointer (some ⟨b, 0, none⟩), .int .i64 (p : Int)] (((W.drewN k).setCell ⟨B, q2 * 7 + 3, none⟩ (.bool true)).drewN k') fun e w' => e = .returned (.int .i64 (side z2 : Int)) ∧ ∃ m, w' = ((W.drewN k).setCell ⟨B, q2 * 7 + 3, none⟩ (.bool true)).drewN m) := by
                refine Lib.hid fun k k' => (raw_sideOf ((HQ.out k).drewN k') p0 pn).mono ?_
                rintro e w' ⟨e1, k2, e2⟩
                refine ⟨?_, k' + k2, by rw [e2, World.drewN_drewN]⟩
                rw [e1, show (G2.setRed q2 true).sideOf p = side z2 from psd]
              clear S2 bs hbl hpl hpo hlt g1 g3 pc pu psd hlen
              go_quiet (fail)
              go_wp2_with fail
              go_quiet (first | (go_at_call 84; exact HS.out _ _))
              go_wp2_with fail
              go_roundg z2.length
              case measure => simp only [List.length_cons]; omega
              case rel => exact ⟨_, z2, _, _, _, _, rfl, rfl, rfl, Lib.hid rfl, Lib.hid rfl, Lib.hid (HE.out _ ((HQ.out _).drewN _) ((HTQ.out _).trans (Turned.below (below_drewN (Below.refl _ _) _))))⟩
end

end Go.Proofs.Ytkiibobpejoaeaa
