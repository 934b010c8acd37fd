/-
  The program's own tree: lend, which gives a side a black node more.
-/
import Derived.Test.YtkiibobpejoaeaaTreeOwnD
namespace Go.Proofs.Ytkiibobpejoaeaa
open Go.RowKit
set_option linter.unusedVariables false

section
variable {w w' : World} {b B c room n : Nat} {G : Gr} {z : List Fr}
/-- A side that lacks a black node; at the other side one to lend. -/
structure LendSt (w wx : World) (b B c room n : Nat) (L : List En) (O : Nat → Nat) (z : List Fr) (s p m : Nat) (cp : Bool) (ep : En) (t : T) (G : Gr) (q : Nat) (cq : Bool) (eq : En) (v : T) (f : Nat) (cf : Bool) (ef : En) (x y : T) : Prop where
  lie : LieT wx b B c room n G z (T.mk s p cp ep t (T.mk s q cq eq v (T.mk 0 f cf ef x y)))
  bv : v.Bal false m
  bf : (T.mk 0 f false ef x y).Bal true (m + 1)
  toL : (T.mk s p cp ep t (T.mk s q cq eq v (T.mk 0 f cf ef x y))).toL = L
  occ : ∀ i, (T.mk s p cp ep t (T.mk s q cq eq v (T.mk 0 f cf ef x y))).occ i = O i
  turned : Turned (Own2 b B) w wx
theorem lent {s o p q f : Nat} {cp cq cf : Bool} {ep eq ef : En} {t v x y : T} (hs : s + o = 1) (h : Sits G z (T.mk s q cq eq (T.mk s p cp ep t v) (T.mk 0 f cf ef x y))) :
    Sits (((G.setRed q cp).setRed p false).setRed f false) z (T.mk s q cp eq (T.mk s p false ep t v) (T.mk 0 f false ef x y)) := by
  have h1 := h.paint hs (c' := cp)
  have h2 := ((h1.down hs).paint hs (c' := false)).up_
  simp only [Fr.fill] at h2
  rw [← T.mk_swap hs] at h2
  have h3 := ((h2.down (s := o) (o := s) (by omega)).paint (o := 1) rfl (c' := false)).up_
  simp only [Fr.fill] at h3
  rw [T.mk_swap hs] at h3
  exact h3
/-- Behind it: the tree at hand is in order, whatever may be above it. -/
def LendEnd (w' : World) (b B c room n : Nat) (z : List Fr) (m : Nat) (cp : Bool) (t0 : T) : Prop :=
  ∃ G' t', LieT w' b B c room n G' z t' ∧ (∀ r, (cp = true → r = false) → t'.Bal r (if cp then m + 1 else m + 2)) ∧ t'.toL = t0.toL ∧ ∀ i, t'.occ i = t0.occ i
set_option maxHeartbeats 1600000 in
theorem lie_lend {s o p q m : Nat} {cp : Bool} {ep eq : En} {t v x : T} (hs : s + o = 1) (h : LieT w b B c room n G z (T.mk s p cp ep t (T.mk s q false eq v x))) (ht : t.Bal true m) (hv : v.Bal false m) (hx : x.Bal false m) (hr : x.isRed = true ∨ v.isRed = true) :
    Calls Try.prog 91 #[.pointer (some ⟨b, 0, none⟩), .int .i64 (p : Int), .int .i64 (s : Int), .int .i64 (q : Int)] w fun e' w' => e' = .returned (.tuple #[]) ∧ LendEnd w' b B c room n z m cp (T.mk s p cp ep t (T.mk s q false eq v x)) ∧ Turned (Own2 b B) w w' := by
  obtain ⟨L, HL⟩ : ∃ L, Hid ((T.mk s p cp ep t (T.mk s q false eq v x)).toL = L) := ⟨_, Lib.hid rfl⟩
  obtain ⟨O, HO⟩ : ∃ O : Nat → Nat, Hid (∀ i, (T.mk s p cp ep t (T.mk s q false eq v x)).occ i = O i) := ⟨_, Lib.hid fun _ => rfl⟩
  have HP : Hid (∀ w3 G' t', LieT w3 b B c room n G' z t' → (∀ r, (cp = true → r = false) → t'.Bal r (if cp then m + 1 else m + 2)) → t'.toL = L → (∀ i, t'.occ i = O i) → Turned (Own2 b B) w w3 → LendEnd w3 b B c room n z m cp (T.mk s p cp ep t (T.mk s q false eq v x)) ∧ Turned (Own2 b B) w w3) :=
    Lib.hid fun w3 G' t' h1 h2 h3 h4 h5 => ⟨⟨G', t', h1, h2, h3.trans HL.out.symm, fun i => (h4 i).trans (HO.out i).symm⟩, h5⟩
  obtain ⟨p0, pn, _⟩ := h.node hs
  have h2 := h.down2 hs
  obtain ⟨q0, qn, _, _, _, _, qs, qo, _⟩ := h2.node hs
  have h3 := h2.down2 hs
  have h4 := h2.down hs
  have xn := h3.pl_lt
  have vn := h4.pl_lt
  obtain ⟨c0, c1, c2⟩ := h.raw.cells
  have d5 := h.raw.c_dn (s := o) qn (by omega)
  rw [qo] at d5
  have d6 := h.raw.c_dn (s := s) qn (by omega)
  rw [qs] at d6
  have d3 := h.raw.c_red xn
  rw [h3.red] at d3
  have n2 := h.raw.n2
  have hz1 : (q : Int) < (n : Int) := by omega
  have hz2 : (x.pl : Int) < (n : Int) := by omega
  have hz3 : (o : Int) < 2 := by omega
  have hz4 : (s : Int) < 2 := by omega
  have hso : (1 : Int) - (s : Int) = (o : Int) := by omega
  have HR := Lib.hid hr
  have HLi := Lib.hid h
  have HB := Lib.hid (And.intro ht (And.intro hv hx))
  obtain ⟨fp, HFP⟩ : ∃ fp, Hid (x.pl = fp) := ⟨_, Lib.hid rfl⟩
  obtain ⟨vp, HVP⟩ : ∃ vp, Hid (v.pl = vp) := ⟨_, Lib.hid rfl⟩
  rw [HFP.out] at d5 d3 xn hz2
  rw [HVP.out] at d6 vn
  clear h h2 h3 h4 ht hv hx hr q0 qs qo p0
  go_enter Try.func91, Try.ntmps91
  go_upto_if 29 with fail
  go_cut [3, 8] (fun v3 v8 wx => ∃ (G' : Gr) (q' : Nat) (cq : Bool) (eq' : En) (v' : T) (f : Nat) (cf : Bool) (ef : En) (x' y' : T), v3 = .int .i64 (q' : Int) ∧ v8 = .int .i64 (f : Int) ∧ Hid (LendSt w wx b B c room n L O z s p m cp ep t G' q' cq eq' v' f cf ef x' y'))
  case first =>
    cases hxr : x.isRed with
    | true =>
      rw [hxr] at d3
      obtain ⟨f, ef, fx, fy, rfl⟩ := T.open_red hxr 0
      obtain rfl : f = fp := by
        rw [← HFP.out, T.mk_pl]
      have HE : Hid (LendSt w w b B c room n L O z s p m cp ep t G q false eq v f true ef fx fy) := by
        obtain ⟨k1, k2, k3⟩ := HB.out
        obtain ⟨_, m2, em, bx, by_⟩ := T.mk_bal.1 k3
        simp only [if_true] at em
        subst em
        exact Lib.hid ⟨HLi.out, k2, T.mk_bal.2 ⟨fun k => (by cases k), m, rfl, bx.weak, by_.weak⟩, HL.out, HO.out, Turned.refl _ _⟩
      clear hxr HB HLi HFP HVP HR
      go_wp2_with fail
      go_meet
      exact ⟨_, _, _, _, _, _, _, _, _, _, rfl, rfl, HE⟩
    | false =>
      rw [hxr] at d3
      have hvr : v.isRed = true := by
        rcases HR.out with h | h
        · rw [h] at hxr; cases hxr
        · exact h
      obtain ⟨nb, ne, ny, nz, rfl⟩ := T.open_red hvr s
      obtain rfl : nb = vp := by
        rw [← HVP.out, T.mk_pl]
      have HT : Hid (Calls Try.prog 90 #[.pointer (some ⟨b, 0, none⟩), .int .i64 (q : Int), .int .i64 (o : Int)] w fun e' w' => e' = .returned (.tuple #[]) ∧ ∃ (G' : Gr) (f : Nat) (cf : Bool) (ef : En) (x' y' : T), f = q ∧ Hid (LendSt w w' b B c room n L O z s p m cp ep t G' nb true ne ny f cf ef x' y')) := by
        obtain ⟨k1, k2, k3⟩ := HB.out
        obtain ⟨_, m2, em, bx, by_⟩ := T.mk_bal.1 k2
        simp only [if_true] at em
        subst em
        have l2 := HLi.out.down2 hs
        rw [← T.mk_swap hs (p := q), ← T.mk_swap hs (p := nb)] at l2
        refine Lib.hid ((lie_turn (s := o) (o := s) (by omega) l2).mono ?_)
        rintro e' w' ⟨e1, ⟨G', l3⟩, t3⟩
        have l4 := l3.up_
        simp only [Fr.fill] at l4
        rw [T.mk_swap hs (p := p), T.mk_swap hs (p := nb), T.mk_swap hs (p := q)] at l4
        obtain ⟨x1, y1, e2, bx1, by1⟩ := mk_any (s := s) (p := q) (c := false) (e := eq) (x := nz) (y := x) (q1 := false) (q2 := true) (m := m) (by omega) by_.weak k3 0 (by omega)
        rw [e2] at l4
        refine ⟨e1, G', q, false, eq, x1, y1, rfl, Lib.hid ⟨l4, bx.weak, T.mk_bal.2 ⟨fun k => (by cases k), m, rfl, bx1, by1⟩, ?_, fun i => ?_, t3⟩⟩
        · rw [← e2, ← HL.out]
          simp only [T.mk_toL]
          split <;> simp
        · rw [← e2, ← HO.out]
          simp only [T.mk_occ]
          omega
      clear hxr HB HLi HFP HVP HR hvr
      go_wp2_with fail
      refine HT.out.mono ?_
      rintro e w1 ⟨rfl, G1, f1, cf, ef, x1, y1, rfl, HE⟩
      clear HT c0 c1 c2 d5 d6 d3
      go_wp2_with fail
      go_meet
      exact ⟨_, _, _, _, _, _, _, _, _, _, rfl, rfl, HE⟩
  case rest =>
    obtain ⟨G1, q1, cq, eq1, v1, f1, cf, ef, x1, y1, rfl, rfl, HE⟩ := hcut
    have HB' := Lib.hid HB.out.1
    clear HB HLi HFP HVP HR HL HO c0 c1 c2 d5 d6 d3 hz1 hz2 xn vn
    have HT := Lib.hid (lie_turn hs HE.out.lie)
    go_wp2_with fail
    refine HT.out.mono ?_
    rintro e w2 ⟨rfl, ⟨G2, l2⟩, t2⟩
    have HL2 := Lib.hid l2
    have HT2 := Lib.hid (HE.out.turned.trans t2)
    clear t2 HT
    obtain ⟨_, qn1, _⟩ := l2.node hs
    obtain ⟨p0, _, _, _, pc, _⟩ := (l2.down hs).node hs
    obtain ⟨_, fn1, _⟩ := (l2.down2 hs).node (o := 1) rfl
    have pq : p ≠ q1 := by
      rintro rfl
      have := l2.sits.once p
      simp only [T.mk_occ] at this
      simp at this
      omega
    obtain ⟨g0, g1, g2⟩ := l2.raw.cells
    have i3 := l2.raw.c_red pn
    rw [pc] at i3
    have j3 := l2.raw.c_red qn1
    have j4 := l2.raw.row.frozen (q1 * 7 + 3)
    have r3 := l2.raw.setRed qn1 cp
    obtain ⟨_, _, k2⟩ := r3.cells
    have k3 := r3.c_red pn
    rw [show (G2.setRed q1 cp).red p = cp from (if_neg pq).trans pc] at k3
    have k4 := r3.row.frozen (p * 7 + 3)
    have r4 := r3.setRed pn false
    obtain ⟨_, _, m2⟩ := r4.cells
    have m3 := r4.c_red fn1
    have m4 := r4.row.frozen (f1 * 7 + 3)
    have r5 := r4.setRed fn1 false
    have HR5 := Lib.hid r5
    have HT5 : Hid (Turned (Own2 b B) w (((w2.setCell ⟨B, q1 * 7 + 3, none⟩ (.bool cp)).setCell ⟨B, p * 7 + 3, none⟩ (.bool false)).setCell ⟨B, f1 * 7 + 3, none⟩ (.bool false))) :=
      Lib.hid (((HT2.out.set (.inr rfl) _).set (.inr rfl) _).set (.inr rfl) _)
    have hz1 : (p : Int) < (n : Int) := by omega
    have hz2 : (q1 : Int) < (n : Int) := by omega
    have hz5 : (f1 : Int) < (n : Int) := by omega
    clear l2 r3 r4 r5 pc p0 HT2
    go_wp2_with fail
    go_region_held3 (fun w' => w'.cell? ⟨b, 2, none⟩ = some (.slice (some ⟨B, 0, none⟩) n c) ∧ w'.cell? ⟨B, p * 7 + 3, none⟩ = some (.bool cp))
      (first | exact ⟨g2, i3⟩ | exact ⟨k2, k3⟩)
      (fail)
    have HF : Hid (∀ w3, RawT w3 b B c room n (((G2.setRed q1 cp).setRed p false).setRed f1 false) → LieT w3 b B c room n (((G2.setRed q1 cp).setRed p false).setRed f1 false) z (T.mk s q1 cp eq1 (T.mk s p false ep t v1) (T.mk 0 f1 false ef x1 y1))) :=
      Lib.hid fun w3 r => ⟨r, lent hs HL2.out.sits, fun i hi => HL2.out.lt i (by simp only [T.mk_occ] at hi ⊢; exact hi)⟩
    clear HL2
    go_wp2_with fail
    go_end0
    refine ⟨rfl, HP.out _ _ _ (HF.out _ HR5.out.drew) (fun r hr => ?_) ?_ (fun i => ?_) HT5.out.drew⟩
    · have hb := HE.out.bf
      have hv := HE.out.bv
      have ht := HB'.out
      cases cp with
      | true => exact T.mk_bal.2 ⟨hr, m + 1, rfl, T.mk_bal.2 ⟨fun k => (by cases k), m, rfl, ht.weak, hv⟩, hb⟩
      | false => exact T.mk_bal.2 ⟨fun k => (by cases k), m + 1, rfl, T.mk_bal.2 ⟨fun k => (by cases k), m, rfl, ht.weak, hv⟩, hb.weak⟩
    · rw [← HE.out.toL]
      simp only [T.mk_toL]
      split <;> simp
    · rw [← HE.out.occ]
      simp only [T.mk_occ]
      omega
end

end Go.Proofs.Ytkiibobpejoaeaa
