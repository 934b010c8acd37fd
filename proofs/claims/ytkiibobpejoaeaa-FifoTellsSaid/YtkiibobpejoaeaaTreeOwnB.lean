/-
  The program's own tree: paint, turn, and what mends a row of two red ones.
-/
import Derived.Test.YtkiibobpejoaeaaTreeOwn
namespace Go.Proofs.Ytkiibobpejoaeaa
open Go.RowKit
set_option linter.unusedVariables false

/-- A tree, of which t is at the end of a way, lies there. -/
structure LieT (w : World) (b B c room n : Nat) (G : Gr) (z : List Fr) (t : T) : Prop where
  raw : RawT w b B c room n G
  sits : Sits G z t
  lt : ∀ x, occZ z x + t.occ x ≠ 0 → x < n
section
variable {w w' : World} {b B c room n : Nat} {G : Gr} {z : List Fr} {t : T}
theorem LieT.below (h : LieT w b B c room n G z t) (bl : Below w.heap.size w w') : LieT w' b B c room n G z t := ⟨h.raw.below bl, h.sits, h.lt⟩
theorem LieT.above_lt (h : LieT w b B c room n G z t) : above z < n := by
  cases z with
  | nil => exact h.raw.n1
  | cons f z => exact h.lt f.p (by simp [occZ])
theorem LieT.pl_lt (h : LieT w b B c room n G z t) : t.pl < n := by
  cases t with
  | leaf => exact h.raw.n1
  | node p c l e r => exact h.lt p (by simp [T.occ])
theorem LieT.side_lt (h : LieT w b B c room n G z t) : side z < 2 := h.sits.side_lt
theorem LieT.up_ {f : Fr} (h : LieT w b B c room n G (f :: z) t) : LieT w b B c room n G z (f.fill t) :=
  ⟨h.raw, h.sits.up_, fun x hx => h.lt x (by rw [Fr.fill, T.mk_occ] at hx; simp only [occZ]; omega)⟩
theorem LieT.down {s o p : Nat} {cc : Bool} {e : En} {x y : T} (h : LieT w b B c room n G z (T.mk s p cc e x y)) (hs : s + o = 1) : LieT w b B c room n G (⟨s, p, cc, e, y⟩ :: z) x :=
  ⟨h.raw, h.sits.down hs, fun x hx => h.lt x (by rw [T.mk_occ]; simp only [occZ] at hx; omega)⟩
theorem LieT.out (h : LieT w b B c room n G z t) : LieT w b B c room n G [] (plug z t) :=
  ⟨h.raw, h.sits.out, fun x hx => h.lt x (by rw [plug_occ] at hx; simp only [occZ] at hx; omega)⟩
/-- What a node reads. -/
theorem LieT.node {s o p : Nat} {cc : Bool} {e : En} {x y : T} (h : LieT w b B c room n G z (T.mk s p cc e x y)) (hs : s + o = 1) : p ≠ 0 ∧ p < n ∧ G.key p = e.key ∧ G.val p = e.val ∧ G.red p = cc ∧ G.up p = above z ∧ G.dn p s = x.pl ∧ G.dn p o = y.pl ∧ G.sideOf p = side z := by
  obtain ⟨k1, k2, k3, k4, k5, k6, k7, k8, k9⟩ := (rep_mk hs).1 h.sits.rep
  have h1 := h.sits.sideOf T.mk_ne
  rw [T.mk_pl] at h1
  exact ⟨k1, h.lt p (by rw [T.mk_occ]; simp), k2, k3, k4, k5, k6, k7, h1⟩
/-- What the node above reads. -/
theorem LieT.over {f : Fr} (h : LieT w b B c room n G (f :: z) t) : f.p ≠ 0 ∧ f.p < n ∧ f.s < 2 ∧ G.key f.p = f.e.key ∧ G.val f.p = f.e.val ∧ G.red f.p = f.c ∧ G.up f.p = above z ∧ G.dn f.p f.s = t.pl ∧ G.dn f.p (1 - f.s) = f.sib.pl ∧ G.sideOf f.p = side z := by
  have hs := h.side_lt
  have h' := h.up_
  obtain ⟨k1, k2, k3, k4, k5, k6, k7, k8, k9⟩ := LieT.node (s := f.s) (o := 1 - f.s) h' (by simp only [side] at hs; omega)
  exact ⟨k1, k2, hs, k3, k4, k5, k6, k7, k8, k9⟩
/-- A tree's root is red, or not. -/
theorem rep_red {u : Nat} (h : Rep G t u) (h0 : G.red 0 = false) : G.red t.pl = t.isRed := by
  cases t with
  | leaf => exact h0
  | node p c l e r => exact h.2.2.2.1
theorem LieT.red (h : LieT w b B c room n G z t) : G.red t.pl = t.isRed := rep_red h.sits.rep h.sits.red0

theorem raw_paint (h : RawT w b B c room n G) {p q : Nat} (hp : p < n) (hq : q < n) :
    Calls Try.prog 86 #[.pointer (some ⟨b, 0, none⟩), .int .i64 (p : Int), .int .i64 (q : Int)] w fun e w' => e = .returned (.tuple #[]) ∧ RawT w' b B c room n ((G.setRed p true).setRed q false) ∧ Turned (Own2 b B) w w' := by
  have HR := Lib.hid ((h.setRed hp true).setRed hq false)
  have HT := Lib.hid (((Turned.refl (Own2 b B) w).set (b := B) (i := p * 7 + 3) (.inr rfl) (.bool true)).set (b := B) (i := q * 7 + 3) (.inr rfl) (.bool false))
  obtain ⟨c0, c1, c2⟩ := h.cells
  have d0 := h.c_red hp
  have f0 := h.row.frozen (p * 7 + 3)
  have h' := h.setRed hp true
  obtain ⟨_, _, e2⟩ := h'.cells
  have d1 := h'.c_red hq
  have f1 := h'.row.frozen (q * 7 + 3)
  have n2 := h.n2
  have hz1 : (p : Int) < (n : Int) := by omega
  have hz2 : (q : Int) < (n : Int) := by omega
  clear h h'
  go_enter Try.func86, Try.ntmps86
  go_wp2_with fail
  go_end0
  exact ⟨rfl, HR.out, HT.out⟩

theorem LieT.down2 {s o p : Nat} {cc : Bool} {e : En} {x y : T} (h : LieT w b B c room n G z (T.mk s p cc e x y)) (hs : s + o = 1) : LieT w b B c room n G (⟨o, p, cc, e, x⟩ :: z) y := by
  rw [← T.mk_swap hs] at h
  exact h.down (s := o) (o := s) (by omega)
theorem quiet_below {w W w' : World} {k : Nat} (h : Below w.heap.size w W) (e : w' = W.drewN k) : Below w.heap.size w w' := e ▸ below_drewN h k
theorem lie_turn {s o p q : Nat} {cc d : Bool} {e f : En} {x y v : T} (hs : s + o = 1) (h : LieT w b B c room n G z (T.mk s p cc e x (T.mk s q d f y v))) :
    Calls Try.prog 90 #[.pointer (some ⟨b, 0, none⟩), .int .i64 (p : Int), .int .i64 (s : Int)] w fun e' w' => e' = .returned (.tuple #[]) ∧ (∃ G', LieT w' b B c room n G' z (T.mk s q d f (T.mk s p cc e x y) v)) ∧ Turned (Own2 b B) w w' := by
  obtain ⟨p0, pn, _, _, _, pu, ps, po, psd⟩ := h.node hs
  rw [T.mk_pl] at po
  have h2 := h.down2 hs
  obtain ⟨q0, qn, _, _, _, qu, qs, qo, _⟩ := h2.node hs
  have yn := (h2.down hs).pl_lt
  have an := h.above_lt
  have sn := h.side_lt
  have qa : above z ≠ q := by
    refine Ne.symm (h.sits.above_off q0 (h.sits.t_off (y := q) ?_).2)
    rw [T.mk_occ, T.mk_occ]
    simp
  have pq : p ≠ q := by
    rintro rfl
    have := h.sits.once p
    rw [T.mk_occ, T.mk_occ] at this
    simp at this
    omega
  have HE : Hid (∀ W3, RawT W3 b B c room n (((G.hang (above z) (side z) q).hang p o y.pl).hang q s p) → ∃ G', LieT W3 b B c room n G' z (T.mk s q d f (T.mk s p cc e x y) v)) :=
    Lib.hid fun W3 r => ⟨_, r, h.sits.turn hs, fun x hx => h.lt x (by rw [← T.turn_occ]; exact hx)⟩
  have hr := h.raw
  have HH : Hid (∀ k, Calls Try.prog 73 #[.pointer (some ⟨b, 0, none⟩), .int .i64 (above z : Int), .int .i64 (side z : Int), .int .i64 (q : Int)] (w.drewN k) fun e w' => e = .returned (.tuple #[]) ∧ RawT w' b B c room n (G.hang (above z) (side z) q) ∧ Turned (Own2 b B) w w') :=
    Lib.hid fun k => (raw_hang (hr.drewN k) an sn qn).mono fun e w' ⟨e1, e2, e3⟩ => ⟨e1, e2, (Turned.below (below_drewN (Below.refl _ _) k)).trans e3⟩
  obtain ⟨c0, c1, c2⟩ := hr.cells
  have d0 := hr.c_dn (s := o) pn (by omega)
  rw [po] at d0
  have d1 := hr.c_up pn
  rw [pu] at d1
  have HS : Hid (∀ k, Calls Try.prog 84 #[.pointer (some ⟨b, 0, none⟩), .int .i64 (p : Int)] (w.drewN k) fun e w' => e = .returned (.int .i64 (side z : Int)) ∧ ∃ k', w' = w.drewN k') :=
    Lib.hid fun k => (raw_sideOf (hr.drewN k) p0 pn).mono fun e w' ⟨e1, k', e2⟩ => ⟨psd ▸ e1, k + k', by rw [e2, World.drewN_drewN]⟩
  have HK : Hid (∀ w3, RawT w3 b B c room n (G.hang (above z) (side z) q) → w3.cell? ⟨b, 2, none⟩ = some (.slice (some ⟨B, 0, none⟩) n c) ∧ w3.cell? ⟨B, p * 7 + 4, none⟩ = some (.int .i64 (above z : Int))) := by
    refine Lib.hid fun w3 r => ⟨r.cells.2.2, ?_⟩
    have := r.c_up pn
    rw [show (G.hang (above z) (side z) q).up p = above z from (if_neg pq).trans pu] at this
    exact this
  have HC : Hid (∀ k, (w.drewN k).cell? ⟨b, 2, none⟩ = some (.slice (some ⟨B, 0, none⟩) n c) ∧ (w.drewN k).cell? ⟨B, p * 7 + 4, none⟩ = some (.int .i64 (above z : Int))) :=
    Lib.hid fun k => ⟨(hr.drewN k).cells.2.2, pu ▸ (hr.drewN k).c_up pn⟩
  have d2 : (G.hang (above z) (side z) q).dn q s = y.pl := (if_neg (fun k => qa k.1.symm)).trans qs
  have HD := Lib.hid d2
  have n2 := hr.n2
  have hz1 : (p : Int) < (n : Int) := by omega
  have hz2 : (q : Int) < (n : Int) := by omega
  have hz3 : (o : Int) < 2 := by omega
  have hz4 : (s : Int) < 2 := by omega
  clear h h2 hr p0 pu ps po psd q0 qu qs qo d2 qa
  generalize above z = u at *
  generalize side z = sz at *
  generalize y.pl = yp at *
  have hso : (1 : Int) - (s : Int) = (o : Int) := by omega
  go_enter Try.func90, Try.ntmps90
  go_upto_region 1 with fail
  go_region_held3 (fun w' => w'.cell? ⟨b, 2, none⟩ = some (.slice (some ⟨B, 0, none⟩) n c) ∧ w'.cell? ⟨B, p * 7 + 4, none⟩ = some (.int .i64 (u : Int)))
    (first | exact HC.out 1 | exact HC.out _ | exact HK.out _ r3)
    (first | (go_at_call 84; first | (refine (HS.out 1).mono ?_; rintro e w3 ⟨rfl, k3, rfl⟩) | (refine (HS.out _).mono ?_; rintro e w3 ⟨rfl, k3, rfl⟩)) | (go_at_call 73; first | (refine (HH.out 1).mono ?_; rintro e w3 ⟨rfl, r3, t3⟩) | (refine (HH.out _).mono ?_; rintro e w3 ⟨rfl, r3, t3⟩)))
  obtain ⟨g0, g1, g2⟩ := r3.cells
  have i1 := r3.c_dn (s := s) qn (by omega)
  rw [HD.out] at i1
  have HH2 := Lib.hid (raw_hang r3 pn (by omega : o < 2) yn)
  have HT3 := Lib.hid t3
  clear r3 t3 HK HC HS HH c0 c1 c2 d0 d1
  go_wp2_with fail
  refine HH2.out.mono ?_
  rintro e w4 ⟨rfl, r4, t4⟩
  have HH3 := Lib.hid (raw_hang r4 qn (by omega : s < 2) pn)
  have HT4 := Lib.hid (HT3.out.trans t4)
  clear r4 t4 g0 g1 g2 i1 HH2 HT3
  go_wp2_with fail
  refine HH3.out.mono ?_
  rintro e w5 ⟨rfl, r5, t5⟩
  have HR5 := Lib.hid r5
  have HT5 := Lib.hid (HT4.out.trans t5)
  clear r5 t5
  go_wp2_with fail
  go_end0
  exact ⟨rfl, HE.out _ HR5.out, HT5.out⟩
/-- The colour of the node at hand, and of one above it. -/
theorem lie_paint {d : Bool} {p : Nat} {s o : Nat} {cc : Bool} {e : En} {x y : T} (hs : s + o = 1) (h : LieT w b B c room n G z (T.mk s p cc e x y)) (r : RawT w' b B c room n (G.setRed p d)) : LieT w' b B c room n (G.setRed p d) z (T.mk s p d e x y) :=
  ⟨r, h.sits.paint hs, fun q hq => h.lt q (by rw [T.mk_occ] at hq ⊢; exact hq)⟩
end

end Go.Proofs.Ytkiibobpejoaeaa

/- The program's own tree: what mends a red node below a red one. -/
namespace Go.Proofs.Ytkiibobpejoaeaa
open Go.RowKit
set_option linter.unusedVariables false

section
variable {w w' : World} {b B c room n : Nat} {G : Gr} {z : List Fr} {t : T}
/-- Some tree lies at the end of a way: as balanced, with the same entries, at the same places. -/
structure Mended (w w' : World) (b B c room n : Nat) (z : List Fr) (t : T) (m : Nat) (G' : Gr) (t' : T) : Prop where
  lie : LieT w' b B c room n G' z t'
  bal : t'.Bal true m
  toL : t'.toL = t.toL
  occ : ∀ q, t'.occ q = t.occ q
/-- A row of three at one side is mended: the middle one rises. -/
theorem row_mended {s o u tp : Nat} {eu et : En} {t fs gs : T} {m : Nat} {G' : Gr} (hs : s + o = 1) (h : LieT w' b B c room n G' z (T.mk o u false eu (T.mk o tp true et gs fs) t)) (ht : t.Bal false m) (hf : fs.Bal true m) (hg : gs.Bal true m) {t0 : T} (h1 : t0.toL = (T.mk o tp false et gs (T.mk o u true eu fs t)).toL) (h2 : ∀ q, t0.occ q = (T.mk o tp false et gs (T.mk o u true eu fs t)).occ q) :
    Mended w w' b B c room n z t0 (m + 1) G' (T.mk o u false eu (T.mk o tp true et gs fs) t) := by
  refine ⟨h, T.mk_bal.2 ⟨fun k => (by cases k), m, rfl, T.mk_bal.2 ⟨fun _ => rfl, m, rfl, hg, hf⟩, ht⟩, ?_, fun q => ?_⟩
  · rw [h1]
    simp only [T.mk_toL]
    split <;> simp
  · rw [h2]
    simp only [T.mk_occ]
    omega
theorem red_weak {s p : Nat} {e : En} {x y : T} {m : Nat} (hx : x.Bal true m) (hy : y.Bal true m) : (T.mk s p true e x y).Bal false m := T.mk_bal.2 ⟨fun _ => rfl, m, rfl, hx, hy⟩
/-- Both are painted. -/
theorem lie_paint2 {s u tp : Nat} {o : Nat} {eu et : En} {x y v : T} {c1 c2 : Bool} (hs : s + o = 1) (h : LieT w b B c room n G z (T.mk s u c1 eu (T.mk s tp c2 et x y) v)) (r : RawT w' b B c room n ((G.setRed tp true).setRed u false)) : LieT w' b B c room n ((G.setRed tp true).setRed u false) z (T.mk s u false eu (T.mk s tp true et x y) v) := by
  have h1 := (h.sits.down hs).paint hs (c' := true)
  have h2 := h1.up_
  have h3 := Sits.paint (c' := false) hs (h2 : Sits _ z (T.mk s u c1 eu (T.mk s tp true et x y) v))
  exact ⟨r, h3, fun q hq => h.lt q (by simp only [T.mk_occ] at hq ⊢; exact hq)⟩
theorem lie_mendRow {s o k p u tp : Nat} {ep eu et : En} {x y fs gs : T} {m : Nat} (hs : s + o = 1) (h : LieT w b B c room n G (⟨k, u, true, eu, fs⟩ :: ⟨s, tp, false, et, gs⟩ :: z) (T.mk s p true ep x y)) (hx : x.Bal true m) (hy : y.Bal true m) (hf : fs.Bal true m) (hg : gs.Bal true m) :
    Calls Try.prog 85 #[.pointer (some ⟨b, 0, none⟩), .int .i64 (p : Int), .int .i64 (u : Int), .int .i64 (tp : Int), .int .i64 (s : Int)] w fun e w' => e = .returned (.tuple #[]) ∧ (∃ G' t', Mended w w' b B c room n z (T.mk s tp false et (T.mk k u true eu (T.mk s p true ep x y) fs) gs) (m + 1) G' t') ∧ Turned (Own2 b B) w w' := by
  obtain ⟨p0, pn, _, _, _, _, _, _, psd⟩ := h.node hs
  obtain ⟨_, un, k2, _⟩ := h.over
  obtain ⟨_, tn, _⟩ := h.up_.over
  have HS := Lib.hid (raw_sideOf h.raw p0 pn)
  rw [show G.sideOf p = k from psd] at HS
  clear psd
  have hko : k = s ∨ k = o := by
    have : k < 2 := k2
    omega
  have n2 := h.raw.n2
  have n2' : n ≤ 65537 := n2
  simp only at un tn
  have hz1 : (p : Int) < (n : Int) := by omega
  have hso : (1 : Int) - (s : Int) = (o : Int) := by omega
  rcases hko with rfl | rfl
  · have h1 := h.up_.up_
    simp only [Fr.fill] at h1
    rw [← T.mk_swap (s := k) (o := o) hs (p := u), ← T.mk_swap (s := k) (o := o) hs (p := tp)] at h1
    have HL : Hid (∀ k', Calls Try.prog 90 #[.pointer (some ⟨b, 0, none⟩), .int .i64 (tp : Int), .int .i64 (o : Int)] (w.drewN k') fun e' w' => e' = .returned (.tuple #[]) ∧ (∃ G', LieT w' b B c room n G' z (T.mk o u true eu (T.mk o tp false et gs fs) (T.mk k p true ep x y))) ∧ Turned (Own2 b B) w w') :=
      Lib.hid fun k' => (lie_turn (s := o) (o := k) (by omega) (h1.below (below_drewN (Below.refl _ _) k'))).mono fun e' w' ⟨e1, e2, e3⟩ => ⟨e1, e2, (Turned.below (below_drewN (Below.refl _ _) k')).trans e3⟩
    have HM : Hid (∀ G' w2, LieT w2 b B c room n G' z (T.mk o u false eu (T.mk o tp true et gs fs) (T.mk k p true ep x y)) → ∃ G' t', Mended w w2 b B c room n z (T.mk k tp false et (T.mk k u true eu (T.mk k p true ep x y) fs) gs) (m + 1) G' t') :=
      Lib.hid fun G' w2 l => ⟨_, _, row_mended hs l (red_weak hx hy) hf hg (by rw [T.mk_swap hs, T.mk_swap hs]) (fun q => by rw [T.mk_swap hs, T.mk_swap hs])⟩
    clear h h1 hx hy hf hg
    have hne : ((k : Int) != (k : Int)) = false := by simp
    go_enter Try.func85, Try.ntmps85
    go_wp2_with fail
    refine HS.out.mono ?_
    rintro e w1 ⟨rfl, k1, rfl⟩
    clear HS
    go_wp2_with fail
    refine (HL.out _).mono ?_
    rintro e w2 ⟨rfl, ⟨G2, l2⟩, t2⟩
    have HP := Lib.hid (raw_paint l2.raw tn un)
    have HL2 := Lib.hid l2
    have HT2 := Lib.hid t2
    clear l2 t2 HL
    go_wp2_with fail
    refine HP.out.mono ?_
    rintro e w3 ⟨rfl, r3, t3⟩
    have HR3 := Lib.hid (lie_paint2 (s := o) (o := k) (by omega) HL2.out r3)
    have HT3 := Lib.hid (HT2.out.trans t3)
    clear r3 t3 HL2 HT2 HP
    go_wp2_with fail
    go_end0
    exact ⟨rfl, HM.out _ _ HR3.out, HT3.out⟩
  · have h1 := h.up_
    simp only [Fr.fill] at h1
    rw [T.mk_swap (s := s) (o := k) hs (p := u)] at h1
    have HL : Hid (∀ k', Calls Try.prog 90 #[.pointer (some ⟨b, 0, none⟩), .int .i64 (u : Int), .int .i64 (s : Int)] (w.drewN k') fun e' w' => e' = .returned (.tuple #[]) ∧ (∃ G', LieT w' b B c room n G' (⟨s, tp, false, et, gs⟩ :: z) (T.mk s p true ep (T.mk s u true eu fs x) y)) ∧ Turned (Own2 b B) w w') :=
      Lib.hid fun k' => (lie_turn hs (h1.below (below_drewN (Below.refl _ _) k'))).mono fun e' w' ⟨e1, e2, e3⟩ => ⟨e1, e2, (Turned.below (below_drewN (Below.refl _ _) k')).trans e3⟩
    have HL2 : Hid (∀ G' w2, LieT w2 b B c room n G' (⟨s, tp, false, et, gs⟩ :: z) (T.mk s p true ep (T.mk s u true eu fs x) y) → Calls Try.prog 90 #[.pointer (some ⟨b, 0, none⟩), .int .i64 (tp : Int), .int .i64 (k : Int)] w2 fun e' w' => e' = .returned (.tuple #[]) ∧ (∃ G', LieT w' b B c room n G' z (T.mk k p true ep (T.mk k tp false et gs y) (T.mk s u true eu fs x))) ∧ Turned (Own2 b B) w2 w') := by
      refine Lib.hid fun G' w2 l => ?_
      have l1 := l.up_
      simp only [Fr.fill] at l1
      rw [← T.mk_swap (s := s) (o := k) hs (p := p), ← T.mk_swap (s := s) (o := k) hs (p := tp)] at l1
      exact lie_turn (s := k) (o := s) (by omega) l1
    have HM : Hid (∀ G' w2, LieT w2 b B c room n G' z (T.mk k p false ep (T.mk k tp true et gs y) (T.mk s u true eu fs x)) → ∃ G' t', Mended w w2 b B c room n z (T.mk s tp false et (T.mk k u true eu (T.mk s p true ep x y) fs) gs) (m + 1) G' t') := by
      refine Lib.hid fun G' w2 l => ⟨_, _, row_mended hs l (red_weak hf hx) hy hg ?_ (fun q => ?_)⟩
      · rw [T.mk_swap hs, T.mk_swap hs, T.mk_swap hs]
        simp only [T.mk_toL]
        split <;> simp
      · simp only [T.mk_occ]
        omega
    clear h h1 hx hy hf hg
    have hne : ((k : Int) != (s : Int)) = true := by rw [bne_iff_ne]; omega
    go_enter Try.func85, Try.ntmps85
    go_wp2_with fail
    refine HS.out.mono ?_
    rintro e w1 ⟨rfl, k1, rfl⟩
    clear HS
    go_wp2_with fail
    refine (HL.out _).mono ?_
    rintro e w2 ⟨rfl, ⟨G2, l2⟩, t2⟩
    have HP2 := Lib.hid (HL2.out _ _ l2)
    have HT2 := Lib.hid t2
    clear l2 t2 HL HL2
    go_wp2_with fail
    refine HP2.out.mono ?_
    rintro e w3 ⟨rfl, ⟨G3, l3⟩, t3⟩
    have HP := Lib.hid (raw_paint l3.raw tn pn)
    have HL3 := Lib.hid l3
    have HT3 := Lib.hid (HT2.out.trans t3)
    clear l3 t3 HP2 HT2
    go_wp2_with fail
    refine HP.out.mono ?_
    rintro e w4 ⟨rfl, r4, t4⟩
    have HR4 := Lib.hid (lie_paint2 (s := k) (o := s) (by omega) HL3.out r4)
    have HT4 := Lib.hid (HT3.out.trans t4)
    clear r4 t4 HL3 HT3 HP
    go_wp2_with fail
    go_end0
    exact ⟨rfl, HM.out _ _ HR4.out, HT4.out⟩
end

end Go.Proofs.Ytkiibobpejoaeaa
