/-
  The program's own tree: what mends a red node below a red one.
-/
import Derived.Test.YtlpniacffahnkaaTreeOwnB
namespace Go.Proofs.Ytlpniacffahnkaa
open Go.RowKit
set_option linter.unusedVariables false

section
variable {w w' : World} {b B c room n : Nat} {G : Gr} {z : List Fr} {t : T}
/-- Some tree lies at the end of a way: as balanced, with the same entries, at the same places. -/
structure Mended (w w' : World) (b B c room n : Nat) (z : List Fr) (t : T) (m : Nat) (G' : Gr) (t' : T) : Prop where
  lie : LieT w' b B c room n G' z t'
  bal : t'.Bal true m
  toL : t'.toL = t.toL
  occ : ∀ q, t'.occ q = t.occ q
/-- A row of three at one side is mended: the middle one rises. -/
theorem row_mended {s o u tp : Nat} {eu et : En} {t fs gs : T} {m : Nat} {G' : Gr} (hs : s + o = 1) (h : LieT w' b B c room n G' z (T.mk o u false eu (T.mk o tp true et gs fs) t)) (ht : t.Bal false m) (hf : fs.Bal true m) (hg : gs.Bal true m) {t0 : T} (h1 : t0.toL = (T.mk o tp false et gs (T.mk o u true eu fs t)).toL) (h2 : ∀ q, t0.occ q = (T.mk o tp false et gs (T.mk o u true eu fs t)).occ q) :
    Mended w w' b B c room n z t0 (m + 1) G' (T.mk o u false eu (T.mk o tp true et gs fs) t) := by
  refine ⟨h, T.mk_bal.2 ⟨fun k => (by cases k), m, rfl, T.mk_bal.2 ⟨fun _ => rfl, m, rfl, hg, hf⟩, ht⟩, ?_, fun q => ?_⟩
  · rw [h1]
    simp only [T.mk_toL]
    split <;> simp
  · rw [h2]
    simp only [T.mk_occ]
    omega
theorem red_weak {s p : Nat} {e : En} {x y : T} {m : Nat} (hx : x.Bal true m) (hy : y.Bal true m) : (T.mk s p true e x y).Bal false m := T.mk_bal.2 ⟨fun _ => rfl, m, rfl, hx, hy⟩
/-- Both are painted. -/
theorem lie_paint2 {s u tp : Nat} {o : Nat} {eu et : En} {x y v : T} {c1 c2 : Bool} (hs : s + o = 1) (h : LieT w b B c room n G z (T.mk s u c1 eu (T.mk s tp c2 et x y) v)) (r : RawT w' b B c room n ((G.setRed tp true).setRed u false)) : LieT w' b B c room n ((G.setRed tp true).setRed u false) z (T.mk s u false eu (T.mk s tp true et x y) v) := by
  have h1 := (h.sits.down hs).paint hs (c' := true)
  have h2 := h1.up_
  have h3 := Sits.paint (c' := false) hs (h2 : Sits _ z (T.mk s u c1 eu (T.mk s tp true et x y) v))
  exact ⟨r, h3, fun q hq => h.lt q (by simp only [T.mk_occ] at hq ⊢; exact hq)⟩
theorem lie_mendRow {s o k p u tp : Nat} {ep eu et : En} {x y fs gs : T} {m : Nat} (hs : s + o = 1) (h : LieT w b B c room n G (⟨k, u, true, eu, fs⟩ :: ⟨s, tp, false, et, gs⟩ :: z) (T.mk s p true ep x y)) (hx : x.Bal true m) (hy : y.Bal true m) (hf : fs.Bal true m) (hg : gs.Bal true m) :
    Calls Try.prog 49 #[.pointer (some ⟨b, 0, none⟩), .int .i64 (p : Int), .int .i64 (u : Int), .int .i64 (tp : Int), .int .i64 (s : Int)] w fun e w' => e = .returned (.tuple #[]) ∧ (∃ G' t', Mended w w' b B c room n z (T.mk s tp false et (T.mk k u true eu (T.mk s p true ep x y) fs) gs) (m + 1) G' t') ∧ Turned (Own2 b B) w w' := by
  obtain ⟨p0, pn, _, _, _, _, _, _, psd⟩ := h.node hs
  obtain ⟨_, un, k2, _⟩ := h.over
  obtain ⟨_, tn, _⟩ := h.up_.over
  have HS := Lib.hid (raw_sideOf h.raw p0 pn)
  rw [show G.sideOf p = k from psd] at HS
  clear psd
  have hko : k = s ∨ k = o := by
    have : k < 2 := k2
    omega
  have n2 := h.raw.n2
  have n2' : n ≤ 65537 := n2
  simp only at un tn
  have hz1 : (p : Int) < (n : Int) := by omega
  have hso : (1 : Int) - (s : Int) = (o : Int) := by omega
  rcases hko with rfl | rfl
  · have h1 := h.up_.up_
    simp only [Fr.fill] at h1
    rw [← T.mk_swap (s := k) (o := o) hs (p := u), ← T.mk_swap (s := k) (o := o) hs (p := tp)] at h1
    have HL : Hid (∀ k', Calls Try.prog 60 #[.pointer (some ⟨b, 0, none⟩), .int .i64 (tp : Int), .int .i64 (o : Int)] (w.drewN k') fun e' w' => e' = .returned (.tuple #[]) ∧ (∃ G', LieT w' b B c room n G' z (T.mk o u true eu (T.mk o tp false et gs fs) (T.mk k p true ep x y))) ∧ Turned (Own2 b B) w w') :=
      Lib.hid fun k' => (lie_turn (s := o) (o := k) (by omega) (h1.below (below_drewN (Below.refl _ _) k'))).mono fun e' w' ⟨e1, e2, e3⟩ => ⟨e1, e2, (Turned.below (below_drewN (Below.refl _ _) k')).trans e3⟩
    have HM : Hid (∀ G' w2, LieT w2 b B c room n G' z (T.mk o u false eu (T.mk o tp true et gs fs) (T.mk k p true ep x y)) → ∃ G' t', Mended w w2 b B c room n z (T.mk k tp false et (T.mk k u true eu (T.mk k p true ep x y) fs) gs) (m + 1) G' t') :=
      Lib.hid fun G' w2 l => ⟨_, _, row_mended hs l (red_weak hx hy) hf hg (by rw [T.mk_swap hs, T.mk_swap hs]) (fun q => by rw [T.mk_swap hs, T.mk_swap hs])⟩
    clear h h1 hx hy hf hg
    have hne : ((k : Int) != (k : Int)) = false := by simp
    go_enter Try.func49, Try.ntmps49
    go_wp2_with fail
    refine HS.out.mono ?_
    rintro e w1 ⟨rfl, k1, rfl⟩
    clear HS
    go_wp2_with fail
    refine (HL.out _).mono ?_
    rintro e w2 ⟨rfl, ⟨G2, l2⟩, t2⟩
    have HP := Lib.hid (raw_paint l2.raw tn un)
    have HL2 := Lib.hid l2
    have HT2 := Lib.hid t2
    clear l2 t2 HL
    go_wp2_with fail
    refine HP.out.mono ?_
    rintro e w3 ⟨rfl, r3, t3⟩
    have HR3 := Lib.hid (lie_paint2 (s := o) (o := k) (by omega) HL2.out r3)
    have HT3 := Lib.hid (HT2.out.trans t3)
    clear r3 t3 HL2 HT2 HP
    go_wp2_with fail
    go_end0
    exact ⟨rfl, HM.out _ _ HR3.out, HT3.out⟩
  · have h1 := h.up_
    simp only [Fr.fill] at h1
    rw [T.mk_swap (s := s) (o := k) hs (p := u)] at h1
    have HL : Hid (∀ k', Calls Try.prog 60 #[.pointer (some ⟨b, 0, none⟩), .int .i64 (u : Int), .int .i64 (s : Int)] (w.drewN k') fun e' w' => e' = .returned (.tuple #[]) ∧ (∃ G', LieT w' b B c room n G' (⟨s, tp, false, et, gs⟩ :: z) (T.mk s p true ep (T.mk s u true eu fs x) y)) ∧ Turned (Own2 b B) w w') :=
      Lib.hid fun k' => (lie_turn hs (h1.below (below_drewN (Below.refl _ _) k'))).mono fun e' w' ⟨e1, e2, e3⟩ => ⟨e1, e2, (Turned.below (below_drewN (Below.refl _ _) k')).trans e3⟩
    have HL2 : Hid (∀ G' w2, LieT w2 b B c room n G' (⟨s, tp, false, et, gs⟩ :: z) (T.mk s p true ep (T.mk s u true eu fs x) y) → Calls Try.prog 60 #[.pointer (some ⟨b, 0, none⟩), .int .i64 (tp : Int), .int .i64 (k : Int)] w2 fun e' w' => e' = .returned (.tuple #[]) ∧ (∃ G', LieT w' b B c room n G' z (T.mk k p true ep (T.mk k tp false et gs y) (T.mk s u true eu fs x))) ∧ Turned (Own2 b B) w2 w') := by
      refine Lib.hid fun G' w2 l => ?_
      have l1 := l.up_
      simp only [Fr.fill] at l1
      rw [← T.mk_swap (s := s) (o := k) hs (p := p), ← T.mk_swap (s := s) (o := k) hs (p := tp)] at l1
      exact lie_turn (s := k) (o := s) (by omega) l1
    have HM : Hid (∀ G' w2, LieT w2 b B c room n G' z (T.mk k p false ep (T.mk k tp true et gs y) (T.mk s u true eu fs x)) → ∃ G' t', Mended w w2 b B c room n z (T.mk s tp false et (T.mk k u true eu (T.mk s p true ep x y) fs) gs) (m + 1) G' t') := by
      refine Lib.hid fun G' w2 l => ⟨_, _, row_mended hs l (red_weak hf hx) hy hg ?_ (fun q => ?_)⟩
      · rw [T.mk_swap hs, T.mk_swap hs, T.mk_swap hs]
        simp only [T.mk_toL]
        split <;> simp
      · simp only [T.mk_occ]
        omega
    clear h h1 hx hy hf hg
    have hne : ((k : Int) != (s : Int)) = true := by rw [bne_iff_ne]; omega
    go_enter Try.func49, Try.ntmps49
    go_wp2_with fail
    refine HS.out.mono ?_
    rintro e w1 ⟨rfl, k1, rfl⟩
    clear HS
    go_wp2_with fail
    refine (HL.out _).mono ?_
    rintro e w2 ⟨rfl, ⟨G2, l2⟩, t2⟩
    have HP2 := Lib.hid (HL2.out _ _ l2)
    have HT2 := Lib.hid t2
    clear l2 t2 HL HL2
    go_wp2_with fail
    refine HP2.out.mono ?_
    rintro e w3 ⟨rfl, ⟨G3, l3⟩, t3⟩
    have HP := Lib.hid (raw_paint l3.raw tn pn)
    have HL3 := Lib.hid l3
    have HT3 := Lib.hid (HT2.out.trans t3)
    clear l3 t3 HP2 HT2
    go_wp2_with fail
    refine HP.out.mono ?_
    rintro e w4 ⟨rfl, r4, t4⟩
    have HR4 := Lib.hid (lie_paint2 (s := k) (o := s) (by omega) HL3.out r4)
    have HT4 := Lib.hid (HT3.out.trans t4)
    clear r4 t4 HL3 HT3 HP
    go_wp2_with fail
    go_end0
    exact ⟨rfl, HM.out _ _ HR4.out, HT4.out⟩
end

end Go.Proofs.Ytlpniacffahnkaa
