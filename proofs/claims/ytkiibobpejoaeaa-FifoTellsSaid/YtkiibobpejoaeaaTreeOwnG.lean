/-
  The program's own tree: unhang, which takes a node's key out of the tree.
-/
import Derived.Test.YtkiibobpejoaeaaTreeOwnF
import Derived.Test.YtkiibobpejoaeaaTreeFind
namespace Go.Proofs.Ytkiibobpejoaeaa
open Go.RowKit
set_option linter.unusedVariables false

section
variable {G : Gr}
theorem Sits.out_to : ∀ {y z : List Fr} {t : T}, Sits G (y ++ z) t → Sits G z (plug y t)
  | [], _, _, h => h
  | f :: y, z, t, h => Sits.out_to (y := y) (t := f.fill t) h.up_
theorem Sits.in_to : ∀ {y z : List Fr} {t : T}, (∀ f, f ∈ y → f.s < 2) → Sits G z (plug y t) → Sits G (y ++ z) t
  | [], _, _, _, h => h
  | f :: y, z, t, hs, h => by
    have h1 := Sits.in_to (y := y) (t := f.fill t) (fun g hg => hs g (by simp [hg])) h
    exact h1.down (s := f.s) (o := 1 - f.s) (by have := hs f (by simp); omega)
theorem hole_sides : ∀ {y : List Fr} {q : Nat}, Hole G y q → ∀ f, f ∈ y → f.s < 2
  | [], _, _, f, hf => absurd hf (by simp)
  | g :: y, q, ⟨h0, _, _, _, _, _, _, _, _, h9⟩, f, hf => by
    rcases List.mem_cons.1 hf with rfl | hf
    · exact h0
    · exact hole_sides h9 f hf
/-- The entry of a node on the way is another one. -/
theorem Sits.entry_at {y z : List Fr} {s o p : Nat} {c : Bool} {e e' : En} {sib t : T} (hs : s + o = 1) (h : Sits G (y ++ ⟨s, p, c, e, sib⟩ :: z) t) : Sits (G.setEn p e') (y ++ ⟨s, p, c, e', sib⟩ :: z) t := by
  have hsd := hole_sides h.hole
  have h1 := (h.out_to).up_
  have h2 : Sits (G.setEn p e') z (T.mk s p c e' (plug y t) sib) := Sits.entry hs h1
  exact Sits.in_to (fun f hf => hsd f (by simp [hf])) (h2.down hs)
end
theorem good_en : ∀ {y z : List Fr} {s p m : Nat} {c : Bool} {e e' : En} {sib : T}, Good (y ++ ⟨s, p, c, e, sib⟩ :: z) m → Good (y ++ ⟨s, p, c, e', sib⟩ :: z) m ∧ pr (y ++ ⟨s, p, c, e', sib⟩ :: z) = pr (y ++ ⟨s, p, c, e, sib⟩ :: z)
  | [], _, _, _, _, _, _, _, _, h => ⟨h, rfl⟩
  | f :: y, z, s, p, m, c, e, e', sib, ⟨h1, h2, h3⟩ => by
    obtain ⟨k1, k2⟩ := good_en (y := y) (e' := e') h3
    exact ⟨⟨fun hc => k2.trans (h1 hc), h2, k1⟩, rfl⟩
theorem occ_en : ∀ {y z : List Fr} {s p : Nat} {c : Bool} {e e' : En} {sib : T} (x : Nat), occZ (y ++ ⟨s, p, c, e', sib⟩ :: z) x = occZ (y ++ ⟨s, p, c, e, sib⟩ :: z) x
  | [], _, _, _, _, _, _, _, _ => rfl
  | f :: y, z, s, p, c, e, e', sib, x => by
    simp only [List.cons_append, occZ]
    rw [occ_en (y := y)]
theorem occ_mid : ∀ {y z : List Fr} {s p : Nat} {c : Bool} {e : En} {sib : T}, occZ (y ++ ⟨s, p, c, e, sib⟩ :: z) p ≠ 0
  | [], _, _, _, _, _, _ => by simp [occZ]
  | f :: y, z, s, p, c, e, sib => by
    have := occ_mid (y := y) (z := z) (s := s) (p := p) (c := c) (e := e) (sib := sib)
    simp only [List.cons_append, occZ]
    omega
theorem Box.set_cell {w : World} {B i j : Nat} {t : TypeId} {cs : Array Value} (h : Box w B t cs) (hne : i ≠ j) (v : Value) : (w.setCell ⟨B, i, none⟩ v).cell? ⟨B, j, none⟩ = w.cell? ⟨B, j, none⟩ := by
  rw [(h.set i v).cell, Array.getElem?_setIfInBounds_ne hne, h.cell]
theorem lefts_app : ∀ (y z : List Fr), lefts (y ++ z) = lefts z ++ lefts y
  | [], z => by simp [lefts]
  | f :: y, z => by
    simp only [List.cons_append, lefts]
    rw [lefts_app y z]
    simp
theorem rights_app : ∀ (y z : List Fr), rights (y ++ z) = rights y ++ rights z
  | [], z => by simp [rights]
  | f :: y, z => by
    simp only [List.cons_append, rights]
    rw [rights_app y z]
    simp

section
variable {w w' : World} {b B c room n : Nat} {G : Gr} {z : List Fr}
theorem RowG.setKV {w : World} {B c n : Nat} {G : Gr} (h : RowG w B c n G) (hnc : n ≤ c) {p : Nat} (hp : p < n) (e : En) : RowG (((w.setCell ⟨B, p * 7, none⟩ (.int .u64 (e.key.at_ : Int))).setCell ⟨B, p * 7 + 1, none⟩ (.int .u64 (e.key.seq : Int))).setCell ⟨B, p * 7 + 2, none⟩ (.int .i64 e.val)) B c n (G.setEn p e) := by
  obtain ⟨cs, k1, k2, k3⟩ := h
  refine ⟨_, ((k1.set _ _).set _ _).set _ _, by simp [k2], fun q hq i hi => ?_⟩
  by_cases hqp : q = p
  · subst hqp
    rcases (by omega : i = 0 ∨ i = 1 ∨ i = 2 ∨ i = 3 ∨ i = 4 ∨ i = 5 ∨ i = 6) with rfl | rfl | rfl | rfl | rfl | rfl | rfl
    · rw [Array.getElem?_setIfInBounds_ne (by omega), Array.getElem?_setIfInBounds_ne (by omega), Nat.add_zero, Array.getElem?_setIfInBounds_self_of_lt (by rw [k2]; omega)]
      simp [ndC, Gr.setEn]
    · rw [Array.getElem?_setIfInBounds_ne (by omega), Array.getElem?_setIfInBounds_self_of_lt (by simp [k2]; omega)]
      simp [ndC, Gr.setEn]
    · rw [Array.getElem?_setIfInBounds_self_of_lt (by simp [k2]; omega)]
      simp [ndC, Gr.setEn]
    all_goals
      rw [Array.getElem?_setIfInBounds_ne (by omega), Array.getElem?_setIfInBounds_ne (by omega), Array.getElem?_setIfInBounds_ne (by omega), k3 q hq _ (by omega)]
      rfl
  · rw [Array.getElem?_setIfInBounds_ne (by omega), Array.getElem?_setIfInBounds_ne (by omega), Array.getElem?_setIfInBounds_ne (by omega), k3 q hq i hi]
    simp [ndC, Gr.setEn, hqp]
theorem RawT.setKV (h : RawT w b B c room n G) {p : Nat} (hp : p < n) (e : En) : RawT (((w.setCell ⟨B, p * 7, none⟩ (.int .u64 (e.key.at_ : Int))).setCell ⟨B, p * 7 + 1, none⟩ (.int .u64 (e.key.seq : Int))).setCell ⟨B, p * 7 + 2, none⟩ (.int .i64 e.val)) b B c room n (G.setEn p e) :=
  ⟨((h.box.other (Ne.symm h.ne) _).other (Ne.symm h.ne) _).other (Ne.symm h.ne) _, h.row.setKV h.nc hp e, ⟨h.inn.up, h.inn.dn⟩, h.n1, h.n2, h.nc, h.c2, h.rm⟩
/-- A node with nothing at one side, whose place will be free. -/
structure UnSt (w wx : World) (b B c room n : Nat) (L : List En) (O : Nat → Nat) (G : Gr) (z : List Fr) (s x m : Nat) (cx : Bool) (ex : En) (v : T) : Prop where
  lie : LieT wx b B c room n G z (T.mk s x cx ex .leaf v)
  s2 : s < 2
  good : Good z m
  bal : (T.mk s x cx ex .leaf v).Bal (pr z) m
  toL : lefts z ++ v.toL ++ rights z = L
  occ : ∀ i, occZ z i + (T.mk s x cx ex .leaf v).occ i = O i
  turned : Turned (Own2 b B) w wx
/-- What unhang leaves. -/
def UnEnd (w : World) (b B c room n : Nat) (L : List En) (O : Nat → Nat) (e' : Ending) (w' : World) : Prop :=
  ∃ gap : Nat, e' = .returned (.int .i64 (gap : Int)) ∧ gap ≠ 0 ∧ gap < n ∧ (∃ G' t', LieT w' b B c room n G' [] t' ∧ (∃ m, t'.Bal true m) ∧ t'.toL = L ∧ ∀ i, t'.occ i + (if i = gap then 1 else 0) = O i) ∧ Turned (Own2 b B) w w'
set_option maxRecDepth 4000 in
set_option maxHeartbeats 1600000 in
theorem lie_unhang {p m : Nat} {cc : Bool} {l r : T} {e : En} (h : LieT w b B c room n G z (.node p cc l e r)) (hb : (plug z (.node p cc l e r)).Bal true m) :
    Calls Try.prog 77 #[.pointer (some ⟨b, 0, none⟩), .int .i64 (p : Int)] w (UnEnd w b B c room n (lefts z ++ (l.toL ++ r.toL) ++ rights z) (plug z (.node p cc l e r)).occ) := by
  obtain ⟨L, HL⟩ : ∃ L, Hid (lefts z ++ (l.toL ++ r.toL) ++ rights z = L) := ⟨_, Lib.hid rfl⟩
  obtain ⟨O, HO⟩ : ∃ O, Hid ((plug z (.node p cc l e r)).occ = O) := ⟨_, Lib.hid rfl⟩
  rw [HL.out, HO.out]
  have HLi := Lib.hid h
  have HBa := Lib.hid hb
  obtain ⟨p0, pn, _, _, _, _, pd, pd1, _⟩ := LieT.node (s := 0) (o := 1) h rfl
  obtain ⟨c0, c1, c2⟩ := h.raw.cells
  have d5 := h.raw.c_dn0 pn
  have d6 := h.raw.c_dn1 pn
  rw [pd] at d5
  rw [pd1] at d6
  have n2 := h.raw.n2
  have hz1 : (p : Int) < (n : Int) := by omega
  have hlp : l ≠ .leaf → l.pl ≠ 0 := by
    intro hl h0
    have h1 := (LieT.down (s := 0) (o := 1) h rfl).sits.t_off (T.occ_pl hl)
    exact h1.1 h0
  have hrp : r ≠ .leaf → r.pl ≠ 0 := by
    intro hl h0
    have h1 := (LieT.down2 (s := 0) (o := 1) h rfl).sits.t_off (T.occ_pl hl)
    exact h1.1 h0
  clear h hb pd pd1
  go_enter Try.func77, Try.ntmps77
  go_upto_region 2 with fail
  go_cut [28] (fun v28 wx => ∃ bb : Bool, v28 = .bool bb ∧ w = wx ∧ Hid (bb = true → l ≠ .leaf ∧ r ≠ .leaf) ∧ Hid (bb = false → l = .leaf ∨ r = .leaf))
  case first =>
    by_cases hl : l = .leaf
    · have d5' : w.cell? ⟨B, p * 7 + 5, none⟩ = some (.int .i64 0) := by
        rw [d5, hl]
        rfl
      have HE : Hid (l = .leaf ∨ r = .leaf) := Lib.hid (.inl hl)
      clear d5 hl HLi HBa hlp hrp HL HO
      go_wp2_with fail
      go_meet
      exact ⟨false, rfl, rfl, Lib.hid (fun k => (by cases k)), Lib.hid fun _ => HE.out⟩
    · have h5 : ((l.pl : Int) != 0) = true := by
        rw [bne_iff_ne]
        have := hlp hl
        omega
      by_cases hr : r = .leaf
      · have d6' : w.cell? ⟨B, p * 7 + 6, none⟩ = some (.int .i64 0) := by
          rw [d6, hr]
          rfl
        have HE : Hid (l = .leaf ∨ r = .leaf) := Lib.hid (.inr hr)
        clear d6 hl hr HLi HBa hlp hrp HL HO
        go_wp2_with fail
        go_meet
        exact ⟨false, rfl, rfl, Lib.hid (fun k => (by cases k)), Lib.hid fun _ => HE.out⟩
      · have h6 : ((r.pl : Int) != 0) = true := by
          rw [bne_iff_ne]
          have := hrp hr
          omega
        have HE : Hid (l ≠ .leaf ∧ r ≠ .leaf) := Lib.hid ⟨hl, hr⟩
        clear hl hr HLi HBa hlp hrp HL HO
        go_wp2_with fail
        go_meet
        exact ⟨true, rfl, rfl, Lib.hid fun _ => HE.out, Lib.hid (fun k => (by cases k))⟩
  case rest =>
    obtain ⟨bb, rfl, rfl, HB1, HB2⟩ := hcut
    go_upto_if 28 with fail
    go_cut [1, 5] (fun v1 v5 wx => ∃ (G' : Gr) (z' : List Fr) (s x m' : Nat) (cx : Bool) (ex : En) (v : T), v1 = .int .i64 (x : Int) ∧ v5 = .pointer (some ⟨B, x * 7, none⟩) ∧ Hid (UnSt w wx b B c room n L O G' z' s x m' cx ex v))
    case first =>
      cases bb with
      | false =>
        have HU : Hid (∃ (s m' : Nat) (v : T), UnSt w w b B c room n L O G z s p m' cc e v) := by
          obtain ⟨m', g1, g2⟩ := good_of HBa.out
          have hl := HLi.out
          rcases HB2.out rfl with h0 | h0
          · subst h0
            refine Lib.hid ⟨0, m', r, hl, by omega, g1, g2, ?_, fun i => ?_, Turned.refl _ _⟩
            · rw [← HL.out]
              simp [T.toL, T.rb, RB.toL]
            · rw [← HO.out, plug_occ]
              rfl
          · subst h0
            have hsw : T.node p cc l e .leaf = T.mk 1 p cc e .leaf l := rfl
            rw [hsw] at hl g2
            refine Lib.hid ⟨1, m', l, hl, by omega, g1, g2, ?_, fun i => ?_, Turned.refl _ _⟩
            · rw [← HL.out]
              simp [T.toL, T.rb, RB.toL]
            · rw [← HO.out, plug_occ]
              rfl
        clear HB1 HB2 HLi HBa HL HO hlp hrp
        go_wp2_with fail
        go_meet
        obtain ⟨s, m', v, H⟩ := HU.out
        exact ⟨_, _, _, _, _, _, _, _, rfl, rfl, Lib.hid H⟩
      | true =>
        obtain ⟨hl, hr⟩ := HB1.out rfl
        have HLe := Lib.hid (raw_least (LieT.down2 (s := 0) (o := 1) HLi.out rfl : LieT w b B c room n G (⟨1, p, cc, e, l⟩ :: z) r))
        go_wp2_with fail
        refine HLe.out.mono ?_
        rintro e' w1 ⟨hA, b1⟩
        rcases hA with ⟨hA, _⟩ | ⟨y, q, cq, eq, r', rfl, hy, hy2, l1⟩
        · exact absurd hA hr
        have HU : Hid (∀ w2, RawT w2 b B c room n (G.setEn p eq) → Turned (Own2 b B) w w2 → ∃ (m' : Nat), UnSt w w2 b B c room n L O (G.setEn p eq) (y ++ ⟨1, p, cc, eq, l⟩ :: z) 0 q m' cq eq r') := by
          have hbl := HBa.out
          have e1 : plug z (.node p cc l e r) = plug (y ++ ⟨1, p, cc, e, l⟩ :: z) (.node q cq .leaf eq r') := by
            have : ∀ (y z : List Fr) (t : T), plug (y ++ z) t = plug z (plug y t) := by
              intro y
              induction y with
              | nil => intro z t; rfl
              | cons f y ih => intro z t; exact ih z (f.fill t)
            rw [this, hy]
            rfl
          rw [e1] at hbl
          obtain ⟨m', g1, g2⟩ := good_of hbl
          obtain ⟨k1, k2⟩ := good_en (e' := eq) g1
          refine Lib.hid fun w2 r2 t2 => ⟨m', ⟨r2, l1.sits.entry_at (o := 0) rfl, fun i hi => l1.lt i ?_⟩, by omega, k1, ?_, ?_, fun i => ?_, t2⟩
          · rw [occ_en (e := e)] at hi
            exact hi
          · rw [k2]
            exact g2
          · rw [← HL.out, lefts_app, rights_app, hy2, ← hy, plug_lr, hy2]
            simp [lefts, rights, T.toL, T.rb, RB.toL]
          · rw [← HO.out, e1, plug_occ, occ_en (e := e)]
            rfl
        obtain ⟨q0, qn, qk, qv, _⟩ := LieT.node (s := 0) (o := 1) l1 rfl
        have pq : p ≠ q := by
          rintro rfl
          have h1 := l1.sits.once p
          have h2 : occZ (y ++ ⟨1, p, cc, e, l⟩ :: z) p ≠ 0 := occ_mid
          have h3 : (T.node p cq .leaf eq r').occ p ≠ 0 := by simp [T.occ]
          omega
        obtain ⟨g0, g1, g2⟩ := l1.raw.cells
        obtain ⟨i0, i1⟩ := l1.raw.c_key qn
        rw [qk] at i0 i1
        have i2 := l1.raw.c_val qn
        rw [qv] at i2
        obtain ⟨j0, j1⟩ := l1.raw.c_key pn
        have j2 := l1.raw.c_val pn
        have f0 := l1.raw.row.frozen (p * 7)
        have f1 := l1.raw.row.frozen (p * 7 + 1)
        have f2 := l1.raw.row.frozen (p * 7 + 2)
        have HR := Lib.hid (l1.raw.setKV pn eq)
        have K2 : Hid ((((w1.setCell ⟨B, p * 7, none⟩ (.int .u64 (eq.key.at_ : Int))).setCell ⟨B, p * 7 + 1, none⟩ (.int .u64 (eq.key.seq : Int))).setCell ⟨B, p * 7 + 2, none⟩ (.int .i64 eq.val)).cell? ⟨b, 2, none⟩ = some (.slice (some ⟨B, 0, none⟩) n c) ∧ (((w1.setCell ⟨B, p * 7, none⟩ (.int .u64 (eq.key.at_ : Int))).setCell ⟨B, p * 7 + 1, none⟩ (.int .u64 (eq.key.seq : Int))).setCell ⟨B, p * 7 + 2, none⟩ (.int .i64 eq.val)).cell? ⟨B, q * 7, none⟩ = some (.int .u64 (eq.key.at_ : Int)) ∧ (((w1.setCell ⟨B, p * 7, none⟩ (.int .u64 (eq.key.at_ : Int))).setCell ⟨B, p * 7 + 1, none⟩ (.int .u64 (eq.key.seq : Int))).setCell ⟨B, p * 7 + 2, none⟩ (.int .i64 eq.val)).cell? ⟨B, q * 7 + 1, none⟩ = some (.int .u64 (eq.key.seq : Int)) ∧ (((w1.setCell ⟨B, p * 7, none⟩ (.int .u64 (eq.key.at_ : Int))).setCell ⟨B, p * 7 + 1, none⟩ (.int .u64 (eq.key.seq : Int))).setCell ⟨B, p * 7 + 2, none⟩ (.int .i64 eq.val)).cell? ⟨B, q * 7 + 2, none⟩ = some (.int .i64 eq.val)) := by
          obtain ⟨cs, hb, _⟩ := l1.raw.row
          have h1 := hb.set (p * 7) (.int .u64 (eq.key.at_ : Int))
          have h2 := h1.set (p * 7 + 1) (.int .u64 (eq.key.seq : Int))
          refine Lib.hid ⟨HR.out.cells.2.2, ?_, ?_, ?_⟩
          · rw [h2.set_cell (by omega), h1.set_cell (by omega), hb.set_cell (by omega), i0]
          · rw [h2.set_cell (by omega), h1.set_cell (by omega), hb.set_cell (by omega), i1]
          · rw [h2.set_cell (by omega), h1.set_cell (by omega), hb.set_cell (by omega), i2]
        have K1 : Hid (((w1.setCell ⟨B, p * 7, none⟩ (.int .u64 (eq.key.at_ : Int))).setCell ⟨B, p * 7 + 1, none⟩ (.int .u64 (eq.key.seq : Int))).cell? ⟨b, 2, none⟩ = some (.slice (some ⟨B, 0, none⟩) n c) ∧ ((w1.setCell ⟨B, p * 7, none⟩ (.int .u64 (eq.key.at_ : Int))).setCell ⟨B, p * 7 + 1, none⟩ (.int .u64 (eq.key.seq : Int))).cell? ⟨B, q * 7, none⟩ = some (.int .u64 (eq.key.at_ : Int)) ∧ ((w1.setCell ⟨B, p * 7, none⟩ (.int .u64 (eq.key.at_ : Int))).setCell ⟨B, p * 7 + 1, none⟩ (.int .u64 (eq.key.seq : Int))).cell? ⟨B, q * 7 + 1, none⟩ = some (.int .u64 (eq.key.seq : Int)) ∧ ((w1.setCell ⟨B, p * 7, none⟩ (.int .u64 (eq.key.at_ : Int))).setCell ⟨B, p * 7 + 1, none⟩ (.int .u64 (eq.key.seq : Int))).cell? ⟨B, q * 7 + 2, none⟩ = some (.int .i64 eq.val)) := by
          obtain ⟨cs, hb, _⟩ := l1.raw.row
          have h1 := hb.set (p * 7) (.int .u64 (eq.key.at_ : Int))
          refine Lib.hid ⟨((l1.raw.box.other (Ne.symm l1.raw.ne) _).other (Ne.symm l1.raw.ne) _).cell 2, ?_, ?_, ?_⟩
          · rw [h1.set_cell (by omega), hb.set_cell (by omega), i0]
          · rw [h1.set_cell (by omega), hb.set_cell (by omega), i1]
          · rw [h1.set_cell (by omega), hb.set_cell (by omega), i2]
        have HT := Lib.hid (Turned.below (N := Own2 b B) b1)
        have hz2 : (q : Int) < (n : Int) := by omega
        clear HB1 HB2 HLi HBa HL HO hlp hrp HLe hl hr hy hy2 l1 b1 c0 c1 c2 d5 d6 q0 qk qv
        go_wp2_with fail
        go_region_held3 (fun w' => w'.cell? ⟨b, 2, none⟩ = some (.slice (some ⟨B, 0, none⟩) n c) ∧ w'.cell? ⟨B, q * 7, none⟩ = some (.int .u64 (eq.key.at_ : Int)) ∧ w'.cell? ⟨B, q * 7 + 1, none⟩ = some (.int .u64 (eq.key.seq : Int)) ∧ w'.cell? ⟨B, q * 7 + 2, none⟩ = some (.int .i64 eq.val))
          (first | exact ⟨g2, i0, i1, i2⟩ | exact K1.out | exact K2.out)
          (fail)
        have k2 := K2.out.1
        clear g0 g1 g2 i0 i1 i2 j0 j1 j2 f0 f1 f2 K1 K2
        go_wp2_with fail
        go_meet
        obtain ⟨m', H⟩ := HU.out _ HR.out.drew ((((HT.out.set (.inr rfl) _).set (.inr rfl) _).set (.inr rfl) _).drew)
        exact ⟨_, _, _, _, _, _, _, _, rfl, rfl, Lib.hid H⟩
    case rest =>
      obtain ⟨G1, z1, s, x, m1, cx, ex, v, rfl, rfl, HU⟩ := hcut
      clear HB1 HB2 HLi HBa HL HO hlp hrp c0 c1 c2 d5 d6 p0 pn hz1
      have hs2 := HU.out.s2
      obtain ⟨o, hso⟩ : ∃ o, s + o = 1 := ⟨1 - s, by omega⟩
      have hl := HU.out.lie
      obtain ⟨x0, xn, _, _, xc, xu, xs, xo, xsd⟩ := hl.node hso
      have vn := (hl.down2 hso).pl_lt
      have vr := (hl.down2 hso).red
      obtain ⟨c0, c1, c2⟩ := hl.raw.cells
      have e5 := hl.raw.c_dn0 xn
      have e6 := hl.raw.c_dn1 xn
      have e4 := hl.raw.c_up xn
      rw [xu] at e4
      obtain ⟨vp, HVP⟩ : ∃ vp, Hid (v.pl = vp) := ⟨_, Lib.hid rfl⟩
      rw [HVP.out] at xo vn vr
      obtain ⟨k0, k1, HK⟩ : ∃ k0 k1, Hid (G1.dn x 0 = k0 ∧ G1.dn x 1 = k1 ∧ ((k0 = 0 ∧ k1 = vp) ∨ (k0 ≠ 0 ∧ k0 = vp))) := by
        refine ⟨_, _, Lib.hid ⟨rfl, rfl, ?_⟩⟩
        have h0 : T.leaf.pl = 0 := rfl
        rw [h0] at xs
        rcases (by omega : s = 0 ∨ s = 1) with rfl | rfl
        · obtain rfl : o = 1 := by omega
          exact .inl ⟨xs, xo⟩
        · obtain rfl : o = 0 := by omega
          by_cases hv : vp = 0
          · left
            rw [xo, xs, hv]
            exact ⟨rfl, rfl⟩
          · right
            rw [xo]
            exact ⟨hv, rfl⟩
      rw [HK.out.1] at e5
      rw [HK.out.2.1] at e6
      have HK2 := Lib.hid HK.out.2.2
      have hz1 : (x : Int) < (n : Int) := by omega
      have hz2 : (vp : Int) < (n : Int) := by omega
      have HS : Hid (∀ k, Calls Try.prog 84 #[.pointer (some ⟨b, 0, none⟩), .int .i64 (x : Int)] (wc.drewN k) fun e w' => e = .returned (.int .i64 (side z1 : Int)) ∧ ∃ k', w' = wc.drewN k') :=
        Lib.hid fun k => (raw_sideOf (hl.raw.drewN k) x0 xn).mono fun e w' ⟨e1, k', e2⟩ => ⟨xsd ▸ e1, k + k', by rw [e2, World.drewN_drewN]⟩
      have HHa : Hid (∀ k, Calls Try.prog 73 #[.pointer (some ⟨b, 0, none⟩), .int .i64 (above z1 : Int), .int .i64 (side z1 : Int), .int .i64 (vp : Int)] (wc.drewN k) fun e w' => e = .returned (.tuple #[]) ∧ RawT w' b B c room n (G1.hang (above z1) (side z1) vp) ∧ Turned (Own2 b B) wc w') :=
        Lib.hid fun k => (raw_hang (hl.raw.drewN k) hl.above_lt hl.side_lt vn).mono fun e w' ⟨e1, e2, e3⟩ => ⟨e1, e2, (Turned.below (below_drewN (Below.refl _ _) k)).trans e3⟩
      have HD : Hid (∀ w3, RawT w3 b B c room n (G1.hang (above z1) (side z1) vp) → LieT w3 b B c room n (G1.hang (above z1) (side z1) vp) z1 v) := by
        refine Lib.hid fun w3 r3 => ⟨r3, ?_, fun i hi => hl.lt i ?_⟩
        · rw [← HVP.out]
          exact hl.sits.detach hso
        · rw [T.mk_occ]
          omega
      have HX : Hid (G1.red x = cx) := Lib.hid xc
      have HVR : Hid (G1.red vp = v.isRed) := Lib.hid vr
      clear hl xc xu xs xo xsd vr HK
      go_upto_if 70 with fail
      go_cut [6] (fun v6 wx => v6 = .int .i64 (vp : Int) ∧ wc = wx)
      case first =>
        rcases HK2.out with ⟨h1, h2⟩ | ⟨h1, h2⟩
        · have hq : ((k0 : Int) == 0) = true := by simp [h1]
          have HV := Lib.hid h2
          clear h1 h2 HK2
          go_wp2_with fail
          go_meet
          exact ⟨by rw [HV.out], rfl⟩
        · have hq : ((k0 : Int) == 0) = false := by rw [beq_eq_false_iff_ne]; omega
          have HV := Lib.hid h2
          clear h1 h2 HK2
          go_wp2_with fail
          go_meet
          exact ⟨by rw [HV.out], rfl⟩
      case rest =>
        obtain ⟨rfl, rfl⟩ := hcut
        clear HK2 e5 e6
        go_wp2_with fail
        go_quiet (first | (go_at_call 84; exact HS.out _))
        go_wp2_with fail
        refine (HHa.out _).mono ?_
        rintro e' w3 ⟨rfl, r3, t3⟩
        have l3 := HD.out _ r3
        have ht3 := HU.out.turned.trans t3
        clear HHa HS HD c0 c1 c2 e4
        obtain ⟨c0, c1, c2⟩ := r3.cells
        have i3 := r3.c_red xn
        rw [show (G1.hang (above z1) (side z1) vp).red x = cx from HX.out] at i3
        have i4 := r3.c_red vn
        rw [show (G1.hang (above z1) (side z1) vp).red vp = v.isRed from HVR.out] at i4
        have i5 := r3.row.frozen (vp * 7 + 3)
        have hgo := HU.out.good
        obtain ⟨k1, m2, em, bl, bv⟩ := T.mk_bal.1 HU.out.bal
        have hm2 : m2 = 0 := T.bal_leaf.1 bl
        subst hm2
        have HE : Hid (∀ w4 G4 t4, LieT w4 b B c room n G4 z1 t4 → t4.toL = v.toL → (∀ i, t4.occ i = v.occ i) → t4.Bal (pr z1) m1 → Turned (Own2 b B) w w4 → UnEnd w b B c room n L O (.returned (.int .i64 (x : Int))) w4) := by
          refine Lib.hid fun w4 G4 t4 l4 a4 o4 b4 tt => ⟨x, rfl, x0, xn, ⟨G4, _, l4.out, good_plug hgo b4, ?_, fun i => ?_⟩, tt⟩
          · rw [plug_lr, a4, HU.out.toL]
          · rw [← HU.out.occ, plug_occ, o4, T.mk_occ]
            simp only [T.occ]
            by_cases hi : x = i
            · subst hi
              simp
              omega
            · simp [hi, Ne.symm hi]
        cases cx with
        | true =>
          have HF := Lib.hid (HE.out _ _ _ l3 rfl (fun _ => rfl) (by
            simp at em
            subst em
            exact bv.strong bv.top _) ht3)
          clear HE l3 r3 t3 ht3 hgo k1 em bl bv i4 i5 HU HX HVR
          go_wp2_with fail
          go_ret
          exact HF.out
        | false =>
          simp at em
          subst em
          cases hvr : v.isRed with
          | true =>
            rw [hvr] at i4
            obtain ⟨f, fe, fx, fy, rfl⟩ := T.open_red hvr 0
            obtain rfl : f = vp := by
              rw [← HVP.out, T.mk_pl]
            have HF : Hid (UnEnd w b B c room n L O (.returned (.int .i64 (x : Int))) (w3.setCell ⟨B, f * 7 + 3, none⟩ (.bool false))) := by
              refine Lib.hid (HE.out _ _ _ (lie_paint (o := 1) (d := false) rfl l3 (r3.setRed vn false)) ?_ (fun i => ?_) ?_ (ht3.set (.inr rfl) _))
              · simp only [T.mk_toL]
              · simp only [T.mk_occ]
              · obtain ⟨_, m3, e3, b3, b4⟩ := T.mk_bal.1 bv
                simp at e3
                subst e3
                exact T.mk_bal.2 ⟨fun k => (by cases k), 0, rfl, b3.weak, b4.weak⟩
            clear HE l3 r3 t3 ht3 hgo k1 bl bv HU HX HVR hvr HVP
            go_wp2_with fail
            go_ret
            exact HF.out
          | false =>
            rw [hvr] at i4
            have hbv := bv.strong hvr true
            have HMB := Lib.hid (lie_mendBlack l3 hbv hgo)
            have HF : Hid (∀ w4, TreeEnd w4 b B c room n (plug z1 v) → Turned (Own2 b B) w w4 → UnEnd w b B c room n L O (.returned (.int .i64 (x : Int))) w4) := by
              refine Lib.hid fun w4 ⟨G4, t4, l4, b4, a4, o4⟩ tt => ⟨x, rfl, x0, xn, ⟨G4, t4, l4, b4, ?_, fun i => ?_⟩, tt⟩
              · rw [a4, plug_lr, HU.out.toL]
              · rw [o4, ← HU.out.occ, plug_occ, T.mk_occ]
                simp only [T.occ]
                by_cases hi : x = i
                · subst hi
                  simp
                  omega
                · simp [hi, Ne.symm hi]
            have HT3 := Lib.hid ht3
            clear HE l3 r3 t3 ht3 hgo k1 bl bv hbv HU HX HVR hvr HVP
            go_wp2_with fail
            refine HMB.out.mono ?_
            rintro e' w4 ⟨rfl, E4, T4⟩
            have HFE := Lib.hid (HF.out _ E4 (HT3.out.trans T4))
            clear E4 T4 HMB HF HT3 c0 c1 c2 i3 i4 i5
            go_wp2_with fail
            go_ret
            exact HFE.out
end

end Go.Proofs.Ytkiibobpejoaeaa
