/-
  The program's own queue: first, the packet of the least key, of the row or of the tree.
-/
import Derived.Test.YtkiibobpejoaeaaFifoPlace
namespace Go.Proofs.Ytkiibobpejoaeaa
open Go.RowKit
set_option linter.unusedVariables false
set_option maxRecDepth 100000
set_option linter.unusedSimpArgs false

def pkV (e : En) : Value := .agg #[.int .u64 e.val, .int .u64 (e.key.at_ : Int), .int .u64 (e.key.seq : Int)]
def firstV (x : En) (late ok : Bool) : Ending := .returned (.tuple #[pkV x, .bool late, .bool ok])
/-- Which one is the first. -/
inductive IsFirst (l r t : List En) : En → Bool → Bool → Prop where
  | none : l = [] → r = [] → t = [] → IsFirst l r t noEn false false
  | row (x : En) (r' : List En) : r = x :: r' → (∀ b, t.head? = some b → x.key.lt b.key) → IsFirst l r t x false true
  | late (y : En) (t' : List En) : t = y :: t' → (∀ x, r.head? = some x → ¬ x.key.lt y.key) → IsFirst l r t (lateE y) true true
def pks (x : En) : Array Value := #[.int .u64 x.val, .int .u64 (x.key.at_ : Int), .int .u64 (x.key.seq : Int)]
theorem late_wrap {y : En} (h : I64 y.val) : IntKind.u64.wrap y.val = (lateE y).val := by
  unfold lateE I64 at *
  rw [IntKind.wrap_u64]
  simp only
  split <;> omega
theorem put3_box {W : World} {rb : Nat} {c0 c1 c2 : Value} (h : Box W rb 116 #[c0, c1, c2]) (x : En) : Box (((W.setCell ⟨rb, 0, none⟩ (.int .u64 x.val)).setCell ⟨rb, 1, none⟩ (.int .u64 (x.key.at_ : Int))).setCell ⟨rb, 2, none⟩ (.int .u64 (x.key.seq : Int))) rb 116 (pks x) := by
  have h5 := ((h.set 0 (.int .u64 x.val)).set 1 (.int .u64 (x.key.at_ : Int))).set 2 (.int .u64 (x.key.seq : Int))
  exact h5
theorem put3_below {B : Nat} {w W : World} {rb : Nat} (h : Below B w W) (hr : B ≤ rb) (v0 v1 v2 : Value) : Below B w (((W.setCell ⟨rb, 0, none⟩ v0).setCell ⟨rb, 1, none⟩ v1).setCell ⟨rb, 2, none⟩ v2) :=
  ((h.setCell (p := ⟨rb, 0, none⟩) hr _).setCell (p := ⟨rb, 1, none⟩) hr _).setCell (p := ⟨rb, 2, none⟩) hr _
set_option maxHeartbeats 4000000 in
set_option maxRecDepth 100000 in
theorem f_first {w : World} {b gone : Nat} {ta : Addr} {NT : Nat → Prop} {rv : Value} {P r : List En} {tg : Tg} {g : Fg} (h : FLie w b ta NT rv gone P r tg g) (hsz : r.length ≤ 65536) :
    Calls Try.prog 54 #[.pointer (some ⟨b, 0, none⟩)] w fun e w' => ∃ x la ok, e = firstV x la ok ∧ IsFirst g.l r tg.l x la ok ∧ Below w.heap.size w w' := by
  have bl := (Below.refl _ w).alloc (Nat.le_refl _) (.cells #[.int .u64 0, .int .u64 0, .int .u64 0] 116)
  have y1 := Box.new w 116 #[.int .u64 0, .int .u64 0, .int .u64 0]
  have HRb2 := Lib.hid (Nat.le_refl w.heap.size)
  obtain ⟨rb, HRb⟩ : ∃ rb, Hid (w.heap.size = rb) := ⟨_, Lib.hid rfl⟩
  obtain ⟨W1, HW⟩ : ∃ W1, Hid (w.alloc (.cells #[.int .u64 0, .int .u64 0, .int .u64 0] 116) = W1) := ⟨_, Lib.hid rfl⟩
  rw [HW.out] at y1 bl
  rw [HRb.out] at y1
  have HY := Lib.hid y1
  have HB1 := Lib.hid bl
  have HL := Lib.hid (h.below bl)
  have KW := Lib.hid (f_waiting HL.out.box HL.out.row HL.out.drop HL.out.gl)
  have HPt := Lib.hid h.parts
  have htok := h.tok
  clear bl y1 h HRb2
  go_enter Try.func54, Try.ntmps54
  go_upto_region 1 with fail
  rw [HW.out, HRb.out]
  go_upto_region 2 with (go_at_call 57; refine KW.out.mono ?_; rintro e W2 ⟨v, rfl, hR, b2⟩)
  have HB2 := Lib.hid (below_tr HB1.out b2)
  have HY2 := Lib.hid (HY.out.below b2 HY.out.lt)
  have HL2 := Lib.hid (HL.out.below b2)
  have KF := treeK.first HL2.out.tr HL2.out.tok
  obtain ⟨e0, e1, e2, e3⟩ := HL2.out.box.cells
  have HR2 := Lib.hid hR
  obtain ⟨la, HLa⟩ : ∃ la, Hid (tg.l.head?.isSome = la) := ⟨_, Lib.hid rfl⟩
  obtain ⟨y, HYv⟩ : ∃ y, Hid (tg.l.head?.getD noEn = y) := ⟨_, Lib.hid rfl⟩
  unfold outE enV at KF
  rw [HLa.out, HYv.out] at KF
  have KF1 := Lib.hid KF
  have hyv : IntKind.u64.wrap y.val = (lateE y).val := late_wrap (by
    rw [← HYv.out]
    cases hd : tg.l with
    | nil => exact ⟨by show -9223372036854775808 ≤ (0 : Int); decide, by show (0 : Int) ≤ 9223372036854775807; decide⟩
    | cons z t' => exact (htok.fits z (by show z ∈ tg.l; rw [hd]; exact List.mem_cons_self)).2)
  have HPure : Hid (∀ tr : Bool, (r = [] ∧ tr = false ∨ ∃ x r', r = x :: r' ∧ tr = (!la || decide (x.key.lt y.key))) → (tr = true ∧ ∃ x r', r = x :: r' ∧ IsFirst g.l r tg.l x false true) ∨ (tr = false ∧ IsFirst g.l r tg.l (lateE y) la la)) := by
    refine Lib.hid fun tr h => ?_
    have e1 := HLa.out
    have e2 := HYv.out
    rcases h with ⟨hr, rfl⟩ | ⟨x, r', hr, rfl⟩
    · refine .inr ⟨rfl, ?_⟩
      cases hd : tg.l with
      | nil =>
        rw [hd] at e1 e2
        rw [← e1, ← e2]
        exact .none (List.eq_nil_of_length_eq_zero (by rw [HPt.out.len, hr, hd]; rfl)) hr rfl
      | cons z t' =>
        rw [hd] at e1 e2
        rw [← e1, ← e2]
        exact .late z t' rfl (fun x hx => by rw [hr] at hx; cases hx)
    · cases hd : tg.l with
      | nil =>
        rw [hd] at e1 e2
        rw [← e1]
        exact .inl ⟨rfl, x, r', hr, .row x r' hr (fun b hb => by cases hb)⟩
      | cons z t' =>
        rw [hd] at e1 e2
        rw [← e1, ← e2]
        by_cases c : x.key.lt z.key
        · exact .inl ⟨by show (false || decide _) = true; rw [Bool.false_or]; exact decide_eq_true c, x, r', hr, .row x r' hr (fun b hb => by cases hb; exact c)⟩
        · exact .inr ⟨by show (false || decide _) = false; rw [Bool.false_or]; exact decide_eq_false c, .late z t' rfl (fun x' hx => by rw [hr] at hx; cases hx; exact c)⟩
  clear KF b2 hR KW HY HB1 HL htok HLa HYv HPt
  go_upto_region 3 with (go_at_call 75; refine KF1.out.mono ?_; rintro e W3 ⟨rfl, b3⟩)
  have bl4 := (Below.refl _ W3).alloc (Nat.le_refl _) (.cells #[.int .u64 (y.key.at_ : Int), .int .u64 (y.key.seq : Int), .int .i64 y.val] 126)
  have z1 := Box.new W3 126 #[.int .u64 (y.key.at_ : Int), .int .u64 (y.key.seq : Int), .int .i64 y.val]
  have bl5 := below_tr b3 bl4
  obtain ⟨eb, HEb⟩ : ∃ eb, Hid (W3.heap.size = eb) := ⟨_, Lib.hid rfl⟩
  obtain ⟨W4, HW4⟩ : ∃ W4, Hid (W3.alloc (.cells #[.int .u64 (y.key.at_ : Int), .int .u64 (y.key.seq : Int), .int .i64 y.val] 126) = W4) := ⟨_, Lib.hid rfl⟩
  rw [HW4.out] at bl4 z1 bl5
  rw [HEb.out] at z1
  rw [HW4.out, HEb.out]
  have HB4 := Lib.hid (below_tr HB2.out bl5)
  have HY4 := Lib.hid (HY2.out.below bl5 HY2.out.lt)
  have HZ4 := Lib.hid z1
  have hR4 := HR2.out.below bl5
  obtain ⟨p, c, rfl, a1, a2, a3⟩ := hR4
  have HA3 := Lib.hid a3
  have f0 := z1.cell 0
  have f1 := z1.cell 1
  have f2 := z1.cell 2
  clear b3 bl4 bl5 z1 KF1 HB2 HY2 HL2 HR2 e0 e1 e2 e3 a3 HW4 HEb
  go_cut [32] (fun v32 wx => ∃ (V : World) (tr : Bool), V = wx ∧ v32 = .bool tr ∧ Hid (Below W4.heap.size W4 V) ∧ Hid ((tr = true ∧ ∃ x r', r = x :: r' ∧ IsFirst g.l r tg.l x false true) ∨ (tr = false ∧ IsFirst g.l r tg.l (lateE y) la la)))
  case first =>
    cases hr : r with
    | nil =>
      have HQ := Lib.hid (HPure.out false (.inl ⟨hr, rfl⟩))
      have HQ2 : Hid (∀ tr : Bool, tr = false → (tr = true ∧ ∃ x r', [] = x :: r' ∧ IsFirst g.l [] tg.l x false true) ∨ (tr = false ∧ IsFirst g.l [] tg.l (lateE y) la la)) := Lib.hid fun tr e => by subst e; have h := HQ.out; rw [hr] at h; exact h
      clear HPure HQ HA3
      subst hr
      simp only [List.length_nil] at a1 hsz ⊢
      go_quiet (fail)
      go_wp2_with fail
      go_meet
      exact ⟨_, false, rfl, rfl, Lib.hid (below_drewN (Below.refl _ _) _), Lib.hid (HQ2.out false rfl)⟩
    | cons x r' =>
      have HQ := Lib.hid (HPure.out _ (.inr ⟨x, r', hr, rfl⟩))
      obtain ⟨gh, o, rfl, x0, x1, x2⟩ := HA3.out 0 x (by rw [hr]; rfl)
      rw [Nat.zero_mul, Nat.add_zero] at x0 x1 x2
      have hl0 : (0 : Int) < (r.length : Int) := by rw [hr, List.length_cons]; omega
      rw [← hr]
      have hl1 : 0 < r.length := by omega
      clear HPure HA3 hr
      cases la with
      | false =>
        go_quiet (fail)
        go_wp2_with fail
        go_meet
        exact ⟨_, true, rfl, rfl, Lib.hid (below_drewN (Below.refl _ _) _), HQ⟩
      | true =>
        have HF := Lib.hid (fun W => f_before x.key y.key W)
        unfold kyV at HF
        go_still_tail 13, (by kernel_rfl)
        change wpList _ _ _ _ _ W4.drew
        go_wp2_with fail
        refine (HF.out _).mono ?_
        rintro e W5 ⟨rfl, b5⟩
        have HB5 := Lib.hid (below_tr (Below.refl _ W4).drew b5)
        clear b5 HF
        go_wp2_with fail
        go_meet
        exact ⟨_, _, rfl, rfl, HB5, HQ⟩
  case rest =>
  obtain ⟨V, tr, rfl, rfl, HV, HQ⟩ := hcut
  have HBV := Lib.hid (below_tr HB4.out HV.out)
  have HYV := HY4.out.below HV.out HY4.out.lt
  have hZV := HZ4.out.below HV.out HZ4.out.lt
  have f0 := hZV.cell 0
  have f1 := hZV.cell 1
  have f2 := hZV.cell 2
  have r0 := HYV.cell 0
  have r1 := HYV.cell 1
  have r2 := HYV.cell 2
  have fr := HYV.frozen
  have q0 := fr 0
  have q1 := fr 1
  have q2 := fr 2
  have hrb : w.heap.size ≤ rb := by rw [HRb.out]; exact Nat.le_refl _
  clear HPure fr
  rcases HQ.out with ⟨rfl, x, r', hr, HI⟩ | ⟨rfl, HI⟩
  · obtain ⟨gh, o, rfl, x0', x1', x2'⟩ := HA3.out 0 x (by rw [hr]; rfl)
    rw [Nat.zero_mul, Nat.add_zero] at x0' x1' x2'
    have x0 := (HV.out.cell (World.block_lt_of_cell? _ _ x0')).trans x0'
    have x1 := (HV.out.cell (World.block_lt_of_cell? _ _ x1')).trans x1'
    have x2 := (HV.out.cell (World.block_lt_of_cell? _ _ x2')).trans x2'
    have hl0 : (0 : Int) < (r.length : Int) := by rw [hr, List.length_cons]; omega
    have hl1 : 0 < r.length := by omega
    have HE := Lib.hid (put3_below HBV.out hrb (.int .u64 x.val) (.int .u64 (x.key.at_ : Int)) (.int .u64 (x.key.seq : Int)))
    have HF := Lib.hid (put3_box HYV x)
    have HII := Lib.hid HI
    clear HQ HI HA3 x0' x1' x2' HYV hZV HV HB4 HY4 HZ4 HBV hr hrb
    go_wp2_with fail
    change bodyPost _ _ _ _ _ (((V.setCell ⟨rb, 0, none⟩ (.int .u64 x.val)).setCell ⟨rb, 1, none⟩ (.int .u64 (x.key.at_ : Int))).setCell ⟨rb, 2, none⟩ (.int .u64 (x.key.seq : Int)))
    obtain ⟨W5, HW5⟩ : ∃ W5, Hid ((((V.setCell ⟨rb, 0, none⟩ (.int .u64 x.val)).setCell ⟨rb, 1, none⟩ (.int .u64 (x.key.at_ : Int))).setCell ⟨rb, 2, none⟩ (.int .u64 (x.key.seq : Int))) = W5) := ⟨_, Lib.hid rfl⟩
    rw [HW5.out] at HE HF ⊢
    have k0 := HF.out.cell 0
    have k1 := HF.out.cell 1
    have k2 := HF.out.cell 2
    simp only [pks, List.getElem?_toArray, List.getElem?_cons_zero, List.getElem?_cons_succ] at k0 k1 k2
    refine bodyPost_ret (v := .tuple #[pkV x, .bool false, .bool true]) ?_ rfl ⟨x, false, true, rfl, HII.out, HE.out⟩
    simp [results, Try.f54, go_sem, k0, k1, k2, pkV]
  · have HE := Lib.hid (put3_below HBV.out hrb (.int .u64 (lateE y).val) (.int .u64 (y.key.at_ : Int)) (.int .u64 (y.key.seq : Int)))
    have HF := Lib.hid (put3_box HYV (lateE y))
    have HII := Lib.hid HI
    clear HQ HI HA3 HYV hZV HV HB4 HY4 HZ4 HBV hrb
    go_wp2_with fail
    change bodyPost _ _ _ _ _ (((V.setCell ⟨rb, 0, none⟩ (.int .u64 (lateE y).val)).setCell ⟨rb, 1, none⟩ (.int .u64 (y.key.at_ : Int))).setCell ⟨rb, 2, none⟩ (.int .u64 (y.key.seq : Int)))
    obtain ⟨W5, HW5⟩ : ∃ W5, Hid ((((V.setCell ⟨rb, 0, none⟩ (.int .u64 (lateE y).val)).setCell ⟨rb, 1, none⟩ (.int .u64 (y.key.at_ : Int))).setCell ⟨rb, 2, none⟩ (.int .u64 (y.key.seq : Int))) = W5) := ⟨_, Lib.hid rfl⟩
    have HF' : Hid (Box (((V.setCell ⟨rb, 0, none⟩ (.int .u64 (lateE y).val)).setCell ⟨rb, 1, none⟩ (.int .u64 (y.key.at_ : Int))).setCell ⟨rb, 2, none⟩ (.int .u64 (y.key.seq : Int))) rb 116 (pks (lateE y))) := HF
    rw [HW5.out] at HE HF' ⊢
    have k0 := HF'.out.cell 0
    have k1 := HF'.out.cell 1
    have k2 := HF'.out.cell 2
    simp only [pks, List.getElem?_toArray, List.getElem?_cons_zero, List.getElem?_cons_succ] at k0 k1 k2
    refine bodyPost_ret (v := .tuple #[pkV (lateE y), .bool la, .bool la]) ?_ rfl ⟨lateE y, la, la, rfl, HII.out, HE.out⟩
    simp [results, Try.f54, go_sem, k0, k1, k2, pkV]

end Go.Proofs.Ytkiibobpejoaeaa
