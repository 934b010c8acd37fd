/-
  The program's own tree: before, least and find.
-/
import Derived.Test.YtkiibobpejoaeaaTreeOwnB
namespace Go.Proofs.Ytkiibobpejoaeaa
open Go.RowKit
set_option linter.unusedVariables false

theorem key_neq (a k : Ky) (W : World) : (binOp .neq 68 (.agg #[.int .u64 (a.at_ : Int), .int .u64 (a.seq : Int)]) (.agg #[.int .u64 (k.at_ : Int), .int .u64 (k.seq : Int)])).run Try.prog W = .ok (.bool (decide (a ≠ k))) W := by
  by_cases h0 : a.at_ = k.at_
  · by_cases h1 : a.seq = k.seq
    · have he : a = k := by
        cases a; cases k
        simp only at h0 h1
        rw [h0, h1]
      have : decide (a ≠ k) = false := by simp [he]
      rw [this, he]
      go_simp
    · have he : decide (a ≠ k) = true := by
        rw [decide_eq_true]
        intro e
        exact h1 (by rw [e])
      have h1z : ((a.seq : Int) == (k.seq : Int)) = false := by rw [beq_eq_false_iff_ne]; omega
      rw [he, h0]
      go_simp
  · have he : decide (a ≠ k) = true := by
      rw [decide_eq_true]
      intro e
      exact h0 (by rw [e])
    have h0z : ((a.at_ : Int) == (k.at_ : Int)) = false := by rw [beq_eq_false_iff_ne]; omega
    rw [he]
    go_simp

theorem raw_before (a b : Ky) (w : World) : Calls Try.prog 83 #[kyV a, kyV b] w fun e w' => e = .returned (.bool (decide (a.lt b))) ∧ Below w.heap.size w w' := by
  unfold kyV
  have x1 := (Box.new w 68 #[.int .u64 (a.at_ : Int), .int .u64 (a.seq : Int)]).alloc (.cells #[.int .u64 (b.at_ : Int), .int .u64 (b.seq : Int)] 68)
  have x2 := Box.new (w.alloc (.cells #[.int .u64 (a.at_ : Int), .int .u64 (a.seq : Int)] 68)) 68 #[.int .u64 (b.at_ : Int), .int .u64 (b.seq : Int)]
  rw [World.size_alloc] at x2
  have HB := Lib.hid (((Below.refl _ w).alloc (Nat.le_refl _) (.cells #[.int .u64 (a.at_ : Int), .int .u64 (a.seq : Int)] 68)).alloc (by rw [World.size_alloc]; omega) (.cells #[.int .u64 (b.at_ : Int), .int .u64 (b.seq : Int)] 68))
  obtain ⟨W, HW⟩ : ∃ W, Hid (((w.alloc (.cells #[.int .u64 (a.at_ : Int), .int .u64 (a.seq : Int)] 68)).alloc (.cells #[.int .u64 (b.at_ : Int), .int .u64 (b.seq : Int)] 68)) = W) := ⟨_, Lib.hid rfl⟩
  rw [HW.out] at x1 x2 HB
  have c0 : W.cell? ⟨w.heap.size, 0, none⟩ = some (.int .u64 (a.at_ : Int)) := x1.cell 0
  have c1 : W.cell? ⟨w.heap.size, 1, none⟩ = some (.int .u64 (a.seq : Int)) := x1.cell 1
  have d0 : W.cell? ⟨w.heap.size + 1, 0, none⟩ = some (.int .u64 (b.at_ : Int)) := x2.cell 0
  have d1 : W.cell? ⟨w.heap.size + 1, 1, none⟩ = some (.int .u64 (b.seq : Int)) := x2.cell 1
  clear x1 x2
  by_cases h1 : a.at_ < b.at_
  · have h1z : (a.at_ : Int) < (b.at_ : Int) := by omega
    have HE : Hid (decide (a.lt b) = true) := Lib.hid (decide_eq_true (.inl h1))
    clear h1
    go_enter Try.func83, Try.ntmps83
    go_upto_region 1 with fail
    rw [HW.out]
    go_wp2_with fail
    go_ret
    exact ⟨by rw [HE.out]; rfl, HB.out⟩
  · have h1z : ¬ (a.at_ : Int) < (b.at_ : Int) := by omega
    by_cases h2 : a.at_ = b.at_
    · have h2z : ((a.at_ : Int) == (b.at_ : Int)) = true := by simp [h2]
      by_cases h3 : a.seq < b.seq
      · have h3z : (a.seq : Int) < (b.seq : Int) := by omega
        have HE : Hid (decide (a.lt b) = true) := Lib.hid (decide_eq_true (.inr ⟨h2, h3⟩))
        clear h1 h2 h3
        go_enter Try.func83, Try.ntmps83
        go_upto_region 1 with fail
        rw [HW.out]
        go_wp2_with fail
        go_ret
        exact ⟨by rw [HE.out]; rfl, HB.out⟩
      · have h3z : ¬ (a.seq : Int) < (b.seq : Int) := by omega
        have HE : Hid (decide (a.lt b) = false) := Lib.hid (decide_eq_false (by unfold Ky.lt; omega))
        clear h1 h2 h3
        go_enter Try.func83, Try.ntmps83
        go_upto_region 1 with fail
        rw [HW.out]
        go_wp2_with fail
        go_ret
        exact ⟨by rw [HE.out]; rfl, HB.out⟩
    · have h2z : ((a.at_ : Int) == (b.at_ : Int)) = false := by rw [beq_eq_false_iff_ne]; omega
      have HE : Hid (decide (a.lt b) = false) := Lib.hid (decide_eq_false (by unfold Ky.lt; omega))
      clear h1 h2
      go_enter Try.func83, Try.ntmps83
      go_upto_region 1 with fail
      rw [HW.out]
      go_wp2_with fail
      go_ret
      exact ⟨by rw [HE.out]; rfl, HB.out⟩


section
variable {w w' : World} {b B c room n : Nat} {G : Gr} {z : List Fr} {t : T}
/-- What least answers: the least node below a place. -/
def LeastC (w : World) (b B c room n : Nat) (G : Gr) (z : List Fr) (t : T) (e : Ending) (w' : World) : Prop :=
  ((t = .leaf ∧ e = .returned (.int .i64 0)) ∨ ∃ (y : List Fr) (q : Nat) (cq : Bool) (eq : En) (r : T), e = .returned (.int .i64 (q : Int)) ∧ plug y (.node q cq .leaf eq r) = t ∧ lefts y = [] ∧ LieT w' b B c room n G (y ++ z) (.node q cq .leaf eq r)) ∧ Below w.heap.size w w'
theorem raw_least (h : LieT w b B c room n G z t) :
    Calls Try.prog 87 #[.pointer (some ⟨b, 0, none⟩), .int .i64 (t.pl : Int)] w (LeastC w b B c room n G z t) := by
  have n2 := h.raw.n2
  have HL := Lib.hid h
  obtain ⟨tp, HTP⟩ : ∃ tp, Hid (t.pl = tp) := ⟨_, Lib.hid rfl⟩
  rw [HTP.out]
  clear h
  go_enter Try.func87, Try.ntmps87
  go_wp2_with fail
  go_loopg [5, 1] t.rb.height (fun k v5 v1 wx => ∃ (y : List Fr) (t' : T) (f' p' : Nat), t'.rb.height = k ∧ v5 = .int .i64 (f' : Int) ∧ v1 = .int .i64 (p' : Int) ∧ Hid (f' = above y) ∧ Hid (t'.pl = p') ∧ Hid (plug y t' = t) ∧ Hid (lefts y = []) ∧ Hid (LieT wx b B c room n G (y ++ z) t') ∧ Hid (Below w.heap.size w wx))
  case atStart => exact ⟨[], t, 0, tp, rfl, rfl, rfl, Lib.hid rfl, HTP, Lib.hid rfl, Lib.hid rfl, HL, Lib.hid (Below.refl _ _)⟩
  case round =>
    obtain ⟨y, t', f', p', rfl, rfl, rfl, HF, HP, HG, HO, HL', HB⟩ := hrel
    clear HL HTP
    cases t' with
    | leaf =>
      obtain rfl : p' = 0 := HP.out.symm
      have HE : Hid (LeastC w b B c room n G z t (.returned (.int .i64 (f' : Int))) wr) := by
        refine Lib.hid ⟨?_, HB.out⟩
        cases y with
        | nil =>
          left
          refine ⟨HG.out.symm, ?_⟩
          rw [HF.out]
          rfl
        | cons f y =>
          right
          obtain ⟨fs, fp, fc, fe, fr⟩ := f
          have h0 : fs = 0 := by
            have := HO.out
            simp only [lefts] at this
            by_cases hf : fs = 0
            · exact hf
            · rw [if_neg hf] at this
              simp at this
          subst h0
          refine ⟨y, fp, fc, fe, fr, ?_, HG.out, ?_, HL'.out.up_⟩
          · rw [HF.out]
            rfl
          · have := HO.out
            simp only [lefts] at this
            simpa using this
      clear HF HP HG HO HL' HB
      go_wp2_with fail
      go_ret
      exact HE.out
    | node p cc l e r =>
      obtain rfl : p = p' := HP.out
      have hl := HL'.out
      obtain ⟨p0, pn, _, _, _, _, pd, _⟩ := LieT.node (s := 0) (o := 1) hl rfl
      obtain ⟨c0, c1, c2⟩ := hl.raw.cells
      have d5 := hl.raw.c_dn0 pn
      rw [pd] at d5
      have hz1 : (p : Int) < (n : Int) := by omega
      have hz0 : ((p : Int) != 0) = true := by rw [bne_iff_ne]; omega
      have HN : Hid (∀ k, LieT (wr.drewN k) b B c room n G ((⟨0, p, cc, e, r⟩ :: y) ++ z) l ∧ Below w.heap.size w (wr.drewN k)) := Lib.hid fun k => ⟨(LieT.down (s := 0) (o := 1) hl rfl).below (below_drewN (Below.refl _ _) k), below_drewN HB.out k⟩
      have HO' : Hid (lefts (⟨0, p, cc, e, r⟩ :: y) = []) := by
        refine Lib.hid ?_
        simp only [lefts]
        rw [HO.out]
        rfl
      clear hl pd HL' HB HF HP HO p0
      obtain ⟨lp, HLP⟩ : ∃ lp, Hid (l.pl = lp) := ⟨_, Lib.hid rfl⟩
      rw [HLP.out] at d5
      go_wp2_with fail
      go_quiet (fail)
      go_wp2_with fail
      go_roundg l.rb.height
      case measure => simp only [T.rb, RB.height]; omega
      case rel => exact ⟨⟨0, p, cc, e, r⟩ :: y, l, p, lp, rfl, rfl, rfl, Lib.hid rfl, HLP, HG, HO', Lib.hid (HN.out _).1, Lib.hid (HN.out _).2⟩
/-- What find answers: where a key stands, or would. -/
def FindC (w : World) (b B c room n : Nat) (G : Gr) (t0 : T) (k : Ky) (e : Ending) (w' : World) : Prop :=
  ∃ (z : List Fr) (t : T), e = .returned (.tuple #[.int .i64 (t.pl : Int), .int .i64 (above z : Int), .int .i64 (side z : Int)]) ∧ LieT w' b B c room n G z t ∧ plug z t = t0 ∧ (∀ x, x ∈ lefts z → x.key.lt k) ∧ (∀ x, x ∈ rights z → k.lt x.key) ∧ (t ≠ .leaf → ∃ p cc l e r, t = .node p cc l e r ∧ e.key = k) ∧ Below w.heap.size w w'
/-- On the way to a key. -/
structure FindSt (w wx : World) (b B c room n : Nat) (G : Gr) (t0 : T) (k : Ky) (z : List Fr) (t : T) : Prop where
  lie : LieT wx b B c room n G z t
  plug : plug z t = t0
  left : ∀ x, x ∈ lefts z → x.key.lt k
  right : ∀ x, x ∈ rights z → k.lt x.key
  below : Below w.heap.size w wx
theorem rises_mid {l1 l2 l3 : List En} (h : Rises (l1 ++ l2 ++ l3)) : Rises l2 := (List.pairwise_append.1 (List.pairwise_append.1 h).1).2.1
theorem find_right {wx wy : World} {t0 : T} {k : Ky} {p : Nat} {cc : Bool} {l r : T} {e : En} (h : FindSt w wx b B c room n G t0 k z (.node p cc l e r)) (hr : Rises t0.toL) (hk : e.key.lt k) (bl : Below wx.heap.size wx wy) : FindSt w wy b B c room n G t0 k (⟨1, p, cc, e, l⟩ :: z) r := by
  have h1 := h.lie
  have hm : Rises (l.toL ++ e :: r.toL) := by
    rw [← h.plug, plug_lr] at hr
    exact rises_mid hr
  have h2 : LieT wx b B c room n G (⟨1, p, cc, e, l⟩ :: z) r := LieT.down2 (s := 0) (o := 1) h1 rfl
  refine ⟨h2.below bl, h.plug, fun x hx => ?_, fun x hx => ?_, below_tr h.below bl⟩
  · simp only [lefts] at hx
    rcases List.mem_append.1 hx with hx | hx
    · exact h.left x hx
    · simp at hx
      rcases hx with hx | hx
      · exact Ky.lt_trans ((List.pairwise_append.1 hm).2.2 x hx e (by simp)) hk
      · rw [hx]; exact hk
  · simp only [rights] at hx
    exact h.right x (by simpa using hx)
theorem find_left {wx wy : World} {t0 : T} {k : Ky} {p : Nat} {cc : Bool} {l r : T} {e : En} (h : FindSt w wx b B c room n G t0 k z (.node p cc l e r)) (hr : Rises t0.toL) (hk : k.lt e.key) (bl : Below wx.heap.size wx wy) : FindSt w wy b B c room n G t0 k (⟨0, p, cc, e, r⟩ :: z) l := by
  have h1 := h.lie
  have hm : Rises (l.toL ++ e :: r.toL) := by
    rw [← h.plug, plug_lr] at hr
    exact rises_mid hr
  have h2 : LieT wx b B c room n G (⟨0, p, cc, e, r⟩ :: z) l := LieT.down (s := 0) (o := 1) h1 rfl
  refine ⟨h2.below bl, h.plug, fun x hx => ?_, fun x hx => ?_, below_tr h.below bl⟩
  · simp only [lefts] at hx
    exact h.left x (by simpa using hx)
  · simp only [rights] at hx
    rcases List.mem_append.1 hx with hx | hx
    · simp at hx
      rcases hx with hx | hx
      · rw [hx]; exact hk
      · exact Ky.lt_trans hk ((List.pairwise_cons.1 (List.pairwise_append.1 hm).2.1).1 x hx)
    · exact h.right x hx
theorem raw_find {t0 : T} (h : LieT w b B c room n G [] t0) (hr : Rises t0.toL) (k : Ky) :
    Calls Try.prog 72 #[.pointer (some ⟨b, 0, none⟩), kyV k] w (FindC w b B c room n G t0 k) := by
  unfold kyV
  have n2 := h.raw.n2
  have HR := Lib.hid hr
  obtain ⟨W, HW⟩ : ∃ W, Hid (w.alloc (.cells #[.int .u64 (k.at_ : Int), .int .u64 (k.seq : Int)] 68) = W) := ⟨_, Lib.hid rfl⟩
  have HB : Hid (Below w.heap.size w W) := by
    rw [← HW.out]
    exact Lib.hid ((Below.refl _ _).alloc (Nat.le_refl _) _)
  have HX : Hid (Box W w.heap.size 68 #[.int .u64 (k.at_ : Int), .int .u64 (k.seq : Int)]) := by
    rw [← HW.out]
    exact Lib.hid (Box.new _ _ _)
  have HI : Hid (FindSt w W b B c room n G t0 k [] t0) := Lib.hid ⟨h.below HB.out, rfl, fun x hx => absurd hx (by simp [lefts]), fun x hx => absurd hx (by simp [rights]), HB.out⟩
  have HS : Hid (Calls Try.prog 82 #[.pointer (some ⟨b, 0, none⟩)] W fun e w' => e = .returned (.int .i64 (t0.pl : Int)) ∧ w' = W) := by
    refine Lib.hid ((raw_root (h.raw.below HB.out)).mono fun e w' ⟨e1, e2⟩ => ⟨?_, e2⟩)
    rw [e1, show G.dn 0 0 = t0.pl from h.sits.hole]
  obtain ⟨tp, HTP⟩ : ∃ tp, Hid (t0.pl = tp) := ⟨_, Lib.hid rfl⟩
  rw [HTP.out] at HS
  obtain ⟨H, HH⟩ : ∃ H, Hid (w.heap.size = H) := ⟨_, Lib.hid rfl⟩
  rw [HH.out] at HX
  clear h hr HB
  go_enter Try.func72, Try.ntmps72
  go_upto_region 1 with fail
  rw [HW.out, HH.out]
  go_wp2_with fail
  refine HS.out.mono ?_
  rintro e w1 ⟨rfl, rfl⟩
  clear HS HW
  go_wp2_with fail
  go_loopg [4, 5, 6] t0.rb.height (fun kk v4 v5 v6 wx => ∃ (z : List Fr) (t : T) (p' u' s' : Nat), t.rb.height = kk ∧ v4 = .int .i64 (p' : Int) ∧ v5 = .int .i64 (u' : Int) ∧ v6 = .int .i64 (s' : Int) ∧ Hid (t.pl = p') ∧ Hid (above z = u') ∧ Hid (side z = s') ∧ Hid (FindSt w wx b B c room n G t0 k z t) ∧ Hid (Box wx H 68 #[.int .u64 (k.at_ : Int), .int .u64 (k.seq : Int)]))
  case atStart => exact ⟨[], t0, tp, 0, 0, rfl, rfl, rfl, rfl, HTP, Lib.hid rfl, Lib.hid rfl, HI, HX⟩
  case round =>
    obtain ⟨z, t, p', u', s', rfl, rfl, rfl, rfl, HP, HU, HZ, HI', HX'⟩ := hrel
    clear HI HX HTP
    have x0 := HX'.out.cell 0
    have x1 := HX'.out.cell 1
    have kn := fun a W => key_neq a k W
    cases t with
    | leaf =>
      obtain rfl : p' = 0 := HP.out.symm
      have HE : Hid (∀ kk, FindC w b B c room n G t0 k (.returned (.tuple #[.int .i64 0, .int .i64 (u' : Int), .int .i64 (s' : Int)])) (wr.drewN kk)) := by
        refine Lib.hid fun kk => ⟨z, .leaf, ?_, HI'.out.lie.below (below_drewN (Below.refl _ _) kk), HI'.out.plug, HI'.out.left, HI'.out.right, fun h => absurd rfl h, below_drewN HI'.out.below kk⟩
        rw [HU.out, HZ.out]
        rfl
      clear HP HU HZ HI' HX' x0 x1
      go_wp2_with fail
      go_quiet (fail)
      go_wp2_with fail
      go_ret3
      exact HE.out _
    | node p cc l e r =>
      obtain rfl : p = p' := HP.out
      have hl := HI'.out.lie
      obtain ⟨p0, pn, pk, _, _, _, pd, pd1, _⟩ := LieT.node (s := 0) (o := 1) hl rfl
      obtain ⟨c0, c1, c2⟩ := hl.raw.cells
      obtain ⟨d0, d1⟩ := hl.raw.c_key pn
      rw [pk] at d0 d1
      have d5 := hl.raw.c_dn0 pn
      have d6 := hl.raw.c_dn1 pn
      rw [pd] at d5
      rw [pd1] at d6
      have hz1 : (p : Int) < (n : Int) := by omega
      have hz0 : ((p : Int) != 0) = true := by rw [bne_iff_ne]; omega
      rcases Ky.cases e.key k with hlt | heq | hgt
      · have hd : decide (e.key ≠ k) = true := by
          rw [decide_eq_true]
          intro he
          rw [he] at hlt
          exact Ky.lt_irrefl k hlt
        have HBf : Hid (∀ W, Calls Try.prog 83 #[.agg #[.int .u64 (e.key.at_ : Int), .int .u64 (e.key.seq : Int)], .agg #[.int .u64 (k.at_ : Int), .int .u64 (k.seq : Int)]] W fun e' w' => e' = .returned (.bool true) ∧ Below W.heap.size W w') := by
          refine Lib.hid fun W => ?_
          have := raw_before e.key k W
          rw [decide_eq_true hlt] at this
          exact this
        have HN : Hid (∀ wy, Below wr.heap.size wr wy → FindSt w wy b B c room n G t0 k (⟨1, p, cc, e, l⟩ :: z) r ∧ Box wy H 68 #[.int .u64 (k.at_ : Int), .int .u64 (k.seq : Int)] ∧ wy.cell? ⟨b, 2, none⟩ = some (.slice (some ⟨B, 0, none⟩) n c) ∧ wy.cell? ⟨B, p * 7 + 6, none⟩ = some (.int .i64 (r.pl : Int))) := by
          refine Lib.hid fun wy bl => ⟨find_right HI'.out HR.out hlt bl, HX'.out.below bl HX'.out.lt, (hl.raw.below bl).cells.2.2, ?_⟩
          have := (hl.raw.below bl).c_dn1 pn
          rwa [pd1] at this
        have HC : Hid (∀ wy, Below wr.heap.size wr wy → wy.cell? ⟨b, 2, none⟩ = some (.slice (some ⟨B, 0, none⟩) n c) ∧ wy.cell? ⟨B, p * 7, none⟩ = some (.int .u64 (e.key.at_ : Int)) ∧ wy.cell? ⟨B, p * 7 + 1, none⟩ = some (.int .u64 (e.key.seq : Int)) ∧ wy.cell? ⟨H, 0, none⟩ = some (.int .u64 (k.at_ : Int)) ∧ wy.cell? ⟨H, 1, none⟩ = some (.int .u64 (k.seq : Int))) :=
          Lib.hid fun wy bl => ⟨(hl.raw.below bl).cells.2.2, pk ▸ ((hl.raw.below bl).c_key pn).1, pk ▸ ((hl.raw.below bl).c_key pn).2, (HX'.out.below bl HX'.out.lt).cell 0, (HX'.out.below bl HX'.out.lt).cell 1⟩
        obtain ⟨kp, HKP⟩ : ∃ kp, Hid (r.pl = kp) := ⟨_, Lib.hid rfl⟩
        rw [HKP.out] at HN
        clear hl pk pd pd1 HI' HX' HU HZ HP hlt d5 d6
        go_wp2_with fail
        go_quiet (fail)
        go_upto_region 5 with fail
        go_region_held3 (fun wy => wy.cell? ⟨b, 2, none⟩ = some (.slice (some ⟨B, 0, none⟩) n c) ∧ wy.cell? ⟨B, p * 7, none⟩ = some (.int .u64 (e.key.at_ : Int)) ∧ wy.cell? ⟨B, p * 7 + 1, none⟩ = some (.int .u64 (e.key.seq : Int)) ∧ wy.cell? ⟨H, 0, none⟩ = some (.int .u64 (k.at_ : Int)) ∧ wy.cell? ⟨H, 1, none⟩ = some (.int .u64 (k.seq : Int)))
          (first | exact HC.out _ (below_drewN (Below.refl _ wr) _).drew | exact HC.out _ b7)
          (first | (go_at_call 83; refine (HBf.out _).mono ?_; rintro e' w6 ⟨rfl, b6⟩; have b7 := below_tr (below_drewN (Below.refl _ wr) _).drew b6))
        obtain ⟨n1, n2', n3, n4⟩ := HN.out w6 b7
        have HN1 := Lib.hid n1
        have HN2 := Lib.hid n2'
        clear n1 n2' b6 b7 HN HBf HC c0 c1 c2 d0 d1 x0 x1 kn hd
        go_wp2_with fail
        go_roundg r.rb.height
        case measure => simp only [T.rb, RB.height]; omega
        case rel => exact ⟨⟨1, p, cc, e, l⟩ :: z, r, kp, p, 1, rfl, rfl, rfl, rfl, HKP, Lib.hid rfl, Lib.hid rfl, HN1, HN2⟩
      · have hd : decide (e.key ≠ k) = false := by simp [heq]
        have HE : Hid (∀ kk, FindC w b B c room n G t0 k (.returned (.tuple #[.int .i64 (p : Int), .int .i64 (u' : Int), .int .i64 (s' : Int)])) (wr.drewN kk)) := by
          refine Lib.hid fun kk => ⟨z, _, ?_, HI'.out.lie.below (below_drewN (Below.refl _ _) kk), HI'.out.plug, HI'.out.left, HI'.out.right, fun _ => ⟨p, cc, l, e, r, rfl, heq⟩, below_drewN HI'.out.below kk⟩
          rw [HU.out, HZ.out]
          rfl
        clear hl pk pd pd1 HI' HX' HU HZ HP heq d5 d6
        go_wp2_with fail
        go_quiet (fail)
        go_wp2_with fail
        go_ret3
        exact HE.out _
      · have hd : decide (e.key ≠ k) = true := by
          rw [decide_eq_true]
          intro he
          rw [he] at hgt
          exact Ky.lt_irrefl k hgt
        have HBf : Hid (∀ W, Calls Try.prog 83 #[.agg #[.int .u64 (e.key.at_ : Int), .int .u64 (e.key.seq : Int)], .agg #[.int .u64 (k.at_ : Int), .int .u64 (k.seq : Int)]] W fun e' w' => e' = .returned (.bool false) ∧ Below W.heap.size W w') := by
          refine Lib.hid fun W => ?_
          have := raw_before e.key k W
          rw [decide_eq_false (Ky.lt_asymm hgt)] at this
          exact this
        have HN : Hid (∀ wy, Below wr.heap.size wr wy → FindSt w wy b B c room n G t0 k (⟨0, p, cc, e, r⟩ :: z) l ∧ Box wy H 68 #[.int .u64 (k.at_ : Int), .int .u64 (k.seq : Int)] ∧ wy.cell? ⟨b, 2, none⟩ = some (.slice (some ⟨B, 0, none⟩) n c) ∧ wy.cell? ⟨B, p * 7 + 5, none⟩ = some (.int .i64 (l.pl : Int))) := by
          refine Lib.hid fun wy bl => ⟨find_left HI'.out HR.out hgt bl, HX'.out.below bl HX'.out.lt, (hl.raw.below bl).cells.2.2, ?_⟩
          have := (hl.raw.below bl).c_dn0 pn
          rwa [pd] at this
        have HC : Hid (∀ wy, Below wr.heap.size wr wy → wy.cell? ⟨b, 2, none⟩ = some (.slice (some ⟨B, 0, none⟩) n c) ∧ wy.cell? ⟨B, p * 7, none⟩ = some (.int .u64 (e.key.at_ : Int)) ∧ wy.cell? ⟨B, p * 7 + 1, none⟩ = some (.int .u64 (e.key.seq : Int)) ∧ wy.cell? ⟨H, 0, none⟩ = some (.int .u64 (k.at_ : Int)) ∧ wy.cell? ⟨H, 1, none⟩ = some (.int .u64 (k.seq : Int))) :=
          Lib.hid fun wy bl => ⟨(hl.raw.below bl).cells.2.2, pk ▸ ((hl.raw.below bl).c_key pn).1, pk ▸ ((hl.raw.below bl).c_key pn).2, (HX'.out.below bl HX'.out.lt).cell 0, (HX'.out.below bl HX'.out.lt).cell 1⟩
        obtain ⟨kp, HKP⟩ : ∃ kp, Hid (l.pl = kp) := ⟨_, Lib.hid rfl⟩
        rw [HKP.out] at HN
        clear hl pk pd pd1 HI' HX' HU HZ HP hgt d5 d6
        go_wp2_with fail
        go_quiet (fail)
        go_upto_region 5 with fail
        go_region_held3 (fun wy => wy.cell? ⟨b, 2, none⟩ = some (.slice (some ⟨B, 0, none⟩) n c) ∧ wy.cell? ⟨B, p * 7, none⟩ = some (.int .u64 (e.key.at_ : Int)) ∧ wy.cell? ⟨B, p * 7 + 1, none⟩ = some (.int .u64 (e.key.seq : Int)) ∧ wy.cell? ⟨H, 0, none⟩ = some (.int .u64 (k.at_ : Int)) ∧ wy.cell? ⟨H, 1, none⟩ = some (.int .u64 (k.seq : Int)))
          (first | exact HC.out _ (below_drewN (Below.refl _ wr) _).drew | exact HC.out _ b7)
          (first | (go_at_call 83; refine (HBf.out _).mono ?_; rintro e' w6 ⟨rfl, b6⟩; have b7 := below_tr (below_drewN (Below.refl _ wr) _).drew b6))
        obtain ⟨n1, n2', n3, n4⟩ := HN.out w6 b7
        have HN1 := Lib.hid n1
        have HN2 := Lib.hid n2'
        clear n1 n2' b6 b7 HN HBf HC c0 c1 c2 d0 d1 x0 x1 kn hd
        go_wp2_with fail
        go_roundg l.rb.height
        case measure => simp only [T.rb, RB.height]; omega
        case rel => exact ⟨⟨0, p, cc, e, r⟩ :: z, l, kp, p, 0, rfl, rfl, rfl, rfl, HKP, Lib.hid rfl, Lib.hid rfl, HN1, HN2⟩
end

end Go.Proofs.Ytkiibobpejoaeaa
