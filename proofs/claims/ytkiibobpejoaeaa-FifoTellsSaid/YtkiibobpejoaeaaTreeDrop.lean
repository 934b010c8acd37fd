/-
  The program's own tree: Drop and Get.
-/
import Derived.Test.YtkiibobpejoaeaaTreeOwnH
namespace Go.Proofs.Ytkiibobpejoaeaa
open Go.RowKit
set_option linter.unusedVariables false

theorem del_mid {k : Ky} {x : En} {A C : List En} (h : Rises (A ++ x :: C)) (hk : x.key = k) : delL k (A ++ x :: C) = A ++ C := by
  have h1 := List.pairwise_append.1 h
  have hA : ∀ y, y ∈ A → y.key ≠ k := fun y hy e => by
    have := h1.2.2 y hy x (by simp)
    rw [e, hk] at this
    exact Ky.lt_irrefl k this
  have hC : ∀ y, y ∈ C → y.key ≠ k := fun y hy e => by
    have := (List.pairwise_cons.1 h1.2.1).1 y hy
    rw [e, hk] at this
    exact Ky.lt_irrefl k this
  unfold delL
  rw [List.filter_append, List.filter_cons, if_neg (by simp [hk]), List.filter_eq_self.2 (fun y hy => by simpa using hA y hy), List.filter_eq_self.2 (fun y hy => by simpa using hC y hy)]
theorem del_none {k : Ky} {l : List En} (h : getL k l = none) : delL k l = l := List.filter_eq_self.2 fun y hy => by simpa using getL_none h y hy
/-- A node left, all is mended: what lies there now. -/
theorem drop_done {w w' : World} {b B c m : Nat} {G' : Gr} {t' t'' : T} {g : Tg} {k : Ky} (ok : g.Ok) (hg : (getL k g.l).isSome = true)
    (sz : g.l.length + 1 = m + 1) (e1 : t'.toL = delL k g.l) (hb : ∃ m, t'.Bal true m) (hlen : (delL k g.l).length + 1 = g.l.length) (l : LieT w' b B c g.room m G' [] t'') (e2 : t''.rb = t'.rb) (fl : Full m t'') (t : Turned (Own2 b B) w w') : TurnT AtT (Own2 b B) w ⟨b, 0, none⟩ g.room (delL k g.l) w' := by
  have e3 : t''.toL = delL k g.l := by
    rw [← e1]
    show t''.rb.toL = t'.rb.toL
    rw [e2]
  refine ⟨⟨g.room, t''.rb⟩, rfl, e3, ⟨?_, ?_, fun x hx => ?_, ?_, ok.one, ok.small⟩, Own2 b B, ⟨b, B, c, m, G', t'', rfl, rfl, l, rfl, fl, ?_⟩, t, fun j hj => .inl hj⟩
  · show Rises t''.toL
    rw [e3]
    exact ok.rises.del
  · show ∃ n, t''.rb.Bal true n
    rw [e2]
    exact hb
  · have hx' : x ∈ t''.toL := hx
    rw [e3] at hx'
    exact ok.fits x (List.mem_filter.1 hx').1
  · show t''.toL.length ≤ g.room
    rw [e3]
    have := ok.room
    omega
  · rw [e3]
    omega

theorem tree_drop {N : Nat → Prop} {w : World} {a : Addr} {g : Tg} (k : Ky) (h : AtT N w a g) (ok : g.Ok) :
    Calls Try.prog 55 #[.pointer (some a), kyV k] w fun e w' => e = .returned (outI (getL k g.l)) ∧ TurnT AtT N w a g.room (delL k g.l) w' := by
  have HS : Hid (∀ w', Below w.heap.size w w' → TurnT AtT N w a g.room g.l w') := Lib.hid fun w' b => at_same h ok b
  obtain ⟨b, B, c, n, G, t0, rfl, rfl, L, e0, fl, sz⟩ := h
  have el : t0.toL = g.l := by
    show t0.rb.toL = _
    rw [e0]
    rfl
  rw [el] at sz
  obtain ⟨W, HW⟩ : ∃ W, Hid (w.alloc (.cells #[.int .u64 (k.at_ : Int), .int .u64 (k.seq : Int)] 68) = W) := ⟨_, Lib.hid rfl⟩
  have HB : Hid (Below w.heap.size w W) := by
    rw [← HW.out]
    exact Lib.hid ((Below.refl _ _).alloc (Nat.le_refl _) _)
  have HX : Hid (Box W w.heap.size 68 #[.int .u64 (k.at_ : Int), .int .u64 (k.seq : Int)]) := by
    rw [← HW.out]
    exact Lib.hid (Box.new _ _ _)
  obtain ⟨H, HH⟩ : ∃ H, Hid (w.heap.size = H) := ⟨_, Lib.hid rfl⟩
  have HM := Lib.hid (raw_made (L.raw.below HB.out))
  have HF := Lib.hid (raw_find (L.below HB.out) (by rw [el]; exact ok.rises) k)
  unfold kyV at HF
  unfold kyV
  have x0 := HX.out.cell 0
  have x1 := HX.out.cell 1
  rw [HH.out] at x0 x1
  go_enter Try.func55, Try.ntmps55
  go_upto_region 1 with fail
  rw [HW.out, HH.out]
  go_wp2_with fail
  refine HM.out.mono ?_
  rintro e w1 ⟨rfl, rfl⟩
  clear HM HW
  go_wp2_with fail
  refine HF.out.mono ?_
  rintro e w2 ⟨z, t, rfl, l2, pz, lf, rt, fd, b2⟩
  have n2 := L.raw.n2
  have b02 := below_tr HB.out b2
  clear HF x0 x1 HX
  cases t with
  | leaf =>
    have hg0 : getL k g.l = none := by
      have hzl : lefts z ++ rights z = g.l := by
        rw [← el, ← pz, plug_lr]
        simp [T.toL, T.rb, RB.toL]
      rw [← hzl]
      exact get_mid lf rt
    have HE : Hid (getL k g.l = none ∧ delL k g.l = g.l) := Lib.hid ⟨hg0, del_none hg0⟩
    have HB2 := Lib.hid b02
    clear l2 pz lf rt fd b2 b02 hg0 L fl
    simp only [T.pl]
    go_wp2_with fail
    go_ret2
    refine ⟨by rw [HE.out.1]; rfl, ?_⟩
    rw [HE.out.2]
    exact HS.out _ HB2.out
  | node p cc l x r =>
    obtain ⟨p1, cc1, l1, x1, r1, e1, hxk⟩ := fd (by intro h; cases h)
    cases e1
    obtain ⟨p0, pn, _, pv, _⟩ := LieT.node (s := 0) (o := 1) l2 rfl
    have hsp : g.l = (lefts z ++ l.toL) ++ x :: (r.toL ++ rights z) := by
      rw [← el, ← pz, plug_lr]
      simp [T.toL, T.rb, RB.toL]
    have hr' := ok.rises
    rw [hsp] at hr'
    have hdel : delL k g.l = (lefts z ++ l.toL) ++ (r.toL ++ rights z) := by
      rw [hsp]
      exact del_mid hr' hxk
    have hget : getL k g.l = some x.val := by
      have := getL_of ok.rises (e := x) (by rw [hsp]; simp)
      rwa [hxk] at this
    obtain ⟨m, rfl⟩ : ∃ m, n = m + 1 := ⟨n - 1, by omega⟩
    obtain ⟨mb, hmb⟩ := ok.bal
    have hbal : (plug z (.node p cc l x r)).Bal true mb := by
      rw [pz]
      show t0.rb.Bal true mb
      rw [e0]
      exact hmb
    have HU := Lib.hid (lie_unhang l2 hbal)
    have HFi : Hid (∀ w3 e3, UnEnd w2 b B c g.room (m + 1) (lefts z ++ (l.toL ++ r.toL) ++ rights z) (plug z (.node p cc l x r)).occ e3 w3 → ∃ gap : Nat, e3 = .returned (.int .i64 (gap : Int)) ∧ Calls Try.prog 76 #[.pointer (some ⟨b, 0, none⟩), .int .i64 (gap : Int)] w3 fun e w' => e = .returned (.tuple #[]) ∧ TurnT AtT (Own2 b B) w ⟨b, 0, none⟩ g.room (delL k g.l) w') := by
      refine Lib.hid fun w3 e3 hun => ?_
      obtain ⟨gap, rfl, g0, gn, ⟨G', t', l', bal', tl', oc'⟩, t3⟩ := hun
      refine ⟨gap, rfl, (lie_fill l' g0 gn (fun i hi hin => ?_)).mono ?_⟩
      · rw [oc', pz]
        exact fl i hi hin
      · rintro e4 w4 ⟨rfl, ⟨G4, t4, l4, rb4, fl4⟩, t4'⟩
        refine ⟨rfl, drop_done ok (by rw [hget]; rfl) sz (t' := t') ?_ bal' ?_ l4 rb4 fl4 (((Turned.below b02).trans t3).trans t4')⟩
        · rw [tl', hdel]
          simp
        · rw [hdel]
          have := congrArg List.length hsp
          simp at this ⊢
          omega
    have HE : Hid (getL k g.l = some x.val) := Lib.hid hget
    obtain ⟨c0, c1, c2⟩ := l2.raw.cells
    have d2 := l2.raw.c_val pn
    rw [pv] at d2
    have hz0 : ((p : Int) == 0) = false := by rw [beq_eq_false_iff_ne]; omega
    have hz1 : (p : Int) < (m : Int) + 1 := by omega
    clear l2 pz lf rt fd b2 b02 hxk p0 L fl hbal hmb hget hdel hr' hsp pv HS HB HH
    simp only [T.pl]
    go_wp2_with fail
    refine HU.out.mono ?_
    intro e3 w3 hun
    obtain ⟨gap, rfl, hfi⟩ := HFi.out _ _ hun
    have HFC := Lib.hid hfi
    clear hun hfi HFi HU c0 c1 c2 d2
    go_wp2_with fail
    refine HFC.out.mono ?_
    rintro e4 w4 ⟨rfl, T4⟩
    have HT4 := Lib.hid T4
    clear T4 HFC
    go_wp2_with fail
    go_ret2
    refine ⟨by rw [HE.out]; rfl, HT4.out⟩

theorem tree_get {N : Nat → Prop} {w : World} {a : Addr} {g : Tg} (k : Ky) (h : AtT N w a g) (ok : g.Ok) :
    Calls Try.prog 69 #[.pointer (some a), kyV k] w fun e w' => e = .returned (outI (getL k g.l)) ∧ Below w.heap.size w w' := by
  obtain ⟨b, B, c, n, G, t0, rfl, rfl, L, e0, fl, sz⟩ := h
  have el : t0.toL = g.l := by
    show t0.rb.toL = _
    rw [e0]
    rfl
  obtain ⟨W, HW⟩ : ∃ W, Hid (w.alloc (.cells #[.int .u64 (k.at_ : Int), .int .u64 (k.seq : Int)] 68) = W) := ⟨_, Lib.hid rfl⟩
  have HB : Hid (Below w.heap.size w W) := by
    rw [← HW.out]
    exact Lib.hid ((Below.refl _ _).alloc (Nat.le_refl _) _)
  have HX : Hid (Box W w.heap.size 68 #[.int .u64 (k.at_ : Int), .int .u64 (k.seq : Int)]) := by
    rw [← HW.out]
    exact Lib.hid (Box.new _ _ _)
  obtain ⟨H, HH⟩ : ∃ H, Hid (w.heap.size = H) := ⟨_, Lib.hid rfl⟩
  have HM := Lib.hid (raw_made (L.raw.below HB.out))
  have HF := Lib.hid (raw_find (L.below HB.out) (by rw [el]; exact ok.rises) k)
  unfold kyV at HF
  unfold kyV
  have x0 := HX.out.cell 0
  have x1 := HX.out.cell 1
  rw [HH.out] at x0 x1
  go_enter Try.func69, Try.ntmps69
  go_upto_region 1 with fail
  rw [HW.out, HH.out]
  go_wp2_with fail
  refine HM.out.mono ?_
  rintro e w1 ⟨rfl, rfl⟩
  clear HM HW
  go_wp2_with fail
  refine HF.out.mono ?_
  rintro e w2 ⟨z, t, rfl, l2, pz, lf, rt, fd, b2⟩
  have n2 := L.raw.n2
  have HB2 := Lib.hid (below_tr HB.out b2)
  clear HF x0 x1 HX HB HH
  obtain ⟨c0, c1, c2⟩ := l2.raw.cells
  have tn := l2.pl_lt
  have d2 := l2.raw.c_val tn
  have HE : Hid (getL k g.l = if t.pl = 0 then none else some (G.val t.pl)) := by
    refine Lib.hid ?_
    cases t with
    | leaf =>
      have hzl : lefts z ++ rights z = g.l := by
        rw [← el, ← pz, plug_lr]
        simp [T.toL, T.rb, RB.toL]
      show getL k g.l = (if (0 : Nat) = 0 then none else some (G.val 0))
      rw [if_pos rfl, ← hzl]
      exact get_mid lf rt
    | node p cc l x r =>
      obtain ⟨p1, cc1, l1, x1, r1, e1, hxk⟩ := fd (by intro h; cases h)
      cases e1
      obtain ⟨p0, pn, _, pv, _⟩ := LieT.node (s := 0) (o := 1) l2 rfl
      have := getL_of ok.rises (e := x) (by rw [← el, ← pz, plug_lr]; simp [T.toL, T.rb, RB.toL])
      rw [hxk] at this
      show getL k g.l = (if p = 0 then none else some (G.val p))
      rw [if_neg p0, this]
      exact congrArg some pv.symm
  have HV := Lib.hid l2.sits.val0
  clear l2 pz lf rt fd b2 L fl
  by_cases hp : t.pl = 0
  · rw [if_pos hp] at HE
    rw [hp, HV.out] at d2
    rw [hp] at tn ⊢
    clear hp
    go_wp2_with fail
    go_ret2
    refine ⟨by rw [HE.out]; rfl, HB2.out⟩
  · rw [if_neg hp] at HE
    generalize t.pl = p at *
    have hz0 : ((p : Int) != 0) = true := by rw [bne_iff_ne]; omega
    have hz1 : (p : Int) < (n : Int) := by omega
    generalize G.val p = vv at *
    clear hp
    go_wp2_with fail
    go_ret2
    refine ⟨by rw [HE.out]; rfl, HB2.out⟩

end Go.Proofs.Ytkiibobpejoaeaa
