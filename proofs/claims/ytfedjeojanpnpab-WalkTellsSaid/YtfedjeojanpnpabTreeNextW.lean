/-
  The program's own tree: Next, New.
-/
import Derived.Test.YtfedjeojanpnpabTreeFirst
namespace Go.Proofs.Ytfedjeojanpnpab
open Go.RowKit
set_option linter.unusedVariables false

section
variable {w w' : World} {b B c room n : Nat} {G : Gr} {z : List Fr} {t : T}
/-- On the way to the least key above another one. -/
structure NextSt (w wx : World) (b B c room n : Nat) (G : Gr) (t0 : T) (k : Ky) (z : List Fr) (t : T) (ab : Nat) (x : En) : Prop where
  lie : LieT wx b B c room n G z t
  plug : plug z t = t0
  left : ∀ x, x ∈ lefts z → ¬ k.lt x.key
  right : ∀ x, x ∈ rights z → k.lt x.key
  abn : ab < n
  key : G.key ab = x.key
  val : G.val ab = x.val
  head : (rights z = [] ∧ ab = 0 ∧ x = noEn) ∨ (∃ r, rights z = x :: r ∧ ab ≠ 0)
  below : Below w.heap.size w wx
theorem next_right {wx wy : World} {t0 : T} {k : Ky} {p ab : Nat} {cc : Bool} {l r : T} {e x : En} (h : NextSt w wx b B c room n G t0 k z (.node p cc l e r) ab x) (hr : Rises t0.toL) (hk : ¬ k.lt e.key) (bl : Below wx.heap.size wx wy) : NextSt w wy b B c room n G t0 k (⟨1, p, cc, e, l⟩ :: z) r ab x := by
  have h1 := h.lie
  have hm : Rises (l.toL ++ e :: r.toL) := by
    rw [← h.plug, plug_lr] at hr
    exact rises_mid hr
  have h2 : LieT wx b B c room n G (⟨1, p, cc, e, l⟩ :: z) r := LieT.down2 (s := 0) (o := 1) h1 rfl
  have e1 : rights (⟨1, p, cc, e, l⟩ :: z) = rights z := by simp [rights]
  refine ⟨h2.below bl, h.plug, fun y hy => ?_, fun y hy => ?_, h.abn, h.key, h.val, by rw [e1]; exact h.head, below_tr h.below bl⟩
  · simp only [lefts] at hy
    rcases List.mem_append.1 hy with hy | hy
    · exact h.left y hy
    · simp at hy
      rcases hy with hy | hy
      · exact fun hc => hk (Ky.lt_trans hc ((List.pairwise_append.1 hm).2.2 y hy e (by simp)))
      · rw [hy]; exact hk
  · rw [e1] at hy
    exact h.right y hy
theorem next_left {wx wy : World} {t0 : T} {k : Ky} {p ab : Nat} {cc : Bool} {l r : T} {e x : En} (h : NextSt w wx b B c room n G t0 k z (.node p cc l e r) ab x) (hr : Rises t0.toL) (hk : k.lt e.key) (bl : Below wx.heap.size wx wy) : NextSt w wy b B c room n G t0 k (⟨0, p, cc, e, r⟩ :: z) l p e := by
  have h1 := h.lie
  have hm : Rises (l.toL ++ e :: r.toL) := by
    rw [← h.plug, plug_lr] at hr
    exact rises_mid hr
  obtain ⟨p0, pn, pk, pv, _⟩ := LieT.node (s := 0) (o := 1) h1 rfl
  have h2 : LieT wx b B c room n G (⟨0, p, cc, e, r⟩ :: z) l := LieT.down (s := 0) (o := 1) h1 rfl
  refine ⟨h2.below bl, h.plug, fun y hy => ?_, fun y hy => ?_, pn, pk, pv, .inr ⟨r.toL ++ rights z, by simp [rights], p0⟩, below_tr h.below bl⟩
  · simp only [lefts] at hy
    exact h.left y (by simpa using hy)
  · simp only [rights] at hy
    rcases List.mem_append.1 hy with hy | hy
    · simp at hy
      rcases hy with hy | hy
      · rw [hy]; exact hk
      · exact Ky.lt_trans hk ((List.pairwise_cons.1 (List.pairwise_append.1 hm).2.1).1 y hy)
    · exact h.right y hy
theorem next_done {wx : World} {t0 : T} {k : Ky} {ab : Nat} {x : En} (h : NextSt w wx b B c room n G t0 k z .leaf ab x) : outE (nextL k t0.toL) = .tuple #[enV x, .bool ((ab : Int) != 0)] := by
  have e1 : t0.toL = lefts z ++ rights z := by
    rw [← h.plug, plug_lr]
    simp [T.toL, T.rb, RB.toL]
  have e2 : nextL k t0.toL = (rights z).head? := by
    unfold nextL
    rw [e1, List.find?_append, List.find?_eq_none.2 (fun y hy => by simpa using h.left y hy)]
    cases hr : rights z with
    | nil => rfl
    | cons a r =>
      have := h.right a (by rw [hr]; simp)
      simp [this]
  rw [e2]
  rcases h.head with ⟨h1, rfl, rfl⟩ | ⟨r, h1, h2⟩
  · rw [h1]
    rfl
  · rw [h1]
    have hz0 : ((ab : Int) != 0) = true := by rw [bne_iff_ne]; omega
    rw [hz0]
    rfl
theorem raw_next {t0 : T} (h : LieT w b B c room n G [] t0) (hr : Rises t0.toL) (k : Ky) :
    Calls Try.prog 35 #[.pointer (some ⟨b, 0, none⟩), kyV k] w fun e w' => e = .returned (outE (nextL k t0.toL)) ∧ Below w.heap.size w w' := by
  unfold kyV
  have n2 := h.raw.n2
  have HR := Lib.hid hr
  obtain ⟨W, HW⟩ : ∃ W, Hid ((w.alloc (.cells #[.int .u64 (k.at_ : Int), .int .u64 (k.seq : Int)] 27)).alloc (.cells #[.int .u64 0, .int .u64 0, .int .i64 0] 52) = W) := ⟨_, Lib.hid rfl⟩
  have HB : Hid (Below w.heap.size w W) := by
    rw [← HW.out]
    exact Lib.hid (((Below.refl _ _).alloc (Nat.le_refl _) _).alloc (by rw [World.size_alloc]; omega) _)
  have HX : Hid (Box W w.heap.size 27 #[.int .u64 (k.at_ : Int), .int .u64 (k.seq : Int)]) := by
    rw [← HW.out]
    exact Lib.hid ((Box.new _ _ _).alloc _)
  have HY : Hid (Box W (w.heap.size + 1) 52 #[.int .u64 0, .int .u64 0, .int .i64 0]) := by
    have := Box.new (w.alloc (.cells #[.int .u64 (k.at_ : Int), .int .u64 (k.seq : Int)] 27)) 52 #[.int .u64 0, .int .u64 0, .int .i64 0]
    rw [World.size_alloc, HW.out] at this
    exact Lib.hid this
  have HI : Hid (NextSt w W b B c room n G t0 k [] t0 0 noEn) := Lib.hid ⟨h.below HB.out, rfl, fun x hx => absurd hx (by simp [lefts]), fun x hx => absurd hx (by simp [rights]), h.raw.n1, h.sits.key0, h.sits.val0, .inl ⟨rfl, rfl, rfl⟩, HB.out⟩
  have HM := Lib.hid (raw_made (h.raw.below HB.out))
  have HS : Hid (Calls Try.prog 44 #[.pointer (some ⟨b, 0, none⟩)] W fun e w' => e = .returned (.int .i64 (t0.pl : Int)) ∧ w' = W) := by
    refine Lib.hid ((raw_root (h.raw.below HB.out)).mono fun e w' ⟨e1, e2⟩ => ⟨?_, e2⟩)
    rw [e1, show G.dn 0 0 = t0.pl from h.sits.hole]
  obtain ⟨tp, HTP⟩ : ∃ tp, Hid (t0.pl = tp) := ⟨_, Lib.hid rfl⟩
  rw [HTP.out] at HS
  obtain ⟨H, HH⟩ : ∃ H, Hid (w.heap.size = H) := ⟨_, Lib.hid rfl⟩
  rw [HH.out] at HX HY
  clear h hr HB
  go_enter Try.func35, Try.ntmps35
  go_upto_region 1 with fail
  rw [HW.out, HH.out]
  go_wp2_with fail
  refine HM.out.mono ?_
  rintro e w1 ⟨rfl, rfl⟩
  clear HM
  go_wp2_with fail
  refine HS.out.mono ?_
  rintro e w1 ⟨rfl, rfl⟩
  clear HS HW
  go_wp2_with fail
  go_loopg [6, 7] t0.rb.height (fun kk v6 v7 wx => ∃ (z : List Fr) (t : T) (ab p' : Nat) (x : En), t.rb.height = kk ∧ v6 = .int .i64 (ab : Int) ∧ v7 = .int .i64 (p' : Int) ∧ Hid (t.pl = p') ∧ Hid (NextSt w wx b B c room n G t0 k z t ab x) ∧ Hid (Box wx H 27 #[.int .u64 (k.at_ : Int), .int .u64 (k.seq : Int)]) ∧ Hid (Box wx (H + 1) 52 #[.int .u64 0, .int .u64 0, .int .i64 0]))
  case atStart => exact ⟨[], t0, 0, tp, noEn, rfl, rfl, rfl, HTP, HI, HX, HY⟩
  case round =>
    obtain ⟨z, t, ab, p', x, rfl, rfl, rfl, HP, HI', HX', HY'⟩ := hrel
    clear HI HX HY HTP
    cases t with
    | leaf =>
      obtain rfl : p' = 0 := HP.out.symm
      have HE := Lib.hid (raw_entry HI'.out.lie.raw HI'.out.abn)
      rw [HI'.out.key, HI'.out.val] at HE
      unfold enV at HE
      have HO := Lib.hid (next_done HI'.out)
      have HB' := Lib.hid HI'.out.below
      obtain ⟨qb, hqb⟩ : ∃ qb, ((ab : Int) != 0) = qb := ⟨_, rfl⟩
      rw [hqb] at HO
      clear HI' HX' HP
      go_wp2_with fail
      refine HE.out.mono ?_
      rintro e w4 ⟨rfl, b4⟩
      have bx4 := HY'.out.below b4 HY'.out.lt
      have e0 := bx4.cell 0
      have e1 := bx4.cell 1
      have e2 := bx4.cell 2
      have f0 := bx4.frozen 0
      have f1 := bx4.frozen 1
      have f2 := bx4.frozen 2
      have bx5 := ((bx4.set 0 (.int .u64 (x.key.at_ : Int))).set 1 (.int .u64 (x.key.seq : Int))).set 2 (.int .i64 x.val)
      have g0 := bx5.cell 0
      have g1 := bx5.cell 1
      have g2 := bx5.cell 2
      simp at g0 g1 g2
      have HB4 := Lib.hid (below_tr HB'.out b4)
      clear bx4 bx5 b4 HE HY' HB'
      go_wp2_with fail
      refine bodyPost_ret (v := .tuple #[.agg #[.int .u64 (x.key.at_ : Int), .int .u64 (x.key.seq : Int), .int .i64 x.val], .bool qb]) ?_ rfl ⟨?_, ?_⟩
      · simp [results, Try.f35, go_sem, g0, g1, g2]
      · rw [HO.out]
        rfl
      · have hsz : w.heap.size ≤ H + 1 := by rw [HH.out]; omega
        exact ((HB4.out.setCell hsz _).setCell hsz _).setCell hsz _
    | node p cc l e r =>
      obtain rfl : p = p' := HP.out
      have hl := HI'.out.lie
      obtain ⟨p0, pn, pk, _, _, _, pd, pd1, _⟩ := LieT.node (s := 0) (o := 1) hl rfl
      have hz1 : (p : Int) < (n : Int) := by omega
      have hz0 : ((p : Int) != 0) = true := by rw [bne_iff_ne]; omega
      have HC : Hid (∀ wy, Below wr.heap.size wr wy → wy.cell? ⟨b, 2, none⟩ = some (.slice (some ⟨B, 0, none⟩) n c) ∧ wy.cell? ⟨B, p * 7, none⟩ = some (.int .u64 (e.key.at_ : Int)) ∧ wy.cell? ⟨B, p * 7 + 1, none⟩ = some (.int .u64 (e.key.seq : Int)) ∧ wy.cell? ⟨H, 0, none⟩ = some (.int .u64 (k.at_ : Int)) ∧ wy.cell? ⟨H, 1, none⟩ = some (.int .u64 (k.seq : Int))) :=
        Lib.hid fun wy bl => ⟨(hl.raw.below bl).cells.2.2, pk ▸ ((hl.raw.below bl).c_key pn).1, pk ▸ ((hl.raw.below bl).c_key pn).2, (HX'.out.below bl HX'.out.lt).cell 0, (HX'.out.below bl HX'.out.lt).cell 1⟩
      obtain ⟨c2, d0, d1, x0, x1⟩ := HC.out wr (Below.refl _ _)
      by_cases hlt : k.lt e.key
      · have HBf : Hid (∀ W, Calls Try.prog 45 #[.agg #[.int .u64 (k.at_ : Int), .int .u64 (k.seq : Int)], .agg #[.int .u64 (e.key.at_ : Int), .int .u64 (e.key.seq : Int)]] W fun e' w' => e' = .returned (.bool true) ∧ Below W.heap.size W w') := by
          refine Lib.hid fun W => ?_
          have := raw_before k e.key W
          rw [decide_eq_true hlt] at this
          exact this
        have HN : Hid (∀ wy, Below wr.heap.size wr wy → NextSt w wy b B c room n G t0 k (⟨0, p, cc, e, r⟩ :: z) l p e ∧ Box wy H 27 #[.int .u64 (k.at_ : Int), .int .u64 (k.seq : Int)] ∧ Box wy (H + 1) 52 #[.int .u64 0, .int .u64 0, .int .i64 0] ∧ wy.cell? ⟨b, 2, none⟩ = some (.slice (some ⟨B, 0, none⟩) n c) ∧ wy.cell? ⟨B, p * 7 + 5, none⟩ = some (.int .i64 (l.pl : Int))) := by
          refine Lib.hid fun wy bl => ⟨next_left HI'.out HR.out hlt bl, HX'.out.below bl HX'.out.lt, HY'.out.below bl HY'.out.lt, (hl.raw.below bl).cells.2.2, ?_⟩
          have := (hl.raw.below bl).c_dn0 pn
          rwa [pd] at this
        obtain ⟨kp, HKP⟩ : ∃ kp, Hid (l.pl = kp) := ⟨_, Lib.hid rfl⟩
        rw [HKP.out] at HN
        clear hl pk pd pd1 HI' HX' HY' HP hlt
        go_upto_region 7 with fail
        go_region_held3 (fun wy => wy.cell? ⟨b, 2, none⟩ = some (.slice (some ⟨B, 0, none⟩) n c) ∧ wy.cell? ⟨B, p * 7, none⟩ = some (.int .u64 (e.key.at_ : Int)) ∧ wy.cell? ⟨B, p * 7 + 1, none⟩ = some (.int .u64 (e.key.seq : Int)) ∧ wy.cell? ⟨H, 0, none⟩ = some (.int .u64 (k.at_ : Int)) ∧ wy.cell? ⟨H, 1, none⟩ = some (.int .u64 (k.seq : Int)))
          (first | exact HC.out _ (Below.refl _ wr).drew | exact HC.out _ b7)
          (first | (go_at_call 45; refine (HBf.out _).mono ?_; rintro e' w6 ⟨rfl, b6⟩; have b7 := below_tr (Below.refl _ wr).drew b6))
        obtain ⟨n1, n2', n3, n4, n5⟩ := HN.out w6 b7
        have HN1 := Lib.hid n1
        have HN2 := Lib.hid n2'
        have HN3 := Lib.hid n3
        clear n1 n2' n3 b6 b7 HN HBf HC c2 d0 d1 x0 x1
        go_wp2_with fail
        go_roundg l.rb.height
        case measure => simp only [T.rb, RB.height]; omega
        case rel => exact ⟨⟨0, p, cc, e, r⟩ :: z, l, p, kp, e, rfl, rfl, rfl, HKP, HN1, HN2, HN3⟩
      · have HBf : Hid (∀ W, Calls Try.prog 45 #[.agg #[.int .u64 (k.at_ : Int), .int .u64 (k.seq : Int)], .agg #[.int .u64 (e.key.at_ : Int), .int .u64 (e.key.seq : Int)]] W fun e' w' => e' = .returned (.bool false) ∧ Below W.heap.size W w') := by
          refine Lib.hid fun W => ?_
          have := raw_before k e.key W
          rw [decide_eq_false hlt] at this
          exact this
        have HN : Hid (∀ wy, Below wr.heap.size wr wy → NextSt w wy b B c room n G t0 k (⟨1, p, cc, e, l⟩ :: z) r ab x ∧ Box wy H 27 #[.int .u64 (k.at_ : Int), .int .u64 (k.seq : Int)] ∧ Box wy (H + 1) 52 #[.int .u64 0, .int .u64 0, .int .i64 0] ∧ wy.cell? ⟨b, 2, none⟩ = some (.slice (some ⟨B, 0, none⟩) n c) ∧ wy.cell? ⟨B, p * 7 + 6, none⟩ = some (.int .i64 (r.pl : Int))) := by
          refine Lib.hid fun wy bl => ⟨next_right HI'.out HR.out hlt bl, HX'.out.below bl HX'.out.lt, HY'.out.below bl HY'.out.lt, (hl.raw.below bl).cells.2.2, ?_⟩
          have := (hl.raw.below bl).c_dn1 pn
          rwa [pd1] at this
        obtain ⟨kp, HKP⟩ : ∃ kp, Hid (r.pl = kp) := ⟨_, Lib.hid rfl⟩
        rw [HKP.out] at HN
        clear hl pk pd pd1 HI' HX' HY' HP hlt
        go_upto_region 7 with fail
        go_region_held3 (fun wy => wy.cell? ⟨b, 2, none⟩ = some (.slice (some ⟨B, 0, none⟩) n c) ∧ wy.cell? ⟨B, p * 7, none⟩ = some (.int .u64 (e.key.at_ : Int)) ∧ wy.cell? ⟨B, p * 7 + 1, none⟩ = some (.int .u64 (e.key.seq : Int)) ∧ wy.cell? ⟨H, 0, none⟩ = some (.int .u64 (k.at_ : Int)) ∧ wy.cell? ⟨H, 1, none⟩ = some (.int .u64 (k.seq : Int)))
          (first | exact HC.out _ (Below.refl _ wr).drew | exact HC.out _ b7)
          (first | (go_at_call 45; refine (HBf.out _).mono ?_; rintro e' w6 ⟨rfl, b6⟩; have b7 := below_tr (Below.refl _ wr).drew b6))
        obtain ⟨n1, n2', n3, n4, n5⟩ := HN.out w6 b7
        have HN1 := Lib.hid n1
        have HN2 := Lib.hid n2'
        have HN3 := Lib.hid n3
        clear n1 n2' n3 b6 b7 HN HBf HC c2 d0 d1 x0 x1
        go_wp2_with fail
        go_roundg r.rb.height
        case measure => simp only [T.rb, RB.height]; omega
        case rel => exact ⟨⟨1, p, cc, e, l⟩ :: z, r, ab, kp, x, rfl, rfl, rfl, HKP, HN1, HN2, HN3⟩
end

theorem raw_new_no (room : Int) (w : World) (h : room < 1 ∨ 65536 < room) : Calls Try.prog 8 #[.int .i64 room] w fun e w' => e = .returned (.tuple #[.pointer none, .int .i64 2]) ∧ Below w.heap.size w w' := by
  by_cases h1 : room < 1
  · clear h
    go_enter Try.func8, Try.ntmps8
    go_wp2_with fail
    go_ret2
    exact ⟨rfl, Below.refl _ _⟩
  · have h2 : 65536 < room := by omega
    clear h
    go_enter Try.func8, Try.ntmps8
    go_wp2_with fail
    go_ret2
    exact ⟨rfl, Below.refl _ _⟩

end Go.Proofs.Ytfedjeojanpnpab
