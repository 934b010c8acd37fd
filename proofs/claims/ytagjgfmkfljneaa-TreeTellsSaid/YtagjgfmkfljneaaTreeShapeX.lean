/-
  The program's own tree: Shape, walked.
-/
import Derived.Test.YtagjgfmkfljneaaTreeShapeW
namespace Go.Proofs.Ytagjgfmkfljneaa
open Go.RowKit
set_option linter.unusedVariables false

theorem row_cell {w wx : World} {k k1 : Nat} {p1 : Option Addr} {pls : List Nat} (h : wx.ownsRow w.heap.size 3 1 (.slice p1 k k1) k (pls.map natV)) (hl : pls.length = k) {j x : Nat} (hx : pls[j]? = some x) : ∃ g, p1 = some ⟨g, 0, none⟩ ∧ wx.cell? ⟨g, j, none⟩ = some (.int .i64 (x : Int)) := by
  subst hl
  obtain ⟨_, hform⟩ := owns_nat (l := pls) h
  obtain ⟨hj, hx'⟩ := List.getElem?_eq_some_iff.1 hx
  rcases hform with ⟨_, h2⟩ | ⟨g, h1, _, h3⟩
  · rw [h2] at hj
    exact absurd hj (by simp)
  · exact ⟨g, h1, by rw [h3 j hj, hx']⟩
/-- Ranks, up to one. -/
structure RankSt (w wx : World) (R k k1 : Nat) (p1 : Option Addr) (pls : List Nat) (j : Nat) (f : Nat → Int) : Prop where
  row : RowZ wx R (k + 1) f
  zero : f 0 = -1
  at_ : ∀ i x, i < j → pls[i]? = some x → f x = (i : Int)
  pls : wx.ownsRow w.heap.size 3 1 (.slice p1 k k1) k (pls.map natV)
  far : (Value.slice p1 k k1).ownBlock ≠ some R
  below : Below w.heap.size w wx
theorem RankSt.step {w wx : World} {R k k1 j x : Nat} {p1 : Option Addr} {pls : List Nat} {f : Nat → Int} (h : RankSt w wx R k k1 p1 pls j f) (hn : pls.Nodup) (hx : pls[j]? = some x) (h0 : x ≠ 0) (hR : w.heap.size ≤ R) : RankSt w (wx.setCell ⟨R, x, none⟩ (.int .i64 (j : Int))) R k k1 p1 pls (j + 1) (fun q => if q = x then (j : Int) else f q) := by
  refine ⟨h.row.set x _, ?_, fun i y hi hy => ?_, own_set h.pls h.far, h.far, h.below.setCell hR _⟩
  · show (if 0 = x then (j : Int) else f 0) = -1
    rw [if_neg (Ne.symm h0)]
    exact h.zero
  · show (if y = x then (j : Int) else f y) = i
    by_cases hyx : y = x
    · subst hyx
      rw [if_pos rfl]
      obtain ⟨a1, a2⟩ := List.getElem?_eq_some_iff.1 hx
      obtain ⟨b1, b2⟩ := List.getElem?_eq_some_iff.1 hy
      have := (List.getElem_inj hn).1 (a2.trans b2.symm)
      omega
    · rw [if_neg hyx]
      refine h.at_ i y ?_ hy
      by_cases hij : i = j
      · subst hij
        rw [hx] at hy
        exact absurd (Option.some.inj hy).symm hyx
      · omega
set_option maxHeartbeats 1600000 in
theorem raw_shape {w : World} {b B c room n : Nat} {G : Gr} {t0 : T} (h : LieT w b B c room n G [] t0) (hn : t0.toL.length + 1 = n) :
    Calls Try.prog 25 #[.pointer (some ⟨b, 0, none⟩)] w (ShapeC w (t0.rb.twigs 0 (-1))) := by
  have HRi := Lib.hid (raw_rising h hn)
  have n2 := h.raw.n2
  have hpl := T.pls_len t0
  have hk : t0.pls.length ≤ 65536 := by omega
  have hkn : t0.pls.length + 1 = n := by omega
  have HND := Lib.hid (T.pls_nodup t0 (fun x => by have := h.sits.once x; simp only [occZ] at this; omega))
  have HAt : Hid (∀ (i : Nat), i < t0.pls.length → ∃ x, t0.pls[i]? = some x ∧ x ≠ 0 ∧ x < n ∧ G.up x < n) := by
    refine Lib.hid fun i hi => ?_
    have ho := (T.pls_occ t0 _).1 (List.getElem_mem hi)
    have h0 : t0.pls[i] ≠ 0 := (h.sits.t_off ho).1
    have hx := h.lt t0.pls[i] (by simpa [occZ] using ho)
    exact ⟨_, List.getElem?_eq_getElem hi, h0, hx, h.raw.inn.up _ h0 hx⟩
  have HTw : Hid (∀ f : Nat → Int, f 0 = -1 → (∀ i x, i < t0.pls.length → t0.pls[i]? = some x → f x = (i : Int)) → ∀ i x, t0.pls[i]? = some x → (t0.rb.twigs 0 (-1))[i]? = some (⟨G.key x, G.red x, f (G.up x)⟩ : Tw)) :=
    Lib.hid fun f h0 hf i x hx => twigs_at t0 0 (-1) 0 h.sits.rep h0 (fun i x hx => by rw [hf i x (List.getElem?_eq_some_iff.1 hx).1 hx]; omega) i x hx
  have HTL : Hid ((t0.rb.twigs 0 (-1)).length = t0.pls.length) := by
    refine Lib.hid ?_
    rw [RB.size_twigs, hpl]
    exact (RB.size_toL _).symm
  have HR := Lib.hid h.raw
  obtain ⟨inf, hi1, hi2, hi3, hi4⟩ := info_parts (P := Try.prog) (e := 3) (z := .int .i64 0) (size := 1) (bytes := 8) (by kernel_rfl)
  have r1 := run_make_cells (P := Try.prog) 81 3 inf (.int .i64 0) 1 rfl hi1 hi2 hi3 ((t0.pls.length : Int) + 1) (t0.pls.length + 1) (by omega) (by rw [hi4]; omega) (by omega)
  obtain ⟨zr, HZ⟩ : ∃ z, Hid (madeCells (Value.int .i64 0).cells ((t0.pls.length + 1) * 1) = z) := ⟨_, Lib.hid rfl⟩
  rw [HZ.out] at r1
  have HZR : Hid (zr.size = t0.pls.length + 1 ∧ ∀ i, i < t0.pls.length + 1 → zr[i]? = some (.int .i64 0)) := by
    rw [← HZ.out]
    exact Lib.hid ⟨by rw [size_madeCells]; omega, fun i hi => madeCells_get _ _ _ _ (fun j hj => (by
      have hj' : j < 1 := hj
      have : j = 0 := by omega
      subst this; rfl)) (by decide) (by omega)⟩
  obtain ⟨inw, hw1, hw2, hw3, hw4⟩ := info_parts (P := Try.prog) (e := 56) (z := .agg #[.int .u64 0, .int .u64 0, .bool false, .int .i64 0]) (size := 4) (bytes := 32) (by kernel_rfl)
  have r2 := run_make_cells (P := Try.prog) 53 56 inw (.agg #[.int .u64 0, .int .u64 0, .bool false, .int .i64 0]) 4 rfl hw1 hw2 hw3 (t0.pls.length : Int) t0.pls.length rfl (by rw [hw4]; omega) (by omega)
  obtain ⟨zt, HZ2⟩ : ∃ z, Hid (madeCells (Value.agg #[.int .u64 0, .int .u64 0, .bool false, .int .i64 0]).cells (t0.pls.length * 4) = z) := ⟨_, Lib.hid rfl⟩
  rw [HZ2.out] at r2
  have HZT : Hid (zt.size = t0.pls.length * 4 ∧ ∀ i, i < t0.pls.length → ∀ j, j < 4 → zt[i * 4 + j]? = (twC noTw)[j]?) := by
    rw [← HZ2.out]
    refine Lib.hid ⟨by rw [size_madeCells], fun i hi j hj => ?_⟩
    have hb : i * 4 + j < t0.pls.length * 4 := by omega
    have hm : (i * 4 + j) % 4 = j := by omega
    rcases (by omega : j = 0 ∨ j = 1 ∨ j = 2 ∨ j = 3) with rfl | rfl | rfl | rfl <;> simp [madeCells, Value.cells, twC, noTw] <;> simp_all <;> omega
  clear hi1 hi2 hi3 hi4 hw1 hw2 hw3 hw4 HZ HZ2 h hn hpl
  obtain ⟨k, HK⟩ : ∃ k, Hid (t0.pls.length = k) := ⟨_, Lib.hid rfl⟩
  obtain ⟨tw, HW⟩ : ∃ tw, Hid (t0.rb.twigs 0 (-1) = tw) := ⟨_, Lib.hid rfl⟩
  obtain ⟨pls, HP⟩ : ∃ pls, Hid (t0.pls = pls) := ⟨_, Lib.hid rfl⟩
  rw [HK.out] at hk hkn r1 r2 HZR HZT HAt HTw HTL
  rw [HW.out] at HTw HTL ⊢
  rw [HP.out] at HAt HTw HND HK
  go_enter Try.func25, Try.ntmps25
  go_wp2_with fail
  refine HRi.out.mono ?_
  rw [HP.out]
  rintro e w1 ⟨p1, k1, rfl, o1, b1⟩
  clear HRi
  rw [HK.out] at o1 ⊢
  have hE1 : w.heap.size ≤ w1.heap.size := b1.size
  obtain ⟨W, HWW⟩ : ∃ W, Hid (w1.alloc (.cells (zr.setIfInBounds 0 (.int .i64 (-1))) 3) = W) := ⟨_, Lib.hid rfl⟩
  have HS0 : Hid (RankSt w W w1.heap.size k k1 p1 pls 0 (fun q => if q = 0 then -1 else 0)) := by
    rw [← HWW.out]
    have bl : Below w1.heap.size w1 (w1.alloc (.cells (zr.setIfInBounds 0 (.int .i64 (-1))) 3)) := (Below.refl _ _).alloc (Nat.le_refl _) _
    have far : (Value.slice p1 k k1).ownBlock ≠ some w1.heap.size := by
      intro e
      have := (o1.lt _ e).2
      omega
    refine Lib.hid ⟨⟨_, Box.new _ _ _, by simp [HZR.out.1], fun i hi => ?_⟩, rfl, fun i x hi _ => absurd hi (by omega), owns_below o1 bl, far, below_tr b1 bl⟩
    show _ = some (Value.int .i64 (if i = 0 then -1 else 0))
    by_cases hi0 : i = 0
    · subst hi0
      rw [if_pos rfl, Array.getElem?_setIfInBounds_self_of_lt (by rw [HZR.out.1]; omega)]
    · rw [if_neg hi0, Array.getElem?_setIfInBounds_ne (fun e => hi0 e.symm), HZR.out.2 i hi]
  have xb := Box.new w1 3 zr
  have x0 : (w1.alloc (.cells zr 3)).cell? ⟨w1.heap.size, 0, none⟩ = some (.int .i64 0) := (xb.cell 0).trans (HZR.out.2 0 (by omega))
  have f0 := xb.frozen 0
  clear o1 b1 xb HZR
  have hz00 : (0 : Int) < (k : Int) + 1 := by omega
  go_upto_region 4 with fail
  rw [HWW.out]
  obtain ⟨R, HRR⟩ : ∃ R, Hid (w1.heap.size = R) := ⟨_, Lib.hid rfl⟩
  rw [HRR.out] at HS0 hE1
  rw [HRR.out]
  clear HWW x0 f0 r1 HRR
  go_wp2_with fail
  go_loopg [21] k (fun kk v21 wx => ∃ j : Nat, k - j = kk ∧ j ≤ k ∧ v21 = .int .i64 (j : Int) ∧ ∃ f, Hid (RankSt w wx R k k1 p1 pls j f))
  case atStart => exact ⟨0, rfl, by omega, rfl, _, HS0⟩
  case round =>
    obtain ⟨j, rfl, hj, rfl, f, HS⟩ := hrel
    clear HS0
    by_cases hjk : j = k
    · have hz : ¬ (j : Int) < (k : Int) := by omega
      subst hjk
      obtain ⟨W2, HW2⟩ : ∃ W2, Hid (wr.alloc (.cells zt 56) = W2) := ⟨_, Lib.hid rfl⟩
      have bl : Below wr.heap.size wr W2 := by
        rw [← HW2.out]
        exact (Below.refl _ _).alloc (Nat.le_refl _) _
      have HX : Hid (RowE W2 wr.heap.size 56 4 j twC (fun _ => noTw)) := by
        rw [← HW2.out]
        exact Lib.hid ⟨zt, Box.new _ _ _, HZT.out.1, HZT.out.2⟩
      have hwE : w.heap.size ≤ wr.heap.size := HS.out.below.size
      have HS2 : Hid (RankSt w W2 R j k1 p1 pls j f) := Lib.hid ⟨HS.out.row.same (bl.block R HS.out.row.lt), HS.out.zero, HS.out.at_, owns_below HS.out.pls bl, HS.out.far, below_tr HS.out.below bl⟩
      obtain ⟨E, HEE⟩ : ∃ E, Hid (wr.heap.size = E) := ⟨_, Lib.hid rfl⟩
      rw [HEE.out] at HX hwE
      have HTX := Lib.hid (HTw.out f HS.out.zero HS.out.at_)
      clear bl HS HZT HTw
      go_upto_region 10 with fail
      rw [HW2.out, HEE.out]
      clear HW2 HEE r2
      go_wp2_with fail
      go_loopg [36] j (fun kk v36 wx => ∃ i : Nat, j - i = kk ∧ i ≤ j ∧ v36 = .int .i64 (i : Int) ∧ Hid (RowE wx E 56 4 j twC (fun q => if q < i then tw[q]?.getD noTw else noTw)) ∧ Hid (RankSt w wx R j k1 p1 pls j f))
      case atStart => exact ⟨0, rfl, by omega, rfl, Lib.hid (HX.out.congr fun i _ => rfl), HS2⟩
      case round =>
        obtain ⟨i, rfl, hi, rfl, HX', HS'⟩ := hrel
        clear HX HS2
        by_cases hij : i = j
        · have hz : ¬ (i : Int) < (j : Int) := by omega
          have HE : Hid (ShapeC w tw (.returned (.slice (some ⟨E, 0, none⟩) j j)) wr) := by
            refine Lib.hid ⟨some ⟨E, 0, none⟩, j, by rw [HTL.out], ?_, HS'.out.below⟩
            exact HX'.out.owns tw HTL.out (fun _ => rfl) (by omega) (fun q hq => by rw [if_pos (by have := HTL.out; omega), List.getElem?_eq_getElem hq]; rfl) hwE (by simp [maxLen]; omega)
          clear hij HX' HS' HAt
          go_wp2_with fail
          go_ret
          exact HE.out
        · have hz : (i : Int) < (j : Int) := by omega
          have hij' : i < j := by omega
          obtain ⟨x, hx, x0, xn, un⟩ := HAt.out i hij'
          obtain ⟨g, rfl, d0⟩ := row_cell HS'.out.pls HK.out hx
          have r := HR.out.below HS'.out.below
          obtain ⟨c0, c1, c2⟩ := r.cells
          obtain ⟨e0, e1⟩ := r.c_key xn
          have e2 := r.c_val xn
          have e3 := r.c_red xn
          have e4 := r.c_up xn
          have e5 := r.c_dn0 xn
          have e6 := r.c_dn1 xn
          have hxz : (x : Int) < (n : Int) := by omega
          have HTE : Hid (tw[i]?.getD noTw = ⟨G.key x, G.red x, f (G.up x)⟩) := Lib.hid (by rw [HTX.out i x hx]; rfl)
          have hNE : wr.heap.size ≤ wr.heap.size := Nat.le_refl _
          obtain ⟨W3, HW3⟩ : ∃ W3, Hid (wr.alloc (.cells #[.int .u64 ((G.key x).at_ : Int), .int .u64 ((G.key x).seq : Int), .int .i64 (G.val x), .bool (G.red x), .int .i64 (G.up x : Int), .int .i64 (G.dn x 0 : Int), .int .i64 (G.dn x 1 : Int)] 76) = W3) := ⟨_, Lib.hid rfl⟩
          have bl : Below wr.heap.size wr W3 := by
            rw [← HW3.out]
            exact (Below.refl _ _).alloc (Nat.le_refl _) _
          have bx : Box W3 wr.heap.size 76 #[.int .u64 ((G.key x).at_ : Int), .int .u64 ((G.key x).seq : Int), .int .i64 (G.val x), .bool (G.red x), .int .i64 (G.up x : Int), .int .i64 (G.dn x 0 : Int), .int .i64 (G.dn x 1 : Int)] := by
            rw [← HW3.out]
            exact Box.new _ _ _
          have y0 := bx.cell 0
          have y1 := bx.cell 1
          have y2 := bx.cell 2
          have y3 := bx.cell 3
          have y4 := bx.cell 4
          have rk3 := HS'.out.row.same (bl.block R HS'.out.row.lt)
          have z4 := rk3.cell (i := G.up x) (by omega)
          have huz : (G.up x : Int) < (n : Int) := by omega
          have HX3 := Lib.hid (HX'.out.same (bl.block E HX'.out.lt))
          have HS3 : Hid (RankSt w W3 R j k1 (some ⟨g, 0, none⟩) pls j f) := Lib.hid ⟨rk3, HS'.out.zero, HS'.out.at_, owns_below HS'.out.pls bl, HS'.out.far, below_tr HS'.out.below bl⟩
          clear hx x0 r bx bl rk3 HX' HS' hij hNE
          go_upto_region 14 with fail
          rw [HW3.out]
          clear HW3 c0 c1 c2 e0 e1 e2 e3 e4 e5 e6 d0
          go_still_tail 13, (by kernel_rfl)
          change wpList _ _ _ _ _ W3.drew
          obtain ⟨W4, HW4⟩ : ∃ W4, Hid (W3.drew = W4) := ⟨_, Lib.hid rfl⟩
          have HX4 : Hid (RowE W4 E 56 4 j twC (fun q => if q < i then tw[q]?.getD noTw else noTw)) := by
            rw [← HW4.out]
            exact HX3
          have HS4 : Hid (RankSt w W4 R j k1 (some ⟨g, 0, none⟩) pls j f) := by
            rw [← HW4.out]
            exact Lib.hid ⟨HS3.out.row.same rfl, HS3.out.zero, HS3.out.at_, owns_below HS3.out.pls (Below.refl _ _).drew, HS3.out.far, HS3.out.below.drew⟩
          rw [HW4.out]
          clear HW4 HX3 HS3 y0 y1 y2 y3 y4 z4
          have hii : (if i < i then tw[i]?.getD noTw else noTw) = noTw := if_neg (by omega)
          have q0 : W4.cell? ⟨E, i * 4, none⟩ = some (.int .u64 0) := (HX4.out.cell (i := i) (j := 0) hij' (by omega)).trans (by rw [hii]; rfl)
          have q1 : W4.cell? ⟨E, i * 4 + 1, none⟩ = some (.int .u64 0) := (HX4.out.cell (i := i) (j := 1) hij' (by omega)).trans (by rw [hii]; rfl)
          have q2 : W4.cell? ⟨E, i * 4 + 2, none⟩ = some (.bool false) := (HX4.out.cell (i := i) (j := 2) hij' (by omega)).trans (by rw [hii]; rfl)
          have q3 : W4.cell? ⟨E, i * 4 + 3, none⟩ = some (.int .i64 0) := (HX4.out.cell (i := i) (j := 3) hij' (by omega)).trans (by rw [hii]; rfl)
          have f0 := HX4.out.frozen (i * 4)
          have f1 := HX4.out.frozen (i * 4 + 1)
          have f2 := HX4.out.frozen (i * 4 + 2)
          have f3 := HX4.out.frozen (i * 4 + 3)
          have HX5 := Lib.hid ((HX4.out.set4 hij' ⟨G.key x, G.red x, f (G.up x)⟩).congr (f' := fun q => if q < i + 1 then tw[q]?.getD noTw else noTw) (fun q hq => by
            by_cases h1 : q = i
            · subst h1
              rw [if_pos rfl, if_pos (by omega), HTE.out]
            · rw [if_neg h1]
              by_cases h2 : q < i
              · rw [if_pos h2, if_pos (by omega)]
              · rw [if_neg h2, if_neg (by omega)]))
          have HS5 : Hid (RankSt w ((((W4.setCell ⟨E, i * 4, none⟩ (.int .u64 ((G.key x).at_ : Int))).setCell ⟨E, i * 4 + 1, none⟩ (.int .u64 ((G.key x).seq : Int))).setCell ⟨E, i * 4 + 2, none⟩ (.bool (G.red x))).setCell ⟨E, i * 4 + 3, none⟩ (.int .i64 (f (G.up x)))) R j k1 (some ⟨g, 0, none⟩) pls j f) := by
            obtain ⟨cs, kb, _⟩ := HX4.out
            obtain ⟨cr, kr, _⟩ := HS4.out.row
            have hRE : R ≠ E := kr.ne kb (by decide)
            have hne := kb.not_row HS4.out.pls (by decide)
            exact Lib.hid ⟨(((HS4.out.row.other hRE _).other hRE _).other hRE _).other hRE _, HS4.out.zero, HS4.out.at_, own_set (own_set (own_set (own_set HS4.out.pls hne) hne) hne) hne, HS4.out.far, (((HS4.out.below.setCell hwE _).setCell hwE _).setCell hwE _).setCell hwE _⟩
          clear HX4 HS4 hii HTE
          go_wp2_with fail
          go_roundg (j - (i + 1))
          case measure => omega
          case rel => exact ⟨i + 1, rfl, by omega, by go_num, HX5, HS5⟩
    · have hz : (j : Int) < (k : Int) := by omega
      have hjk' : j < k := by omega
      obtain ⟨x, hx, x0, xn, _⟩ := HAt.out j hjk'
      obtain ⟨g, rfl, d0⟩ := row_cell HS.out.pls HK.out hx
      have d1 := HS.out.row.cell (i := x) (by omega)
      have f1 := HS.out.row.frozen x
      have hxz : (x : Int) < (n : Int) := by omega
      have HN := Lib.hid (HS.out.step HND.out hx x0 hE1)
      clear HS hx x0 hjk
      go_wp2_with fail
      go_roundg (k - (j + 1))
      case measure => omega
      case rel => exact ⟨j + 1, rfl, by omega, by go_num, _, HN⟩

end Go.Proofs.Ytagjgfmkfljneaa
