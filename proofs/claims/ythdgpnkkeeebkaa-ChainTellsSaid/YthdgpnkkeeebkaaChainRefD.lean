/-
  The document's own chains: Drop.
-/
import Derived.Test.YthdgpnkkeeebkaaChainRefN
namespace Go.Proofs.Ythdgpnkkeeebkaa
open Go.RowKit
set_option linter.unusedVariables false

section
variable {M M' : Nat → Prop} {w W W' : World} {s : Value} {g : Ch} {vs : List Value}
theorem RefAt.more (h : RefAt M W s g vs) (k : ∀ i, M i → M' i) (lt : ∀ i, M' i → i < W.heap.size) : RefAt M' W s g vs :=
  ⟨h.row, fun i hi => k i (h.own i hi), lt, fun i l hl => by
    obtain ⟨v, h1, h2⟩ := h.inner i l hl
    exact ⟨v, h1, h2.more k⟩⟩
/-- A store into a box that holds chains. -/
theorem Inner.set {q i : Nat} {cs : Array Value} {u v : Value} {l : List Nat} (h : Inner M W v l) (b : Box W q 29 cs) : Inner M (W.setCell ⟨q, i, none⟩ u) v l := by
  obtain ⟨p, c, e, r, o⟩ := h
  exact ⟨p, c, e, b.row r (by decide), o⟩
theorem RefAt.set {q i : Nat} {cs : Array Value} {u : Value} (h : RefAt M W s g vs) (b : Box W q 29 cs) : RefAt M (W.setCell ⟨q, i, none⟩ u) s g vs :=
  ⟨b.row h.row (by decide), h.own, fun k hk => by simpa using h.lt k hk, fun j l hl => by
    obtain ⟨v, h1, h2⟩ := h.inner j l hl
    exact ⟨v, h1, h2.set b⟩⟩
/-- What is answered, in a box. -/
theorem RefAt.put {q : Nat} {c0 c1 u0 u1 : Value} (h : RefAt M W s g vs) (b : Box W q 29 #[c0, c1]) : RefAt M ((W.setCell ⟨q, 0, none⟩ u0).setCell ⟨q, 1, none⟩ u1) s g vs ∧ Box ((W.setCell ⟨q, 0, none⟩ u0).setCell ⟨q, 1, none⟩ u1) q 29 #[u0, u1] :=
  ⟨(h.set b).set (b.set 0 u0), (b.set 0 u0).set 1 u1⟩
theorem below_put {q : Nat} (u0 u1 : Value) (h : Below w.heap.size w W) (hq : w.heap.size ≤ q) : Below w.heap.size w ((W.setCell ⟨q, 0, none⟩ u0).setCell ⟨q, 1, none⟩ u1) :=
  (h.setCell (p := ⟨q, 0, none⟩) hq _).setCell (p := ⟨q, 1, none⟩) hq _
end
/-- What a call holds: its own chains, and what it will answer. -/
structure TwoB (w wx : World) (n s : Value) (B : Nat) : Prop where
  b2 : Box wx B 29 #[n, s]
  b4 : Box wx (B + 1) 29 #[.int .i64 0, .slice none 0 0]
  lo : Below w.heap.size w wx
  hB : w.heap.size ≤ B
section
variable {w wx w' : World} {n s : Value} {B : Nat}
theorem TwoB.below (h : TwoB w wx n s B) (b : Below wx.heap.size wx w') : TwoB w w' n s B := ⟨h.b2.below b h.b2.lt, h.b4.below b h.b4.lt, below_tr h.lo b, h.hB⟩
theorem TwoB.cells (h : TwoB w wx n s B) : wx.cell? ⟨B, 0, none⟩ = some n ∧ wx.cell? ⟨B, 1, none⟩ = some s ∧ wx.cell? ⟨B + 1, 0, none⟩ = some (.int .i64 0) ∧ wx.cell? ⟨B + 1, 1, none⟩ = some (.slice none 0 0) ∧ wx.frozen? ⟨B + 1, 0, none⟩ = false ∧ wx.frozen? ⟨B + 1, 1, none⟩ = false :=
  ⟨h.b2.cell 0, h.b2.cell 1, h.b4.cell 0, h.b4.cell 1, h.b4.frozen 0, h.b4.frozen 1⟩
theorem TwoB.start (w : World) (n s : Value) (B : Nat) (hB : w.heap.size = B) : TwoB w ((w.alloc (.cells #[n, s] 29)).alloc (.cells #[.int .i64 0, .slice none 0 0] 29)) n s B := by
  subst hB
  have x2 := Box.new w 29 #[n, s]
  have x4 := Box.new (w.alloc (.cells #[n, s] 29)) 29 #[.int .i64 0, .slice none 0 0]
  rw [World.size_alloc] at x4
  exact ⟨x2.alloc _, x4, ((Below.refl _ w).alloc (Nat.le_refl _) _).alloc (by rw [World.size_alloc]; omega) _, Nat.le_refl _⟩
theorem TwoB.grown {base e k : Nat} {v : Value} {xs : List Value} (h : TwoB w wx n s B) (r : wx.ownsRow base e 1 v k xs) (hb : w.heap.size ≤ base) (he : e ≠ 29) (g : wx.grownBy w' v.ownBlock) : TwoB w w' n s B :=
  ⟨h.b2.grown g (fun e' => h.b2.not_row r he e'.symm), h.b4.grown g (fun e' => h.b4.not_row r he e'.symm), below_grown h.lo r hb g, h.hB⟩
end

section
variable {M : Nat → Prop} {w : World} {s : Value} {g : Ch} {vs : List Value}
set_option maxHeartbeats 4000000 in
theorem ref_drop (h : RefAt M w s g vs) (ok : g.Ok) (n : Int) :
    Calls Try.prog 17 #[refV g s, .int .i64 n] w (RefC (fun v => .tuple #[v, .bool (g.inn n).isSome]) M w (g.drop n)) := by
  unfold refV
  obtain ⟨P, C, rfl⟩ := h.form
  have hlen := ok.len
  have hsm := ok.small
  obtain ⟨i0, hi0, hz0, hz1, hz2⟩ := info_parts (P := Try.prog) (e := 3) (z := .int .i64 0) (size := 1) (bytes := 8) (by kernel_rfl)
  have HH := Lib.hid h
  have HOK := Lib.hid ok
  clear h ok
  obtain ⟨B, HBE⟩ : ∃ B, Hid (w.heap.size = B) := ⟨_, Lib.hid rfl⟩
  have S0 := Lib.hid (TwoB.start w (.int .i64 (g.nodes : Int)) (.slice P g.ls.length C) B HBE.out)
  obtain ⟨W, HW⟩ : ∃ W, Hid (((w.alloc (.cells #[.int .i64 (g.nodes : Int), .slice P g.ls.length C] 29)).alloc (.cells #[.int .i64 0, .slice none 0 0] 29)) = W) := ⟨_, Lib.hid rfl⟩
  rw [HW.out] at S0
  have KI := Lib.hid (ref_in (HH.out.kept (fun i hi => S0.out.lo.block i (HH.out.lt i hi)) S0.out.lo.size) HOK.out n)
  obtain ⟨c0, c1, _, _, _, _⟩ := S0.out.cells
  cases hin : g.inn n with
  | none =>
    rw [hin] at KI
    have HD := Lib.hid (drop_not hin)
    clear hin
    have KI' : Hid (Calls Try.prog 24 #[.agg #[.int .i64 (g.nodes : Int), .slice P g.ls.length C], .int .i64 n] W fun e w' => e = .returned (.tuple #[.int .i64 0, .bool false]) ∧ Below W.heap.size W w') := KI
    clear KI
    go_enter Try.func17, Try.ntmps17
    go_upto_region 1 with fail
    rw [HW.out, HBE.out]
    clear HW
    go_wp2_with fail
    refine KI'.out.mono ?_
    rintro e w1 ⟨rfl, b1⟩
    have S1 := Lib.hid (S0.out.below b1)
    obtain ⟨d0, d1, d2, d3, d4, d5⟩ := S1.out.cells
    clear b1 KI' S0 c0 c1
    go_wp2_with fail
    obtain ⟨r6, x6⟩ := (HH.out.kept (fun i hi => S1.out.lo.block i (HH.out.lt i hi)) S1.out.lo.size).put (u0 := .int .i64 (g.nodes : Int)) (u1 := .slice P g.ls.length C) S1.out.b4
    have lo6 := below_put (q := B + 1) (.int .i64 (g.nodes : Int)) (.slice P g.ls.length C) S1.out.lo (by have := S1.out.hB; omega)
    have e0 : ((w1.setCell ⟨B + 1, 0, none⟩ (.int .i64 (g.nodes : Int))).setCell ⟨B + 1, 1, none⟩ (.slice P g.ls.length C)).cell? ⟨B + 1, 0, none⟩ = some (.int .i64 (g.nodes : Int)) := x6.cell 0
    have e1 : ((w1.setCell ⟨B + 1, 0, none⟩ (.int .i64 (g.nodes : Int))).setCell ⟨B + 1, 1, none⟩ (.slice P g.ls.length C)).cell? ⟨B + 1, 1, none⟩ = some (.slice P g.ls.length C) := x6.cell 1
    refine bodyPost_ret (v := .tuple #[.agg #[.int .i64 (g.nodes : Int), .slice P g.ls.length C], .bool false]) ?_ rfl ?_
    · simp [results, Try.f17, go_sem, e0, e1]
    · rw [HD.out]
      exact ⟨_, M, vs, rfl, r6, fun k hk => .inl hk, lo6⟩
  | some i =>
    obtain ⟨x, rfl⟩ : ∃ x : Nat, n = (x : Int) := ⟨n.toNat, by
      unfold Ch.inn at hin
      split at hin
      · omega
      · cases hin⟩
    rw [hin] at KI
    have hat := hin
    rw [Ch.inn_nat] at hat
    have hil := Ch.at_lt hat
    obtain ⟨L, hL, hxL⟩ := Ch.at_mem hat
    have hLl := Nat.le_trans (short_list HOK.out hL) hsm
    have HD : Hid (g.drop (x : Int) = ⟨g.ls.set i (L.filter fun y => decide (y ≠ x)), g.nodes⟩) := by
      rw [drop_is hat]
      unfold Ch.less
      rw [hL]
      exact Lib.hid rfl
    obtain ⟨G, C', q, d, e', cG, hinn⟩ := HH.out.reads hL
    cases e'
    have HIN := Lib.hid hinn
    have HG := Lib.hid cG
    have HL := Lib.hid hL
    have KI' : Hid (Calls Try.prog 24 #[.agg #[.int .i64 (g.nodes : Int), .slice (some ⟨G, 0, none⟩) g.ls.length C], .int .i64 (x : Int)] W fun e w' => e = .returned (.tuple #[.int .i64 (i : Int), .bool true]) ∧ Below W.heap.size W w') := KI
    clear KI hin hat hinn cG hL hxL
    have hiz : (i : Int) < (g.ls.length : Int) := by omega
    go_enter Try.func17, Try.ntmps17
    go_upto_region 1 with fail
    rw [HW.out, HBE.out]
    clear HW
    go_wp2_with fail
    refine KI'.out.mono ?_
    rintro e w1 ⟨rfl, b1⟩
    have S1 := Lib.hid (S0.out.below b1)
    clear b1 KI' S0 c0 c1
    go_wp2_with fail
    go_loopg [8, 9] L.length (fun k v j wx => ∃ (r : Nat) (p : Option Addr) (c : Nat) (R : List Nat), L.length - r = k ∧ r ≤ L.length ∧ v = .slice p R.length c ∧ j = .int .i64 (r : Int) ∧ Hid (R = (L.take r).filter fun y => decide (y ≠ x)) ∧ R.length ≤ r ∧ Hid (TwoB w wx (.int .i64 (g.nodes : Int)) (.slice (some ⟨G, 0, none⟩) g.ls.length C) B) ∧ Hid (wx.ownsRow w.heap.size 3 1 (.slice p R.length c) R.length (R.map natV)))
    case atStart => exact ⟨0, none, 0, [], rfl, by omega, rfl, rfl, Lib.hid rfl, by simp, S1, Lib.hid (World.ownsRow_nil _ _ _ _)⟩
    case round =>
      obtain ⟨r, p, c, R, rfl, hr, rfl, rfl, HR, hRl, HT, HO⟩ := hrel
      clear S1
      obtain ⟨d0, d1, d2, d3, d4, d5⟩ := HT.out.cells
      have cW := (HT.out.lo.cell (p := ⟨G, i, none⟩) (World.block_lt_of_cell? w _ HG.out)).trans HG.out
      by_cases hrl : r = L.length
      · have hz : ¬ (r : Int) < (L.length : Int) := by omega
        have H1 : RefAt (fun k => M k ∨ (w.heap.size ≤ k ∧ k < wr.heap.size)) wr (.slice (some ⟨G, 0, none⟩) g.ls.length C) g vs :=
          (HH.out.kept (fun i hi => HT.out.lo.block i (HH.out.lt i hi)) HT.out.lo.size).more (fun k hk => .inl hk) (fun k hk => hk.elim (fun h => Nat.lt_of_lt_of_le (HH.out.lt k h) HT.out.lo.size) (fun h => h.2))
        have HI : Inner (fun k => M k ∨ (w.heap.size ≤ k ∧ k < wr.heap.size)) wr (.slice p R.length c) R := ⟨p, c, rfl, own_zero HO.out, fun k hk => .inr (HO.out.lt k hk)⟩
        have KW := Lib.hid (ref_with H1 HOK.out i hil R _ HI)
        have HRE : Hid (R = L.filter fun y => decide (y ≠ x)) := by
          have h := HR.out
          rw [hrl, List.take_length] at h
          exact Lib.hid h
        rw [HRE.out, ← HD.out, ← HRE.out] at KW
        have KW' : Hid (Calls Try.prog 31 #[.agg #[.int .i64 (g.nodes : Int), .slice (some ⟨G, 0, none⟩) g.ls.length C], .int .i64 (i : Int), .slice p R.length c] wr (RefC id (fun k => M k ∨ (w.heap.size ≤ k ∧ k < wr.heap.size)) wr (g.drop (x : Int)))) := KW
        clear hrl H1 HI KW HR HO
        go_wp2_with fail
        refine KW'.out.mono ?_
        rintro e w2 ⟨s', M', vs', rfl, R2, hM', b2⟩
        have HN : Hid ((g.drop (x : Int)).nodes = g.nodes) := by rw [HD.out]; exact Lib.hid rfl
        obtain ⟨P', C', rfl⟩ := R2.form
        have T2 := HT.out.below b2
        obtain ⟨r6, x6⟩ := R2.put (u0 := .int .i64 (g.nodes : Int)) (u1 := .slice P' (g.drop (x : Int)).ls.length C') T2.b4
        have lo6 := below_put (q := B + 1) (.int .i64 (g.nodes : Int)) (.slice P' (g.drop (x : Int)).ls.length C') T2.lo (by have := T2.hB; omega)
        obtain ⟨_, _, g2, g3, g4, g5⟩ := T2.cells
        have e0 : ((w2.setCell ⟨B + 1, 0, none⟩ (.int .i64 (g.nodes : Int))).setCell ⟨B + 1, 1, none⟩ (.slice P' (g.drop (x : Int)).ls.length C')).cell? ⟨B + 1, 0, none⟩ = some (.int .i64 (g.nodes : Int)) := x6.cell 0
        have e1 : ((w2.setCell ⟨B + 1, 0, none⟩ (.int .i64 (g.nodes : Int))).setCell ⟨B + 1, 1, none⟩ (.slice P' (g.drop (x : Int)).ls.length C')).cell? ⟨B + 1, 1, none⟩ = some (.slice P' (g.drop (x : Int)).ls.length C') := x6.cell 1
        have HE : Hid (RefC (fun v => .tuple #[v, .bool true]) M w (g.drop (x : Int)) (.returned (.tuple #[.agg #[.int .i64 (g.nodes : Int), .slice P' (g.drop (x : Int)).ls.length C'], .bool true])) ((w2.setCell ⟨B + 1, 0, none⟩ (.int .i64 (g.nodes : Int))).setCell ⟨B + 1, 1, none⟩ (.slice P' (g.drop (x : Int)).ls.length C'))) := by
          refine Lib.hid ⟨_, M', vs', by unfold refV; rw [HN.out], r6, fun k hk => ?_, lo6⟩
          rcases hM' k hk with (h | h) | h
          · exact .inl h
          · exact .inr h.1
          · exact .inr (Nat.le_trans HT.out.lo.size h)
        have hv : id (refV (g.drop (x : Int)) (.slice P' (g.drop (x : Int)).ls.length C')) = .agg #[.int .i64 (g.nodes : Int), .slice P' (g.drop (x : Int)).ls.length C'] := by
          show refV _ _ = _
          unfold refV
          rw [HN.out]
        rw [hv]
        clear hv R2 hM' b2 T2 r6 x6 lo6 HD HT d0 d1 d2 d3 d4 d5
        generalize (g.drop (x : Int)).ls.length = dl at *
        go_wp2_with fail
        refine bodyPost_ret (v := .tuple #[.agg #[.int .i64 (g.nodes : Int), .slice P' dl C'], .bool true]) ?_ rfl HE.out
        simp [results, Try.f17, go_sem, e0, e1]
      · have hrl' : r < L.length := by omega
        have hz : (r : Int) < (L.length : Int) := by omega
        obtain ⟨Q, rfl, cy⟩ := HIN.out.cells hrl'
        obtain ⟨y, HY⟩ : ∃ y, Hid (L[r] = y) := ⟨_, Lib.hid rfl⟩
        rw [HY.out] at cy
        have cy' := (HT.out.lo.cell (p := ⟨Q, r, none⟩) (World.block_lt_of_cell? w _ cy)).trans cy
        have HTK := Lib.hid (List.take_succ_eq_append_getElem hrl')
        rw [HY.out] at HTK
        clear hrl cy
        by_cases hy : y = x
        · have hyz : ((y : Int) != (x : Int)) = false := by simp [hy]
          have HR2 : Hid (R = (L.take (r + 1)).filter fun y => decide (y ≠ x)) := by
            show R = _
            rw [HTK.out, List.filter_append, ← HR.out, hy]
            simp
          clear hy HTK
          go_wp2_with fail
          go_roundg (L.length - (r + 1))
          case measure => omega
          case rel => exact ⟨r + 1, p, c, R, rfl, by omega, rfl, by go_num, HR2, by omega, HT, HO⟩
        · have hyz : ((y : Int) != (x : Int)) = true := by rw [bne_iff_ne]; omega
          have HR2 : Hid (R ++ [y] = (L.take (r + 1)).filter fun y => decide (y ≠ x)) := by
            show R ++ [y] = _
            rw [HTK.out, List.filter_append, ← HR.out]
            simp [hy]
          have hml : R.length + 1 ≤ maxLen := by simp [maxLen]; omega
          have hbs : w.heap.size ≤ wr.heap.size := HT.out.lo.size
          have A1 := Lib.hid (HT.out.below ((Below.refl _ wr).alloc (Nat.le_refl _) (.cells #[.int .i64 (y : Int)] 3)))
          have r5 := HO.out.alloc (.cells #[.int .i64 (y : Int)] 3)
          have HR5 := Lib.hid r5
          clear hy HTK
          go_wp2_with (first | (at_builtin; (refine wpList_append_any _ rfl (.tmp 39) (.tmp 48) 43 rfl w.heap.size 3 i0 (.int .i64 0) 1 8 Try.underlying43 hi0 hz0 hz1 hz2 rfl (by decide) (.slice p R.length c) R.length _ rfl r5 0 _ 1 [.int .i64 (y : Int)] rfl (lit_one wr _) (by intro u hu; simp at hu; subst hu; rfl) hml (by omega) (by simp; omega) ?_; intro p5 c5 w5 own5 gr5 loc5; have HT5 := Lib.hid (A1.out.grown HR5.out (Nat.le_refl _) (by decide) gr5); have HO5 := Lib.hid own5; clear own5 gr5 loc5)))
          have HO6 : Hid (w5.ownsRow w.heap.size 3 1 (.slice p5 (R ++ [y]).length c5) (R ++ [y]).length ((R ++ [y]).map natV)) := by
            show w5.ownsRow _ _ _ _ _ _
            rw [List.length_append, List.map_append]
            exact HO5.out
          have hRl2 : (R ++ [y]).length ≤ r + 1 := by simp; omega
          have hv : Value.slice p5 (R.length + 1) c5 = .slice p5 (R ++ [y]).length c5 := by simp
          clear HO5 HR5 r5 A1
          rw [hv]
          go_roundg (L.length - (r + 1))
          case measure => omega
          case rel => exact ⟨r + 1, p5, c5, R ++ [y], rfl, by omega, rfl, by go_num, HR2, hRl2, HT5, HO6⟩
end
end Go.Proofs.Ythdgpnkkeeebkaa
