/-
  What the document's own Take of layer 4 answers, where there is room and no place was given back: a new place.
-/
import Derived.Test.YtmaofmbnlfggiabArenaTakes
namespace Go.Proofs.Ytmaofmbnlfggiab
open Go.RowKit
set_option linter.unusedVariables false

theorem Boxed4.not_own {w : World} {b : Nat} {v0 v1 v2 v3 : Value} (h : Boxed4 w b v0 v1 v2 v3) {base e size n : Nat} {v : Value} {xs : List Value} (hr : w.ownsRow base e size v n xs) (he : e ≠ 30) : some b ≠ v.ownBlock :=
  fun e => h.not_row hr he e.symm

/-- In the midst of Take, ahead of the appends. -/
structure Mid (w W : World) (base : Nat) (vt vk vb : Value) (room nT nK nB : Nat) (xt xk xb : List Value) : Prop where
  box : Boxed4 W w.heap.size vt vk vb (.int .i64 (room : Int))
  res : Boxed4 W (w.heap.size + 1) (.slice none 0 0) (.slice none 0 0) (.slice none 0 0) (.int .i64 0)
  rt : W.ownsRow base 3 1 vt nT xt
  rk : W.ownsRow base 4 1 vk nK xk
  rb : W.ownsRow 0 3 1 vb nB xb
  old : w.ownsRow 0 3 1 vb nB xb
  lo : Below w.heap.size w W
  base : w.heap.size ≤ base
section
variable {w W : World} {base : Nat} {vt vk vb : Value} {room nT nK nB : Nat} {xt xk xb : List Value}
theorem Mid.alloc (h : Mid w W base vt vk vb room nT nK nB xt xk xb) (o : Obj) : Mid w (W.alloc o) base vt vk vb room nT nK nB xt xk xb :=
  ⟨h.box.alloc o, h.res.alloc o, h.rt.alloc o, h.rk.alloc o, h.rb.alloc o, h.old, h.lo.alloc h.lo.size o, h.base⟩
theorem Mid.boxT (h : Mid w W base vt vk vb room nT nK nB xt xk xb) {W' : World} (g : W.grownBy W' vt.ownBlock) : Boxed4 W' w.heap.size vt vk vb (.int .i64 (room : Int)) :=
  h.box.grown g (h.box.not_own h.rt (by decide))
theorem Mid.boxK (h : Mid w W base vt vk vb room nT nK nB xt xk xb) {W' : World} (g : W.grownBy W' vk.ownBlock) : Boxed4 W' w.heap.size vt vk vb (.int .i64 (room : Int)) :=
  h.box.grown g (h.box.not_own h.rk (by decide))
/-- The counts are appended to, and the arena's field is written. -/
theorem Mid.appT (h : Mid w W base vt vk vb room nT nK nB xt xk xb) {W' : World} {v : Value} {n : Nat} {xs : List Value} (o : W'.ownsRow base 3 1 v n xs) (g : W.grownBy W' vt.ownBlock) :
    Mid w (W'.setCell ⟨w.heap.size, 0, none⟩ v) base v vk vb room n nK nB xs xk xb := by
  have x := h.boxT g
  have r := h.res.grown g (h.res.not_own h.rt (by decide))
  have k := h.rk.kept g (own_ne2 h.rk h.rt (by decide))
  have b := h.rb.kept g (own_far (B := 0) h.old h.rt h.base)
  have l := h.lo.grown g h.lo.size (fun k e => Nat.le_trans h.base (h.rt.lt k e).1)
  exact ⟨x.set0 v, r.other (c := w.heap.size) (i := 0) (by omega) v, x.row o (by decide), x.row k (by decide), x.row b (by decide), h.old, l.setCell (p := ⟨w.heap.size, 0, none⟩) (Nat.le_refl _) v, h.base⟩
/-- The marks are appended to, and the arena's field is written. -/
theorem Mid.appK (h : Mid w W base vt vk vb room nT nK nB xt xk xb) {W' : World} {v : Value} {n : Nat} {xs : List Value} (o : W'.ownsRow base 4 1 v n xs) (g : W.grownBy W' vk.ownBlock) :
    Mid w (W'.setCell ⟨w.heap.size, 1, none⟩ v) base vt v vb room nT n nB xt xs xb := by
  have x := h.boxK g
  have r := h.res.grown g (h.res.not_own h.rk (by decide))
  have t := h.rt.kept g (own_ne2 h.rt h.rk (by decide))
  have b := h.rb.kept g (own_far (B := 0) h.old h.rk h.base)
  have l := h.lo.grown g h.lo.size (fun k e => Nat.le_trans h.base (h.rk.lt k e).1)
  exact ⟨x.set1 v, r.other (c := w.heap.size) (i := 1) (by omega) v, x.row t (by decide), x.row o (by decide), x.row b (by decide), h.old, l.setCell (p := ⟨w.heap.size, 1, none⟩) (Nat.le_refl _) v, h.base⟩
end

theorem Fit.more {ts : List Nat} {l : List Bool} (h : Fit ts l) (hl : l.length < 65536) : Fit (ts ++ [0]) (l ++ [false]) := by
  refine ⟨by simp [h.len], by simp; omega, fun j hj => ?_⟩
  by_cases c : j < l.length
  · rw [List.getElem?_append_left c] at hj
    rw [List.getElem?_append_left (by rw [h.len]; exact c)]
    exact h.pos j hj
  · rw [List.getElem?_append_right (by omega)] at hj
    obtain ⟨h1, h2⟩ := List.getElem?_eq_some_iff.1 hj
    simp at h2

set_option maxHeartbeats 4000000 in
set_option maxRecDepth 100000 in
theorem ref_take_new_core (pt pk pb : Option Addr) (nt ct nk ck cb room : Nat) (ts : List Nat) (l : List Bool) (tsx : List Nat) (lx : List Bool) (p n : Nat) (w : World) (Hx : Hid (ts ++ [0] = tsx)) (Hy : Hid (l ++ [false] = lx)) (Hp : Hid (l.length = p)) (HnZ : Hid (n = 0)) (hF : Fit ts l) (hsp : l.length < 65536)
    (ht : w.ownsRow 0 3 1 (.slice pt nt ct) ts.length (ts.map natV)) (hk : w.ownsRow 0 4 1 (.slice pk nk ck) l.length (l.map Value.bool)) (hb : w.ownsRow 0 3 1 (.slice pb 0 cb) 0 [])
    (hroom : trues l l.length ≠ room) :
    Calls Try.prog 29 #[.agg #[.slice pt nt ct, .slice pk nk ck, .slice pb 0 cb, .int .i64 (room : Int)]] w
      (TakeOut w pb cb room (tsx.set p (n + 1)) (lx.set p true) [] (n * 4294967296 + p + 1)) := by
  have hl := hF.small
  have hlen := Lib.hid hF.len
  have HX := Lib.hid ((Boxed4.new w (.slice pt nt ct) (.slice pk nk ck) (.slice pb 0 cb) (.int .i64 (room : Int))).alloc (.cells #[.slice none 0 0, .slice none 0 0, .slice none 0 0, .int .i64 0] 30))
  have HR := Lib.hid (Boxed4.new (w.alloc (.cells #[.slice pt nt ct, .slice pk nk ck, .slice pb 0 cb, .int .i64 (room : Int)] 30)) (.slice none 0 0) (.slice none 0 0) (.slice none 0 0) (.int .i64 0))
  rw [World.size_alloc] at HR
  have HB := Lib.hid (below_two (w := w) (.cells #[.slice pt nt ct, .slice pk nk ck, .slice pb 0 cb, .int .i64 (room : Int)] 30) (.cells #[.slice none 0 0, .slice none 0 0, .slice none 0 0, .int .i64 0] 30))
  have HK := Lib.hid (fun w' (g : Below w.heap.size w w') => ref_used pt pk pb nt ct nk ck 0 cb (room : Int) l w' hl (owns_below hk g))
  have HC := Lib.hid (fun w' (g : Below w.heap.size w w') => ref_copied pt pk pb nt ct nk ck 0 cb (room : Int) ts l w' hF.len hl (owns_below ht g) (owns_below hk g))
  have hu : ((trues l l.length : Int) == (room : Int)) = false := by simp; omega
  generalize trues l l.length = u at *
  have HBK := Lib.hid hb
  clear hk ht hb hroom
  go_enter Try.func29, Try.ntmps29
  go_upto_region 1 with fail
  obtain ⟨W2, HW⟩ : ∃ W2, Hid ((w.alloc (.cells #[.slice pt nt ct, .slice pk nk ck, .slice pb 0 cb, .int .i64 (room : Int)] 30)).alloc (.cells #[.slice none 0 0, .slice none 0 0, .slice none 0 0, .int .i64 0] 30) = W2) := ⟨_, Lib.hid rfl⟩
  rw [HW.out] at HX HR HB ⊢
  obtain ⟨c0, c1, c2, c3⟩ := HX.out.cells
  go_region_held3 (fun w' => w'.cell? ⟨w.heap.size, 0, none⟩ = some (.slice pt nt ct) ∧ w'.cell? ⟨w.heap.size, 1, none⟩ = some (.slice pk nk ck) ∧ w'.cell? ⟨w.heap.size, 2, none⟩ = some (.slice pb 0 cb) ∧ w'.cell? ⟨w.heap.size, 3, none⟩ = some (.int .i64 (room : Int)))
    (first | go_keep | exact d5)
    (first | (go_at_call 36; refine (HK.out W2.drew HB.out.drew).mono ?_; rintro e w3 ⟨rfl, g3⟩; have d5 := (HX.out.drew.below g3).cells))
  have HX3 := Lib.hid (HX.out.drew.below g3)
  have HR3 := Lib.hid (HR.out.drew.below g3)
  have HB3 := Lib.hid (HB.out.drew.trans (g3.mono HB.out.size))
  obtain ⟨e0, e1, e2, e3⟩ := HX3.out.cells
  clear c0 c1 c2 c3 d5 g3 HX HR HB HW HK
  go_wp2_with fail
  refine (HC.out w3 HB3.out).mono ?_
  rintro e w4 ⟨pt4, nt4, ct4, pk4, nk4, ck4, rfl, hT4, hK4, g4⟩
  obtain ⟨rfl, _⟩ := own_form hT4
  obtain ⟨rfl, _⟩ := own_form hK4
  have X4 := HX3.out.below g4
  have R4 := HR3.out.below g4
  have B4 := HB3.out.trans (g4.mono HB3.out.size)
  have bk4 := owns_below HBK.out B4
  have fx4 := X4.frozen
  obtain ⟨x0, x1, x2, x3⟩ := X4.cells
  have hT5 := X4.put_row (.slice pt4 ts.length ct4) (.slice pk4 l.length ck4) (.slice pb 0 cb) (.int .i64 (room : Int)) hT4 (by decide)
  have hK5 := X4.put_row (.slice pt4 ts.length ct4) (.slice pk4 l.length ck4) (.slice pb 0 cb) (.int .i64 (room : Int)) hK4 (by decide)
  have hb5 := X4.put_row (.slice pt4 ts.length ct4) (.slice pk4 l.length ck4) (.slice pb 0 cb) (.int .i64 (room : Int)) bk4 (by decide)
  have X5 := X4.put (.slice pt4 ts.length ct4) (.slice pk4 l.length ck4) (.slice pb 0 cb) (.int .i64 (room : Int))
  have R5 := R4.put_other (c := w.heap.size) (by omega) (.slice pt4 ts.length ct4) (.slice pk4 l.length ck4) (.slice pb 0 cb) (.int .i64 (room : Int))
  have B5 := below_put4 B4 (b := w.heap.size) (Nat.le_refl _) (.slice pt4 ts.length ct4) (.slice pk4 l.length ck4) (.slice pb 0 cb) (.int .i64 (room : Int))
  have H3 := Lib.hid HB3.out.size
  have H34 := Lib.hid g4.size
  obtain ⟨W5, HW5⟩ : ∃ W5, Hid (put4 w4 w.heap.size (.slice pt4 ts.length ct4) (.slice pk4 l.length ck4) (.slice pb 0 cb) (.int .i64 (room : Int)) = W5) := ⟨_, Lib.hid rfl⟩
  have H45 : Hid (w4.heap.size ≤ W5.heap.size) := by show w4.heap.size ≤ W5.heap.size; rw [← HW5.out]; simp [put4]
  rw [HW5.out] at hT5 hK5 hb5 X5 R5 B5
  have HT5 := Lib.hid hT5
  have HK5 := Lib.hid hK5
  have Hb5 := Lib.hid hb5
  have HX5 := Lib.hid X5
  have HR5 := Lib.hid R5
  have HB5 := Lib.hid B5
  clear hT5 hK5 hb5 X5 R5 B5 hT4 hK4 bk4 X4 R4 B4 g4 HX3 HR3 HC e0 e1 e2 e3
  go_upto_region 4 with fail
  unfold put4 at HW5
  rw [HW5.out]
  clear HW5 x0 x1 x2 x3 fx4
  have fx5 := HX5.out.frozen
  obtain ⟨x0, x1, x2, x3⟩ := HX5.out.cells
  obtain ⟨i0, hi, hz0, hz1, hz2⟩ := info_parts info_int
  obtain ⟨i1, hi', hz0', hz1', hz2'⟩ := info_parts info_bool
  have hs5 : ts.length + 1 ≤ maxLen := by unfold maxLen; have := hlen.out; omega
  have hs6 : l.length + 1 ≤ maxLen := by unfold maxLen; omega
  have hs7 : (ts.length + 1) * 8 ≤ 140737488355328 := by have := hlen.out; omega
  have hbase : w3.heap.size ≤ W5.heap.size := by have := H34.out; have := H45.out; omega
  have HM5 : Hid (Mid w W5 w3.heap.size (.slice pt4 ts.length ct4) (.slice pk4 l.length ck4) (.slice pb 0 cb) room ts.length l.length 0 (ts.map natV) (l.map Value.bool) []) := ⟨HX5.out, HR5.out, HT5.out, HK5.out, Hb5.out, HBK.out, HB5.out, H3.out⟩
  have MA := HM5.out.alloc (.cells #[.int .i64 0] 3)
  have one1 := lit_one (e := 3) W5 (.int .i64 0)
  go_upto_region 11 with (first | (at_builtin; (refine wpList_append_anyV _ rfl (.tmp 37) (.tmp 38) 27 rfl w3.heap.size 3 i0 (.int .i64 0) 1 8 Try.underlying27 hi hz0 hz1 hz2 rfl (by decide) _ ts.length (ts.map natV) rfl MA.rt 0 _ 1 [.int .i64 0] rfl one1 (by intro u hu; simp at hu; subst hu; rfl) hs5 hs7 (by simp; omega) ?_; intro v6 w6 own6 gr6; obtain ⟨p6, c6, rfl⟩ := owns_slice own6; have f6 := (MA.boxT gr6).frozen; have ca6 := (MA.boxT gr6).cells.1; have M7 := MA.appT own6 gr6; obtain ⟨m0, m1, m2, m3⟩ := M7.box.cells; have M8 := M7.alloc (.cells #[.bool false] 4); have one2 := lit_one (e := 4) (w6.setCell ⟨w.heap.size, 0, none⟩ (.slice p6 (ts.length + 1) c6)) (.bool false); rw [World.size_setCell] at one2; have s6 := gr6.size; simp only [World.size_alloc] at s6; clear x0 x1 x2 x3 fx5)) | (at_builtin; (refine wpList_append_anyV _ rfl (.tmp 42) (.tmp 43) 28 rfl w3.heap.size 4 i1 (.bool false) 1 1 Try.underlying28 hi' hz0' hz1' hz2' rfl (by decide) _ l.length (l.map Value.bool) rfl M8.rk 0 _ 1 [.bool false] rfl one2 (by intro u hu; simp at hu; subst hu; rfl) hs6 (by omega) (by simp; omega) ?_; intro v9 w9 own9 gr9; obtain ⟨p9, c9, rfl⟩ := owns_slice own9; have f9 := (M8.boxK gr9).frozen; have ca9 := (M8.boxK gr9).cells.2.1; have M10 := M8.appK own9 gr9; clear m0 m1 m2 m3 f6 ca6)))
  obtain ⟨_, h6⟩ := own_form M10.rt
  obtain ⟨_, h9⟩ := own_form M10.rk
  obtain ⟨gT, rfl⟩ := h6 (by omega)
  obtain ⟨gK, rfl⟩ := h9 (by omega)
  have hFX := Lib.hid (hF.more hsp)
  have S6 : TakeSt w (w9.setCell ⟨w.heap.size, 1, none⟩ (.slice (some ⟨gK, 0, none⟩) (l.length + 1) c9)) w3.heap.size gT gK c6 c9 pb cb room (ts ++ [0]) (l ++ [false]) [] :=
    ⟨(by simpa using M10.box), M10.res, (by simpa [natV] using M10.rt), (by simpa using M10.rk), M10.rb, (by
      intro e
      have h1 := (M10.old.lt gT e).2
      have h2 := (M10.rt.lt gT rfl).1
      have h3 := H3.out
      omega), M10.lo, H3.out⟩
  obtain ⟨W6, HW6⟩ : ∃ W6, Hid (w9.setCell ⟨w.heap.size, 1, none⟩ (.slice (some ⟨gK, 0, none⟩) (l.length + 1) c9) = W6) := ⟨_, Lib.hid rfl⟩
  rw [HW6.out] at S6 ⊢
  rw [Hx.out, Hy.out] at S6
  rw [Hx.out, Hy.out] at hFX
  have HS6 := Lib.hid S6
  have hpl : p < lx.length := by rw [← Hy.out, ← Hp.out]; simp
  have hpt : p < tsx.length := by rw [← Hx.out, ← Hp.out, ← hlen.out]; simp
  have hpf : lx[p] = false := by
    have h : lx[p]? = some false := by rw [← Hy.out, ← Hp.out]; simp
    exact (List.getElem?_eq_some_iff.1 h).2
  have hpn : tsx[p] = n := by
    have h : tsx[p]? = some n := by rw [← Hx.out, ← Hp.out, ← hlen.out, HnZ.out]; simp
    exact (List.getElem?_eq_some_iff.1 h).2
  rw [Hp.out]
  have hlx : lx.length ≤ 65536 := by rw [← Hy.out]; simp; omega
  have htx : tsx.length ≤ 65536 := by rw [← Hx.out]; simp; have := hlen.out; omega
  have hn0 : n < 2147483648 := by rw [HnZ.out]; decide
  clear S6 HW6 M10 M8 M7 MA HM5 own9 own6 gr6 gr9 h6 h9 one1 one2 f9 ca9 HX5 HR5 HT5 HK5 Hb5 HB5 s6 hi hz0 hz1 hz2 hi' hz0' hz1' hz2' hs5 hs6 hs7
  have cT : W6.cell? ⟨gT, p, none⟩ = some (.int .i64 (n : Int)) := by
    rw [HS6.out.rt.cellAt p (by omega)]
    simp [hpt, hpn, natV]
  have fT := HS6.out.rt.frozenAt p
  obtain ⟨x0, x1, x2, x3⟩ := HS6.out.box.cells
  have k7 := own_set (j := p) (u := .int .i64 ((n : Int) + 1)) HS6.out.rk (own_ne HS6.out.rk HS6.out.rt (by decide))
  have cK : (W6.setCell ⟨gT, p, none⟩ (.int .i64 ((n : Int) + 1))).cell? ⟨gK, p, none⟩ = some (.bool false) := by
    rw [k7.cellAt p (by omega)]
    simp [hpl, hpf]
  have fK := k7.frozenAt p
  obtain ⟨y0, y1, y2, y3⟩ := (HS6.out.box.other (i := p) (HS6.out.box.ne_of HS6.out.rt (by decide)) (.int .i64 ((n : Int) + 1))).cells
  have hpz : (p : Int) < (tsx.length : Int) := by omega
  have hpz2 : (p : Int) < (lx.length : Int) := by omega
  clear k7
  go_upto_region 13 with fail
  have HS8 := Lib.hid (HS6.out.wrote p (n + 1))
  rw [show ((n + 1 : Nat) : Int) = (n : Int) + 1 by omega] at HS8
  obtain ⟨W8, HW8⟩ : ∃ W8, Hid ((W6.setCell ⟨gT, p, none⟩ (.int .i64 ((n : Int) + 1))).setCell ⟨gK, p, none⟩ (.bool true) = W8) := ⟨_, Lib.hid rfl⟩
  rw [HW8.out] at HS8 ⊢
  clear HW8 HS6 cT fT x0 x1 x2 x3 cK fK y0 y1 y2 y3
  obtain ⟨x0, x1, x2, x3⟩ := HS8.out.box.cells
  rw [List.length_set] at x0 x1
  have hn1 : n < 2147483648 := by rw [HnZ.out]; decide
  have hFN := hFX.out.taken hpl hn1
  have HH := Lib.hid (ref_handle_some (some ⟨gT, 0, none⟩) (some ⟨gK, 0, none⟩) pb tsx.length c6 lx.length c9 0 cb (room : Int) (tsx.set p (n + 1)) (lx.set p true) p n W8 hFN.small hFN.len (own_cast (own_zero HS8.out.rt) (by simp)) (own_cast (own_zero HS8.out.rk) (by simp)) (by simp [hpl]) (by simp [hpt]) hn1)
  go_wp2_with fail
  refine HH.out.mono ?_
  rintro e w9 ⟨rfl, g9⟩
  have HS9 := Lib.hid (HS8.out.below g9)
  obtain ⟨z0, z1, z2, z3⟩ := HS9.out.box.cells
  rw [List.length_set] at z0 z1
  obtain ⟨r0, r1, r2, r3⟩ := HS9.out.res.cells
  have fr := HS9.out.res.frozen
  have HR9 := Lib.hid (HS9.out.res.put (.slice (some ⟨gT, 0, none⟩) tsx.length c6) (.slice (some ⟨gK, 0, none⟩) lx.length c9) (.slice pb 0 cb) (.int .i64 (room : Int)))
  clear g9 HH HS8 x0 x1 x2 x3 hFN
  go_wp2_with fail
  obtain ⟨k0, k1, k2, k3⟩ := HR9.out.cells
  have q1 := own_low (b := w.heap.size) (HS9.out.res.put_row (.slice (some ⟨gT, 0, none⟩) tsx.length c6) (.slice (some ⟨gK, 0, none⟩) lx.length c9) (.slice pb 0 cb) (.int .i64 (room : Int)) HS9.out.rt (by decide)) HS9.out.base
  have q2 := own_low (b := w.heap.size) (HS9.out.res.put_row (.slice (some ⟨gT, 0, none⟩) tsx.length c6) (.slice (some ⟨gK, 0, none⟩) lx.length c9) (.slice pb 0 cb) (.int .i64 (room : Int)) HS9.out.rk (by decide)) HS9.out.base
  have q3 := HS9.out.res.put_row (.slice (some ⟨gT, 0, none⟩) tsx.length c6) (.slice (some ⟨gK, 0, none⟩) lx.length c9) (.slice pb 0 cb) (.int .i64 (room : Int)) HS9.out.rb (by decide)
  have q4 := below_put4 HS9.out.lo (b := w.heap.size + 1) (by omega) (.slice (some ⟨gT, 0, none⟩) tsx.length c6) (.slice (some ⟨gK, 0, none⟩) lx.length c9) (.slice pb 0 cb) (.int .i64 (room : Int))
  unfold put4 at k0 k1 k2 k3 q1 q2 q3 q4
  refine bodyPost_ret (v := .tuple #[.agg #[.slice (some ⟨gT, 0, none⟩) tsx.length c6, .slice (some ⟨gK, 0, none⟩) lx.length c9, .slice pb 0 cb, .int .i64 (room : Int)], .int .u64 (n * 4294967296 + p + 1 : Nat), .int .i64 0]) ?_ rfl ⟨some ⟨gT, 0, none⟩, c6, some ⟨gK, 0, none⟩, c9, by rw [List.length_set, List.length_set]; rfl, q1, q2, q3, q4⟩
  simp [results, Try.f29, go_sem, k0, k1, k2, k3]

theorem ref_take_new (pt pk pb : Option Addr) (nt ct nk ck cb room : Nat) (ts : List Nat) (l : List Bool) (w : World) (hF : Fit ts l) (hsp : l.length < 65536)
    (ht : w.ownsRow 0 3 1 (.slice pt nt ct) ts.length (ts.map natV)) (hk : w.ownsRow 0 4 1 (.slice pk nk ck) l.length (l.map Value.bool)) (hb : w.ownsRow 0 3 1 (.slice pb 0 cb) 0 []) (hroom : trues l l.length ≠ room) :
    Calls Try.prog 29 #[.agg #[.slice pt nt ct, .slice pk nk ck, .slice pb 0 cb, .int .i64 (room : Int)]] w
      (TakeOut w pb cb room (ts ++ [1]) (l ++ [true]) [] (l.length + 1)) := by
  have h := ref_take_new_core pt pk pb nt ct nk ck cb room ts l _ _ _ 0 w (Lib.hid rfl) (Lib.hid rfl) (Lib.hid rfl) (Lib.hid rfl) hF hsp ht hk hb hroom
  rw [Nat.zero_mul, Nat.zero_add, Nat.zero_add, List.set_append_right _ _ (by rw [hF.len]; exact Nat.le_refl _), List.set_append_right _ _ (Nat.le_refl _), hF.len, Nat.sub_self] at h
  exact h

end Go.Proofs.Ytmaofmbnlfggiab
