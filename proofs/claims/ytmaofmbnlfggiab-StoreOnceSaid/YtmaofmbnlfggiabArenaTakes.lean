/-
  What the document's own Take of layer 4 answers, where there is room: the place that was given back last, or a new one.
-/
import Derived.Test.YtmaofmbnlfggiabArenaTake
namespace Go.Proofs.Ytmaofmbnlfggiab
open Go.RowKit
set_option linter.unusedVariables false

/-- In the midst of Take: the boxed arena, the result's box, the rows. -/
structure TakeSt (w W : World) (base gT gK cT cK : Nat) (pb : Option Addr) (cb : Nat) (room : Nat) (ts : List Nat) (l : List Bool) (bk : List Nat) : Prop where
  box : Boxed4 W w.heap.size (.slice (some ⟨gT, 0, none⟩) ts.length cT) (.slice (some ⟨gK, 0, none⟩) l.length cK) (.slice pb bk.length cb) (.int .i64 (room : Int))
  res : Boxed4 W (w.heap.size + 1) (.slice none 0 0) (.slice none 0 0) (.slice none 0 0) (.int .i64 0)
  rt : W.ownsRow base 3 1 (.slice (some ⟨gT, 0, none⟩) ts.length cT) ts.length (ts.map natV)
  rk : W.ownsRow base 4 1 (.slice (some ⟨gK, 0, none⟩) l.length cK) l.length (l.map Value.bool)
  rb : W.ownsRow 0 3 1 (.slice pb bk.length cb) bk.length (bk.map natV)
  ne : (Value.slice pb bk.length cb).ownBlock ≠ some gT
  lo : Below w.heap.size w W
  base : w.heap.size ≤ base

theorem Boxed4.ne_of {w : World} {b g base e n c : Nat} {v0 v1 v2 v3 : Value} {xs : List Value} (h : Boxed4 w b v0 v1 v2 v3) (hr : w.ownsRow base e 1 (.slice (some ⟨g, 0, none⟩) n c) n xs) (he : e ≠ 30) : b ≠ g :=
  fun e' => h.not_row hr he (by rw [e']; rfl)

/-- The place's count and its mark are written. -/
theorem TakeSt.wrote {w W : World} {base gT gK cT cK : Nat} {pb : Option Addr} {cb room : Nat} {ts : List Nat} {l : List Bool} {bk : List Nat} (h : TakeSt w W base gT gK cT cK pb cb room ts l bk) (p n : Nat) :
    TakeSt w ((W.setCell ⟨gT, p, none⟩ (.int .i64 (n : Int))).setCell ⟨gK, p, none⟩ (.bool true)) base gT gK cT cK pb cb room (ts.set p n) (l.set p true) bk := by
  have hT := (h.rt.lt gT rfl).1
  have hK := (h.rk.lt gK rfl).1
  have hb := h.base
  have t1 := (h.rt.stored p (.int .i64 (n : Int))).1
  have k1 := own_set (j := p) (u := .int .i64 (n : Int)) h.rk (own_ne h.rk h.rt (by decide))
  have b1 := own_set (j := p) (u := .int .i64 (n : Int)) h.rb h.ne
  have x1 := h.box.other (i := p) (h.box.ne_of h.rt (by decide)) (.int .i64 (n : Int))
  have r1 := h.res.other (i := p) (h.res.ne_of h.rt (by decide)) (.int .i64 (n : Int))
  refine ⟨?_, ?_, ?_, ?_, ?_, h.ne, ?_, h.base⟩
  · rw [List.length_set, List.length_set]
    exact x1.other (x1.ne_of k1 (by decide)) _
  · exact r1.other (r1.ne_of k1 (by decide)) _
  · have := own_set (j := p) (u := .bool true) t1 (own_ne t1 k1 (by decide))
    rw [List.length_set, List.map_set]
    exact this
  · have := (k1.stored p (.bool true)).1
    rw [List.length_set, List.map_set]
    exact this
  · exact own_set b1 (own_ne b1 k1 (by decide))
  · exact (h.lo.setCell (p := ⟨gT, p, none⟩) (by show w.heap.size ≤ gT; omega) _).setCell (p := ⟨gK, p, none⟩) (by show w.heap.size ≤ gK; omega) _

theorem Boxed4.put_other {w : World} {b c : Nat} {v0 v1 v2 v3 : Value} (h : Boxed4 w b v0 v1 v2 v3) (hne : b ≠ c) (u0 u1 u2 u3 : Value) : Boxed4 (put4 w c u0 u1 u2 u3) b v0 v1 v2 v3 :=
  (((h.other hne u0).other hne u1).other hne u2).other hne u3

theorem TakeSt.below {w W W' : World} {base gT gK cT cK : Nat} {pb : Option Addr} {cb room : Nat} {ts : List Nat} {l : List Bool} {bk : List Nat} (h : TakeSt w W base gT gK cT cK pb cb room ts l bk) (g : Below W.heap.size W W') : TakeSt w W' base gT gK cT cK pb cb room ts l bk :=
  ⟨h.box.below g, h.res.below g, owns_below h.rt g, owns_below h.rk g, owns_below h.rb g, h.ne, h.lo.trans (g.mono h.lo.size), h.base⟩
theorem Fit.taken {ts : List Nat} {l : List Bool} (h : Fit ts l) {p n : Nat} (hp : p < l.length) (hn : n < 2147483648) : Fit (ts.set p (n + 1)) (l.set p true) := by
  refine ⟨by simpa using h.len, by simpa using h.small, fun j hj => ?_⟩
  by_cases c : p = j
  · subst c
    exact ⟨n, by simp [h.len, hp], hn⟩
  · rw [List.getElem?_set_ne c] at hj ⊢
    exact h.pos j hj

/-- What Take leaves, where there is room. -/
def TakeOut (w : World) (pb : Option Addr) (cb room : Nat) (ts : List Nat) (l : List Bool) (bk : List Nat) (h : Nat) (e : Ending) (w' : World) : Prop :=
  ∃ (pt : Option Addr) (ct : Nat) (pk : Option Addr) (ck : Nat), e = .returned (.tuple #[.agg #[.slice pt ts.length ct, .slice pk l.length ck, .slice pb bk.length cb, .int .i64 (room : Int)], .int .u64 (h : Int), .int .i64 0]) ∧
    w'.ownsRow w.heap.size 3 1 (.slice pt ts.length ct) ts.length (ts.map natV) ∧ w'.ownsRow w.heap.size 4 1 (.slice pk l.length ck) l.length (l.map Value.bool) ∧ w'.ownsRow 0 3 1 (.slice pb bk.length cb) bk.length (bk.map natV) ∧ Below w.heap.size w w'

set_option maxHeartbeats 4000000 in
set_option maxRecDepth 100000 in
theorem ref_take_back (pt pk : Option Addr) (gb nt ct nk ck cb room : Nat) (ts : List Nat) (l : List Bool) (bk : List Nat) (p n : Nat) (w : World) (hF : Fit ts l) (hbk : bk.length < 65536)
    (ht : w.ownsRow 0 3 1 (.slice pt nt ct) ts.length (ts.map natV)) (hk : w.ownsRow 0 4 1 (.slice pk nk ck) l.length (l.map Value.bool)) (hb : w.ownsRow 0 3 1 (.slice (some ⟨gb, 0, none⟩) (bk.length + 1) cb) (bk.length + 1) ((bk ++ [p]).map natV))
    (hroom : trues l l.length ≠ room) (hp : l[p]? = some false) (hn : ts[p]? = some n) (hn1 : n < 2147483648) :
    Calls Try.prog 29 #[.agg #[.slice pt nt ct, .slice pk nk ck, .slice (some ⟨gb, 0, none⟩) (bk.length + 1) cb, .int .i64 (room : Int)]] w
      (TakeOut w (some ⟨gb, 0, none⟩) cb room (ts.set p (n + 1)) (l.set p true) bk (n * 4294967296 + p + 1)) := by
  have hl := hF.small
  have hlen := Lib.hid hF.len
  have HX := Lib.hid ((Boxed4.new w (.slice pt nt ct) (.slice pk nk ck) (.slice (some ⟨gb, 0, none⟩) (bk.length + 1) cb) (.int .i64 (room : Int))).alloc (.cells #[.slice none 0 0, .slice none 0 0, .slice none 0 0, .int .i64 0] 30))
  have HR := Lib.hid (Boxed4.new (w.alloc (.cells #[.slice pt nt ct, .slice pk nk ck, .slice (some ⟨gb, 0, none⟩) (bk.length + 1) cb, .int .i64 (room : Int)] 30)) (.slice none 0 0) (.slice none 0 0) (.slice none 0 0) (.int .i64 0))
  rw [World.size_alloc] at HR
  have HB := Lib.hid (below_two (w := w) (.cells #[.slice pt nt ct, .slice pk nk ck, .slice (some ⟨gb, 0, none⟩) (bk.length + 1) cb, .int .i64 (room : Int)] 30) (.cells #[.slice none 0 0, .slice none 0 0, .slice none 0 0, .int .i64 0] 30))
  have HK := Lib.hid (fun w' (g : Below w.heap.size w w') => ref_used pt (pk) (some ⟨gb, 0, none⟩) nt ct nk ck (bk.length + 1) cb (room : Int) l w' hl (owns_below hk g))
  have HC := Lib.hid (fun w' (g : Below w.heap.size w w') => ref_copied pt pk (some ⟨gb, 0, none⟩) nt ct nk ck (bk.length + 1) cb (room : Int) ts l w' hF.len hl (owns_below ht g) (owns_below hk g))
  have hu : ((trues l l.length : Int) == (room : Int)) = false := by simp; omega
  generalize trues l l.length = u at *
  have HBK := Lib.hid hb
  have HP := Lib.hid hp
  have HNN := Lib.hid hn
  clear hk ht hb hp hn hroom
  go_enter Try.func29, Try.ntmps29
  go_upto_region 1 with fail
  obtain ⟨W2, HW⟩ : ∃ W2, Hid ((w.alloc (.cells #[.slice pt nt ct, .slice pk nk ck, .slice (some ⟨gb, 0, none⟩) (bk.length + 1) cb, .int .i64 (room : Int)] 30)).alloc (.cells #[.slice none 0 0, .slice none 0 0, .slice none 0 0, .int .i64 0] 30) = W2) := ⟨_, Lib.hid rfl⟩
  rw [HW.out] at HX HR HB ⊢
  obtain ⟨c0, c1, c2, c3⟩ := HX.out.cells
  go_region_held3 (fun w' => w'.cell? ⟨w.heap.size, 0, none⟩ = some (.slice pt nt ct) ∧ w'.cell? ⟨w.heap.size, 1, none⟩ = some (.slice pk nk ck) ∧ w'.cell? ⟨w.heap.size, 2, none⟩ = some (.slice (some ⟨gb, 0, none⟩) (bk.length + 1) cb) ∧ w'.cell? ⟨w.heap.size, 3, none⟩ = some (.int .i64 (room : Int)))
    (first | go_keep | exact d5)
    (first | (go_at_call 36; refine (HK.out W2.drew HB.out.drew).mono ?_; rintro e w3 ⟨rfl, g3⟩; have d5 := (HX.out.drew.below g3).cells))
  have HX3 := Lib.hid (HX.out.drew.below g3)
  have HR3 := Lib.hid (HR.out.drew.below g3)
  have HB3 := Lib.hid (HB.out.drew.trans (g3.mono HB.out.size))
  obtain ⟨e0, e1, e2, e3⟩ := HX3.out.cells
  clear c0 c1 c2 c3 d5 g3 HX HR HB HW HK
  go_wp2_with fail
  refine (HC.out w3 HB3.out).mono ?_
  rintro e w4 ⟨pt4, nt4, ct4, pk4, nk4, ck4, rfl, hT4, hK4, g4⟩
  obtain ⟨hpl, hpf⟩ := List.getElem?_eq_some_iff.1 HP.out
  obtain ⟨hpt, hpn⟩ := List.getElem?_eq_some_iff.1 HNN.out
  obtain ⟨rfl, hT4'⟩ := own_form hT4
  obtain ⟨rfl, hK4'⟩ := own_form hK4
  obtain ⟨gT, rfl⟩ := hT4' (by omega)
  obtain ⟨gK, rfl⟩ := hK4' (by omega)
  have X4 := HX3.out.below g4
  have R4 := HR3.out.below g4
  have B4 := HB3.out.trans (g4.mono HB3.out.size)
  have bk4 := owns_below HBK.out B4
  have fx4 := X4.frozen
  obtain ⟨x0, x1, x2, x3⟩ := X4.cells
  have hT5 := X4.put_row (.slice (some ⟨gT, 0, none⟩) ts.length ct4) (.slice (some ⟨gK, 0, none⟩) l.length ck4) (.slice (some ⟨gb, 0, none⟩) (bk.length + 1) cb) (.int .i64 (room : Int)) hT4 (by decide)
  have hK5 := X4.put_row (.slice (some ⟨gT, 0, none⟩) ts.length ct4) (.slice (some ⟨gK, 0, none⟩) l.length ck4) (.slice (some ⟨gb, 0, none⟩) (bk.length + 1) cb) (.int .i64 (room : Int)) hK4 (by decide)
  have hb5 := X4.put_row (.slice (some ⟨gT, 0, none⟩) ts.length ct4) (.slice (some ⟨gK, 0, none⟩) l.length ck4) (.slice (some ⟨gb, 0, none⟩) (bk.length + 1) cb) (.int .i64 (room : Int)) bk4 (by decide)
  have X5 := X4.put (.slice (some ⟨gT, 0, none⟩) ts.length ct4) (.slice (some ⟨gK, 0, none⟩) l.length ck4) (.slice (some ⟨gb, 0, none⟩) (bk.length + 1) cb) (.int .i64 (room : Int))
  have R5 := R4.put_other (c := w.heap.size) (by omega) (.slice (some ⟨gT, 0, none⟩) ts.length ct4) (.slice (some ⟨gK, 0, none⟩) l.length ck4) (.slice (some ⟨gb, 0, none⟩) (bk.length + 1) cb) (.int .i64 (room : Int))
  have B5 := below_put4 B4 (b := w.heap.size) (Nat.le_refl _) (.slice (some ⟨gT, 0, none⟩) ts.length ct4) (.slice (some ⟨gK, 0, none⟩) l.length ck4) (.slice (some ⟨gb, 0, none⟩) (bk.length + 1) cb) (.int .i64 (room : Int))
  have HgT := Lib.hid (hT4.lt gT rfl).1
  have Hgb := Lib.hid (HBK.out.lt gb rfl).2
  have H3 := Lib.hid HB3.out.size
  obtain ⟨W5, HW5⟩ : ∃ W5, Hid (put4 w4 w.heap.size (.slice (some ⟨gT, 0, none⟩) ts.length ct4) (.slice (some ⟨gK, 0, none⟩) l.length ck4) (.slice (some ⟨gb, 0, none⟩) (bk.length + 1) cb) (.int .i64 (room : Int)) = W5) := ⟨_, Lib.hid rfl⟩
  rw [HW5.out] at hT5 hK5 hb5 X5 R5 B5
  have HT5 := Lib.hid hT5
  have HK5 := Lib.hid hK5
  have Hb5 := Lib.hid hb5
  have HX5 := Lib.hid X5
  have HR5 := Lib.hid R5
  have HB5 := Lib.hid B5
  clear hT5 hK5 hb5 X5 R5 B5 hT4 hK4 hT4' hK4' bk4 X4 R4 B4 g4 HX3 HR3 HC e0 e1 e2 e3
  go_upto_region 4 with fail
  unfold put4 at HW5
  rw [HW5.out]
  clear HW5 x0 x1 x2 x3 fx4
  have fx5 := HX5.out.frozen
  obtain ⟨x0, x1, x2, x3⟩ := HX5.out.cells
  have cp : W5.cell? ⟨gb, bk.length, none⟩ = some (.int .i64 (p : Int)) := by
    rw [Hb5.out.cellAt bk.length (by omega)]
    simp [natV]
  obtain ⟨hcb, hcb2⟩ := own_cap HBK.out
  go_upto_region 11 with fail
  have hb6 := own_init (xs := bk.map natV) (ys := [natV p]) (m := bk.length) (by have h := Hb5.out; rw [List.map_append] at h; exact h) (by simp) (by omega)
  have S6 : TakeSt w (W5.setCell ⟨w.heap.size, 2, none⟩ (.slice (some ⟨gb, 0, none⟩) bk.length cb)) w3.heap.size gT gK ct4 ck4 (some ⟨gb, 0, none⟩) cb room ts l bk :=
    ⟨HX5.out.set2 _, HR5.out.other (c := w.heap.size) (i := 2) (by omega) _, HX5.out.row (i := 2) HT5.out (by decide), HX5.out.row (i := 2) HK5.out (by decide), HX5.out.row (i := 2) hb6 (by decide), (by
      intro e
      have h1 : gb = gT := by simpa [Value.ownBlock] using e
      have h2 := HgT.out
      have h3 := Hgb.out
      have h4 := H3.out
      omega), HB5.out.setCell (p := ⟨w.heap.size, 2, none⟩) (Nat.le_refl _) _, H3.out⟩
  obtain ⟨W6, HW6⟩ : ∃ W6, Hid (W5.setCell ⟨w.heap.size, 2, none⟩ (.slice (some ⟨gb, 0, none⟩) bk.length cb) = W6) := ⟨_, Lib.hid rfl⟩
  rw [HW6.out] at S6 ⊢
  have HS6 := Lib.hid S6
  clear S6 hb6 HW6 HX5 HR5 HT5 HK5 Hb5 HB5 x0 x1 x2 x3 fx5 cp
  have cT : W6.cell? ⟨gT, p, none⟩ = some (.int .i64 (n : Int)) := by
    rw [HS6.out.rt.cellAt p (by omega)]
    simp [hpt, hpn, natV]
  have fT := HS6.out.rt.frozenAt p
  obtain ⟨x0, x1, x2, x3⟩ := HS6.out.box.cells
  have k7 := own_set (j := p) (u := .int .i64 ((n : Int) + 1)) HS6.out.rk (own_ne HS6.out.rk HS6.out.rt (by decide))
  have cK : (W6.setCell ⟨gT, p, none⟩ (.int .i64 ((n : Int) + 1))).cell? ⟨gK, p, none⟩ = some (.bool false) := by
    rw [k7.cellAt p (by omega)]
    simp [hpl, hpf]
  have fK := k7.frozenAt p
  obtain ⟨y0, y1, y2, y3⟩ := (HS6.out.box.other (i := p) (HS6.out.box.ne_of HS6.out.rt (by decide)) (.int .i64 ((n : Int) + 1))).cells
  have hpz : (p : Int) < (ts.length : Int) := by omega
  have hpz2 : (p : Int) < (l.length : Int) := by omega
  clear k7
  go_upto_region 13 with fail
  have HS8 := Lib.hid (HS6.out.wrote p (n + 1))
  rw [show ((n + 1 : Nat) : Int) = (n : Int) + 1 by omega] at HS8
  obtain ⟨W8, HW8⟩ : ∃ W8, Hid ((W6.setCell ⟨gT, p, none⟩ (.int .i64 ((n : Int) + 1))).setCell ⟨gK, p, none⟩ (.bool true) = W8) := ⟨_, Lib.hid rfl⟩
  rw [HW8.out] at HS8 ⊢
  clear HW8 HS6 cT fT x0 x1 x2 x3 cK fK y0 y1 y2 y3
  obtain ⟨x0, x1, x2, x3⟩ := HS8.out.box.cells
  rw [List.length_set] at x0 x1
  have hFN := hF.taken hpl hn1
  have HH := Lib.hid (ref_handle_some (some ⟨gT, 0, none⟩) (some ⟨gK, 0, none⟩) (some ⟨gb, 0, none⟩) ts.length ct4 l.length ck4 bk.length cb (room : Int) (ts.set p (n + 1)) (l.set p true) p n W8 hFN.small hFN.len (own_cast (own_zero HS8.out.rt) (by simp)) (own_cast (own_zero HS8.out.rk) (by simp)) (by simp [hpl]) (by simp [hpt]) hn1)
  go_wp2_with fail
  refine HH.out.mono ?_
  rintro e w9 ⟨rfl, g9⟩
  have HS9 := Lib.hid (HS8.out.below g9)
  obtain ⟨z0, z1, z2, z3⟩ := HS9.out.box.cells
  rw [List.length_set] at z0 z1
  obtain ⟨r0, r1, r2, r3⟩ := HS9.out.res.cells
  have fr := HS9.out.res.frozen
  have HR9 := Lib.hid (HS9.out.res.put (.slice (some ⟨gT, 0, none⟩) ts.length ct4) (.slice (some ⟨gK, 0, none⟩) l.length ck4) (.slice (some ⟨gb, 0, none⟩) bk.length cb) (.int .i64 (room : Int)))
  clear g9 HH HS8 x0 x1 x2 x3 hFN
  go_wp2_with fail
  obtain ⟨k0, k1, k2, k3⟩ := HR9.out.cells
  have q1 := own_low (b := w.heap.size) (HS9.out.res.put_row (.slice (some ⟨gT, 0, none⟩) ts.length ct4) (.slice (some ⟨gK, 0, none⟩) l.length ck4) (.slice (some ⟨gb, 0, none⟩) bk.length cb) (.int .i64 (room : Int)) HS9.out.rt (by decide)) HS9.out.base
  have q2 := own_low (b := w.heap.size) (HS9.out.res.put_row (.slice (some ⟨gT, 0, none⟩) ts.length ct4) (.slice (some ⟨gK, 0, none⟩) l.length ck4) (.slice (some ⟨gb, 0, none⟩) bk.length cb) (.int .i64 (room : Int)) HS9.out.rk (by decide)) HS9.out.base
  have q3 := HS9.out.res.put_row (.slice (some ⟨gT, 0, none⟩) ts.length ct4) (.slice (some ⟨gK, 0, none⟩) l.length ck4) (.slice (some ⟨gb, 0, none⟩) bk.length cb) (.int .i64 (room : Int)) HS9.out.rb (by decide)
  have q4 := below_put4 HS9.out.lo (b := w.heap.size + 1) (by omega) (.slice (some ⟨gT, 0, none⟩) ts.length ct4) (.slice (some ⟨gK, 0, none⟩) l.length ck4) (.slice (some ⟨gb, 0, none⟩) bk.length cb) (.int .i64 (room : Int))
  unfold put4 at k0 k1 k2 k3 q1 q2 q3 q4
  refine bodyPost_ret (v := .tuple #[.agg #[.slice (some ⟨gT, 0, none⟩) ts.length ct4, .slice (some ⟨gK, 0, none⟩) l.length ck4, .slice (some ⟨gb, 0, none⟩) bk.length cb, .int .i64 (room : Int)], .int .u64 (n * 4294967296 + p + 1 : Nat), .int .i64 0]) ?_ rfl ⟨some ⟨gT, 0, none⟩, ct4, some ⟨gK, 0, none⟩, ck4, by rw [List.length_set, List.length_set], q1, q2, q3, q4⟩
  simp [results, Try.f29, go_sem, k0, k1, k2, k3]

end Go.Proofs.Ytmaofmbnlfggiab
