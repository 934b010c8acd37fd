/-
  What the document's own Give of layer 4 answers.
-/
import Derived.Test.YtmaofmbnlfggiabArenaNew
namespace Go.Proofs.Ytmaofmbnlfggiab
open Go.RowKit
set_option linter.unusedVariables false

set_option maxHeartbeats 2000000 in
/-- Give, of a handle that does not hold. -/
theorem ref_give_none (pt pk pb : Option Addr) (nt ct nk ck nb cb room : Nat) (ts : List Nat) (l : List Bool) (h : Nat) (w : World) (hF : Fit ts l) (hh : h < 18446744073709551616)
    (ht : w.ownsRow 0 3 1 (.slice pt nt ct) ts.length (ts.map natV)) (hk : w.ownsRow 0 4 1 (.slice pk nk ck) l.length (l.map Value.bool)) (hno : placeOf ts l h = none) :
    Calls Try.prog 31 #[.agg #[.slice pt nt ct, .slice pk nk ck, .slice pb nb cb, .int .i64 (room : Int)], .int .u64 (h : Int)] w fun e w' =>
      e = .returned (.tuple #[.agg #[.slice pt nt ct, .slice pk nk ck, .slice pb nb cb, .int .i64 (room : Int)], .int .i64 40]) ∧ Below w.heap.size w w' := by
  have HX := Lib.hid ((Boxed4.new w (.slice pt nt ct) (.slice pk nk ck) (.slice pb nb cb) (.int .i64 (room : Int))).alloc (.cells #[.slice none 0 0, .slice none 0 0, .slice none 0 0, .int .i64 0] 30))
  have HR := Lib.hid (Boxed4.new (w.alloc (.cells #[.slice pt nt ct, .slice pk nk ck, .slice pb nb cb, .int .i64 (room : Int)] 30)) (.slice none 0 0) (.slice none 0 0) (.slice none 0 0) (.int .i64 0))
  rw [World.size_alloc] at HR
  have HB := Lib.hid (below_two (w := w) (.cells #[.slice pt nt ct, .slice pk nk ck, .slice pb nb cb, .int .i64 (room : Int)] 30) (.cells #[.slice none 0 0, .slice none 0 0, .slice none 0 0, .int .i64 0] 30))
  have HP := Lib.hid (fun w' (g : Below w.heap.size w w') => ref_place pt pk pb nt ct nk ck nb cb (room : Int) ts l h w' hF hh (owns_below ht g) (owns_below hk g))
  rw [hno] at HP
  clear hk ht hno
  go_enter Try.func31, Try.ntmps31
  go_wp2_with fail
  refine (HP.out _ HB.out).mono ?_
  rintro e w3 ⟨rfl, g3⟩
  have hX3 := HX.out.below g3
  have hR3 := HR.out.below g3
  have HB3 := Lib.hid (HB.out.trans (g3.mono HB.out.size))
  have HR4 := Lib.hid (hR3.put (.slice pt nt ct) (.slice pk nk ck) (.slice pb nb cb) (.int .i64 (room : Int)))
  obtain ⟨e0, e1, e2, e3⟩ := hX3.cells
  obtain ⟨r0, r1, r2, r3⟩ := hR3.cells
  have fr := hR3.frozen
  clear g3 HX HR HB HP
  unfold placeV
  simp only [Option.getD_none, Option.isSome_none]
  go_wp2_with fail
  obtain ⟨k0, k1, k2, k3⟩ := HR4.out.cells
  unfold put4 at k0 k1 k2 k3
  refine bodyPost_ret (v := .tuple #[.agg #[.slice pt nt ct, .slice pk nk ck, .slice pb nb cb, .int .i64 (room : Int)], .int .i64 40]) ?_ rfl ⟨rfl, below_put4 HB3.out (by omega) _ _ _ _⟩
  simp [results, Try.f31, go_sem, k0, k1, k2, k3]

theorem Mid.below {w W W' : World} {base : Nat} {vt vk vb : Value} {room nT nK nB : Nat} {xt xk xb : List Value} (h : Mid w W base vt vk vb room nT nK nB xt xk xb) (g : Below W.heap.size W W') : Mid w W' base vt vk vb room nT nK nB xt xk xb :=
  ⟨h.box.below g, h.res.below g, owns_below h.rt g, owns_below h.rk g, owns_below h.rb g, h.old, h.lo.trans (g.mono h.lo.size), h.base⟩
/-- A mark is written. -/
theorem Mid.mark {w W : World} {base gK nK cK : Nat} {vt vb : Value} {room nT nB : Nat} {xt xk xb : List Value} (h : Mid w W base vt (.slice (some ⟨gK, 0, none⟩) nK cK) vb room nT nK nB xt xk xb) (p : Nat) (u : Value) :
    Mid w (W.setCell ⟨gK, p, none⟩ u) base vt (.slice (some ⟨gK, 0, none⟩) nK cK) vb room nT nK nB xt (xk.set p u) xb := by
  have hK := (h.rk.lt gK rfl).1
  have hb := h.base
  exact ⟨h.box.other (h.box.ne_of h.rk (by decide)) u, h.res.other (h.res.ne_of h.rk (by decide)) u, own_set h.rt (own_ne h.rt h.rk (by decide)), (h.rk.stored p u).1, own_set h.rb (own_ne h.rb h.rk (by decide)), h.old, h.lo.setCell (p := ⟨gK, p, none⟩) (by show w.heap.size ≤ gK; omega) u, h.base⟩

/-- What Give leaves, of a handle that held. -/
def GiveOut (w : World) (room : Nat) (ts : List Nat) (l : List Bool) (bk : List Nat) (e : Ending) (w' : World) : Prop :=
  ∃ (pt : Option Addr) (ct : Nat) (pk : Option Addr) (ck : Nat) (pb : Option Addr) (cb : Nat), e = .returned (.tuple #[.agg #[.slice pt ts.length ct, .slice pk l.length ck, .slice pb bk.length cb, .int .i64 (room : Int)], .int .i64 0]) ∧
    w'.ownsRow w.heap.size 3 1 (.slice pt ts.length ct) ts.length (ts.map natV) ∧ w'.ownsRow w.heap.size 4 1 (.slice pk l.length ck) l.length (l.map Value.bool) ∧ w'.ownsRow w.heap.size 3 1 (.slice pb bk.length cb) bk.length (bk.map natV) ∧ Below w.heap.size w w'

set_option maxHeartbeats 4000000 in
set_option maxRecDepth 100000 in
theorem ref_give_some (pt pk pb : Option Addr) (nt ct nk ck nb cb room : Nat) (ts : List Nat) (l : List Bool) (bk : List Nat) (h p : Nat) (w : World) (hF : Fit ts l) (hh : h < 18446744073709551616) (hbk : bk.length < 65536)
    (ht : w.ownsRow 0 3 1 (.slice pt nt ct) ts.length (ts.map natV)) (hk : w.ownsRow 0 4 1 (.slice pk nk ck) l.length (l.map Value.bool)) (hb : w.ownsRow 0 3 1 (.slice pb nb cb) bk.length (bk.map natV)) (hpl : p < l.length) (hyes : placeOf ts l h = some p) :
    Calls Try.prog 31 #[.agg #[.slice pt nt ct, .slice pk nk ck, .slice pb nb cb, .int .i64 (room : Int)], .int .u64 (h : Int)] w (GiveOut w room ts (l.set p false) (bk ++ [p])) := by
  obtain ⟨rfl, _⟩ := own_form hb
  have hl := hF.small
  have hlen := Lib.hid hF.len
  have HX := Lib.hid ((Boxed4.new w (.slice pt nt ct) (.slice pk nk ck) (.slice pb bk.length cb) (.int .i64 (room : Int))).alloc (.cells #[.slice none 0 0, .slice none 0 0, .slice none 0 0, .int .i64 0] 30))
  have HR := Lib.hid (Boxed4.new (w.alloc (.cells #[.slice pt nt ct, .slice pk nk ck, .slice pb bk.length cb, .int .i64 (room : Int)] 30)) (.slice none 0 0) (.slice none 0 0) (.slice none 0 0) (.int .i64 0))
  rw [World.size_alloc] at HR
  have HB := Lib.hid (below_two (w := w) (.cells #[.slice pt nt ct, .slice pk nk ck, .slice pb bk.length cb, .int .i64 (room : Int)] 30) (.cells #[.slice none 0 0, .slice none 0 0, .slice none 0 0, .int .i64 0] 30))
  have HP := Lib.hid (fun w' (g : Below w.heap.size w w') => ref_place pt pk pb nt ct nk ck bk.length cb (room : Int) ts l h w' hF hh (owns_below ht g) (owns_below hk g))
  rw [hyes] at HP
  have HC := Lib.hid (fun w' (g : Below w.heap.size w w') => ref_copied pt pk pb nt ct nk ck bk.length cb (room : Int) ts l w' hF.len hl (owns_below ht g) (owns_below hk g))
  have HBK := Lib.hid hb
  clear hk ht hyes hb
  go_enter Try.func31, Try.ntmps31
  go_wp2_with fail
  refine (HP.out _ HB.out).mono ?_
  rintro e w3 ⟨rfl, g3⟩
  have HX3 := Lib.hid (HX.out.below g3)
  have HR3 := Lib.hid (HR.out.below g3)
  have HB3 := Lib.hid (HB.out.trans (g3.mono HB.out.size))
  obtain ⟨e0, e1, e2, e3⟩ := HX3.out.cells
  clear g3 HX HR HB HP
  unfold placeV
  simp only [Option.getD_some, Option.isSome_some]
  go_wp2_with fail
  refine (HC.out w3 HB3.out).mono ?_
  rintro e w4 ⟨pt4, nt4, ct4, pk4, nk4, ck4, rfl, hT4, hK4, g4⟩
  obtain ⟨rfl, _⟩ := own_form hT4
  obtain ⟨rfl, hK4'⟩ := own_form hK4
  obtain ⟨gK, rfl⟩ := hK4' (by omega)
  have X4 := HX3.out.below g4
  have R4 := HR3.out.below g4
  have B4 := HB3.out.trans (g4.mono HB3.out.size)
  have bk4 := owns_below HBK.out B4
  have fx4 := X4.frozen
  obtain ⟨x0, x1, x2, x3⟩ := X4.cells
  have HM5 : Hid (Mid w (put4 w4 w.heap.size (.slice pt4 ts.length ct4) (.slice (some ⟨gK, 0, none⟩) l.length ck4) (.slice pb bk.length cb) (.int .i64 (room : Int))) w3.heap.size (.slice pt4 ts.length ct4) (.slice (some ⟨gK, 0, none⟩) l.length ck4) (.slice pb bk.length cb) room ts.length l.length bk.length (ts.map natV) (l.map Value.bool) (bk.map natV)) :=
    ⟨X4.put _ _ _ _, R4.put_other (c := w.heap.size) (by omega) _ _ _ _, X4.put_row _ _ _ _ hT4 (by decide), X4.put_row _ _ _ _ hK4 (by decide), X4.put_row _ _ _ _ bk4 (by decide), HBK.out, below_put4 B4 (b := w.heap.size) (Nat.le_refl _) _ _ _ _, HB3.out.size⟩
  obtain ⟨W5, HW5⟩ : ∃ W5, Hid (put4 w4 w.heap.size (.slice pt4 ts.length ct4) (.slice (some ⟨gK, 0, none⟩) l.length ck4) (.slice pb bk.length cb) (.int .i64 (room : Int)) = W5) := ⟨_, Lib.hid rfl⟩
  rw [HW5.out] at HM5
  clear hT4 hK4 hK4' bk4 X4 R4 B4 g4 HX3 HR3 HC e0 e1 e2 e3
  go_upto_region 5 with fail
  unfold put4 at HW5
  rw [HW5.out]
  clear HW5 x0 x1 x2 x3 fx4
  obtain ⟨x0, x1, x2, x3⟩ := HM5.out.box.cells
  have cK : W5.cell? ⟨gK, p, none⟩ = some (.bool l[p]) := by
    rw [HM5.out.rk.cellAt p (by omega)]
    simp [hpl]
  have fK := HM5.out.rk.frozenAt p
  have hpz : (p : Int) < (l.length : Int) := by omega
  go_upto_region 6 with fail
  have HM6 := Lib.hid (HM5.out.mark p (.bool false))
  obtain ⟨W6, HW6⟩ : ∃ W6, Hid (W5.setCell ⟨gK, p, none⟩ (.bool false) = W6) := ⟨_, Lib.hid rfl⟩
  rw [HW6.out] at HM6 ⊢
  clear HW6 HM5 x0 x1 x2 x3 cK fK
  obtain ⟨i0, hi, hz0, hz1, hz2⟩ := info_parts info_int
  have hs5 : 0 + bk.length ≤ maxLen := by unfold maxLen; omega
  have hs6 : bk.length + 1 ≤ maxLen := by unfold maxLen; omega
  have MA := HM6.out.alloc (.cells #[] 3)
  have hlit := lit_empty (e := 3) W6 W6.heap.size (Nat.le_refl _)
  obtain ⟨x0, x1, x2, x3⟩ := MA.box.cells
  go_upto_region 7 with (first | (at_builtin; (refine wpList_append_anyV _ rfl (.tmp 23) (.tmp 25) 27 rfl W6.heap.size 3 i0 (.int .i64 0) 1 8 Try.underlying27 hi hz0 hz1 hz2 rfl (by decide) _ 0 [] rfl hlit 0 _ bk.length (bk.map natV) rfl MA.rb (by intro u hu; obtain ⟨a, _, rfl⟩ := List.mem_map.1 hu; rfl) hs5 (by omega) (by simp) ?_; intro v7 w7 own7 gr7; simp only [Nat.zero_add, List.nil_append] at own7; obtain ⟨p7, c7, rfl⟩ := owns_slice own7; have b7 := ((Below.refl _ W6).alloc (Nat.le_refl _) (.cells #[] 3)).grown gr7 (by simp) (fun k e => by cases e; exact Nat.le_refl _); have one2 := lit_one (e := 3) w7 (.int .i64 (p : Int)); have s7 := b7.size; have o7 := own7.alloc (.cells #[.int .i64 (p : Int)] 3); clear x0 x1 x2 x3)) | (at_builtin; (refine wpList_append_anyV _ rfl (.tmp 26) (.tmp 28) 27 rfl W6.heap.size 3 i0 (.int .i64 0) 1 8 Try.underlying27 hi hz0 hz1 hz2 rfl (by decide) _ bk.length (bk.map natV) rfl o7 0 _ 1 [.int .i64 (p : Int)] rfl one2 (by intro u hu; simp at hu; subst hu; rfl) hs6 (by omega) (by simp; omega) ?_; intro v9 w9 own9 gr9; obtain ⟨p9, c9, rfl⟩ := owns_slice own9; have b9 := (b7.alloc s7 (.cells #[.int .i64 (p : Int)] 3)).grown gr9 (by simp; omega) (fun k e => (own7.lt k e).1); have M9 := HM6.out.below b9; have f9 := M9.box.frozen; obtain ⟨y0, y1, y2, y3⟩ := M9.box.cells)))
  have X10 := M9.box.set2 (.slice p9 (bk.length + 1) c9)
  have R10 := M9.res.other (c := w.heap.size) (i := 2) (by omega) (.slice p9 (bk.length + 1) c9)
  have T10 := M9.box.row (i := 2) (u := (.slice p9 (bk.length + 1) c9)) M9.rt (by decide)
  have K10 := M9.box.row (i := 2) (u := (.slice p9 (bk.length + 1) c9)) M9.rk (by decide)
  have O10 := M9.box.row (i := 2) (u := (.slice p9 (bk.length + 1) c9)) own9 (by decide)
  have L10 := M9.lo.setCell (p := ⟨w.heap.size, 2, none⟩) (Nat.le_refl _) (.slice p9 (bk.length + 1) c9)
  have q1 := own_low (b := w.heap.size) (R10.put_row (.slice pt4 ts.length ct4) (.slice (some ⟨gK, 0, none⟩) l.length ck4) (.slice p9 (bk.length + 1) c9) (.int .i64 (room : Int)) T10 (by decide)) HM6.out.base
  have q2 := own_low (b := w.heap.size) (R10.put_row (.slice pt4 ts.length ct4) (.slice (some ⟨gK, 0, none⟩) l.length ck4) (.slice p9 (bk.length + 1) c9) (.int .i64 (room : Int)) K10 (by decide)) HM6.out.base
  have q3 := own_low (b := w.heap.size) (R10.put_row (.slice pt4 ts.length ct4) (.slice (some ⟨gK, 0, none⟩) l.length ck4) (.slice p9 (bk.length + 1) c9) (.int .i64 (room : Int)) O10 (by decide)) HM6.out.lo.size
  have q4 := below_put4 L10 (b := w.heap.size + 1) (by omega) (.slice pt4 ts.length ct4) (.slice (some ⟨gK, 0, none⟩) l.length ck4) (.slice p9 (bk.length + 1) c9) (.int .i64 (room : Int))
  have HR10 := Lib.hid (R10.put (.slice pt4 ts.length ct4) (.slice (some ⟨gK, 0, none⟩) l.length ck4) (.slice p9 (bk.length + 1) c9) (.int .i64 (room : Int)))
  have Q1 := Lib.hid q1
  have Q2 := Lib.hid q2
  have Q3 := Lib.hid q3
  have Q4 := Lib.hid q4
  obtain ⟨z0, z1, z2, z3⟩ := X10.cells
  obtain ⟨r0, r1, r2, r3⟩ := R10.cells
  have fr := R10.frozen
  clear q1 q2 q3 q4 y0 y1 y2 y3 f9 M9 b9 gr9 own9 o7 s7 one2 b7 gr7 own7 hlit MA HM6
  go_wp2_with fail
  obtain ⟨k0, k1, k2, k3⟩ := HR10.out.cells
  unfold put4 at k0 k1 k2 k3 Q1 Q2 Q3 Q4
  refine bodyPost_ret (v := .tuple #[.agg #[.slice pt4 ts.length ct4, .slice (some ⟨gK, 0, none⟩) l.length ck4, (.slice p9 (bk.length + 1) c9), .int .i64 (room : Int)], .int .i64 0]) ?_ rfl ⟨pt4, ct4, some ⟨gK, 0, none⟩, ck4, p9, c9, by rw [List.length_set, List.length_append]; rfl, Q1.out, by rw [List.length_set, List.map_set]; exact Q2.out, by rw [List.length_append, List.map_append]; exact Q3.out, Q4.out⟩
  simp [results, Try.f31, go_sem, k0, k1, k2, k3]

end Go.Proofs.Ytmaofmbnlfggiab
