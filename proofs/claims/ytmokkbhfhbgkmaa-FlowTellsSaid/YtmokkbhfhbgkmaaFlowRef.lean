/-
  The document's own flow (package sandglassref12): the same plain functions as the program's.
-/
import Derived.Test.YtmokkbhfhbgkmaaFlowEq
import Derived.Test.YtmokkbhfhbgkmaaSpanRef
namespace Go.Proofs.Ytmokkbhfhbgkmaa
open Go.RowKit
set_option linter.unusedVariables false
set_option linter.unusedSimpArgs false
set_option maxRecDepth 100000

theorem ref12_rate (f : Fl) (p : Pc) (hf : f.Fits) (hp : p.Fits) (w : World) :
    Calls Try.prog 35 #[f.v, p.v] w fun e w' => e = .returned (.int .u64 (f.by p)) ∧ Below w.heap.size w w' := by
  have HC := Lib.hid fun W => ref_lesser f.rate p.most W hf.rate hp.most
  obtain ⟨so, ck, rate, cr, nx, db, ag⟩ := f
  obtain ⟨q, first, refill, most, low⟩ := p
  clear hf hp
  simp only [Fl.v, Pc.v, Fl.c, Pc.c, Fl.by] at HC ⊢
  go_enter Try.func35, Try.ntmps35
  go_wp2_with (go_at_call 68; refine (HC.out _).mono ?_; rintro e w' ⟨rfl, rfl⟩)
  go_ret
  exact ⟨rfl, ((Below.refl _ _).alloc (Nat.le_refl _) _).alloc (by simp) _⟩
theorem ref12_ready (f : Fl) (at' : Int) (hf : f.Fits) (ha : Num.Word at') (w : World) :
    Calls Try.prog 37 #[f.v, .int .u64 at'] w fun e w' => e = .returned (.int .u64 (max at' f.nx)) ∧ Below w.heap.size w w' := by
  obtain ⟨so, ck, rate, cr, nx, db, ag⟩ := f
  obtain ⟨n0, n1⟩ := hf.nx
  obtain ⟨a0, a1⟩ := ha
  clear hf
  simp only [Fl.v, Fl.c] at n0 n1 ⊢
  by_cases c : at' < nx
  · have e : Hid (max at' nx = nx) := Lib.hid (by omega)
    go_enter Try.func37, Try.ntmps37
    go_wp2_with fail
    go_ret
    exact ⟨by rw [e.out]; rfl, (Below.refl _ _).alloc (Nat.le_refl _) _⟩
  · have e : Hid (max at' nx = at') := Lib.hid (by omega)
    have c1 : decide (at' < nx) = false := by simpa using c
    go_enter Try.func37, Try.ntmps37
    go_wp2_with fail
    go_ret
    exact ⟨by rw [e.out]; rfl, (Below.refl _ _).alloc (Nat.le_refl _) _⟩
theorem ref12_born (so ck : Int) (p : Pc) (w : World) :
    Calls Try.prog 25 #[.int .u64 so, .int .u64 ck, p.v] w fun e w' => e = .returned (Fl.born so ck p).v ∧ Below w.heap.size w w' := by
  obtain ⟨q, first, refill, most, low⟩ := p
  simp only [Fl.v, Pc.v, Fl.c, Pc.c, Fl.born]
  obtain ⟨W, bp, hW, hb, XP, LO5⟩ := one_more w #[.int .i64 q, .int .i64 first, .int .u64 refill, .int .u64 most, .int .u64 low] 59
  obtain ⟨W2, br, hW2, hb2, XR, LO6⟩ := one_more W #[.int .u64 0, .int .u64 0, .int .u64 0, .int .i64 0, .int .u64 0, .int .u64 0, .int .u64 0] 63
  obtain ⟨W3, bf, hW3, hb3, XF, LO7⟩ := one_more W2 #[.int .u64 0, .int .u64 0, .int .u64 0, .int .i64 0, .int .u64 0, .int .u64 0, .int .u64 0] 63
  have e1 : Hid (bp + 1 = br) := by
    refine Lib.hid ?_
    rw [← hb2.out, ← hb.out, ← hW.out, World.size_alloc]
  have e2 : Hid (br + 1 = bf) := by
    refine Lib.hid ?_
    rw [← hb3.out, ← hb2.out, ← hW2.out, World.size_alloc]
  have LO := Lib.hid (below_tr (below_tr LO5.out LO6.out) LO7.out)
  have hle : Hid (w.heap.size ≤ br) := Lib.hid (by have := hb.out; have := e1.out; omega)
  replace XP := Lib.hid ((XP.out.below LO6.out XP.out.lt).below LO7.out (Box.lt (XP.out.below LO6.out XP.out.lt)))
  replace XR := Lib.hid (XR.out.below LO7.out XR.out.lt)
  go_enter Try.func25, Try.ntmps25
  go_upto_region 2 with fail
  rw [hW.out, hW2.out, hW3.out, hb.out, e1.out, e2.out]
  have c1 : W3.cell? ⟨bp, 1, none⟩ = some (.int .i64 first) := XP.out.cell 1
  have np : bf ≠ bp := by have := e1.out; have := e2.out; omega
  have f0 := XF.out.frozen 0
  have f1 := XF.out.frozen 1
  have f3 := XF.out.frozen 3
  have x0 := XF.out.cell 0
  have x1 := XF.out.cell 1
  have x2 := XF.out.cell 2
  have x3 := XF.out.cell 3
  have x4 := XF.out.cell 4
  have x5 := XF.out.cell 5
  have x6 := XF.out.cell 6
  simp at x0 x1 x2 x3 x4 x5 x6
  clear hW hW2 hW3 hb hb2 hb3 LO5 LO6 LO7
  go_cut [] (fun wx => ∃ V, V = wx ∧ Hid (Box V bf 63 #[.int .u64 so, .int .u64 ck, .int .u64 0, .int .i64 first, .int .u64 0, .int .u64 0, .int .u64 0] ∧ Box V br 63 #[.int .u64 0, .int .u64 0, .int .u64 0, .int .i64 0, .int .u64 0, .int .u64 0, .int .u64 0] ∧ Below w.heap.size w V))
  case first =>
    go_region_held3 (fun w' => w'.cell? ⟨bp, 1, none⟩ = some (.int .i64 first)) (first | go_keep | exact c1) (fail)
    all_goals
      go_wp2_with fail
      go_meet
      refine ⟨_, rfl, Lib.hid ⟨?_, ?_, ?_⟩⟩
      · have h := ((XF.out.set 0 (.int .u64 so)).set 1 (.int .u64 ck)).set 3 (.int .i64 first)
        have h2 : Box (((W3.setCell ⟨bf, 0, none⟩ (.int .u64 so)).setCell ⟨bf, 1, none⟩ (.int .u64 ck)).setCell ⟨bf, 3, none⟩ (.int .i64 first)) bf 63 #[.int .u64 so, .int .u64 ck, .int .u64 0, .int .i64 first, .int .u64 0, .int .u64 0, .int .u64 0] := by simpa using h
        exact h2
      · exact ((XR.out.other (c := bf) (by have := e2.out; omega) _).other (c := bf) (by have := e2.out; omega) _).other (c := bf) (by have := e2.out; omega) _
      · refine Below.drew ?_
        exact ((LO.out.setCell (p := ⟨bf, 0, none⟩) (by simp; have := e2.out; have := hle.out; omega) _).setCell (p := ⟨bf, 1, none⟩) (by simp; have := e2.out; have := hle.out; omega) _).setCell (p := ⟨bf, 3, none⟩) (by simp; have := e2.out; have := hle.out; omega) _
  case rest =>
    obtain ⟨V, rfl, HV⟩ := hcut
    clear c1 f0 f1 f3 x0 x1 x2 x3 x4 x5 x6 XF XR XP LO
    have x0 := HV.out.1.cell 0
    have x1 := HV.out.1.cell 1
    have x2 := HV.out.1.cell 2
    have x3 := HV.out.1.cell 3
    have x4 := HV.out.1.cell 4
    have x5 := HV.out.1.cell 5
    have x6 := HV.out.1.cell 6
    simp at x0 x1 x2 x3 x4 x5 x6
    have hz : FBox V br 63 ⟨0, 0, 0, 0, 0, 0, 0⟩ := HV.out.2.1
    obtain ⟨h0, h1, h2, h3, h4, h5, h6⟩ := hz.cells
    obtain ⟨f0, f1, f2, f3, f4, f5, f6⟩ := hz.frozen
    obtain ⟨y0, y1, y2, y3, y4, y5, y6⟩ := (hz.put ⟨so, ck, 0, first, 0, 0, 0⟩).cells
    simp only at h0 h1 h2 h3 h4 h5 h6 y0 y1 y2 y3 y4 y5 y6
    clear hz
    go_wp2_with fail
    exact bodyPost_ret (v := .agg #[.int .u64 so, .int .u64 ck, .int .u64 0, .int .i64 first, .int .u64 0, .int .u64 0, .int .u64 0]) (by simp [results, Try.f25, go_sem, y0, y1, y2, y3, y4, y5, y6]) rfl ⟨rfl, putF_below HV.out.2.2 hle.out ⟨so, ck, 0, first, 0, 0, 0⟩⟩
theorem ref12_fill (f : Fl) (p : Pc) (w : World) :
    Calls Try.prog 29 #[f.v, p.v] w fun e w' => e = .returned (f.fill p).v ∧ Below w.heap.size w w' := by
  obtain ⟨so, ck, rate, cr, nx, db, ag⟩ := f
  obtain ⟨q, first, refill, most, low⟩ := p
  simp only [Fl.v, Pc.v, Fl.c, Pc.c, Fl.fill]
  go_enter Try.func29, Try.ntmps29
  go_wp2_with fail
  exact bodyPost_ret (v := .agg #[.int .u64 so, .int .u64 ck, .int .u64 rate, .int .i64 (wrap64 (cr + q)), .int .u64 nx, .int .u64 db, .int .u64 ag]) (by simp [results, Try.f29, go_sem]) rfl ⟨rfl, (((Below.refl _ _).alloc (Nat.le_refl _) _).alloc (by simp) _).alloc (by simp; omega) _⟩
theorem ref12_rest (f : Fl) (now : Int) (w : World) :
    Calls Try.prog 31 #[f.v, .int .u64 now] w fun e w' => e = .returned (f.rest now).v ∧ Below w.heap.size w w' := by
  obtain ⟨so, ck, rate, cr, nx, db, ag⟩ := f
  simp only [Fl.v, Fl.c, Fl.rest]
  go_enter Try.func31, Try.ntmps31
  go_wp2_with fail
  exact bodyPost_ret (v := .agg #[.int .u64 so, .int .u64 ck, .int .u64 rate, .int .i64 cr, .int .u64 nx, .int .u64 db, .int .u64 (now)]) (by simp [results, Try.f31, go_sem]) rfl ⟨rfl, ((Below.refl _ _).alloc (Nat.le_refl _) _).alloc (by simp) _⟩
theorem ref12_pay (f : Fl) (at' r : Int) (hf : f.Fits) (ha : Num.Word at') (hr : Num.Word r) (w : World) :
    Calls Try.prog 61 #[f.v, .int .u64 at', .int .u64 r] w fun e w' => e = .returned (f.pay at' r).v ∧ Below w.heap.size w w' := by
  have HT := Lib.hid fun W => ref_time f.db r W hf.db hr
  have HA := Lib.hid fun W => ref_add at' (Num.time f.db r) W ha (Num.time_word hf.db hr)
  obtain ⟨y0, y1⟩ := Num.add_word ha (Num.time_word hf.db hr)
  obtain ⟨n0, n1⟩ := hf.nx
  obtain ⟨y, Hy⟩ : ∃ y, Hid (Num.add at' (Num.time f.db r) = y) := ⟨_, Lib.hid rfl⟩
  rw [Hy.out] at HA y0 y1
  obtain ⟨so, ck, rate, cr, nx, db, ag⟩ := f
  clear hf
  simp only [Fl.v, Fl.c, Fl.pay] at HT HA Hy n0 n1 ⊢
  rw [Hy.out]
  clear Hy
  by_cases c : nx < y
  · have e : max nx y = y := by omega
    rw [e]
    clear e
    go_enter Try.func61, Try.ntmps61
    go_wp2_with (first | (go_at_call 79; refine (HT.out _).mono ?_; rintro e w' ⟨rfl, rfl⟩) | (go_at_call 66; refine (HA.out _).mono ?_; rintro e w' ⟨rfl, rfl⟩))
    exact bodyPost_ret (v := .agg #[.int .u64 so, .int .u64 ck, .int .u64 rate, .int .i64 cr, .int .u64 (y), .int .u64 (0), .int .u64 ag]) (by simp [results, Try.f61, go_sem]) rfl ⟨rfl, ((Below.refl _ _).alloc (Nat.le_refl _) _).alloc (by simp) _⟩
  · have e : max nx y = nx := by omega
    have c1 : decide (nx < y) = false := by simpa using c
    rw [e]
    clear e
    go_enter Try.func61, Try.ntmps61
    go_wp2_with (first | (go_at_call 79; refine (HT.out _).mono ?_; rintro e w' ⟨rfl, rfl⟩) | (go_at_call 66; refine (HA.out _).mono ?_; rintro e w' ⟨rfl, rfl⟩))
    exact bodyPost_ret (v := .agg #[.int .u64 so, .int .u64 ck, .int .u64 rate, .int .i64 cr, .int .u64 nx, .int .u64 (0), .int .u64 ag]) (by simp [results, Try.f61, go_sem]) rfl ⟨rfl, ((Below.refl _ _).alloc (Nat.le_refl _) _).alloc (by simp) _⟩
theorem ref12_right (p : Pc) (w : World) :
    Calls Try.prog 22 #[p.v] w fun e w' => e = .returned (.bool p.right) ∧ Below w.heap.size w w' := by
  obtain ⟨q, first, refill, most, low⟩ := p
  simp only [Pc.v, Pc.c]
  have HB := Lib.hid ((Below.refl _ w).alloc (Nat.le_refl _) (.cells #[.int .i64 q, .int .i64 first, .int .u64 refill, .int .u64 most, .int .u64 low] 59))
  by_cases h : Pc.right ⟨q, first, refill, most, low⟩ = true
  · obtain ⟨⟨h1, h2⟩, ⟨h3, h4⟩, h5, h6⟩ := Pc.right_iff.1 h
    simp only at h1 h2 h3 h4 h5 h6
    have i1 : decide (q < 1) = false := by rw [decide_eq_false_iff_not]; omega
    have i2 : decide (1048576 < q) = false := by rw [decide_eq_false_iff_not]; omega
    have i3 : decide (first < 1) = false := by rw [decide_eq_false_iff_not]; omega
    have i4 : decide (1048576 < first) = false := by rw [decide_eq_false_iff_not]; omega
    rw [h]
    clear h
    go_enter Try.func22, Try.ntmps22
    go_wp2_with fail
    go_ret
    exact ⟨rfl, HB.out⟩
  · have hr : Pc.right ⟨q, first, refill, most, low⟩ = false := by simpa using h
    rw [hr]
    have hn := fun x => h (Pc.right_iff.2 x)
    simp only at hn
    clear h hr
    by_cases k1 : q < 1
    · clear hn
      go_enter Try.func22, Try.ntmps22
      go_wp2_with fail
      go_ret
      exact ⟨rfl, HB.out⟩
    have i1 : decide (q < 1) = false := by simpa using k1
    by_cases k2 : 1048576 < q
    · clear hn
      go_enter Try.func22, Try.ntmps22
      go_wp2_with fail
      go_ret
      exact ⟨rfl, HB.out⟩
    have i2 : decide (1048576 < q) = false := by simpa using k2
    by_cases k3 : first < 1
    · clear hn
      go_enter Try.func22, Try.ntmps22
      go_wp2_with fail
      go_ret
      exact ⟨rfl, HB.out⟩
    have i3 : decide (first < 1) = false := by simpa using k3
    by_cases k4 : 1048576 < first
    · clear hn
      go_enter Try.func22, Try.ntmps22
      go_wp2_with fail
      go_ret
      exact ⟨rfl, HB.out⟩
    have i4 : decide (1048576 < first) = false := by simpa using k4
    by_cases k5 : most ≤ 1099511627776
    · have k6 : ¬ low ≤ 1099511627776 := fun k6 => hn ⟨⟨by omega, by omega⟩, ⟨by omega, by omega⟩, k5, k6⟩
      have i6 : decide (low ≤ 1099511627776) = false := by simpa using k6
      clear hn k1 k2 k3 k4 k6
      go_enter Try.func22, Try.ntmps22
      go_wp2_with fail
      go_ret
      exact ⟨rfl, HB.out⟩
    · have i5 : decide (most ≤ 1099511627776) = false := by simpa using k5
      clear hn k1 k2 k3 k4 k5
      go_enter Try.func22, Try.ntmps22
      go_wp2_with fail
      go_ret
      exact ⟨rfl, HB.out⟩

theorem ref12_refused (f : Fl) (n now : Int) (p : Pc) (hn : ¬ (1 ≤ n ∧ n ≤ 65536)) (w : World) :
    Calls Try.prog 27 #[f.v, .int .i64 n, .int .u64 now, p.v] w fun e w' => e = .returned (.tuple #[f.v, .int .i64 2]) ∧ Below w.heap.size w w' := by
  obtain ⟨so, ck, rate, cr, nx, db, ag⟩ := f
  obtain ⟨q, first, refill, most, low⟩ := p
  simp only [Fl.v, Pc.v, Fl.c, Pc.c]
  by_cases h1 : n < 1
  · clear hn
    go_enter Try.func27, Try.ntmps27
    go_wp2_with fail
    exact bodyPost_ret (v := .tuple #[.agg #[.int .u64 so, .int .u64 ck, .int .u64 rate, .int .i64 cr, .int .u64 nx, .int .u64 db, .int .u64 ag], .int .i64 2]) (by simp [results, Try.f27, go_sem]) rfl ⟨rfl, (((Below.refl _ _).alloc (Nat.le_refl _) _).alloc (by simp) _).alloc (by simp; omega) _⟩
  · have h2 : 65536 < n := by omega
    clear hn
    go_enter Try.func27, Try.ntmps27
    go_wp2_with fail
    exact bodyPost_ret (v := .tuple #[.agg #[.int .u64 so, .int .u64 ck, .int .u64 rate, .int .i64 cr, .int .u64 nx, .int .u64 db, .int .u64 ag], .int .i64 2]) (by simp [results, Try.f27, go_sem]) rfl ⟨rfl, (((Below.refl _ _).alloc (Nat.le_refl _) _).alloc (by simp) _).alloc (by simp; omega) _⟩

set_option maxHeartbeats 4000000 in
theorem ref12_charge (f : Fl) (n now : Int) (p : Pc) (hf : f.Fits) (hp : p.Fits) (hn : 1 ≤ n ∧ n ≤ 65536) (hd : f.db + n < 18446744073709551616) (ht : Num.Word now) (w : World) :
    Calls Try.prog 27 #[f.v, .int .i64 n, .int .u64 now, p.v] w fun e w' => e = .returned (.tuple #[(f.charge n now p).v, .int .i64 0]) ∧ Below w.heap.size w w' := by
  have L0 := Lay3.start w f p
  have hb := Fl.by_word hf hp
  have hnw : Num.Word n := ⟨by omega, by omega⟩
  have KR := Lib.hid fun W => ref12_rate (f.spend n) p (hf.spend n) hp W
  have edb : Num.add f.db n = f.db + n := by unfold Num.add Num.kept; rw [if_pos hd]
  obtain ⟨r, hr⟩ : ∃ r, Hid (f.by p = r) := ⟨_, Lib.hid rfl⟩
  have hbs : (f.spend n).by p = r := hr.out
  rw [hr.out] at hb
  rw [hbs] at KR
  have KP := Lib.hid fun W => ref12_pay ((f.spend n).owe n) now r ((hf.spend n).owe hnw) ht hb W
  have hfl : ((f.spend n).owe n).c = (Fl.c ⟨f.so, f.ck, f.rate, wrap64 (f.cr - n), f.nx, f.db + n, f.ag⟩) := by unfold Fl.owe Fl.spend; rw [edb]
  obtain ⟨P1, hP1⟩ : ∃ P1, Hid (((f.spend n).owe n).pay now r = P1) := ⟨_, Lib.hid rfl⟩
  have hP1c : P1.cr = wrap64 (f.cr - n) := by rw [← hP1.out]; rfl
  rw [hP1.out] at KP
  simp only [Fl.v] at KP
  rw [hfl] at KP
  obtain ⟨G, hG⟩ : ∃ G, Hid (f.charge n now p = G) := ⟨_, Lib.hid rfl⟩
  have hG0 : Hid (r = 0 → G = ⟨f.so, f.ck, f.rate, wrap64 (f.cr - n), f.nx, f.db, f.ag⟩) := Lib.hid fun h => by rw [← hG.out]; unfold Fl.charge; rw [hr.out, if_pos h]; rfl
  have hG1 : Hid (r ≠ 0 → r < p.low → G = ⟨P1.so, P1.ck, P1.rate, min P1.cr 0, P1.nx, P1.db, P1.ag⟩) := Lib.hid fun h h' => by rw [← hG.out]; unfold Fl.charge; rw [hr.out, if_neg h, if_pos h', ← hP1.out]; rfl
  have hG2 : Hid (r ≠ 0 → ¬ r < p.low → wrap64 (f.cr - n) ≤ 0 → G = P1) := Lib.hid fun h h' h'' => by rw [← hG.out]; unfold Fl.charge; rw [hr.out, if_neg h, if_neg h', if_neg (show ¬ 0 < (f.spend n).cr from by show ¬ 0 < wrap64 (f.cr - n); omega), ← hP1.out]
  have hG3 : Hid (r ≠ 0 → ¬ r < p.low → 0 < wrap64 (f.cr - n) → G = ⟨f.so, f.ck, f.rate, wrap64 (f.cr - n), f.nx, f.db + n, f.ag⟩) := Lib.hid fun h h' h'' => by rw [← hG.out]; unfold Fl.charge; rw [hr.out, if_neg h, if_neg h', if_pos (show 0 < (f.spend n).cr from h'')]; unfold Fl.owe Fl.spend; rw [edb]
  rw [hG.out]
  have hd0 := hf.db.1
  obtain ⟨hr0, hr1⟩ := hb
  obtain ⟨n0, n1⟩ := hn
  obtain ⟨so, ck, rate, cr, nx, db, ag⟩ := f
  obtain ⟨q, first, refill, most, low⟩ := p
  clear hf hp ht hnw hbs hfl hP1 hG edb hr
  simp only [Fl.v, Pc.v, Fl.c, Pc.c, Fl.spend] at KR KP hP1c hG0 hG1 hG2 hG3 hd0 hd ⊢
  have hwp := Lib.hid hP1c
  clear hP1c
  obtain ⟨c, hc⟩ : ∃ c, Hid (wrap64 (cr - n) = c) := ⟨_, Lib.hid rfl⟩
  rw [hc.out] at KR KP hwp hG0 hG2 hG3
  have hcw : wrap64 (cr - n) = c := hc.out
  have L9 := Lay3.start w ⟨so, ck, rate, c, nx, db, ag⟩ ⟨q, first, refill, most, low⟩
  simp only [Fl.c, Pc.c] at L9
  have HL9 := Lib.hid L9
  clear L9 L0
  have hwd : IntKind.u64.wrap (db + n) = db + n := by rw [IntKind.wrap_u64]; omega
  go_enter Try.func27, Try.ntmps27
  go_upto_region 5 with (go_at_call 35; refine (KR.out _).mono ?_; rintro e W5 ⟨rfl, g5⟩)
  have HL := Lib.hid (HL9.out.below g5)
  obtain ⟨H, HH⟩ : ∃ H, Hid (w.heap.size = H) := ⟨_, Lib.hid rfl⟩
  rw [HH.out] at HL ⊢
  clear HL9 g5 hcw KR
  by_cases c0 : r = 0
  · have c1 : (r == 0) = true := by simpa using c0
    have hGe : G = ⟨so, ck, rate, c, nx, db, ag⟩ := hG0.out c0
    clear hG0 hG1 hG2 hG3
    obtain ⟨a0, a1, a2, a3, a4, a5, a6⟩ := HL.out.fl.cells
    obtain ⟨h0, h1, h2, h3, h4, h5, h6⟩ := HL.out.res.cells
    obtain ⟨f0, f1, f2, f3, f4, f5, f6⟩ := HL.out.res.frozen
    obtain ⟨y0, y1, y2, y3, y4, y5, y6⟩ := (HL.out.res.put ⟨so, ck, rate, c, nx, db, ag⟩).cells
    simp only at a0 a1 a2 a3 a4 a5 a6 h0 h1 h2 h3 h4 h5 h6 y0 y1 y2 y3 y4 y5 y6
    have hsz : w.heap.size ≤ H + 1 + 1 := by have := HL.out.hs; omega
    have HGe := Lib.hid hGe
    clear hGe
    go_wp2_with fail
    rw [HGe.out]
    exact bodyPost_ret (v := .tuple #[.agg (Fl.c ⟨so, ck, rate, c, nx, db, ag⟩), .int .i64 0]) (by simp [results, Try.f27, go_sem, y0, y1, y2, y3, y4, y5, y6, Fl.c]) rfl ⟨rfl, putF_below HL.out.lo hsz ⟨so, ck, rate, c, nx, db, ag⟩⟩
  have c1 : (r == 0) = false := by simpa using c0
  obtain ⟨a0, a1, a2, a3, a4, a5, a6⟩ := HL.out.fl.cells
  obtain ⟨p0, p1, p2, p3, p4⟩ := HL.out.pc.cells
  obtain ⟨f0, f1, f2, f3, f4, f5, f6⟩ := HL.out.fl.frozen
  simp only at a0 a1 a2 a3 a4 a5 a6 p0 p1 p2 p3 p4
  go_upto_region 8 with fail
  clear a0 a1 a2 a3 a4 a5 a6 p0 p1 p2 p3 p4 f0 f1 f2 f3 f4 f5 f6
  clear c1 hwd
  obtain ⟨VV, hVV⟩ : ∃ VV, Hid (W5.setCell ⟨H, 5, none⟩ (.int .u64 (db + n)) = VV) := ⟨_, Lib.hid rfl⟩
  have hl : Lay3 w (W5.setCell ⟨H, 5, none⟩ (.int .u64 (db + n))) H ⟨so, ck, rate, c, nx, db + n, ag⟩ ⟨q, first, refill, most, low⟩ := ⟨(show Box W5 H _ _ from HL.out.fl).set 5 (.int .u64 (db + n)), Box.other (show Box W5 _ _ _ from HL.out.pc) (by omega) _, HL.out.res.other (by omega) _, HL.out.lo.setCell (p := ⟨H, 5, none⟩) (by have := HL.out.hs; simp; omega) _, HL.out.hs⟩
  replace HL := Lib.hid hl
  rw [hVV.out] at HL ⊢
  clear hl hVV
  by_cases hl : r < low
  · have hP : Hid (P1.cr = c) := hwp
    obtain ⟨a0, a1, a2, a3, a4, a5, a6⟩ := HL.out.fl.cells
    obtain ⟨p0, p1, p2, p3, p4⟩ := HL.out.pc.cells
    obtain ⟨f0, f1, f2, f3, f4, f5, f6⟩ := HL.out.fl.frozen
    simp only at a0 a1 a2 a3 a4 a5 a6 p0 p1 p2 p3 p4

    have G1 := Lib.hid (hG1.out c0 hl)
    go_upto_region 11 with (go_at_call 61; refine (KP.out _).mono ?_; rintro e W7 ⟨rfl, g7⟩; replace HL := Lib.hid (HL.out.below g7); clear g7 a0 a1 a2 a3 a4 a5 a6 p0 p1 p2 p3 p4 f0 f1 f2 f3 f4 f5 f6; obtain ⟨h0, h1, h2, h3, h4, h5, h6⟩ := HL.out.fl.cells; obtain ⟨f0, f1, f2, f3, f4, f5, f6⟩ := HL.out.fl.frozen)
    clear h0 h1 h2 h3 h4 h5 h6 f0 f1 f2 f3 f4 f5 f6 KP
    obtain ⟨V8, hV8⟩ : ∃ V8, Hid (putF W7 H P1 = V8) := ⟨_, Lib.hid rfl⟩
    have hl2 : Lay3 w (putF W7 H P1) H P1 ⟨q, first, refill, most, low⟩ := ⟨putF_box HL.out.fl P1, putF_other (show Box W7 _ _ _ from HL.out.pc) (by omega) P1, putF_other (show Box W7 _ _ _ from HL.out.res) (by omega) P1, putF_below HL.out.lo (by have := HL.out.hs; omega) P1, HL.out.hs⟩
    replace HL := Lib.hid hl2
    rw [hV8.out] at HL
    have hV9 := hV8.out
    unfold putF at hV9
    rw [hV9]
    clear hV9 hV8 hl2
    by_cases hc0 : 0 < P1.cr
    · obtain ⟨a0, a1, a2, a3, a4, a5, a6⟩ := HL.out.fl.cells
      obtain ⟨f0, f1, f2, f3, f4, f5, f6⟩ := HL.out.fl.frozen
      go_upto_region 13 with fail
      clear a0 a1 a2 a3 a4 a5 a6 f0 f1 f2 f3 f4 f5 f6
      obtain ⟨VV, hVV⟩ : ∃ VV, Hid (V8.setCell ⟨H, 3, none⟩ (.int .i64 0) = VV) := ⟨_, Lib.hid rfl⟩
      have hl : Lay3 w (V8.setCell ⟨H, 3, none⟩ (.int .i64 0)) H ⟨P1.so, P1.ck, P1.rate, 0, P1.nx, P1.db, P1.ag⟩ ⟨q, first, refill, most, low⟩ := ⟨(show Box V8 H _ _ from HL.out.fl).set 3 (.int .i64 0), Box.other (show Box V8 _ _ _ from HL.out.pc) (by omega) _, HL.out.res.other (by omega) _, HL.out.lo.setCell (p := ⟨H, 3, none⟩) (by have := HL.out.hs; simp; omega) _, HL.out.hs⟩
      replace HL := Lib.hid hl
      rw [hVV.out] at HL ⊢
      clear hl hVV
      have hGe : G = ⟨P1.so, P1.ck, P1.rate, 0, P1.nx, P1.db, P1.ag⟩ := by rw [G1.out]; congr 1; omega
      clear hG0 hG1 hG2 hG3 G1
      obtain ⟨a0, a1, a2, a3, a4, a5, a6⟩ := HL.out.fl.cells
      obtain ⟨h0, h1, h2, h3, h4, h5, h6⟩ := HL.out.res.cells
      obtain ⟨f0, f1, f2, f3, f4, f5, f6⟩ := HL.out.res.frozen
      obtain ⟨y0, y1, y2, y3, y4, y5, y6⟩ := (HL.out.res.put ⟨P1.so, P1.ck, P1.rate, 0, P1.nx, P1.db, P1.ag⟩).cells
      simp only at a0 a1 a2 a3 a4 a5 a6 h0 h1 h2 h3 h4 h5 h6 y0 y1 y2 y3 y4 y5 y6
      have hsz : w.heap.size ≤ H + 1 + 1 := by have := HL.out.hs; omega
      have HGe := Lib.hid hGe
      clear hGe
      go_wp2_with fail
      rw [HGe.out]
      exact bodyPost_ret (v := .tuple #[.agg (Fl.c ⟨P1.so, P1.ck, P1.rate, 0, P1.nx, P1.db, P1.ag⟩), .int .i64 0]) (by simp [results, Try.f27, go_sem, y0, y1, y2, y3, y4, y5, y6, Fl.c]) rfl ⟨rfl, putF_below HL.out.lo hsz ⟨P1.so, P1.ck, P1.rate, 0, P1.nx, P1.db, P1.ag⟩⟩
    · have hc1 : decide (0 < P1.cr) = false := by simpa using hc0
      have hGe : G = P1 := by rw [G1.out, show min P1.cr 0 = P1.cr by omega]
      clear hG0 hG1 hG2 hG3 G1
      obtain ⟨a0, a1, a2, a3, a4, a5, a6⟩ := HL.out.fl.cells
      obtain ⟨h0, h1, h2, h3, h4, h5, h6⟩ := HL.out.res.cells
      obtain ⟨f0, f1, f2, f3, f4, f5, f6⟩ := HL.out.res.frozen
      obtain ⟨y0, y1, y2, y3, y4, y5, y6⟩ := (HL.out.res.put P1).cells
      simp only at h0 h1 h2 h3 h4 h5 h6
      have hsz : w.heap.size ≤ H + 1 + 1 := by have := HL.out.hs; omega
      have HGe := Lib.hid hGe
      clear hGe
      go_wp2_with fail
      rw [HGe.out]
      exact bodyPost_ret (v := .tuple #[.agg (Fl.c P1), .int .i64 0]) (by simp [results, Try.f27, go_sem, y0, y1, y2, y3, y4, y5, y6, Fl.c]) rfl ⟨rfl, putF_below HL.out.lo hsz P1⟩
  · have hl1 : decide (r < low) = false := by simpa using hl
    by_cases hc0 : 0 < c
    · have hc1 : decide (c ≤ 0) = false := by rw [decide_eq_false_iff_not]; omega
      have hGe : G = ⟨so, ck, rate, c, nx, db + n, ag⟩ := hG3.out c0 (by omega) (by omega)
      clear hG0 hG1 hG2 hG3
      obtain ⟨a0, a1, a2, a3, a4, a5, a6⟩ := HL.out.fl.cells
      obtain ⟨p0, p1, p2, p3, p4⟩ := HL.out.pc.cells
      simp only at p0 p1 p2 p3 p4
      obtain ⟨h0, h1, h2, h3, h4, h5, h6⟩ := HL.out.res.cells
      obtain ⟨f0, f1, f2, f3, f4, f5, f6⟩ := HL.out.res.frozen
      obtain ⟨y0, y1, y2, y3, y4, y5, y6⟩ := (HL.out.res.put ⟨so, ck, rate, c, nx, db + n, ag⟩).cells
      simp only at a0 a1 a2 a3 a4 a5 a6 h0 h1 h2 h3 h4 h5 h6 y0 y1 y2 y3 y4 y5 y6
      have hsz : w.heap.size ≤ H + 1 + 1 := by have := HL.out.hs; omega
      have HGe := Lib.hid hGe
      clear hGe
      go_wp2_with fail
      rw [HGe.out]
      exact bodyPost_ret (v := .tuple #[.agg (Fl.c ⟨so, ck, rate, c, nx, db + n, ag⟩), .int .i64 0]) (by simp [results, Try.f27, go_sem, y0, y1, y2, y3, y4, y5, y6, Fl.c]) rfl ⟨rfl, putF_below HL.out.lo hsz ⟨so, ck, rate, c, nx, db + n, ag⟩⟩
    · have hc2 : c ≤ 0 := by omega
      obtain ⟨a0, a1, a2, a3, a4, a5, a6⟩ := HL.out.fl.cells
      obtain ⟨p0, p1, p2, p3, p4⟩ := HL.out.pc.cells
      obtain ⟨f0, f1, f2, f3, f4, f5, f6⟩ := HL.out.fl.frozen
      simp only at a0 a1 a2 a3 a4 a5 a6 p0 p1 p2 p3 p4

      have G2 := Lib.hid (hG2.out c0 (by omega) (by omega))
      go_upto_region 11 with (go_at_call 61; refine (KP.out _).mono ?_; rintro e W7 ⟨rfl, g7⟩; replace HL := Lib.hid (HL.out.below g7); clear g7 a0 a1 a2 a3 a4 a5 a6 p0 p1 p2 p3 p4 f0 f1 f2 f3 f4 f5 f6; obtain ⟨h0, h1, h2, h3, h4, h5, h6⟩ := HL.out.fl.cells; obtain ⟨f0, f1, f2, f3, f4, f5, f6⟩ := HL.out.fl.frozen)
      clear h0 h1 h2 h3 h4 h5 h6 f0 f1 f2 f3 f4 f5 f6 KP
      obtain ⟨V8, hV8⟩ : ∃ V8, Hid (putF W7 H P1 = V8) := ⟨_, Lib.hid rfl⟩
      have hl2 : Lay3 w (putF W7 H P1) H P1 ⟨q, first, refill, most, low⟩ := ⟨putF_box HL.out.fl P1, putF_other (show Box W7 _ _ _ from HL.out.pc) (by omega) P1, putF_other (show Box W7 _ _ _ from HL.out.res) (by omega) P1, putF_below HL.out.lo (by have := HL.out.hs; omega) P1, HL.out.hs⟩
      replace HL := Lib.hid hl2
      rw [hV8.out] at HL
      have hV9 := hV8.out
      unfold putF at hV9
      rw [hV9]
      clear hV9 hV8 hl2
      have hGe : G = P1 := G2.out
      clear hG0 hG1 hG2 hG3 G2
      obtain ⟨a0, a1, a2, a3, a4, a5, a6⟩ := HL.out.fl.cells
      obtain ⟨h0, h1, h2, h3, h4, h5, h6⟩ := HL.out.res.cells
      obtain ⟨f0, f1, f2, f3, f4, f5, f6⟩ := HL.out.res.frozen
      obtain ⟨y0, y1, y2, y3, y4, y5, y6⟩ := (HL.out.res.put P1).cells
      simp only at h0 h1 h2 h3 h4 h5 h6
      have hsz : w.heap.size ≤ H + 1 + 1 := by have := HL.out.hs; omega
      have HGe := Lib.hid hGe
      clear hGe
      go_wp2_with fail
      rw [HGe.out]
      exact bodyPost_ret (v := .tuple #[.agg (Fl.c P1), .int .i64 0]) (by simp [results, Try.f27, go_sem, y0, y1, y2, y3, y4, y5, y6, Fl.c]) rfl ⟨rfl, putF_below HL.out.lo hsz P1⟩

set_option maxHeartbeats 4000000 in
theorem ref12_wake (f : Fl) (now : Int) (p : Pc) (hf : f.Fits) (hp : p.Fits) (ht : Num.Word now) (w : World) :
    Calls Try.prog 33 #[f.v, .int .u64 now, p.v] w fun e w' => e = .returned (f.wake now p).v ∧ Below w.heap.size w w' := by
  have L9 := Lay3.start w f p
  have hb := Fl.by_word hf hp
  have KR := Lib.hid fun W => ref12_rate f p hf hp W
  have KA := Lib.hid fun W => ref_add f.ag p.refill W hf.ag hp.refill
  obtain ⟨r, hr⟩ : ∃ r, Hid (f.by p = r) := ⟨_, Lib.hid rfl⟩
  rw [hr.out] at hb KR
  have KP := Lib.hid fun W => ref12_pay f f.ag r hf hf.ag hb W
  obtain ⟨s, hs⟩ : ∃ s, Hid (Num.add f.ag p.refill = s) := ⟨_, Lib.hid rfl⟩
  rw [hs.out] at KA
  obtain ⟨y, hy⟩ : ∃ y, Hid (max f.nx (Num.add f.ag (Num.time f.db r)) = y) := ⟨_, Lib.hid rfl⟩
  have hpay : (f.pay f.ag r) = ⟨f.so, f.ck, f.rate, f.cr, y, 0, f.ag⟩ := by rw [← hy.out]; rfl
  rw [hpay] at KP
  obtain ⟨G, hG⟩ : ∃ G, Hid (f.wake now p = G) := ⟨_, Lib.hid rfl⟩
  have hG0 : Hid (now < s → G = f) := Lib.hid fun h => by rw [← hG.out]; unfold Fl.wake; rw [hs.out, if_pos h]
  have hG2 : Hid (¬ now < s → 0 < r → 0 < f.db → G = ⟨f.so, f.ck, f.rate, max f.cr p.q, y, 0, f.ag⟩) := Lib.hid fun h h1 h2 => by rw [← hG.out]; unfold Fl.wake; rw [hs.out, if_neg h, hr.out, if_pos ⟨h1, h2⟩, hpay]; rfl
  have hG3 : Hid (¬ now < s → ¬ (0 < r ∧ 0 < f.db) → G = ⟨f.so, f.ck, f.rate, max f.cr p.q, f.nx, 0, f.ag⟩) := Lib.hid fun h h1 => by rw [← hG.out]; unfold Fl.wake; rw [hs.out, if_neg h, hr.out, if_neg h1]; rfl
  rw [hG.out]
  have hd0 := hf.db.1
  have hr0 := hb.1
  obtain ⟨so, ck, rate, cr, nx, db, ag⟩ := f
  obtain ⟨q, first, refill, most, low⟩ := p
  clear hf hp ht hb hpay hG hy hr hs
  simp only [Fl.v, Pc.v, Fl.c, Pc.c] at KR KP KA hG0 hG2 hG3 hd0 L9 ⊢
  have HL9 := Lib.hid L9
  clear L9
  by_cases hnow : now < s
  · have hGf := Lib.hid (hG0.out hnow)
    clear KR KP HL9 hG0 hG2 hG3
    go_enter Try.func33, Try.ntmps33
    go_wp2_with (go_at_call 66; refine (KA.out _).mono ?_; rintro e w' ⟨rfl, rfl⟩)
    rw [hGf.out]
    exact bodyPost_ret (v := .agg #[.int .u64 so, .int .u64 ck, .int .u64 rate, .int .i64 cr, .int .u64 nx, .int .u64 db, .int .u64 ag]) (by simp [results, Try.f33, go_sem]) rfl ⟨rfl, (((Below.refl _ _).alloc (Nat.le_refl _) _).alloc (by simp) _).alloc (by simp; omega) _⟩
  · have hnow' : decide (now < s) = false := by simpa using hnow
    have HN : Hid (¬ now < s) := Lib.hid hnow
    clear hG0 hnow
    go_enter Try.func33, Try.ntmps33
    go_upto_region 4 with (first | (go_at_call 66; refine (KA.out _).mono ?_; rintro e w' ⟨rfl, rfl⟩) | (go_at_call 35; refine (KR.out _).mono ?_; rintro e W5 ⟨rfl, g5⟩))
    have HL := Lib.hid (HL9.out.below g5)
    obtain ⟨H, HH⟩ : ∃ H, Hid (w.heap.size = H) := ⟨_, Lib.hid rfl⟩
    rw [HH.out] at HL ⊢
    clear HL9 g5 KA KR hnow'
    by_cases c0 : 0 < r ∧ 0 < db
    · obtain ⟨c1, c2⟩ := c0
      have hG1 := Lib.hid (hG2.out HN.out c1 c2)
      clear hG2 hG3
      obtain ⟨a0, a1, a2, a3, a4, a5, a6⟩ := HL.out.fl.cells
      obtain ⟨p0, p1, p2, p3, p4⟩ := HL.out.pc.cells
      obtain ⟨f0, f1, f2, f3, f4, f5, f6⟩ := HL.out.fl.frozen
      simp only at a0 a1 a2 a3 a4 a5 a6 p0 p1 p2 p3 p4
      go_upto_region 6 with (go_at_call 61; refine (KP.out _).mono ?_; rintro e W7 ⟨rfl, g7⟩; replace HL := Lib.hid (HL.out.below g7); clear g7 a0 a1 a2 a3 a4 a5 a6 p0 p1 p2 p3 p4 f0 f1 f2 f3 f4 f5 f6; obtain ⟨h0, h1, h2, h3, h4, h5, h6⟩ := HL.out.fl.cells; obtain ⟨f0, f1, f2, f3, f4, f5, f6⟩ := HL.out.fl.frozen)
      clear h0 h1 h2 h3 h4 h5 h6 f0 f1 f2 f3 f4 f5 f6 KP
      obtain ⟨V8, hV8⟩ : ∃ V8, Hid (putF W7 H ⟨so, ck, rate, cr, y, 0, ag⟩ = V8) := ⟨_, Lib.hid rfl⟩
      have hl2 : Lay3 w (putF W7 H ⟨so, ck, rate, cr, y, 0, ag⟩) H ⟨so, ck, rate, cr, y, 0, ag⟩ ⟨q, first, refill, most, low⟩ := ⟨putF_box HL.out.fl _, putF_other (show Box W7 _ _ _ from HL.out.pc) (by omega) _, putF_other (show Box W7 _ _ _ from HL.out.res) (by omega) _, putF_below HL.out.lo (by have := HL.out.hs; omega) _, HL.out.hs⟩
      replace HL := Lib.hid hl2
      rw [hV8.out] at HL
      have hV9 := hV8.out
      unfold putF at hV9
      simp only at hV9
      rw [hV9]
      clear hV9 hV8 hl2
      obtain ⟨a0, a1, a2, a3, a4, a5, a6⟩ := HL.out.fl.cells
      obtain ⟨p0, p1, p2, p3, p4⟩ := HL.out.pc.cells
      obtain ⟨f0, f1, f2, f3, f4, f5, f6⟩ := HL.out.fl.frozen
      simp only at a0 a1 a2 a3 a4 a5 a6 p0 p1 p2 p3 p4
      go_upto_region 7 with fail
      clear a0 a1 a2 a3 a4 a5 a6 p0 p1 p2 p3 p4 f0 f1 f2 f3 f4 f5 f6
      obtain ⟨VV, hVV⟩ : ∃ VV, Hid (V8.setCell ⟨H, 5, none⟩ (.int .u64 0) = VV) := ⟨_, Lib.hid rfl⟩
      have hl : Lay3 w (V8.setCell ⟨H, 5, none⟩ (.int .u64 0)) H ⟨so, ck, rate, cr, y, 0, ag⟩ ⟨q, first, refill, most, low⟩ := ⟨(show Box V8 H _ _ from HL.out.fl).set 5 (.int .u64 0), Box.other (show Box V8 _ _ _ from HL.out.pc) (by omega) _, HL.out.res.other (by omega) _, HL.out.lo.setCell (p := ⟨H, 5, none⟩) (by have := HL.out.hs; simp; omega) _, HL.out.hs⟩
      replace HL := Lib.hid hl
      rw [hVV.out] at HL ⊢
      clear hl hVV
      by_cases hq : cr < q
      · have hm : max cr q = q := by omega
        rw [hm] at hG1
        obtain ⟨a0, a1, a2, a3, a4, a5, a6⟩ := HL.out.fl.cells
        obtain ⟨p0, p1, p2, p3, p4⟩ := HL.out.pc.cells
        obtain ⟨f0, f1, f2, f3, f4, f5, f6⟩ := HL.out.fl.frozen
        simp only at a0 a1 a2 a3 a4 a5 a6 p0 p1 p2 p3 p4
        go_upto_region 9 with fail
        clear a0 a1 a2 a3 a4 a5 a6 p0 p1 p2 p3 p4 f0 f1 f2 f3 f4 f5 f6
        obtain ⟨V9, hVV⟩ : ∃ V9, Hid (VV.setCell ⟨H, 3, none⟩ (.int .i64 q) = V9) := ⟨_, Lib.hid rfl⟩
        have hl : Lay3 w (VV.setCell ⟨H, 3, none⟩ (.int .i64 q)) H ⟨so, ck, rate, q, y, 0, ag⟩ ⟨q, first, refill, most, low⟩ := ⟨(show Box VV H _ _ from HL.out.fl).set 3 (.int .i64 q), Box.other (show Box VV _ _ _ from HL.out.pc) (by omega) _, HL.out.res.other (by omega) _, HL.out.lo.setCell (p := ⟨H, 3, none⟩) (by have := HL.out.hs; simp; omega) _, HL.out.hs⟩
        replace HL := Lib.hid hl
        rw [hVV.out] at HL ⊢
        clear hl hVV
        have hGe : G = ⟨so, ck, rate, q, y, 0, ag⟩ := hG1.out
        clear hG1 hm
        obtain ⟨a0, a1, a2, a3, a4, a5, a6⟩ := HL.out.fl.cells
        obtain ⟨h0, h1, h2, h3, h4, h5, h6⟩ := HL.out.res.cells
        obtain ⟨f0, f1, f2, f3, f4, f5, f6⟩ := HL.out.res.frozen
        obtain ⟨y0, y1, y2, y3, y4, y5, y6⟩ := (HL.out.res.put ⟨so, ck, rate, q, y, 0, ag⟩).cells
        simp only at a0 a1 a2 a3 a4 a5 a6 h0 h1 h2 h3 h4 h5 h6 y0 y1 y2 y3 y4 y5 y6
        have hsz : w.heap.size ≤ H + 1 + 1 := by have := HL.out.hs; omega
        have HGe := Lib.hid hGe
        clear hGe
        go_wp2_with fail
        rw [HGe.out]
        exact bodyPost_ret (v := .agg (Fl.c ⟨so, ck, rate, q, y, 0, ag⟩)) (by simp [results, Try.f33, go_sem, y0, y1, y2, y3, y4, y5, y6, Fl.c]) rfl ⟨rfl, putF_below HL.out.lo hsz ⟨so, ck, rate, q, y, 0, ag⟩⟩
      · have hq1 : decide (cr < q) = false := by simpa using hq
        have hm : max cr q = cr := by omega
        rw [hm] at hG1
        have hGe : G = ⟨so, ck, rate, cr, y, 0, ag⟩ := hG1.out
        clear hG1 hm
        obtain ⟨a0, a1, a2, a3, a4, a5, a6⟩ := HL.out.fl.cells
        obtain ⟨p0, p1, p2, p3, p4⟩ := HL.out.pc.cells
        simp only at p0 p1 p2 p3 p4
        obtain ⟨h0, h1, h2, h3, h4, h5, h6⟩ := HL.out.res.cells
        obtain ⟨f0, f1, f2, f3, f4, f5, f6⟩ := HL.out.res.frozen
        obtain ⟨y0, y1, y2, y3, y4, y5, y6⟩ := (HL.out.res.put ⟨so, ck, rate, cr, y, 0, ag⟩).cells
        simp only at a0 a1 a2 a3 a4 a5 a6 h0 h1 h2 h3 h4 h5 h6 y0 y1 y2 y3 y4 y5 y6
        have hsz : w.heap.size ≤ H + 1 + 1 := by have := HL.out.hs; omega
        have HGe := Lib.hid hGe
        clear hGe
        go_wp2_with fail
        rw [HGe.out]
        exact bodyPost_ret (v := .agg (Fl.c ⟨so, ck, rate, cr, y, 0, ag⟩)) (by simp [results, Try.f33, go_sem, y0, y1, y2, y3, y4, y5, y6, Fl.c]) rfl ⟨rfl, putF_below HL.out.lo hsz ⟨so, ck, rate, cr, y, 0, ag⟩⟩
    · have hG1 := Lib.hid (hG3.out HN.out c0)
      clear hG2 hG3 KP
      by_cases c1 : 0 < r
      · have c2 : decide (0 < db) = false := by rw [decide_eq_false_iff_not]; exact fun h => c0 ⟨c1, h⟩
        clear c0
        obtain ⟨a0, a1, a2, a3, a4, a5, a6⟩ := HL.out.fl.cells
        obtain ⟨p0, p1, p2, p3, p4⟩ := HL.out.pc.cells
        obtain ⟨f0, f1, f2, f3, f4, f5, f6⟩ := HL.out.fl.frozen
        simp only at a0 a1 a2 a3 a4 a5 a6 p0 p1 p2 p3 p4
        go_upto_region 7 with fail
        clear a0 a1 a2 a3 a4 a5 a6 p0 p1 p2 p3 p4 f0 f1 f2 f3 f4 f5 f6
        obtain ⟨VV, hVV⟩ : ∃ VV, Hid (W5.setCell ⟨H, 5, none⟩ (.int .u64 0) = VV) := ⟨_, Lib.hid rfl⟩
        have hl : Lay3 w (W5.setCell ⟨H, 5, none⟩ (.int .u64 0)) H ⟨so, ck, rate, cr, nx, 0, ag⟩ ⟨q, first, refill, most, low⟩ := ⟨(show Box W5 H _ _ from HL.out.fl).set 5 (.int .u64 0), Box.other (show Box W5 _ _ _ from HL.out.pc) (by omega) _, HL.out.res.other (by omega) _, HL.out.lo.setCell (p := ⟨H, 5, none⟩) (by have := HL.out.hs; simp; omega) _, HL.out.hs⟩
        replace HL := Lib.hid hl
        rw [hVV.out] at HL ⊢
        clear hl hVV
        by_cases hq : cr < q
        · have hm : max cr q = q := by omega
          rw [hm] at hG1
          obtain ⟨a0, a1, a2, a3, a4, a5, a6⟩ := HL.out.fl.cells
          obtain ⟨p0, p1, p2, p3, p4⟩ := HL.out.pc.cells
          obtain ⟨f0, f1, f2, f3, f4, f5, f6⟩ := HL.out.fl.frozen
          simp only at a0 a1 a2 a3 a4 a5 a6 p0 p1 p2 p3 p4
          go_upto_region 9 with fail
          clear a0 a1 a2 a3 a4 a5 a6 p0 p1 p2 p3 p4 f0 f1 f2 f3 f4 f5 f6
          obtain ⟨V9, hVV⟩ : ∃ V9, Hid (VV.setCell ⟨H, 3, none⟩ (.int .i64 q) = V9) := ⟨_, Lib.hid rfl⟩
          have hl : Lay3 w (VV.setCell ⟨H, 3, none⟩ (.int .i64 q)) H ⟨so, ck, rate, q, nx, 0, ag⟩ ⟨q, first, refill, most, low⟩ := ⟨(show Box VV H _ _ from HL.out.fl).set 3 (.int .i64 q), Box.other (show Box VV _ _ _ from HL.out.pc) (by omega) _, HL.out.res.other (by omega) _, HL.out.lo.setCell (p := ⟨H, 3, none⟩) (by have := HL.out.hs; simp; omega) _, HL.out.hs⟩
          replace HL := Lib.hid hl
          rw [hVV.out] at HL ⊢
          clear hl hVV
          have hGe : G = ⟨so, ck, rate, q, nx, 0, ag⟩ := hG1.out
          clear hG1 hm
          obtain ⟨a0, a1, a2, a3, a4, a5, a6⟩ := HL.out.fl.cells
          obtain ⟨h0, h1, h2, h3, h4, h5, h6⟩ := HL.out.res.cells
          obtain ⟨f0, f1, f2, f3, f4, f5, f6⟩ := HL.out.res.frozen
          obtain ⟨y0, y1, y2, y3, y4, y5, y6⟩ := (HL.out.res.put ⟨so, ck, rate, q, nx, 0, ag⟩).cells
          simp only at a0 a1 a2 a3 a4 a5 a6 h0 h1 h2 h3 h4 h5 h6 y0 y1 y2 y3 y4 y5 y6
          have hsz : w.heap.size ≤ H + 1 + 1 := by have := HL.out.hs; omega
          have HGe := Lib.hid hGe
          clear hGe
          go_wp2_with fail
          rw [HGe.out]
          exact bodyPost_ret (v := .agg (Fl.c ⟨so, ck, rate, q, nx, 0, ag⟩)) (by simp [results, Try.f33, go_sem, y0, y1, y2, y3, y4, y5, y6, Fl.c]) rfl ⟨rfl, putF_below HL.out.lo hsz ⟨so, ck, rate, q, nx, 0, ag⟩⟩
        · have hq1 : decide (cr < q) = false := by simpa using hq
          have hm : max cr q = cr := by omega
          rw [hm] at hG1
          have hGe : G = ⟨so, ck, rate, cr, nx, 0, ag⟩ := hG1.out
          clear hG1 hm
          obtain ⟨a0, a1, a2, a3, a4, a5, a6⟩ := HL.out.fl.cells
          obtain ⟨p0, p1, p2, p3, p4⟩ := HL.out.pc.cells
          simp only at p0 p1 p2 p3 p4
          obtain ⟨h0, h1, h2, h3, h4, h5, h6⟩ := HL.out.res.cells
          obtain ⟨f0, f1, f2, f3, f4, f5, f6⟩ := HL.out.res.frozen
          obtain ⟨y0, y1, y2, y3, y4, y5, y6⟩ := (HL.out.res.put ⟨so, ck, rate, cr, nx, 0, ag⟩).cells
          simp only at a0 a1 a2 a3 a4 a5 a6 h0 h1 h2 h3 h4 h5 h6 y0 y1 y2 y3 y4 y5 y6
          have hsz : w.heap.size ≤ H + 1 + 1 := by have := HL.out.hs; omega
          have HGe := Lib.hid hGe
          clear hGe
          go_wp2_with fail
          rw [HGe.out]
          exact bodyPost_ret (v := .agg (Fl.c ⟨so, ck, rate, cr, nx, 0, ag⟩)) (by simp [results, Try.f33, go_sem, y0, y1, y2, y3, y4, y5, y6, Fl.c]) rfl ⟨rfl, putF_below HL.out.lo hsz ⟨so, ck, rate, cr, nx, 0, ag⟩⟩
      · have c2 : decide (0 < r) = false := by simpa using c1
        clear c0
        obtain ⟨a0, a1, a2, a3, a4, a5, a6⟩ := HL.out.fl.cells
        obtain ⟨p0, p1, p2, p3, p4⟩ := HL.out.pc.cells
        obtain ⟨f0, f1, f2, f3, f4, f5, f6⟩ := HL.out.fl.frozen
        simp only at a0 a1 a2 a3 a4 a5 a6 p0 p1 p2 p3 p4
        go_upto_region 7 with fail
        clear a0 a1 a2 a3 a4 a5 a6 p0 p1 p2 p3 p4 f0 f1 f2 f3 f4 f5 f6
        obtain ⟨VV, hVV⟩ : ∃ VV, Hid (W5.setCell ⟨H, 5, none⟩ (.int .u64 0) = VV) := ⟨_, Lib.hid rfl⟩
        have hl : Lay3 w (W5.setCell ⟨H, 5, none⟩ (.int .u64 0)) H ⟨so, ck, rate, cr, nx, 0, ag⟩ ⟨q, first, refill, most, low⟩ := ⟨(show Box W5 H _ _ from HL.out.fl).set 5 (.int .u64 0), Box.other (show Box W5 _ _ _ from HL.out.pc) (by omega) _, HL.out.res.other (by omega) _, HL.out.lo.setCell (p := ⟨H, 5, none⟩) (by have := HL.out.hs; simp; omega) _, HL.out.hs⟩
        replace HL := Lib.hid hl
        rw [hVV.out] at HL ⊢
        clear hl hVV
        by_cases hq : cr < q
        · have hm : max cr q = q := by omega
          rw [hm] at hG1
          obtain ⟨a0, a1, a2, a3, a4, a5, a6⟩ := HL.out.fl.cells
          obtain ⟨p0, p1, p2, p3, p4⟩ := HL.out.pc.cells
          obtain ⟨f0, f1, f2, f3, f4, f5, f6⟩ := HL.out.fl.frozen
          simp only at a0 a1 a2 a3 a4 a5 a6 p0 p1 p2 p3 p4
          go_upto_region 9 with fail
          clear a0 a1 a2 a3 a4 a5 a6 p0 p1 p2 p3 p4 f0 f1 f2 f3 f4 f5 f6
          obtain ⟨V9, hVV⟩ : ∃ V9, Hid (VV.setCell ⟨H, 3, none⟩ (.int .i64 q) = V9) := ⟨_, Lib.hid rfl⟩
          have hl : Lay3 w (VV.setCell ⟨H, 3, none⟩ (.int .i64 q)) H ⟨so, ck, rate, q, nx, 0, ag⟩ ⟨q, first, refill, most, low⟩ := ⟨(show Box VV H _ _ from HL.out.fl).set 3 (.int .i64 q), Box.other (show Box VV _ _ _ from HL.out.pc) (by omega) _, HL.out.res.other (by omega) _, HL.out.lo.setCell (p := ⟨H, 3, none⟩) (by have := HL.out.hs; simp; omega) _, HL.out.hs⟩
          replace HL := Lib.hid hl
          rw [hVV.out] at HL ⊢
          clear hl hVV
          have hGe : G = ⟨so, ck, rate, q, nx, 0, ag⟩ := hG1.out
          clear hG1 hm
          obtain ⟨a0, a1, a2, a3, a4, a5, a6⟩ := HL.out.fl.cells
          obtain ⟨h0, h1, h2, h3, h4, h5, h6⟩ := HL.out.res.cells
          obtain ⟨f0, f1, f2, f3, f4, f5, f6⟩ := HL.out.res.frozen
          obtain ⟨y0, y1, y2, y3, y4, y5, y6⟩ := (HL.out.res.put ⟨so, ck, rate, q, nx, 0, ag⟩).cells
          simp only at a0 a1 a2 a3 a4 a5 a6 h0 h1 h2 h3 h4 h5 h6 y0 y1 y2 y3 y4 y5 y6
          have hsz : w.heap.size ≤ H + 1 + 1 := by have := HL.out.hs; omega
          have HGe := Lib.hid hGe
          clear hGe
          go_wp2_with fail
          rw [HGe.out]
          exact bodyPost_ret (v := .agg (Fl.c ⟨so, ck, rate, q, nx, 0, ag⟩)) (by simp [results, Try.f33, go_sem, y0, y1, y2, y3, y4, y5, y6, Fl.c]) rfl ⟨rfl, putF_below HL.out.lo hsz ⟨so, ck, rate, q, nx, 0, ag⟩⟩
        · have hq1 : decide (cr < q) = false := by simpa using hq
          have hm : max cr q = cr := by omega
          rw [hm] at hG1
          have hGe : G = ⟨so, ck, rate, cr, nx, 0, ag⟩ := hG1.out
          clear hG1 hm
          obtain ⟨a0, a1, a2, a3, a4, a5, a6⟩ := HL.out.fl.cells
          obtain ⟨p0, p1, p2, p3, p4⟩ := HL.out.pc.cells
          simp only at p0 p1 p2 p3 p4
          obtain ⟨h0, h1, h2, h3, h4, h5, h6⟩ := HL.out.res.cells
          obtain ⟨f0, f1, f2, f3, f4, f5, f6⟩ := HL.out.res.frozen
          obtain ⟨y0, y1, y2, y3, y4, y5, y6⟩ := (HL.out.res.put ⟨so, ck, rate, cr, nx, 0, ag⟩).cells
          simp only at a0 a1 a2 a3 a4 a5 a6 h0 h1 h2 h3 h4 h5 h6 y0 y1 y2 y3 y4 y5 y6
          have hsz : w.heap.size ≤ H + 1 + 1 := by have := HL.out.hs; omega
          have HGe := Lib.hid hGe
          clear hGe
          go_wp2_with fail
          rw [HGe.out]
          exact bodyPost_ret (v := .agg (Fl.c ⟨so, ck, rate, cr, nx, 0, ag⟩)) (by simp [results, Try.f33, go_sem, y0, y1, y2, y3, y4, y5, y6, Fl.c]) rfl ⟨rfl, putF_below HL.out.lo hsz ⟨so, ck, rate, cr, nx, 0, ag⟩⟩

end Go.Proofs.Ytmokkbhfhbgkmaa
