/-
  The program's own flow: what Charge and Wake answer.
-/
import Derived.Test.YtmokkbhfhbgkmaaFlowCalls
namespace Go.Proofs.Ytmokkbhfhbgkmaa
open Go.RowKit
set_option linter.unusedVariables false
set_option linter.unusedSimpArgs false
set_option maxRecDepth 100000

/-- A pace, in a box. -/
def PBox (W : World) (b : Nat) (p : Pc) : Prop := Box W b 59 p.c
theorem PBox.cells {W : World} {b : Nat} {p : Pc} (h : PBox W b p) : W.cell? ⟨b, 0, none⟩ = some (.int .i64 p.q) ∧ W.cell? ⟨b, 1, none⟩ = some (.int .i64 p.first) ∧ W.cell? ⟨b, 2, none⟩ = some (.int .u64 p.refill) ∧ W.cell? ⟨b, 3, none⟩ = some (.int .u64 p.most) ∧ W.cell? ⟨b, 4, none⟩ = some (.int .u64 p.low) := by
  have h' : Box W b _ _ := h
  exact ⟨h'.cell 0, h'.cell 1, h'.cell 2, h'.cell 3, h'.cell 4⟩
theorem PBox.lt {W : World} {b : Nat} {p : Pc} (h : PBox W b p) : b < W.heap.size := Box.lt (show Box W b _ _ from h)
/-- What Charge and Wake have laid: the flow, the pace, what they hand back. -/
structure Lay3 (w W : World) (H : Nat) (f : Fl) (p : Pc) : Prop where
  fl : FBox W H 63 f
  pc : PBox W (H + 1) p
  res : FBox W (H + 1 + 1) 63 ⟨0, 0, 0, 0, 0, 0, 0⟩
  lo : Below w.heap.size w W
  hs : w.heap.size = H
section
variable {w W W' : World} {H : Nat} {f : Fl} {p : Pc}
theorem Lay3.below (h : Lay3 w W H f p) (g : Below W.heap.size W W') : Lay3 w W' H f p :=
  ⟨h.fl.below g h.fl.lt, Box.below (show Box W _ _ _ from h.pc) g h.pc.lt, h.res.below g h.res.lt, below_tr h.lo g, h.hs⟩
theorem Lay3.keep (h : Lay3 w W H f p) : W.cell? ⟨H, 0, none⟩ = some (.int .u64 f.so) ∧ W.cell? ⟨H, 1, none⟩ = some (.int .u64 f.ck) ∧ W.cell? ⟨H, 2, none⟩ = some (.int .u64 f.rate) ∧ W.cell? ⟨H, 3, none⟩ = some (.int .i64 f.cr) ∧ W.cell? ⟨H, 4, none⟩ = some (.int .u64 f.nx) ∧ W.cell? ⟨H, 5, none⟩ = some (.int .u64 f.db) ∧ W.cell? ⟨H, 6, none⟩ = some (.int .u64 f.ag) ∧ W.cell? ⟨H + 1, 0, none⟩ = some (.int .i64 p.q) ∧ W.cell? ⟨H + 1, 1, none⟩ = some (.int .i64 p.first) ∧ W.cell? ⟨H + 1, 2, none⟩ = some (.int .u64 p.refill) ∧ W.cell? ⟨H + 1, 3, none⟩ = some (.int .u64 p.most) ∧ W.cell? ⟨H + 1, 4, none⟩ = some (.int .u64 p.low) := by
  obtain ⟨e0, e1, e2, e3, e4, e5, e6⟩ := h.fl.cells
  exact ⟨e0, e1, e2, e3, e4, e5, e6, h.pc.cells⟩
theorem Lay3.size (h : Lay3 w W H f p) : H + 1 + 1 < W.heap.size := h.res.lt
theorem Lay3.start (w : World) (f : Fl) (p : Pc) : Lay3 w (((w.alloc (.cells f.c 63)).alloc (.cells p.c 59)).alloc (.cells #[.int .u64 0, .int .u64 0, .int .u64 0, .int .i64 0, .int .u64 0, .int .u64 0, .int .u64 0] 63)) w.heap.size f p := by
  have x1 := Box.alloc (Box.alloc (Box.new w 63 f.c) (.cells p.c 59)) (.cells #[.int .u64 0, .int .u64 0, .int .u64 0, .int .i64 0, .int .u64 0, .int .u64 0, .int .u64 0] 63)
  have x2 := Box.alloc (Box.new (w.alloc (.cells f.c 63)) 59 p.c) (.cells #[.int .u64 0, .int .u64 0, .int .u64 0, .int .i64 0, .int .u64 0, .int .u64 0, .int .u64 0] 63)
  have x3 := Box.new ((w.alloc (.cells f.c 63)).alloc (.cells p.c 59)) 63 #[.int .u64 0, .int .u64 0, .int .u64 0, .int .i64 0, .int .u64 0, .int .u64 0, .int .u64 0]
  simp only [World.size_alloc] at x1 x2 x3
  exact ⟨x1, x2, x3, (((Below.refl w.heap.size w).alloc (Nat.le_refl _) _).alloc (by simp) _).alloc (by simp; omega) _, rfl⟩
end

theorem tm_last (W : World) (a b : Obj) (t : Tm) : TBox (((W.alloc a).alloc b).alloc (.cells t.c 109)).drew (W.heap.size + 1 + 1) t := by
  have h := Box.new ((W.alloc a).alloc b) 109 t.c
  simp only [World.size_alloc] at h
  exact h
theorem tm_first (W : World) (a b : Obj) (t : Tm) : TBox (((W.alloc (.cells t.c 109)).alloc a).alloc b).drew W.heap.size t :=
  ((Box.new W 109 t.c).alloc a).alloc b

set_option maxHeartbeats 2000000 in
theorem flow_charge (f : Fl) (n now : Int) (p : Pc) (hf : f.Fits) (hp : p.Fits) (hn : 1 ≤ n ∧ n ≤ 65536) (ht : Num.Word now) (w : World) :
    Calls Try.prog 26 #[f.v, .int .i64 n, .int .u64 now, p.v] w fun e w' => e = .returned (.tuple #[(f.charge n now p).v, .int .i64 0]) ∧ Below w.heap.size w w' := by
  have L0 := Lay3.start w f p
  have KR := Lib.hid fun W => flow_rate f p hf hp W
  obtain ⟨r, hr⟩ : ∃ r, Hid (f.by p = r) := ⟨_, Lib.hid rfl⟩
  obtain ⟨G, hG⟩ : ∃ G, Hid (f.charge n now p = G) := ⟨_, Lib.hid rfl⟩
  rw [hG.out]
  rw [hr.out] at KR
  obtain ⟨W, HW⟩ : ∃ W, Hid ((((w.alloc (.cells f.c 63)).alloc (.cells p.c 59)).alloc (.cells #[.int .u64 0, .int .u64 0, .int .u64 0, .int .i64 0, .int .u64 0, .int .u64 0, .int .u64 0] 63)) = W) := ⟨_, Lib.hid rfl⟩
  rw [HW.out] at L0
  have HL0 := Lib.hid L0
  clear L0
  obtain ⟨H, HH⟩ : ∃ H, Hid (w.heap.size = H) := ⟨_, Lib.hid rfl⟩
  rw [HH.out] at HL0
  obtain ⟨so, ck, rate, cr, nx, db, ag⟩ := f
  obtain ⟨q, first, refill, most, low⟩ := p
  obtain ⟨n0, n1⟩ := hn
  have HF := Lib.hid hf
  have HP := Lib.hid hp
  have HT := Lib.hid ht
  clear hf hp ht
  simp only [Fl.v, Pc.v, Fl.c, Pc.c] at HW KR ⊢
  go_enter Try.func26, Try.ntmps26
  go_upto_region 3 with fail
  rw [HW.out, HH.out]
  clear HW
  obtain ⟨e0, e1, e2, e3, e4, e5, e6⟩ := HL0.out.fl.cells
  obtain ⟨p0, p1, p2, p3, p4⟩ := HL0.out.pc.cells
  simp only at e0 e1 e2 e3 e4 e5 e6 p0 p1 p2 p3 p4
  have hz0 : W.heap.size ≠ H := by have := HL0.out.size; omega
  have hz1 : W.heap.size ≠ H + 1 := by have := HL0.out.size; omega
  have hz2 : W.heap.size + 1 + 1 ≠ H := by have := HL0.out.size; omega
  have hz3 : W.heap.size + 1 + 1 ≠ H + 1 := by have := HL0.out.size; omega
  go_cut [10] (fun v10 wx => ∃ V bt, V = wx ∧ v10 = .pointer (some ⟨bt, 0, none⟩) ∧ Hid (Lay3 w V H ⟨so, ck, rate, cr, nx, db, ag⟩ ⟨q, first, refill, most, low⟩ ∧ TBox V bt ⟨⟨q, first, refill, most, low⟩, r, now, n⟩ ∧ H + 1 + 1 < bt))
  case first =>
    go_region_held3 (fun w' => w'.cell? ⟨H, 0, none⟩ = some (.int .u64 so) ∧ w'.cell? ⟨H, 1, none⟩ = some (.int .u64 ck) ∧ w'.cell? ⟨H, 2, none⟩ = some (.int .u64 rate) ∧ w'.cell? ⟨H, 3, none⟩ = some (.int .i64 cr) ∧ w'.cell? ⟨H, 4, none⟩ = some (.int .u64 nx) ∧ w'.cell? ⟨H, 5, none⟩ = some (.int .u64 db) ∧ w'.cell? ⟨H, 6, none⟩ = some (.int .u64 ag) ∧ w'.cell? ⟨H + 1, 0, none⟩ = some (.int .i64 q) ∧ w'.cell? ⟨H + 1, 1, none⟩ = some (.int .i64 first) ∧ w'.cell? ⟨H + 1, 2, none⟩ = some (.int .u64 refill) ∧ w'.cell? ⟨H + 1, 3, none⟩ = some (.int .u64 most) ∧ w'.cell? ⟨H + 1, 4, none⟩ = some (.int .u64 low)) (exact (HL0.out.below (by (repeat first | exact Below.refl _ _ | refine Below.drew ?_ | refine Below.alloc ?_ (by simp; try omega) _ | refine Below.setCell ?_ (by simp; try omega) _))).keep)
      (first | (go_at_call 34; refine (KR.out _).mono ?_; rintro e w' ⟨rfl, rfl⟩))
    all_goals
      clear KR HF HP HT hr hG
      go_wp2_with fail
      go_meet
      refine ⟨_, _, rfl, rfl, Lib.hid ⟨HL0.out.below (by (repeat first | exact Below.refl _ _ | refine Below.drew ?_ | refine Below.alloc ?_ (by simp; try omega) _ | refine Below.setCell ?_ (by simp; try omega) _)), ?_, by have := HL0.out.size; try simp; omega⟩⟩
      first | exact tm_last W _ _ ⟨⟨q, first, refill, most, low⟩, r, now, n⟩ | exact tm_first W _ _ ⟨⟨q, first, refill, most, low⟩, r, now, n⟩
  case rest =>
    obtain ⟨V, bt, rfl, rfl, hV⟩ := hcut
    have HV := Lib.hid hV.out
    obtain ⟨hL, hT, hbt⟩ := hV.out
    obtain ⟨e0, e1, e2, e3, e4, e5, e6⟩ := hL.fl.cells
    obtain ⟨p0, p1, p2, p3, p4⟩ := hL.pc.cells
    obtain ⟨t0, t1, t2, t3, t4, t5, t6, t7⟩ := hT.cells
    simp only at e0 e1 e2 e3 e4 e5 e6 p0 p1 p2 p3 p4 t0 t1 t2 t3 t4 t5 t6 t7
    have HSZ := Lib.hid hbt
    have hr0 : Hid (Num.Word r) := by rw [← hr.out]; exact Lib.hid (Fl.by_word HF.out HP.out)
    have HTF : Hid (Tm.Fits ⟨⟨q, first, refill, most, low⟩, r, now, n⟩) := Lib.hid ⟨HP.out, hr0.out, HT.out, ⟨by show 0 ≤ n; omega, by show n ≤ 65536; omega⟩⟩
    clear hL hT hbt hV KR HL0 hr0
    by_cases c0 : r = 0
    · have c1 : (r == 0) = true := by simpa using c0
      have HC : Hid (∀ b W, Box W b 127 #[.func (.func 56) #[] #[]] → Calls Try.prog 55 #[.agg (Fl.c ⟨so, ck, rate, cr, nx, db, ag⟩), .agg (Tm.c ⟨⟨q, first, refill, most, low⟩, r, now, n⟩), .slice (some ⟨b, 0, none⟩) 1 1] W fun e w' => e = .returned (.agg G.c) ∧ Below W.heap.size W w') := by
        refine Lib.hid fun b W hb => ?_
        have e : steps [(56, fun f t => f.spend t.n)] ⟨so, ck, rate, cr, nx, db, ag⟩ ⟨⟨q, first, refill, most, low⟩, r, now, n⟩ = G := by
          rw [← hG.out]
          unfold Fl.charge; rw [hr.out, if_pos c0]; rfl
        have := becomes_of [(56, fun f t => f.spend t.n)] (List.forall_mem_cons.2 ⟨step_spend, fun _ h => absurd h List.not_mem_nil⟩) ⟨so, ck, rate, cr, nx, db, ag⟩ ⟨⟨q, first, refill, most, low⟩, r, now, n⟩ HF.out HTF.out 1 rfl (by omega) b W hb
        rw [e] at this
        exact this
      simp only [Fl.c, Tm.c] at HC
      subst c0
      clear hr hG HF HP HT HTF c1
      go_wp2_with fail
      refine (HC.out _ _ ?_).mono ?_
      · exact Box.new _ _ _
      rintro e W3 ⟨rfl, g3⟩
      have HL3 := Lib.hid (HV.out.1.below (below_tr ((Below.refl _ _).alloc (Nat.le_refl _) _) g3))
      have F3 := HL3.out.res
      have hsz : w.heap.size ≤ H + 1 + 1 := by have := HL3.out.hs; omega
      clear g3 HC HH HSZ e0 e1 e2 e3 e4 e5 e6 p0 p1 p2 p3 p4 t0 t1 t2 t3 t4 t5 t6 t7
      obtain ⟨h0, h1, h2, h3, h4, h5, h6⟩ := F3.cells
      obtain ⟨f0, f1, f2, f3, f4, f5, f6⟩ := F3.frozen
      obtain ⟨y0, y1, y2, y3, y4, y5, y6⟩ := (F3.put G).cells
      simp only at h0 h1 h2 h3 h4 h5 h6
      clear F3
      go_wp2_with fail
      exact bodyPost_ret (v := .tuple #[.agg G.c, .int .i64 0]) (by simp [results, Try.f26, go_sem, Fl.c, y0, y1, y2, y3, y4, y5, y6]) rfl ⟨rfl, putF_below HL3.out.lo hsz G⟩
    · have c1 : (r == 0) = false := by simpa using c0
      by_cases c2 : r < low
      · have HC : Hid (∀ b W, Box W b 127 #[.func (.func 56) #[] #[], .func (.func 57) #[] #[], .func (.func 58) #[] #[], .func (.func 59) #[] #[]] → Calls Try.prog 55 #[.agg (Fl.c ⟨so, ck, rate, cr, nx, db, ag⟩), .agg (Tm.c ⟨⟨q, first, refill, most, low⟩, r, now, n⟩), .slice (some ⟨b, 0, none⟩) 4 4] W fun e w' => e = .returned (.agg G.c) ∧ Below W.heap.size W w') := by
          refine Lib.hid fun b W hb => ?_
          have e : steps [(56, fun f t => f.spend t.n), (57, fun f t => f.owe t.n), (58, fun f t => f.pay t.at_ t.rate), (59, fun f t => f.forgo)] ⟨so, ck, rate, cr, nx, db, ag⟩ ⟨⟨q, first, refill, most, low⟩, r, now, n⟩ = G := by
            rw [← hG.out]
            unfold Fl.charge; rw [hr.out, if_neg c0, if_pos c2]; rfl
          have := becomes_of [(56, fun f t => f.spend t.n), (57, fun f t => f.owe t.n), (58, fun f t => f.pay t.at_ t.rate), (59, fun f t => f.forgo)] (List.forall_mem_cons.2 ⟨step_spend, List.forall_mem_cons.2 ⟨step_owe, List.forall_mem_cons.2 ⟨step_pay, List.forall_mem_cons.2 ⟨step_forgo, fun _ h => absurd h List.not_mem_nil⟩⟩⟩⟩) ⟨so, ck, rate, cr, nx, db, ag⟩ ⟨⟨q, first, refill, most, low⟩, r, now, n⟩ HF.out HTF.out 4 rfl (by omega) b W hb
          rw [e] at this
          exact this
        simp only [Fl.c, Tm.c] at HC
        clear hr hG HF HP HT HTF c0
        go_wp2_with fail
        refine (HC.out _ _ ?_).mono ?_
        · exact Box.new _ _ _
        rintro e W3 ⟨rfl, g3⟩
        have HL3 := Lib.hid (HV.out.1.below (below_tr ((Below.refl _ _).alloc (Nat.le_refl _) _) g3))
        have F3 := HL3.out.res
        have hsz : w.heap.size ≤ H + 1 + 1 := by have := HL3.out.hs; omega
        clear g3 HC HH HSZ e0 e1 e2 e3 e4 e5 e6 p0 p1 p2 p3 p4 t0 t1 t2 t3 t4 t5 t6 t7
        obtain ⟨h0, h1, h2, h3, h4, h5, h6⟩ := F3.cells
        obtain ⟨f0, f1, f2, f3, f4, f5, f6⟩ := F3.frozen
        obtain ⟨y0, y1, y2, y3, y4, y5, y6⟩ := (F3.put G).cells
        simp only at h0 h1 h2 h3 h4 h5 h6
        clear F3
        go_wp2_with fail
        exact bodyPost_ret (v := .tuple #[.agg G.c, .int .i64 0]) (by simp [results, Try.f26, go_sem, Fl.c, y0, y1, y2, y3, y4, y5, y6]) rfl ⟨rfl, putF_below HL3.out.lo hsz G⟩
      · have c3 : decide (r < low) = false := by simpa using c2
        have HC : Hid (∀ b W, Box W b 127 #[.func (.func 56) #[] #[], .func (.func 57) #[] #[], .func (.func 60) #[] #[]] → Calls Try.prog 55 #[.agg (Fl.c ⟨so, ck, rate, cr, nx, db, ag⟩), .agg (Tm.c ⟨⟨q, first, refill, most, low⟩, r, now, n⟩), .slice (some ⟨b, 0, none⟩) 3 3] W fun e w' => e = .returned (.agg G.c) ∧ Below W.heap.size W w') := by
          refine Lib.hid fun b W hb => ?_
          have e : steps [(56, fun f t => f.spend t.n), (57, fun f t => f.owe t.n), (60, fun f t => if 0 < f.cr then f else f.pay t.at_ t.rate)] ⟨so, ck, rate, cr, nx, db, ag⟩ ⟨⟨q, first, refill, most, low⟩, r, now, n⟩ = G := by
            rw [← hG.out]
            unfold Fl.charge; rw [hr.out, if_neg c0, if_neg c2]; rfl
          have := becomes_of [(56, fun f t => f.spend t.n), (57, fun f t => f.owe t.n), (60, fun f t => if 0 < f.cr then f else f.pay t.at_ t.rate)] (List.forall_mem_cons.2 ⟨step_spend, List.forall_mem_cons.2 ⟨step_owe, List.forall_mem_cons.2 ⟨step_payIfSpent, fun _ h => absurd h List.not_mem_nil⟩⟩⟩) ⟨so, ck, rate, cr, nx, db, ag⟩ ⟨⟨q, first, refill, most, low⟩, r, now, n⟩ HF.out HTF.out 3 rfl (by omega) b W hb
          rw [e] at this
          exact this
        simp only [Fl.c, Tm.c] at HC
        clear hr hG HF HP HT HTF c0 c2
        go_wp2_with fail
        refine (HC.out _ _ ?_).mono ?_
        · exact Box.new _ _ _
        rintro e W3 ⟨rfl, g3⟩
        have HL3 := Lib.hid (HV.out.1.below (below_tr ((Below.refl _ _).alloc (Nat.le_refl _) _) g3))
        have F3 := HL3.out.res
        have hsz : w.heap.size ≤ H + 1 + 1 := by have := HL3.out.hs; omega
        clear g3 HC HH HSZ e0 e1 e2 e3 e4 e5 e6 p0 p1 p2 p3 p4 t0 t1 t2 t3 t4 t5 t6 t7
        obtain ⟨h0, h1, h2, h3, h4, h5, h6⟩ := F3.cells
        obtain ⟨f0, f1, f2, f3, f4, f5, f6⟩ := F3.frozen
        obtain ⟨y0, y1, y2, y3, y4, y5, y6⟩ := (F3.put G).cells
        simp only at h0 h1 h2 h3 h4 h5 h6
        clear F3
        go_wp2_with fail
        exact bodyPost_ret (v := .tuple #[.agg G.c, .int .i64 0]) (by simp [results, Try.f26, go_sem, Fl.c, y0, y1, y2, y3, y4, y5, y6]) rfl ⟨rfl, putF_below HL3.out.lo hsz G⟩

theorem flow_refused (f : Fl) (n now : Int) (p : Pc) (hn : ¬ (1 ≤ n ∧ n ≤ 65536)) (w : World) :
    Calls Try.prog 26 #[f.v, .int .i64 n, .int .u64 now, p.v] w fun e w' => e = .returned (.tuple #[f.v, .int .i64 2]) ∧ Below w.heap.size w w' := by
  obtain ⟨so, ck, rate, cr, nx, db, ag⟩ := f
  obtain ⟨q, first, refill, most, low⟩ := p
  simp only [Fl.v, Pc.v, Fl.c, Pc.c]
  by_cases h1 : n < 1
  · clear hn
    go_enter Try.func26, Try.ntmps26
    go_wp2_with fail
    exact bodyPost_ret (v := .tuple #[.agg #[.int .u64 so, .int .u64 ck, .int .u64 rate, .int .i64 cr, .int .u64 nx, .int .u64 db, .int .u64 ag], .int .i64 2]) (by simp [results, Try.f26, go_sem]) rfl ⟨rfl, (((Below.refl _ _).alloc (Nat.le_refl _) _).alloc (by simp) _).alloc (by simp; omega) _⟩
  · have h2 : 65536 < n := by omega
    clear hn
    go_enter Try.func26, Try.ntmps26
    go_wp2_with fail
    exact bodyPost_ret (v := .tuple #[.agg #[.int .u64 so, .int .u64 ck, .int .u64 rate, .int .i64 cr, .int .u64 nx, .int .u64 db, .int .u64 ag], .int .i64 2]) (by simp [results, Try.f26, go_sem]) rfl ⟨rfl, (((Below.refl _ _).alloc (Nat.le_refl _) _).alloc (by simp) _).alloc (by simp; omega) _⟩

set_option maxHeartbeats 2000000 in
theorem flow_wake (f : Fl) (now : Int) (p : Pc) (hf : f.Fits) (hp : p.Fits) (ht : Num.Word now) (w : World) :
    Calls Try.prog 32 #[f.v, .int .u64 now, p.v] w fun e w' => e = .returned (f.wake now p).v ∧ Below w.heap.size w w' := by
  have L0 := Lay3.start w f p
  have KR := Lib.hid fun W => flow_rate f p hf hp W
  obtain ⟨r, hr⟩ : ∃ r, Hid (f.by p = r) := ⟨_, Lib.hid rfl⟩
  obtain ⟨G, hG⟩ : ∃ G, Hid (f.wake now p = G) := ⟨_, Lib.hid rfl⟩
  rw [hG.out]
  rw [hr.out] at KR
  obtain ⟨W, HW⟩ : ∃ W, Hid ((((w.alloc (.cells f.c 63)).alloc (.cells p.c 59)).alloc (.cells #[.int .u64 0, .int .u64 0, .int .u64 0, .int .i64 0, .int .u64 0, .int .u64 0, .int .u64 0] 63)) = W) := ⟨_, Lib.hid rfl⟩
  rw [HW.out] at L0
  have HL0 := Lib.hid L0
  clear L0
  obtain ⟨H, HH⟩ : ∃ H, Hid (w.heap.size = H) := ⟨_, Lib.hid rfl⟩
  rw [HH.out] at HL0
  obtain ⟨so, ck, rate, cr, nx, db, ag⟩ := f
  obtain ⟨q, first, refill, most, low⟩ := p
  have KA := Lib.hid fun W => sat_add ag refill W hf.ag hp.refill
  have hda := hf.db
  have HF := Lib.hid hf
  have HP := Lib.hid hp
  have HT := Lib.hid ht
  clear hf hp ht
  simp only [Fl.v, Pc.v, Fl.c, Pc.c] at HW KR ⊢
  obtain ⟨s, hs⟩ : ∃ s, Hid (Num.add ag refill = s) := ⟨_, Lib.hid rfl⟩
  rw [hs.out] at KA
  by_cases hnow : now < s
  · have hGf : Hid (⟨so, ck, rate, cr, nx, db, ag⟩ = G) := by
      rw [← hG.out]
      refine Lib.hid ?_
      unfold Fl.wake
      rw [hs.out, if_pos hnow]
    clear KR HL0 HW HF HP HT hr hG hs
    go_enter Try.func32, Try.ntmps32
    go_wp2_with (go_at_call 39; refine (KA.out _).mono ?_; rintro e w' ⟨rfl, rfl⟩)
    rw [← hGf.out]
    exact bodyPost_ret (v := .agg #[.int .u64 so, .int .u64 ck, .int .u64 rate, .int .i64 cr, .int .u64 nx, .int .u64 db, .int .u64 ag]) (by simp [results, Try.f32, go_sem]) rfl ⟨rfl, (((Below.refl _ _).alloc (Nat.le_refl _) _).alloc (by simp) _).alloc (by simp; omega) _⟩
  · have HN := Lib.hid hnow
    have hnow' : decide (now < s) = false := by simpa using hnow
    clear hnow
    have hdb0 := hda.1
    simp only at hdb0
    clear hda
    go_enter Try.func32, Try.ntmps32
    go_upto_region 3 with (go_at_call 39; refine (KA.out _).mono ?_; rintro e w' ⟨rfl, rfl⟩)
    rw [HW.out, HH.out]
    clear HW KA hnow'
    obtain ⟨e0, e1, e2, e3, e4, e5, e6⟩ := HL0.out.fl.cells
    obtain ⟨p0, p1, p2, p3, p4⟩ := HL0.out.pc.cells
    simp only at e0 e1 e2 e3 e4 e5 e6 p0 p1 p2 p3 p4
    have hz0 : W.heap.size ≠ H := by have := HL0.out.size; omega
    have hz1 : W.heap.size ≠ H + 1 := by have := HL0.out.size; omega
    have hz2 : W.heap.size + 1 + 1 ≠ H := by have := HL0.out.size; omega
    have hz3 : W.heap.size + 1 + 1 ≠ H + 1 := by have := HL0.out.size; omega
    go_cut [7] (fun v10 wx => ∃ V bt, V = wx ∧ v10 = .pointer (some ⟨bt, 0, none⟩) ∧ Hid (Lay3 w V H ⟨so, ck, rate, cr, nx, db, ag⟩ ⟨q, first, refill, most, low⟩ ∧ TBox V bt ⟨⟨q, first, refill, most, low⟩, r, ag, 0⟩ ∧ H + 1 + 1 < bt))
    case first =>
      go_region_held3 (fun w' => w'.cell? ⟨H, 0, none⟩ = some (.int .u64 so) ∧ w'.cell? ⟨H, 1, none⟩ = some (.int .u64 ck) ∧ w'.cell? ⟨H, 2, none⟩ = some (.int .u64 rate) ∧ w'.cell? ⟨H, 3, none⟩ = some (.int .i64 cr) ∧ w'.cell? ⟨H, 4, none⟩ = some (.int .u64 nx) ∧ w'.cell? ⟨H, 5, none⟩ = some (.int .u64 db) ∧ w'.cell? ⟨H, 6, none⟩ = some (.int .u64 ag) ∧ w'.cell? ⟨H + 1, 0, none⟩ = some (.int .i64 q) ∧ w'.cell? ⟨H + 1, 1, none⟩ = some (.int .i64 first) ∧ w'.cell? ⟨H + 1, 2, none⟩ = some (.int .u64 refill) ∧ w'.cell? ⟨H + 1, 3, none⟩ = some (.int .u64 most) ∧ w'.cell? ⟨H + 1, 4, none⟩ = some (.int .u64 low)) (exact (HL0.out.below (by (repeat first | exact Below.refl _ _ | refine Below.drew ?_ | refine Below.alloc ?_ (by simp; try omega) _ | refine Below.setCell ?_ (by simp; try omega) _))).keep)
        (first | (go_at_call 34; refine (KR.out _).mono ?_; rintro e w' ⟨rfl, rfl⟩))
      all_goals
        clear KR HF HP HT hr hG
        go_wp2_with fail
        go_meet
        refine ⟨_, _, rfl, rfl, Lib.hid ⟨HL0.out.below (by (repeat first | exact Below.refl _ _ | refine Below.drew ?_ | refine Below.alloc ?_ (by simp; try omega) _ | refine Below.setCell ?_ (by simp; try omega) _)), ?_, by have := HL0.out.size; try simp; omega⟩⟩
        first | exact tm_last W _ _ ⟨⟨q, first, refill, most, low⟩, r, ag, 0⟩ | exact tm_first W _ _ ⟨⟨q, first, refill, most, low⟩, r, ag, 0⟩
    case rest =>
      obtain ⟨V, bt, rfl, rfl, hV⟩ := hcut
      have HV := Lib.hid hV.out
      obtain ⟨hL, hT, hbt⟩ := hV.out
      obtain ⟨e0, e1, e2, e3, e4, e5, e6⟩ := hL.fl.cells
      obtain ⟨p0, p1, p2, p3, p4⟩ := hL.pc.cells
      obtain ⟨t0, t1, t2, t3, t4, t5, t6, t7⟩ := hT.cells
      simp only at e0 e1 e2 e3 e4 e5 e6 p0 p1 p2 p3 p4 t0 t1 t2 t3 t4 t5 t6 t7
      have HSZ := Lib.hid hbt
      have hr0 : Hid (Num.Word r) := by rw [← hr.out]; exact Lib.hid (Fl.by_word HF.out HP.out)
      have HTF : Hid (Tm.Fits ⟨⟨q, first, refill, most, low⟩, r, ag, 0⟩) := Lib.hid ⟨HP.out, hr0.out, HF.out.ag, ⟨Int.le_refl 0, by show (0 : Int) ≤ 65536; omega⟩⟩
      have hr1 : 0 ≤ r := hr0.out.1
      clear hL hT hbt hV KR HL0 hr0
      by_cases c0 : 0 < r
      · by_cases c1 : 0 < db
        · have HC : Hid (∀ b W, Box W b 127 #[.func (.func 58) #[] #[], .func (.func 64) #[] #[]] → Calls Try.prog 55 #[.agg (Fl.c ⟨so, ck, rate, cr, nx, db, ag⟩), .agg (Tm.c ⟨⟨q, first, refill, most, low⟩, r, ag, 0⟩), .slice (some ⟨b, 0, none⟩) 2 2] W fun e w' => e = .returned (.agg G.c) ∧ Below W.heap.size W w') := by
            refine Lib.hid fun b W hb => ?_
            have e : steps [(58, fun f t => f.pay t.at_ t.rate), (64, fun f t => f.renew t.p)] ⟨so, ck, rate, cr, nx, db, ag⟩ ⟨⟨q, first, refill, most, low⟩, r, ag, 0⟩ = G := by
              rw [← hG.out]
              unfold Fl.wake; rw [hs.out, if_neg (Int.not_lt.2 HN.out), hr.out, if_pos ⟨c0, c1⟩]; rfl
            have := becomes_of [(58, fun f t => f.pay t.at_ t.rate), (64, fun f t => f.renew t.p)] (List.forall_mem_cons.2 ⟨step_pay, List.forall_mem_cons.2 ⟨step_renew, fun _ h => absurd h List.not_mem_nil⟩⟩) ⟨so, ck, rate, cr, nx, db, ag⟩ ⟨⟨q, first, refill, most, low⟩, r, ag, 0⟩ HF.out HTF.out 2 rfl (by omega) b W hb
            rw [e] at this
            exact this
          simp only [Fl.c, Tm.c] at HC
          clear hr hG HF HP HT HTF
          go_wp2_with fail
          refine (HC.out _ _ ?_).mono ?_
          · exact Box.new _ _ _
          rintro e W3 ⟨rfl, g3⟩
          have HL3 := Lib.hid (HV.out.1.below (below_tr ((Below.refl _ _).alloc (Nat.le_refl _) _) g3))
          have F3 := HL3.out.res
          have hsz : w.heap.size ≤ H + 1 + 1 := by have := HL3.out.hs; omega
          clear g3 HC HH HSZ e0 e1 e2 e3 e4 e5 e6 p0 p1 p2 p3 p4 t0 t1 t2 t3 t4 t5 t6 t7
          obtain ⟨h0, h1, h2, h3, h4, h5, h6⟩ := F3.cells
          obtain ⟨f0, f1, f2, f3, f4, f5, f6⟩ := F3.frozen
          obtain ⟨y0, y1, y2, y3, y4, y5, y6⟩ := (F3.put G).cells
          simp only at h0 h1 h2 h3 h4 h5 h6
          clear F3
          go_wp2_with fail
          exact bodyPost_ret (v := .agg G.c) (by simp [results, Try.f32, go_sem, Fl.c, y0, y1, y2, y3, y4, y5, y6]) rfl ⟨rfl, putF_below HL3.out.lo hsz G⟩
        · have c2 : decide (0 < db) = false := by simpa using c1
          have HC : Hid (∀ b W, Box W b 127 #[.func (.func 65) #[] #[], .func (.func 64) #[] #[]] → Calls Try.prog 55 #[.agg (Fl.c ⟨so, ck, rate, cr, nx, db, ag⟩), .agg (Tm.c ⟨⟨q, first, refill, most, low⟩, r, ag, 0⟩), .slice (some ⟨b, 0, none⟩) 2 2] W fun e w' => e = .returned (.agg G.c) ∧ Below W.heap.size W w') := by
            refine Lib.hid fun b W hb => ?_
            have e : steps [(65, fun f _ => f.acquit), (64, fun f t => f.renew t.p)] ⟨so, ck, rate, cr, nx, db, ag⟩ ⟨⟨q, first, refill, most, low⟩, r, ag, 0⟩ = G := by
              rw [← hG.out]
              unfold Fl.wake; rw [hs.out, if_neg (Int.not_lt.2 HN.out), hr.out, if_neg (fun h => c1 h.2)]; rfl
            have := becomes_of [(65, fun f _ => f.acquit), (64, fun f t => f.renew t.p)] (List.forall_mem_cons.2 ⟨step_acquit, List.forall_mem_cons.2 ⟨step_renew, fun _ h => absurd h List.not_mem_nil⟩⟩) ⟨so, ck, rate, cr, nx, db, ag⟩ ⟨⟨q, first, refill, most, low⟩, r, ag, 0⟩ HF.out HTF.out 2 rfl (by omega) b W hb
            rw [e] at this
            exact this
          simp only [Fl.c, Tm.c] at HC
          clear hr hG HF HP HT HTF c1
          go_wp2_with fail
          refine (HC.out _ _ ?_).mono ?_
          · exact Box.new _ _ _
          rintro e W3 ⟨rfl, g3⟩
          have HL3 := Lib.hid (HV.out.1.below (below_tr ((Below.refl _ _).alloc (Nat.le_refl _) _) g3))
          have F3 := HL3.out.res
          have hsz : w.heap.size ≤ H + 1 + 1 := by have := HL3.out.hs; omega
          clear g3 HC HH HSZ e0 e1 e2 e3 e4 e5 e6 p0 p1 p2 p3 p4 t0 t1 t2 t3 t4 t5 t6 t7
          obtain ⟨h0, h1, h2, h3, h4, h5, h6⟩ := F3.cells
          obtain ⟨f0, f1, f2, f3, f4, f5, f6⟩ := F3.frozen
          obtain ⟨y0, y1, y2, y3, y4, y5, y6⟩ := (F3.put G).cells
          simp only at h0 h1 h2 h3 h4 h5 h6
          clear F3
          go_wp2_with fail
          exact bodyPost_ret (v := .agg G.c) (by simp [results, Try.f32, go_sem, Fl.c, y0, y1, y2, y3, y4, y5, y6]) rfl ⟨rfl, putF_below HL3.out.lo hsz G⟩
      · have c2 : decide (0 < r) = false := by simpa using c0
        have HC : Hid (∀ b W, Box W b 127 #[.func (.func 65) #[] #[], .func (.func 64) #[] #[]] → Calls Try.prog 55 #[.agg (Fl.c ⟨so, ck, rate, cr, nx, db, ag⟩), .agg (Tm.c ⟨⟨q, first, refill, most, low⟩, r, ag, 0⟩), .slice (some ⟨b, 0, none⟩) 2 2] W fun e w' => e = .returned (.agg G.c) ∧ Below W.heap.size W w') := by
          refine Lib.hid fun b W hb => ?_
          have e : steps [(65, fun f _ => f.acquit), (64, fun f t => f.renew t.p)] ⟨so, ck, rate, cr, nx, db, ag⟩ ⟨⟨q, first, refill, most, low⟩, r, ag, 0⟩ = G := by
            rw [← hG.out]
            unfold Fl.wake; rw [hs.out, if_neg (Int.not_lt.2 HN.out), hr.out, if_neg (fun h => c0 h.1)]; rfl
          have := becomes_of [(65, fun f _ => f.acquit), (64, fun f t => f.renew t.p)] (List.forall_mem_cons.2 ⟨step_acquit, List.forall_mem_cons.2 ⟨step_renew, fun _ h => absurd h List.not_mem_nil⟩⟩) ⟨so, ck, rate, cr, nx, db, ag⟩ ⟨⟨q, first, refill, most, low⟩, r, ag, 0⟩ HF.out HTF.out 2 rfl (by omega) b W hb
          rw [e] at this
          exact this
        simp only [Fl.c, Tm.c] at HC
        clear hr hG HF HP HT HTF c0
        go_wp2_with fail
        refine (HC.out _ _ ?_).mono ?_
        · exact Box.new _ _ _
        rintro e W3 ⟨rfl, g3⟩
        have HL3 := Lib.hid (HV.out.1.below (below_tr ((Below.refl _ _).alloc (Nat.le_refl _) _) g3))
        have F3 := HL3.out.res
        have hsz : w.heap.size ≤ H + 1 + 1 := by have := HL3.out.hs; omega
        clear g3 HC HH HSZ e0 e1 e2 e3 e4 e5 e6 p0 p1 p2 p3 p4 t0 t1 t2 t3 t4 t5 t6 t7
        obtain ⟨h0, h1, h2, h3, h4, h5, h6⟩ := F3.cells
        obtain ⟨f0, f1, f2, f3, f4, f5, f6⟩ := F3.frozen
        obtain ⟨y0, y1, y2, y3, y4, y5, y6⟩ := (F3.put G).cells
        simp only at h0 h1 h2 h3 h4 h5 h6
        clear F3
        go_wp2_with fail
        exact bodyPost_ret (v := .agg G.c) (by simp [results, Try.f32, go_sem, Fl.c, y0, y1, y2, y3, y4, y5, y6]) rfl ⟨rfl, putF_below HL3.out.lo hsz G⟩

end Go.Proofs.Ytmokkbhfhbgkmaa
