/-
  The program's own flow: what it becomes behind some steps, told one by one.
-/
import Derived.Test.YtmokkbhfhbgkmaaFlowOwn
namespace Go.Proofs.Ytmokkbhfhbgkmaa
open Go.RowKit
set_option linter.unusedVariables false
set_option linter.unusedSimpArgs false
set_option maxRecDepth 100000

/-- Steps one behind the other. -/
def steps (gs : List (Nat × StepF)) (f : Fl) (t : Tm) : Fl := gs.foldl (fun s x => x.2 s t) f
theorem steps_snoc (gs : List (Nat × StepF)) (x : Nat × StepF) (f : Fl) (t : Tm) : steps (gs ++ [x]) f t = x.2 (steps gs f t) t := by
  unfold steps
  rw [List.foldl_append]
  rfl
theorem steps_fits {gs : List (Nat × StepF)} (hg : ∀ x ∈ gs, StepK x.1 x.2) : ∀ {f : Fl} {t : Tm}, f.Fits → t.Fits → (steps gs f t).Fits := by
  induction gs with
  | nil => intro f t hf _; exact hf
  | cons x xs ih =>
    intro f t hf ht
    exact ih (fun y hy => hg y (List.mem_cons_of_mem _ hy)) ((hg x (List.mem_cons_self ..)).2 f t default hf ht).1 ht
def fnV (x : Nat × StepF) : Value := .func (.func x.1) #[] #[]

/-- Terms, in a box. -/
def TBox (W : World) (b : Nat) (t : Tm) : Prop := Box W b 109 t.c
theorem TBox.cells {W : World} {b : Nat} {t : Tm} (h : TBox W b t) : W.cell? ⟨b, 0, none⟩ = some (.int .i64 t.p.q) ∧ W.cell? ⟨b, 1, none⟩ = some (.int .i64 t.p.first) ∧ W.cell? ⟨b, 2, none⟩ = some (.int .u64 t.p.refill) ∧ W.cell? ⟨b, 3, none⟩ = some (.int .u64 t.p.most) ∧ W.cell? ⟨b, 4, none⟩ = some (.int .u64 t.p.low) ∧ W.cell? ⟨b, 5, none⟩ = some (.int .u64 t.rate) ∧ W.cell? ⟨b, 6, none⟩ = some (.int .u64 t.at_) ∧ W.cell? ⟨b, 7, none⟩ = some (.int .i64 t.n) := by
  have h' : Box W b _ _ := h
  exact ⟨h'.cell 0, h'.cell 1, h'.cell 2, h'.cell 3, h'.cell 4, h'.cell 5, h'.cell 6, h'.cell 7⟩
theorem TBox.below {B : Nat} {W W' : World} {b : Nat} {t : Tm} (h : TBox W b t) (g : Below B W W') (hb : b < B) : TBox W' b t := Box.below (show Box W b _ _ from h) g hb
theorem TBox.lt {W : World} {b : Nat} {t : Tm} (h : TBox W b t) : b < W.heap.size := Box.lt (show Box W b _ _ from h)
theorem TBox.other {W : World} {b c i : Nat} {t : Tm} (h : TBox W b t) (hne : b ≠ c) (u : Value) : TBox (W.setCell ⟨c, i, none⟩ u) b t := Box.other (show Box W b _ _ from h) hne u
theorem TBox.new (w : World) (t : Tm) : TBox (w.alloc (.cells t.c 109)) w.heap.size t := Box.new w _ _

/-- All of a flow is stored: what lies elsewhere stays. -/
def putF (W : World) (b : Nat) (g : Fl) : World := ((((((W.setCell ⟨b, 0, none⟩ (.int .u64 g.so)).setCell ⟨b, 1, none⟩ (.int .u64 g.ck)).setCell ⟨b, 2, none⟩ (.int .u64 g.rate)).setCell ⟨b, 3, none⟩ (.int .i64 g.cr)).setCell ⟨b, 4, none⟩ (.int .u64 g.nx)).setCell ⟨b, 5, none⟩ (.int .u64 g.db)).setCell ⟨b, 6, none⟩ (.int .u64 g.ag)
theorem putF_box {W : World} {b : Nat} {t : TypeId} {f : Fl} (h : FBox W b t f) (g : Fl) : FBox (putF W b g) b t g := h.put g
theorem putF_other {W : World} {b c : Nat} {t : TypeId} {cs : Array Value} (h : Box W c t cs) (hne : c ≠ b) (g : Fl) : Box (putF W b g) c t cs :=
  ((((((h.other hne _).other hne _).other hne _).other hne _).other hne _).other hne _).other hne _
theorem putF_below {W w : World} {b B : Nat} (h : Below B w W) (hb : B ≤ b) (g : Fl) : Below B w (putF W b g) :=
  ((((((h.setCell hb _).setCell hb _).setCell hb _).setCell hb _).setCell hb _).setCell hb _).setCell hb _
theorem putF_size (W : World) (b : Nat) (g : Fl) : (putF W b g).heap.size = W.heap.size := by simp [putF, World.setCell]

/-- In the midst of it. -/
structure MidB (w W : World) (H b : Nat) (gs : List (Nat × StepF)) (t : Tm) (s : Fl) : Prop where
  st : FBox W (H + 1 + 1 + 1) 113 s
  res : FBox W (H + 1 + 1) 63 ⟨0, 0, 0, 0, 0, 0, 0⟩
  tm : TBox W (H + 1) t
  row : Box W b 127 (gs.map fnV).toArray
  old : b < H
  lo : Below w.heap.size w W
  hs : w.heap.size = H
theorem MidB.next {w W W3 : World} {H b : Nat} {gs : List (Nat × StepF)} {t : Tm} {s : Fl} (h : MidB w W H b gs t s) (g : Below W.heap.size W W3) (s' : Fl) : MidB w (putF W3 (H + 1 + 1 + 1) s') H b gs t s' := by
  have h0 := h.old
  exact ⟨putF_box (h.st.below g h.st.lt) s', putF_other (Box.below (show Box W _ _ _ from h.res) g h.res.lt) (by omega) s', putF_other (Box.below (show Box W _ _ _ from h.tm) g h.tm.lt) (by omega) s', putF_other (h.row.below g h.row.lt) (by omega) s', h0, putF_below (below_tr h.lo g) (by have := h.hs; omega) s', h.hs⟩

set_option maxHeartbeats 1000000 in
theorem becomes_of (gs : List (Nat × StepF)) (hg : ∀ x ∈ gs, StepK x.1 x.2) (f : Fl) (t : Tm) (hf : f.Fits) (ht : t.Fits) (k : Nat) (hk : gs.length = k) (hk9 : k ≤ 9) (b : Nat) (w : World) (hb : Box w b 127 (gs.map fnV).toArray) :
    Calls Try.prog 55 #[.agg f.c, .agg t.c, .slice (some ⟨b, 0, none⟩) k k] w fun e w' => e = .returned (.agg (steps gs f t).c) ∧ Below w.heap.size w w' := by
  have HG := Lib.hid hg
  have HF := Lib.hid hf
  have HT := Lib.hid ht
  have HL := Lib.hid hk
  obtain ⟨W, HW⟩ : ∃ W, Hid ((((w.alloc (.cells f.c 63)).alloc (.cells t.c 109)).alloc (.cells #[.int .u64 0, .int .u64 0, .int .u64 0, .int .i64 0, .int .u64 0, .int .u64 0, .int .u64 0] 63)).alloc (.cells f.c 113) = W) := ⟨_, Lib.hid rfl⟩
  have HM : Hid (MidB w W w.heap.size b gs t f) := by
    rw [← HW.out]
    have lo1 := (Below.refl w.heap.size w).alloc (Nat.le_refl _) (.cells f.c 63)
    have lo2 := lo1.alloc (by simp) (.cells t.c 109)
    have lo3 := lo2.alloc (by simp; omega) (.cells #[.int .u64 0, .int .u64 0, .int .u64 0, .int .i64 0, .int .u64 0, .int .u64 0, .int .u64 0] 63)
    have lo4 := lo3.alloc (by simp; omega) (.cells f.c 113)
    have x1 := Box.alloc (Box.alloc (show Box _ _ _ _ from TBox.new (w.alloc (.cells f.c 63)) t) (.cells #[.int .u64 0, .int .u64 0, .int .u64 0, .int .i64 0, .int .u64 0, .int .u64 0, .int .u64 0] 63)) (.cells f.c 113)
    have x2 := Box.alloc (Box.new ((w.alloc (.cells f.c 63)).alloc (.cells t.c 109)) 63 #[.int .u64 0, .int .u64 0, .int .u64 0, .int .i64 0, .int .u64 0, .int .u64 0, .int .u64 0]) (.cells f.c 113)
    have x3 := Box.new (((w.alloc (.cells f.c 63)).alloc (.cells t.c 109)).alloc (.cells #[.int .u64 0, .int .u64 0, .int .u64 0, .int .i64 0, .int .u64 0, .int .u64 0, .int .u64 0] 63)) 113 f.c
    simp only [World.size_alloc] at x1 x2 x3
    exact Lib.hid ⟨x3, x2, x1, hb.below lo4 hb.lt, hb.lt, lo4, rfl⟩
  obtain ⟨so, ck, rate, cr, nx, db, ag⟩ := f
  obtain ⟨⟨q, first, refill, most, low⟩, trate, tat, tn⟩ := t
  obtain ⟨H, HH⟩ : ∃ H, Hid (w.heap.size = H) := ⟨_, Lib.hid rfl⟩
  clear hg hf ht hk hb
  simp only [Fl.c, Tm.c] at HW
  rw [HH.out] at HM
  show Calls Try.prog 55 #[.agg #[.int .u64 so, .int .u64 ck, .int .u64 rate, .int .i64 cr, .int .u64 nx, .int .u64 db, .int .u64 ag], .agg #[.int .i64 q, .int .i64 first, .int .u64 refill, .int .u64 most, .int .u64 low, .int .u64 trate, .int .u64 tat, .int .i64 tn], .slice (some ⟨b, 0, none⟩) k k] w _
  go_enter Try.func55, Try.ntmps55
  go_upto_region 2 with fail
  rw [HW.out, HH.out]
  clear HW
  go_wp2_with fail
  go_loopw [9, 13] (fun _ v wr => ∃ i : Nat, i ≤ k ∧ v = .int .i64 (i : Int) ∧ Hid (MidB w wr H b gs ⟨⟨q, first, refill, most, low⟩, trate, tat, tn⟩ (steps (gs.take i) ⟨so, ck, rate, cr, nx, db, ag⟩ ⟨⟨q, first, refill, most, low⟩, trate, tat, tn⟩))) (fun _ v _ => (k - (intOf v).toNat))
  case atStart => exact ⟨0, Nat.zero_le _, rfl, HM⟩
  case round =>
    obtain ⟨i, hi, rfl, HMi⟩ := hrel
    obtain ⟨s, hs⟩ : ∃ s, Hid (steps (gs.take i) ⟨so, ck, rate, cr, nx, db, ag⟩ ⟨⟨q, first, refill, most, low⟩, trate, tat, tn⟩ = s) := ⟨_, Lib.hid rfl⟩
    have HFs : Hid s.Fits := by
      rw [← hs.out]
      exact Lib.hid (steps_fits (fun x hx => HG.out x (List.mem_of_mem_take hx)) HF.out HT.out)
    rw [hs.out] at HMi
    obtain ⟨d0, d1, d2, d3, d4, d5, d6⟩ := HMi.out.st.cells
    obtain ⟨t0, t1, t2, t3, t4, t5, t6, t7⟩ := HMi.out.tm.cells
    simp only at t0 t1 t2 t3 t4 t5 t6 t7
    by_cases hlt : i < k
    · have hgi : i < gs.length := by have := HL.out; omega
      obtain ⟨x, hx⟩ : ∃ x, Hid (gs[i] = x) := ⟨_, Lib.hid rfl⟩
      have hxm : Hid (StepK x.1 x.2) := by
        rw [← hx.out]
        exact Lib.hid (HG.out _ (List.getElem_mem hgi))
      have c0 : wr.cell? ⟨b, i, none⟩ = some (.func (.func x.1) #[] #[]) := by
        rw [HMi.out.row.cell i, ← hx.out]
        simp [fnV, hgi]
      have hN : Hid (steps (gs.take (i + 1)) ⟨so, ck, rate, cr, nx, db, ag⟩ ⟨⟨q, first, refill, most, low⟩, trate, tat, tn⟩ = x.2 s ⟨⟨q, first, refill, most, low⟩, trate, tat, tn⟩) := by
        refine Lib.hid ?_
        rw [List.take_succ_eq_append_getElem hgi, steps_snoc, hs.out, hx.out]
      obtain ⟨fn, g⟩ := x
      have HE := Lib.hid hxm.out.1
      have HC := Lib.hid fun W => (hxm.out.2 s ⟨⟨q, first, refill, most, low⟩, trate, tat, tn⟩ W HFs.out HT.out).2
      have HCF := Lib.hid (hxm.out.2 s ⟨⟨q, first, refill, most, low⟩, trate, tat, tn⟩ wr HFs.out HT.out).1
      simp only at c0 HC hN HCF HE
      obtain ⟨s', hs'⟩ : ∃ s', Hid (g s ⟨⟨q, first, refill, most, low⟩, trate, tat, tn⟩ = s') := ⟨_, Lib.hid rfl⟩
      rw [hs'.out] at HC hN HCF
      clear hs hs' hx hxm hgi
      simp only [Fl.c, Tm.c] at HC
      have hE : ∀ (args : Array Value) (w : World), (callFunc fn args).run Try.prog w = .ok (.enter fn args) w := HE.out
      go_upto_region 6 with (go_at_fn fn; refine (HC.out _).mono ?_; rintro e W3 ⟨rfl, g3⟩; have HM3 := Lib.hid (HMi.out.next g3 s'); have F3 := HMi.out.st.below g3 HMi.out.st.lt; obtain ⟨h0, h1, h2, h3, h4, h5, h6⟩ := F3.cells; obtain ⟨f0, f1, f2, f3, f4, f5, f6⟩ := F3.frozen; clear F3 d0 d1 d2 d3 d4 d5 d6 t0 t1 t2 t3 t4 t5 t6 t7 HMi HC c0 g3)
      go_wp2_with fail
      go_roundw
      case rel => exact ⟨i + 1, by omega, by go_num, by rw [hN.out]; exact HM3⟩
      case measure => simp [intOf]; omega
    · have hik : i = k := by omega
      have hN : Hid (s = steps gs ⟨so, ck, rate, cr, nx, db, ag⟩ ⟨⟨q, first, refill, most, low⟩, trate, tat, tn⟩) := by
        refine Lib.hid ?_
        rw [← hs.out, List.take_of_length_le (by have := HL.out; omega)]
      clear hs hik
      obtain ⟨h0, h1, h2, h3, h4, h5, h6⟩ := HMi.out.res.cells
      obtain ⟨f0, f1, f2, f3, f4, f5, f6⟩ := HMi.out.res.frozen
      obtain ⟨g0, g1, g2, g3, g4, g5, g6⟩ := (HMi.out.res.put s).cells
      simp only at h0 h1 h2 h3 h4 h5 h6
      clear t0 t1 t2 t3 t4 t5 t6 t7
      go_wp2_with fail
      have hsz : w.heap.size ≤ H + 1 + 1 := by have := HMi.out.hs; omega
      rw [← hN.out]
      exact bodyPost_ret (v := .agg s.c) (by simp [results, Try.f55, go_sem, g0, g1, g2, g3, g4, g5, g6, Fl.c]) rfl ⟨rfl, putF_below HMi.out.lo hsz s⟩

end Go.Proofs.Ytmokkbhfhbgkmaa
