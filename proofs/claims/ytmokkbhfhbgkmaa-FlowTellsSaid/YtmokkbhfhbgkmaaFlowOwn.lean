/-
  The program's own flow (package flow): its steps, as they are told one by one.
-/
import Derived.Test.YtmokkbhfhbgkmaaFlowGhost
import Derived.Test.YtmokkbhfhbgkmaaTake
import Derived.LoopN
import Derived.Shelf.Abstract
namespace Go.Proofs.Ytmokkbhfhbgkmaa
open Go.RowKit
set_option linter.unusedVariables false
set_option linter.unusedSimpArgs false
set_option maxRecDepth 100000

/-- What a step goes by. -/
structure Tm where
  p : Pc
  rate : Int
  at_ : Int
  n : Int
def Tm.c (t : Tm) : Array Value := #[.int .i64 t.p.q, .int .i64 t.p.first, .int .u64 t.p.refill, .int .u64 t.p.most, .int .u64 t.p.low, .int .u64 t.rate, .int .u64 t.at_, .int .i64 t.n]
structure Tm.Fits (t : Tm) : Prop where
  p : t.p.Fits
  rate : Num.Word t.rate
  at_ : Num.Word t.at_
  n : 0 ≤ t.n ∧ t.n ≤ 65536

/-- span.Time, span.Bytes: of what was there nothing has turned. -/
theorem time_b (n rate : Int) (w : World) (hn : Num.Word n) (hr : Num.Word rate) :
    Calls Try.prog 41 #[.int .u64 n, .int .u64 rate] w fun e w' => e = .returned (.int .u64 (Num.time n rate)) ∧ Below w.heap.size w w' := by
  by_cases c : rate = 0
  · subst c
    have H : Hid (Num.time n 0 = 0) := by show Num.time n 0 = 0; unfold Num.time; rw [if_pos rfl]
    go_enter Try.func41, Try.ntmps41
    go_wp2_with fail
    go_ret
    exact ⟨ret_u64 H.out.symm, Below.refl _ _⟩
  · have H : Hid (Num.time n rate = Num.up n 1000000000 rate) := by show Num.time n rate = _; unfold Num.time; rw [if_neg c]
    have c1 : (rate == 0) = false := by simpa using c
    have K := Lib.hid (sat_up n 1000000000 rate w hn Num.sec_word hr)
    go_enter Try.func41, Try.ntmps41
    go_wp2_with fail
    refine K.out.mono ?_
    rintro e w1 ⟨rfl, k, rfl⟩
    go_wp2_with fail
    go_ret
    exact ⟨ret_u64 H.out.symm, below_drewN ((Below.refl _ _).alloc (Nat.le_refl _) _) k⟩

theorem bytes_b (n rate : Int) (w : World) (hn : Num.Word n) (hr : Num.Word rate) :
    Calls Try.prog 40 #[.int .u64 n, .int .u64 rate] w fun e w' => e = .returned (.int .u64 (Num.bytes n rate)) ∧ Below w.heap.size w w' := by
  by_cases c : rate = 0
  · subst c
    have H : Hid (Num.bytes n 0 = 18446744073709551615) := by show Num.bytes n 0 = _; unfold Num.bytes; rw [if_pos rfl]
    go_enter Try.func40, Try.ntmps40
    go_wp2_with fail
    go_ret
    exact ⟨ret_u64 H.out.symm, Below.refl _ _⟩
  · have H : Hid (Num.bytes n rate = Num.down n rate 1000000000) := by show Num.bytes n rate = _; unfold Num.bytes; rw [if_neg c]
    have c1 : (rate == 0) = false := by simpa using c
    have K := Lib.hid (sat_down n rate 1000000000 w hn hr Num.sec_word)
    go_enter Try.func40, Try.ntmps40
    go_wp2_with fail
    refine K.out.mono ?_
    rintro e w1 ⟨rfl, k, rfl⟩
    go_wp2_with fail
    go_ret
    exact ⟨ret_u64 H.out.symm, below_drewN ((Below.refl _ _).alloc (Nat.le_refl _) _) k⟩

/-- What a step makes of a flow, by what it goes by. -/
abbrev StepF := Fl → Tm → Fl
/-- A function of the program's is such a step. -/
def StepK (fn : Nat) (g : StepF) : Prop := Enters Try.prog fn ∧ ∀ f t w, f.Fits → t.Fits → (g f t).Fits ∧ Calls Try.prog fn #[.agg f.c, .agg t.c] w fun e w' => e = .returned (.agg (g f t).c) ∧ Below w.heap.size w w'


theorem step_fill : StepK 62 (fun f t => f.fill t.p) := by
  refine ⟨enters_of Try.func62 (by kernel_rfl) rfl, ?_⟩
  intro f t w hf ht
  refine ⟨hf.fill _, ?_⟩
  obtain ⟨so, ck, rate, cr, nx, db, ag⟩ := f
  obtain ⟨⟨q, first, refill, most, low⟩, trate, tat, tn⟩ := t
  clear hf ht
  unfold Fl.c Tm.c Fl.fill
  go_enter Try.func62, Try.ntmps62
  go_wp2_with (fail)
  exact bodyPost_ret (v := .agg #[.int .u64 so, .int .u64 ck, .int .u64 rate, .int .i64 (wrap64 (cr + q)), .int .u64 nx, .int .u64 db, .int .u64 ag]) (by simp [results, Try.f62, go_sem]) rfl ⟨rfl, (((Below.refl _ _).alloc (Nat.le_refl _) _).alloc (by simp) _).alloc (by simp; omega) _⟩

theorem step_spend : StepK 56 (fun f t => f.spend t.n) := by
  refine ⟨enters_of Try.func56 (by kernel_rfl) rfl, ?_⟩
  intro f t w hf ht
  refine ⟨hf.spend _, ?_⟩
  obtain ⟨so, ck, rate, cr, nx, db, ag⟩ := f
  obtain ⟨⟨q, first, refill, most, low⟩, trate, tat, tn⟩ := t
  clear hf ht
  unfold Fl.c Tm.c Fl.spend
  go_enter Try.func56, Try.ntmps56
  go_wp2_with (fail)
  exact bodyPost_ret (v := .agg #[.int .u64 so, .int .u64 ck, .int .u64 rate, .int .i64 (wrap64 (cr - tn)), .int .u64 nx, .int .u64 db, .int .u64 ag]) (by simp [results, Try.f56, go_sem]) rfl ⟨rfl, (((Below.refl _ _).alloc (Nat.le_refl _) _).alloc (by simp) _).alloc (by simp; omega) _⟩

theorem step_rest : StepK 63 (fun f t => f.rest t.at_) := by
  refine ⟨enters_of Try.func63 (by kernel_rfl) rfl, ?_⟩
  intro f t w hf ht
  refine ⟨hf.rest ht.at_, ?_⟩
  obtain ⟨so, ck, rate, cr, nx, db, ag⟩ := f
  obtain ⟨⟨q, first, refill, most, low⟩, trate, tat, tn⟩ := t
  clear hf ht
  unfold Fl.c Tm.c Fl.rest
  go_enter Try.func63, Try.ntmps63
  go_wp2_with (fail)
  exact bodyPost_ret (v := .agg #[.int .u64 so, .int .u64 ck, .int .u64 rate, .int .i64 cr, .int .u64 nx, .int .u64 db, .int .u64 (tat)]) (by simp [results, Try.f63, go_sem]) rfl ⟨rfl, (((Below.refl _ _).alloc (Nat.le_refl _) _).alloc (by simp) _).alloc (by simp; omega) _⟩

theorem step_acquit : StepK 65 (fun f t => f.acquit) := by
  refine ⟨enters_of Try.func65 (by kernel_rfl) rfl, ?_⟩
  intro f t w hf ht
  refine ⟨hf.acquit, ?_⟩
  obtain ⟨so, ck, rate, cr, nx, db, ag⟩ := f
  obtain ⟨⟨q, first, refill, most, low⟩, trate, tat, tn⟩ := t
  clear hf ht
  unfold Fl.c Tm.c Fl.acquit
  go_enter Try.func65, Try.ntmps65
  go_wp2_with (fail)
  exact bodyPost_ret (v := .agg #[.int .u64 so, .int .u64 ck, .int .u64 rate, .int .i64 cr, .int .u64 nx, .int .u64 (0), .int .u64 ag]) (by simp [results, Try.f65, go_sem]) rfl ⟨rfl, (((Below.refl _ _).alloc (Nat.le_refl _) _).alloc (by simp) _).alloc (by simp; omega) _⟩

theorem step_forgo : StepK 59 (fun f t => f.forgo) := by
  refine ⟨enters_of Try.func59 (by kernel_rfl) rfl, ?_⟩
  intro f t w hf ht
  refine ⟨hf.forgo, ?_⟩
  obtain ⟨so, ck, rate, cr, nx, db, ag⟩ := f
  obtain ⟨⟨q, first, refill, most, low⟩, trate, tat, tn⟩ := t
  clear hf ht
  unfold Fl.c Tm.c Fl.forgo
  go_enter Try.func59, Try.ntmps59
  go_wp2_with (fail)
  exact bodyPost_ret (v := .agg #[.int .u64 so, .int .u64 ck, .int .u64 rate, .int .i64 (min cr 0), .int .u64 nx, .int .u64 db, .int .u64 ag]) (by simp [results, Try.f59, go_sem]) rfl ⟨rfl, (((Below.refl _ _).alloc (Nat.le_refl _) _).alloc (by simp) _).alloc (by simp; omega) _⟩

theorem step_renew : StepK 64 (fun f t => f.renew t.p) := by
  refine ⟨enters_of Try.func64 (by kernel_rfl) rfl, ?_⟩
  intro f t w hf ht
  refine ⟨hf.renew ht.p, ?_⟩
  obtain ⟨so, ck, rate, cr, nx, db, ag⟩ := f
  obtain ⟨⟨q, first, refill, most, low⟩, trate, tat, tn⟩ := t
  clear hf ht
  unfold Fl.c Tm.c Fl.renew
  go_enter Try.func64, Try.ntmps64
  go_wp2_with (fail)
  exact bodyPost_ret (v := .agg #[.int .u64 so, .int .u64 ck, .int .u64 rate, .int .i64 (max cr q), .int .u64 nx, .int .u64 db, .int .u64 ag]) (by simp [results, Try.f64, go_sem]) rfl ⟨rfl, (((Below.refl _ _).alloc (Nat.le_refl _) _).alloc (by simp) _).alloc (by simp; omega) _⟩

theorem step_owe : StepK 57 (fun f t => f.owe t.n) := by
  refine ⟨enters_of Try.func57 (by kernel_rfl) rfl, ?_⟩
  intro f t w hf ht
  obtain ⟨t0, t1⟩ := ht.n
  have hn : Num.Word t.n := ⟨t0, by omega⟩
  refine ⟨hf.owe hn, ?_⟩
  have HA := Lib.hid fun W => sat_add f.db t.n W hf.db hn
  obtain ⟨so, ck, rate, cr, nx, db, ag⟩ := f
  obtain ⟨⟨q, first, refill, most, low⟩, trate, tat, tn⟩ := t
  clear hf ht hn
  have t0' : 0 ≤ tn := t0
  have t1' : tn ≤ 65536 := t1
  clear t0 t1
  unfold Fl.c Tm.c Fl.owe
  go_enter Try.func57, Try.ntmps57
  go_wp2_with (go_at_call 39; refine (HA.out _).mono ?_; rintro e w' ⟨rfl, rfl⟩)
  exact bodyPost_ret (v := .agg #[.int .u64 so, .int .u64 ck, .int .u64 rate, .int .i64 cr, .int .u64 nx, .int .u64 (Num.add db tn), .int .u64 ag]) (by simp [results, Try.f57, go_sem]) rfl ⟨rfl, (((Below.refl _ _).alloc (Nat.le_refl _) _).alloc (by simp) _).alloc (by simp; omega) _⟩

/-- A flow's cells, in a box. -/
def FBox (W : World) (b : Nat) (t : TypeId) (f : Fl) : Prop := Box W b t f.c
section
variable {W W' : World} {b : Nat} {t : TypeId} {f : Fl}
theorem FBox.cells (h : FBox W b t f) : W.cell? ⟨b, 0, none⟩ = some (.int .u64 f.so) ∧ W.cell? ⟨b, 1, none⟩ = some (.int .u64 f.ck) ∧ W.cell? ⟨b, 2, none⟩ = some (.int .u64 f.rate) ∧ W.cell? ⟨b, 3, none⟩ = some (.int .i64 f.cr) ∧ W.cell? ⟨b, 4, none⟩ = some (.int .u64 f.nx) ∧ W.cell? ⟨b, 5, none⟩ = some (.int .u64 f.db) ∧ W.cell? ⟨b, 6, none⟩ = some (.int .u64 f.ag) := by
  have h' : Box W b _ _ := h
  exact ⟨h'.cell 0, h'.cell 1, h'.cell 2, h'.cell 3, h'.cell 4, h'.cell 5, h'.cell 6⟩
theorem FBox.frozen (h : FBox W b t f) : W.frozen? ⟨b, 0, none⟩ = false ∧ W.frozen? ⟨b, 1, none⟩ = false ∧ W.frozen? ⟨b, 2, none⟩ = false ∧ W.frozen? ⟨b, 3, none⟩ = false ∧ W.frozen? ⟨b, 4, none⟩ = false ∧ W.frozen? ⟨b, 5, none⟩ = false ∧ W.frozen? ⟨b, 6, none⟩ = false := by
  have h' : Box W b _ _ := h
  exact ⟨h'.frozen 0, h'.frozen 1, h'.frozen 2, h'.frozen 3, h'.frozen 4, h'.frozen 5, h'.frozen 6⟩
theorem FBox.lt (h : FBox W b t f) : b < W.heap.size := Box.lt (show Box W b _ _ from h)
theorem FBox.below {B : Nat} (h : FBox W b t f) (g : Below B W W') (hb : b < B) : FBox W' b t f := Box.below (show Box W b _ _ from h) g hb
theorem FBox.new (w : World) (t : TypeId) (f : Fl) : FBox (w.alloc (.cells f.c t)) w.heap.size t f := Box.new w t _
theorem FBox.other {c i : Nat} (h : FBox W b t f) (hne : b ≠ c) (u : Value) : FBox (W.setCell ⟨c, i, none⟩ u) b t f := Box.other (show Box W b _ _ from h) hne u
/-- All of another flow is stored. -/
theorem FBox.put (h : FBox W b t f) (g : Fl) : FBox (((((((W.setCell ⟨b, 0, none⟩ (.int .u64 g.so)).setCell ⟨b, 1, none⟩ (.int .u64 g.ck)).setCell ⟨b, 2, none⟩ (.int .u64 g.rate)).setCell ⟨b, 3, none⟩ (.int .i64 g.cr)).setCell ⟨b, 4, none⟩ (.int .u64 g.nx)).setCell ⟨b, 5, none⟩ (.int .u64 g.db)).setCell ⟨b, 6, none⟩ (.int .u64 g.ag)) b t g := by
  have h' : Box W b _ _ := h
  have := ((((((h'.set 0 (.int .u64 g.so)).set 1 (.int .u64 g.ck)).set 2 (.int .u64 g.rate)).set 3 (.int .i64 g.cr)).set 4 (.int .u64 g.nx)).set 5 (.int .u64 g.db)).set 6 (.int .u64 g.ag)
  simpa [FBox, Fl.c] using this
end
theorem step_pay : StepK 58 (fun f t => f.pay t.at_ t.rate) := by
  refine ⟨enters_of Try.func58 (by kernel_rfl) rfl, ?_⟩
  intro f t w hf ht
  refine ⟨hf.pay ht.at_ ht.rate, ?_⟩
  have HT := Lib.hid fun W => time_b f.db t.rate W hf.db ht.rate
  have HA := Lib.hid fun W => sat_add t.at_ (Num.time f.db t.rate) W ht.at_ (Num.time_word hf.db ht.rate)
  have HN := hf.nx
  have HS := Num.add_word ht.at_ (Num.time_word hf.db ht.rate)
  obtain ⟨so, ck, rate, cr, nx, db, ag⟩ := f
  obtain ⟨⟨q, first, refill, most, low⟩, trate, tat, tn⟩ := t
  clear hf ht
  unfold Fl.c Tm.c Fl.pay
  simp only at HT HA HN HS ⊢
  obtain ⟨H, HH⟩ : ∃ H, Hid (w.heap.size = H) := ⟨_, Lib.hid rfl⟩
  obtain ⟨W, HW⟩ : ∃ W, Hid (((w.alloc (.cells #[.int .u64 so, .int .u64 ck, .int .u64 rate, .int .i64 cr, .int .u64 nx, .int .u64 db, .int .u64 ag] 113)).alloc (.cells #[.int .i64 q, .int .i64 first, .int .u64 refill, .int .u64 most, .int .u64 low, .int .u64 trate, .int .u64 tat, .int .i64 tn] 109)).alloc (.cells #[.int .u64 0, .int .u64 0, .int .u64 0, .int .i64 0, .int .u64 0, .int .u64 0, .int .u64 0] 113) = W) := ⟨_, Lib.hid rfl⟩
  have b1 := (((FBox.new w 113 ⟨so, ck, rate, cr, nx, db, ag⟩).below ((Below.refl _ _).alloc (Nat.le_refl _) (.cells #[.int .i64 q, .int .i64 first, .int .u64 refill, .int .u64 most, .int .u64 low, .int .u64 trate, .int .u64 tat, .int .i64 tn] 109)) (by simp)).below ((Below.refl _ _).alloc (Nat.le_refl _) (.cells #[.int .u64 0, .int .u64 0, .int .u64 0, .int .i64 0, .int .u64 0, .int .u64 0, .int .u64 0] 113)) (by simp; omega))
  have b2 := (Box.new (w.alloc (.cells #[.int .u64 so, .int .u64 ck, .int .u64 rate, .int .i64 cr, .int .u64 nx, .int .u64 db, .int .u64 ag] 113)) 109 #[.int .i64 q, .int .i64 first, .int .u64 refill, .int .u64 most, .int .u64 low, .int .u64 trate, .int .u64 tat, .int .i64 tn]).alloc (.cells #[.int .u64 0, .int .u64 0, .int .u64 0, .int .i64 0, .int .u64 0, .int .u64 0, .int .u64 0] 113)
  have b3 := FBox.new ((w.alloc (.cells #[.int .u64 so, .int .u64 ck, .int .u64 rate, .int .i64 cr, .int .u64 nx, .int .u64 db, .int .u64 ag] 113)).alloc (.cells #[.int .i64 q, .int .i64 first, .int .u64 refill, .int .u64 most, .int .u64 low, .int .u64 trate, .int .u64 tat, .int .i64 tn] 109)) 113 ⟨0, 0, 0, 0, 0, 0, 0⟩
  have lo := (((Below.refl w.heap.size w).alloc (Nat.le_refl _) (.cells #[.int .u64 so, .int .u64 ck, .int .u64 rate, .int .i64 cr, .int .u64 nx, .int .u64 db, .int .u64 ag] 113)).alloc (by simp) (.cells #[.int .i64 q, .int .i64 first, .int .u64 refill, .int .u64 most, .int .u64 low, .int .u64 trate, .int .u64 tat, .int .i64 tn] 109)).alloc (by simp; omega) (.cells #[.int .u64 0, .int .u64 0, .int .u64 0, .int .i64 0, .int .u64 0, .int .u64 0, .int .u64 0] 113)
  go_enter Try.func58, Try.ntmps58
  go_upto_region 1 with fail
  simp only [World.size_alloc] at b1 b2 b3
  simp only [Fl.c] at b1 b2 b3
  rw [HW.out] at b1 b2 b3 lo ⊢
  have LO := Lib.hid lo
  rw [HH.out] at b1 b2 b3 lo ⊢
  obtain ⟨e0, e1, e2, e3, e4, e5, e6⟩ := b1.cells
  have t1 : W.cell? ⟨H + 1, 5, none⟩ = some (.int .u64 trate) := b2.cell 5
  have t2 : W.cell? ⟨H + 1, 6, none⟩ = some (.int .u64 tat) := b2.cell 6
  simp only at e0 e1 e2 e3 e4 e5 e6
  have F1 := Lib.hid b1
  have B2 := Lib.hid b2
  have F3 := Lib.hid b3
  have hW : Hid (H + 3 ≤ W.heap.size) := Lib.hid (by have := b3.lt; omega)
  clear b1 b2 b3 lo HW
  have HEND : ∀ W3 : World, Below W.heap.size W W3 → Hid (FBox (W3.setCell ⟨H, 4, none⟩ (.int .u64 (max nx (Num.add tat (Num.time db trate))))) H 113 ⟨so, ck, rate, cr, max nx (Num.add tat (Num.time db trate)), db, ag⟩ ∧ FBox (W3.setCell ⟨H, 4, none⟩ (.int .u64 (max nx (Num.add tat (Num.time db trate))))) (H + 1 + 1) 113 ⟨0, 0, 0, 0, 0, 0, 0⟩ ∧ Below w.heap.size w (W3.setCell ⟨H, 4, none⟩ (.int .u64 (max nx (Num.add tat (Num.time db trate)))))) := fun W3 g => by
    have h1 : Box W3 H _ _ := F1.out.below g F1.out.lt
    have h3 := F3.out.below g F3.out.lt
    have h0 := hW.out
    exact Lib.hid ⟨h1.set 4 _, h3.other (by omega) _, (LO.out.trans (g.mono (by have := HH.out; omega))).setCell (by have := HH.out; simp; omega) _⟩
  have HEND := Lib.hid HEND
  go_cut [] (fun wx => ∃ V : World, V = wx ∧ Hid (FBox V H 113 ⟨so, ck, rate, cr, max nx (Num.add tat (Num.time db trate)), db, ag⟩ ∧ FBox V (H + 1 + 1) 113 ⟨0, 0, 0, 0, 0, 0, 0⟩ ∧ Below w.heap.size w V))
  case first =>
    refine wp_region_noPanic ?_
    refine wp_region_held_drew (S := fun w' => w'.cell? ⟨H, 5, none⟩ = some (.int .u64 db) ∧ w'.cell? ⟨H + 1, 5, none⟩ = some (.int .u64 trate) ∧ w'.cell? ⟨H + 1, 6, none⟩ = some (.int .u64 tat)) (by kernel_rfl) ?_ (fun hHeld => ?_)
    · exact ⟨e5, t1, t2⟩
    refine tk (i := 0) (oi := _) (v := ?_) rfl (by kernel_rfl) (by kernel_rfl) (by kernel_rfl) (fun _ _ _ h => h) (Or.inl ⟨by rfl, ?_⟩) (by assumption) ?_
    rotate_left
    · intro w hSw; (try dsimp only at hSw); go_simp; try with_reducible rfl
    try simp only [Act.put, List.setIfInBounds_toArray, List.set_cons_zero, List.set_cons_succ]
    refine tk (i := 2) (oi := _) (v := ?_) rfl (by kernel_rfl) (by kernel_rfl) (by kernel_rfl) (fun _ _ _ h => h) (Or.inl ⟨by rfl, ?_⟩) (by assumption) ?_
    rotate_left
    · intro w hSw; (try dsimp only at hSw); go_simp; try with_reducible rfl
    try simp only [Act.put, List.setIfInBounds_toArray, List.set_cons_zero, List.set_cons_succ]
    refine tk (i := 3) (oi := _) (v := ?_) rfl (by kernel_rfl) (by kernel_rfl) (by kernel_rfl) (fun _ _ _ h => h) (Or.inl ⟨by rfl, ?_⟩) (by assumption) ?_
    rotate_left
    · intro w hSw; (try dsimp only at hSw); go_simp; try with_reducible rfl
    try simp only [Act.put, List.setIfInBounds_toArray, List.set_cons_zero, List.set_cons_succ]
    refine tk (i := 4) (oi := _) (v := ?_) rfl (by kernel_rfl) (by kernel_rfl) (by kernel_rfl) (fun _ _ _ h => h) (Or.inl ⟨by rfl, ?_⟩) (by assumption) ?_
    rotate_left
    · intro w hSw; (try dsimp only at hSw); go_simp; try with_reducible rfl
    try simp only [Act.put, List.setIfInBounds_toArray, List.set_cons_zero, List.set_cons_succ]
    refine tk (i := 5) (oi := _) (v := ?_) rfl (by kernel_rfl) (by kernel_rfl) (by kernel_rfl) (fun _ _ _ h => h) (Or.inl ⟨by rfl, ?_⟩) (by assumption) ?_
    rotate_left
    · intro w hSw; (try dsimp only at hSw); go_simp; try with_reducible rfl
    try simp only [Act.put, List.setIfInBounds_toArray, List.set_cons_zero, List.set_cons_succ]
    refine tk (i := 6) (oi := _) (v := ?_) rfl (by kernel_rfl) (by kernel_rfl) (by kernel_rfl) (fun _ _ _ h => h) (Or.inl ⟨by rfl, ?_⟩) (by assumption) ?_
    rotate_left
    · intro w hSw; (try dsimp only at hSw); go_simp; try with_reducible rfl
    try simp only [Act.put, List.setIfInBounds_toArray, List.set_cons_zero, List.set_cons_succ]
    refine tk (i := 7) (oi := _) (v := ?_) rfl (by kernel_rfl) (by kernel_rfl) (by kernel_rfl) (fun _ _ _ h => h) (Or.inl ⟨by rfl, ?_⟩) (by assumption) ?_
    rotate_left
    · intro w hSw; (try dsimp only at hSw); go_simp; try with_reducible rfl
    try simp only [Act.put, List.setIfInBounds_toArray, List.set_cons_zero, List.set_cons_succ]
    refine wpAnyH_ready (rs := [1, 8]) (by kernel_rfl) (by simp) ?_
    refine tcons (o := _) rfl (fun K hK => ?_) ?_
    · skip
      go_simp
      refine hK.out _ _ ?_ (fun hHeld => ?_)
      · exact ⟨e5, t1, t2⟩
      clear hK K
      try simp only [Act.put, List.setIfInBounds_toArray, List.set_cons_zero, List.set_cons_succ]
      refine wpAnyH_ready (rs := [8]) (by kernel_rfl) (by simp) ?_
      refine tcons (o := _) rfl (fun K hK => ?_) AllReadyH.nil
      go_simp
      refine (HT.out _).mono ?_
      rintro e W3 ⟨rfl, g3⟩
      have g4 := Lib.hid (below_tr (Below.refl _ W).drew g3)
      have FF := F1.out.below g4.out F1.out.lt
      have y4 : W3.cell? ⟨H, 4, none⟩ = some (.int .u64 nx) := FF.cells.2.2.2.2.1
      have y5 : W3.cell? ⟨H, 5, none⟩ = some (.int .u64 db) := FF.cells.2.2.2.2.2.1
      have y6 : W3.cell? ⟨H + 1, 5, none⟩ = some (.int .u64 trate) := (B2.out.below g4.out B2.out.lt).cell 5
      have y7 : W3.cell? ⟨H + 1, 6, none⟩ = some (.int .u64 tat) := (B2.out.below g4.out B2.out.lt).cell 6
      have z4 : W3.frozen? ⟨H, 4, none⟩ = false := FF.frozen.2.2.2.2.1
      clear g3 FF
      refine hK.out _ _ ?_ (fun hHeld => ?_)
      · exact ⟨y5, y6, y7⟩
      clear hK K
      try simp only [Act.put, List.setIfInBounds_toArray, List.set_cons_zero, List.set_cons_succ]
      refine wpAnyH_ready (rs := [9]) (by kernel_rfl) (by simp) ?_
      refine tcons (o := _) rfl (fun K hK => ?_) AllReadyH.nil
      go_simp
      refine (HA.out _).mono ?_
      rintro e w3 ⟨rfl, rfl⟩
      refine hK.out _ _ ?_ (fun hHeld => ?_)
      · exact ⟨y5, y6, y7⟩
      clear hK K
      try simp only [Act.put, List.setIfInBounds_toArray, List.set_cons_zero, List.set_cons_succ]
      refine tk (i := 10) (oi := _) (v := ?_) rfl (by kernel_rfl) (by kernel_rfl) (by kernel_rfl) (fun _ _ _ h => h) (Or.inl ⟨by rfl, ?_⟩) (by assumption) ?_
      rotate_left
      · intro w hSw; (try dsimp only at hSw); go_simp; try with_reducible rfl
      try simp only [Act.put, List.setIfInBounds_toArray, List.set_cons_zero, List.set_cons_succ]
      refine tk (i := 11) (oi := _) (v := ?_) rfl (by kernel_rfl) (by kernel_rfl) (by kernel_rfl) (fun _ _ _ h => h) (Or.inl ⟨by rfl, ?_⟩) (by assumption) ?_
      rotate_left
      · intro w hSw; (try dsimp only at hSw); go_simp; try with_reducible rfl
      try simp only [Act.put, List.setIfInBounds_toArray, List.set_cons_zero, List.set_cons_succ]
      refine wpAnyH_ready (rs := [12]) (by kernel_rfl) (by simp) ?_
      refine tcons (o := _) rfl (fun K hK => ?_) AllReadyH.nil
      go_simp
      refine hK.out _ _ ?_ (fun hHeld => ?_)
      · exact ⟨by rw [World.cell?_setCell_other _ _ _ _ (by simp)]; exact y5, by rw [World.cell?_setCell_other _ _ _ _ (by simp)]; exact y6, by rw [World.cell?_setCell_other _ _ _ _ (by simp)]; exact y7⟩
      clear hK K
      try simp only [Act.put, List.setIfInBounds_toArray, List.set_cons_zero, List.set_cons_succ]
      refine wpAnyH_done (by kernel_rfl) ?_ _
      refine NoPanic.normal ?_
      go_wp2_with fail
      go_meet
      exact ⟨_, rfl, HEND.out _ g4.out⟩
    refine tcons (o := _) rfl (fun K hK => ?_) AllReadyH.nil
    go_simp
    refine (HT.out _).mono ?_
    rintro e W3 ⟨rfl, g3⟩
    have g4 := Lib.hid (below_tr (Below.refl _ W).drew g3)
    have FF := F1.out.below g4.out F1.out.lt
    have y4 : W3.cell? ⟨H, 4, none⟩ = some (.int .u64 nx) := FF.cells.2.2.2.2.1
    have y5 : W3.cell? ⟨H, 5, none⟩ = some (.int .u64 db) := FF.cells.2.2.2.2.2.1
    have y6 : W3.cell? ⟨H + 1, 5, none⟩ = some (.int .u64 trate) := (B2.out.below g4.out B2.out.lt).cell 5
    have y7 : W3.cell? ⟨H + 1, 6, none⟩ = some (.int .u64 tat) := (B2.out.below g4.out B2.out.lt).cell 6
    have z4 : W3.frozen? ⟨H, 4, none⟩ = false := FF.frozen.2.2.2.2.1
    clear g3 FF
    refine hK.out _ _ ?_ (fun hHeld => ?_)
    · exact ⟨y5, y6, y7⟩
    clear hK K
    try simp only [Act.put, List.setIfInBounds_toArray, List.set_cons_zero, List.set_cons_succ]
    refine wpAnyH_ready (rs := [1, 9]) (by kernel_rfl) (by simp) ?_
    refine tcons (o := _) rfl (fun K hK => ?_) ?_
    · skip
      go_simp
      refine hK.out _ _ ?_ (fun hHeld => ?_)
      · exact ⟨y5, y6, y7⟩
      clear hK K
      try simp only [Act.put, List.setIfInBounds_toArray, List.set_cons_zero, List.set_cons_succ]
      refine wpAnyH_ready (rs := [9]) (by kernel_rfl) (by simp) ?_
      refine tcons (o := _) rfl (fun K hK => ?_) AllReadyH.nil
      go_simp
      refine (HA.out _).mono ?_
      rintro e w3 ⟨rfl, rfl⟩
      refine hK.out _ _ ?_ (fun hHeld => ?_)
      · exact ⟨y5, y6, y7⟩
      clear hK K
      try simp only [Act.put, List.setIfInBounds_toArray, List.set_cons_zero, List.set_cons_succ]
      refine tk (i := 10) (oi := _) (v := ?_) rfl (by kernel_rfl) (by kernel_rfl) (by kernel_rfl) (fun _ _ _ h => h) (Or.inl ⟨by rfl, ?_⟩) (by assumption) ?_
      rotate_left
      · intro w hSw; (try dsimp only at hSw); go_simp; try with_reducible rfl
      try simp only [Act.put, List.setIfInBounds_toArray, List.set_cons_zero, List.set_cons_succ]
      refine tk (i := 11) (oi := _) (v := ?_) rfl (by kernel_rfl) (by kernel_rfl) (by kernel_rfl) (fun _ _ _ h => h) (Or.inl ⟨by rfl, ?_⟩) (by assumption) ?_
      rotate_left
      · intro w hSw; (try dsimp only at hSw); go_simp; try with_reducible rfl
      try simp only [Act.put, List.setIfInBounds_toArray, List.set_cons_zero, List.set_cons_succ]
      refine wpAnyH_ready (rs := [12]) (by kernel_rfl) (by simp) ?_
      refine tcons (o := _) rfl (fun K hK => ?_) AllReadyH.nil
      go_simp
      refine hK.out _ _ ?_ (fun hHeld => ?_)
      · exact ⟨by rw [World.cell?_setCell_other _ _ _ _ (by simp)]; exact y5, by rw [World.cell?_setCell_other _ _ _ _ (by simp)]; exact y6, by rw [World.cell?_setCell_other _ _ _ _ (by simp)]; exact y7⟩
      clear hK K
      try simp only [Act.put, List.setIfInBounds_toArray, List.set_cons_zero, List.set_cons_succ]
      refine wpAnyH_done (by kernel_rfl) ?_ _
      refine NoPanic.normal ?_
      go_wp2_with fail
      go_meet
      exact ⟨_, rfl, HEND.out _ g4.out⟩
    refine tcons (o := _) rfl (fun K hK => ?_) AllReadyH.nil
    go_simp
    refine (HA.out _).mono ?_
    rintro e w3 ⟨rfl, rfl⟩
    refine hK.out _ _ ?_ (fun hHeld => ?_)
    · exact ⟨y5, y6, y7⟩
    clear hK K
    try simp only [Act.put, List.setIfInBounds_toArray, List.set_cons_zero, List.set_cons_succ]
    refine wpAnyH_ready (rs := [1]) (by kernel_rfl) (by simp) ?_
    refine tcons (o := _) rfl (fun K hK => ?_) AllReadyH.nil
    go_simp
    refine hK.out _ _ ?_ (fun hHeld => ?_)
    · exact ⟨y5, y6, y7⟩
    clear hK K
    try simp only [Act.put, List.setIfInBounds_toArray, List.set_cons_zero, List.set_cons_succ]
    refine tk (i := 10) (oi := _) (v := ?_) rfl (by kernel_rfl) (by kernel_rfl) (by kernel_rfl) (fun _ _ _ h => h) (Or.inl ⟨by rfl, ?_⟩) (by assumption) ?_
    rotate_left
    · intro w hSw; (try dsimp only at hSw); go_simp; try with_reducible rfl
    try simp only [Act.put, List.setIfInBounds_toArray, List.set_cons_zero, List.set_cons_succ]
    refine tk (i := 11) (oi := _) (v := ?_) rfl (by kernel_rfl) (by kernel_rfl) (by kernel_rfl) (fun _ _ _ h => h) (Or.inl ⟨by rfl, ?_⟩) (by assumption) ?_
    rotate_left
    · intro w hSw; (try dsimp only at hSw); go_simp; try with_reducible rfl
    try simp only [Act.put, List.setIfInBounds_toArray, List.set_cons_zero, List.set_cons_succ]
    refine wpAnyH_ready (rs := [12]) (by kernel_rfl) (by simp) ?_
    refine tcons (o := _) rfl (fun K hK => ?_) AllReadyH.nil
    go_simp
    refine hK.out _ _ ?_ (fun hHeld => ?_)
    · exact ⟨by rw [World.cell?_setCell_other _ _ _ _ (by simp)]; exact y5, by rw [World.cell?_setCell_other _ _ _ _ (by simp)]; exact y6, by rw [World.cell?_setCell_other _ _ _ _ (by simp)]; exact y7⟩
    clear hK K
    try simp only [Act.put, List.setIfInBounds_toArray, List.set_cons_zero, List.set_cons_succ]
    refine wpAnyH_done (by kernel_rfl) ?_ _
    refine NoPanic.normal ?_
    go_wp2_with fail
    go_meet
    exact ⟨_, rfl, HEND.out _ g4.out⟩
  case rest =>
    obtain ⟨V, rfl, HV⟩ := hcut
    obtain ⟨v1, v3, v4⟩ := HV.out
    have V4 := Lib.hid v4
    have V1 := Lib.hid ((show Box V H _ _ from v1).set 5 (.int .u64 0))
    have V3 := Lib.hid (v3.other (c := H) (i := 5) (by omega) (.int .u64 0))
    obtain ⟨d0, d1, d2, d3, d4, d5, d6⟩ := v1.cells
    obtain ⟨f0, f1, f2, f3, f4, f5, f6⟩ := v1.frozen
    simp only at d0 d1 d2 d3 d4 d5 d6
    have HHz := HH.out
    clear v1 v3 v4 HV HEND HA HT F1 B2 F3 e0 e1 e2 e3 e4 e5 e6 t1 t2 HHz
    go_upto_region 3 with fail
    obtain ⟨V2, HV2⟩ : ∃ V2, Hid (V.setCell ⟨H, 5, none⟩ (.int .u64 0) = V2) := ⟨_, Lib.hid rfl⟩
    have V5 := Lib.hid (V4.out.setCell (p := ⟨H, 5, none⟩) (by have := HH.out; simp; omega) (.int .u64 0))
    rw [HV2.out] at V1 V3 V5 ⊢
    clear d0 d1 d2 d3 d4 d5 d6 f0 f1 f2 f3 f4 f5 f6
    have v1 : FBox V2 H 113 ⟨so, ck, rate, cr, max nx (Num.add tat (Num.time db trate)), 0, ag⟩ := V1.out
    have v3 := V3.out
    obtain ⟨d0, d1, d2, d3, d4, d5, d6⟩ := v1.cells
    obtain ⟨h0, h1, h2, h3, h4, h5, h6⟩ := v3.cells
    obtain ⟨f0, f1, f2, f3, f4, f5, f6⟩ := v3.frozen
    obtain ⟨g0, g1, g2, g3, g4, g5, g6⟩ := (v3.put ⟨so, ck, rate, cr, max nx (Num.add tat (Num.time db trate)), 0, ag⟩).cells
    simp only at d0 d1 d2 d3 d4 d5 d6 g0 g1 g2 g3 g4 g5 g6
    clear V1 V3 V4 HV2 v1 v3
    go_wp2_with fail
    have hsz : w.heap.size ≤ H + 1 + 1 := by have := HH.out; omega
    exact bodyPost_ret (v := .agg #[.int .u64 so, .int .u64 ck, .int .u64 rate, .int .i64 cr, .int .u64 (max nx (Num.add tat (Num.time db trate))), .int .u64 0, .int .u64 ag]) (by simp [results, Try.f58, go_sem, g0, g1, g2, g3, g4, g5, g6]) rfl ⟨rfl, ((((((V5.out.setCell hsz _).setCell hsz _).setCell hsz _).setCell hsz _).setCell hsz _).setCell hsz _).setCell hsz _⟩

theorem step_payIfSpent : StepK 60 (fun f t => if 0 < f.cr then f else f.pay t.at_ t.rate) := by
  refine ⟨enters_of Try.func60 (by kernel_rfl) rfl, ?_⟩
  intro f t w hf ht
  by_cases hc : 0 < f.cr
  · simp only [if_pos hc]
    refine ⟨hf, ?_⟩
    obtain ⟨so, ck, rate, cr, nx, db, ag⟩ := f
    obtain ⟨⟨q, first, refill, most, low⟩, trate, tat, tn⟩ := t
    have hc' : 0 < cr := hc
    clear hf ht hc
    unfold Fl.c Tm.c
    go_enter Try.func60, Try.ntmps60
    go_wp2_with fail
    exact bodyPost_ret (v := .agg #[.int .u64 so, .int .u64 ck, .int .u64 rate, .int .i64 cr, .int .u64 nx, .int .u64 db, .int .u64 ag]) (by simp [results, Try.f60, go_sem]) rfl ⟨rfl, (((Below.refl _ _).alloc (Nat.le_refl _) _).alloc (by simp) _).alloc (by simp; omega) _⟩
  · simp only [if_neg hc]
    refine ⟨hf.pay ht.at_ ht.rate, ?_⟩
    have HP := Lib.hid fun W => (step_pay.2 f t W hf ht).2
    obtain ⟨so, ck, rate, cr, nx, db, ag⟩ := f
    obtain ⟨⟨q, first, refill, most, low⟩, trate, tat, tn⟩ := t
    have hc' : ¬ 0 < cr := hc
    clear hf ht hc
    unfold Fl.c Tm.c Fl.pay at *
    simp only at HP ⊢
    obtain ⟨H, HH⟩ : ∃ H, Hid (w.heap.size = H) := ⟨_, Lib.hid rfl⟩
    obtain ⟨W, HW⟩ : ∃ W, Hid (((w.alloc (.cells #[.int .u64 so, .int .u64 ck, .int .u64 rate, .int .i64 cr, .int .u64 nx, .int .u64 db, .int .u64 ag] 113)).alloc (.cells #[.int .i64 q, .int .i64 first, .int .u64 refill, .int .u64 most, .int .u64 low, .int .u64 trate, .int .u64 tat, .int .i64 tn] 109)).alloc (.cells #[.int .u64 0, .int .u64 0, .int .u64 0, .int .i64 0, .int .u64 0, .int .u64 0, .int .u64 0] 113) = W) := ⟨_, Lib.hid rfl⟩
    have b1 := (((FBox.new w 113 ⟨so, ck, rate, cr, nx, db, ag⟩).below ((Below.refl _ _).alloc (Nat.le_refl _) (.cells #[.int .i64 q, .int .i64 first, .int .u64 refill, .int .u64 most, .int .u64 low, .int .u64 trate, .int .u64 tat, .int .i64 tn] 109)) (by simp)).below ((Below.refl _ _).alloc (Nat.le_refl _) (.cells #[.int .u64 0, .int .u64 0, .int .u64 0, .int .i64 0, .int .u64 0, .int .u64 0, .int .u64 0] 113)) (by simp; omega))
    have b2 := (Box.new (w.alloc (.cells #[.int .u64 so, .int .u64 ck, .int .u64 rate, .int .i64 cr, .int .u64 nx, .int .u64 db, .int .u64 ag] 113)) 109 #[.int .i64 q, .int .i64 first, .int .u64 refill, .int .u64 most, .int .u64 low, .int .u64 trate, .int .u64 tat, .int .i64 tn]).alloc (.cells #[.int .u64 0, .int .u64 0, .int .u64 0, .int .i64 0, .int .u64 0, .int .u64 0, .int .u64 0] 113)
    have b3 := FBox.new ((w.alloc (.cells #[.int .u64 so, .int .u64 ck, .int .u64 rate, .int .i64 cr, .int .u64 nx, .int .u64 db, .int .u64 ag] 113)).alloc (.cells #[.int .i64 q, .int .i64 first, .int .u64 refill, .int .u64 most, .int .u64 low, .int .u64 trate, .int .u64 tat, .int .i64 tn] 109)) 113 ⟨0, 0, 0, 0, 0, 0, 0⟩
    have lo := (((Below.refl w.heap.size w).alloc (Nat.le_refl _) (.cells #[.int .u64 so, .int .u64 ck, .int .u64 rate, .int .i64 cr, .int .u64 nx, .int .u64 db, .int .u64 ag] 113)).alloc (by simp) (.cells #[.int .i64 q, .int .i64 first, .int .u64 refill, .int .u64 most, .int .u64 low, .int .u64 trate, .int .u64 tat, .int .i64 tn] 109)).alloc (by simp; omega) (.cells #[.int .u64 0, .int .u64 0, .int .u64 0, .int .i64 0, .int .u64 0, .int .u64 0, .int .u64 0] 113)
    simp only [World.size_alloc] at b1 b2 b3
    simp only [Fl.c] at b1 b2 b3
    go_enter Try.func60, Try.ntmps60
    go_upto_region 3 with fail
    rw [HW.out] at b1 b2 b3 lo ⊢
    rw [HH.out] at b1 b2 b3 ⊢
    have LO := Lib.hid lo
    have F3 := Lib.hid b3
    obtain ⟨e0, e1, e2, e3, e4, e5, e6⟩ := b1.cells
    simp only at e0 e1 e2 e3 e4 e5 e6
    have t0 := b2.cell 0
    have t1 := b2.cell 1
    have t2 := b2.cell 2
    have t3 := b2.cell 3
    have t4 := b2.cell 4
    have t5 := b2.cell 5
    have t6 := b2.cell 6
    have t7 := b2.cell 7
    simp at t0 t1 t2 t3 t4 t5 t6 t7
    clear b1 b2 b3 lo HW
    go_wp2_with fail
    refine (HP.out _).mono ?_
    rintro e W3 ⟨rfl, g3⟩
    have v3 := F3.out.below g3 F3.out.lt
    have V5 := Lib.hid (below_tr LO.out g3)
    clear HP e0 e1 e2 e3 e4 e5 e6 t0 t1 t2 t3 t4 t5 t6 t7 g3
    obtain ⟨h0, h1, h2, h3, h4, h5, h6⟩ := v3.cells
    obtain ⟨f0, f1, f2, f3, f4, f5, f6⟩ := v3.frozen
    obtain ⟨g0, g1, g2, g3, g4, g5, g6⟩ := (v3.put ⟨so, ck, rate, cr, max nx (Num.add tat (Num.time db trate)), 0, ag⟩).cells
    simp only at g0 g1 g2 g3 g4 g5 g6
    clear v3
    go_wp2_with fail
    have hsz : w.heap.size ≤ H + 1 + 1 := by have := HH.out; omega
    exact bodyPost_ret (v := .agg #[.int .u64 so, .int .u64 ck, .int .u64 rate, .int .i64 cr, .int .u64 (max nx (Num.add tat (Num.time db trate))), .int .u64 0, .int .u64 ag]) (by simp [results, Try.f60, go_sem, g0, g1, g2, g3, g4, g5, g6]) rfl ⟨rfl, ((((((V5.out.setCell hsz _).setCell hsz _).setCell hsz _).setCell hsz _).setCell hsz _).setCell hsz _).setCell hsz _⟩

end Go.Proofs.Ytmokkbhfhbgkmaa
