/-
  What mix.Back answers, for all numbers.
-/
import Derived.Test.YtbeampfgghejfaaMixIter
namespace Go.Proofs.Ytbeampfgghejfaa
open Go.RowKit Go.Shelf
set_option linter.unusedVariables false
attribute [local go_sem] Oper.semAt_some

/-- What the step at an index makes of a number, back. -/
def backV (i v : Nat) : Nat := if i = 2 then Mx.un29 v else if i = 1 ∨ i = 3 then Mx.undo v else Mx.fold v 32
def after (x : Nat) (pre : List Nat) : Nat := pre.foldl (fun v i => backV i v) x
theorem after_snoc (x : Nat) (pre : List Nat) (i : Nat) : after x (pre ++ [i]) = backV i (after x pre) := by
  unfold after
  rw [List.foldl_append, List.foldl_cons, List.foldl_nil]
theorem backV_fold {i : Nat} (v : Nat) (h2 : i ≠ 2) (h1 : ¬ (i = 1 ∨ i = 3)) : backV i v = Mx.fold v 32 := by
  unfold backV
  rw [if_neg h2, if_neg h1]
theorem backV_undo {i : Nat} (v : Nat) (h1 : i = 1 ∨ i = 3) : backV i v = Mx.undo v := by
  unfold backV
  rw [if_neg (by omega), if_pos h1]
theorem backV_un29 (v : Nat) : backV 2 v = Mx.un29 v := by
  unfold backV
  rw [if_pos rfl]
theorem step_cases (i : Nat) : (backAt i = 23 ∧ ∀ v, backV i v = Mx.fold v 32) ∨ (backAt i = 28 ∧ ∀ v, backV i v = Mx.undo v) ∨ (backAt i = 26 ∧ ∀ v, backV i v = Mx.un29 v) := by
  unfold backAt
  split
  · exact .inr (.inl ⟨rfl, fun v => backV_undo v (.inl rfl)⟩)
  · exact .inr (.inr ⟨rfl, backV_un29⟩)
  · exact .inr (.inl ⟨rfl, fun v => backV_undo v (.inr rfl)⟩)
  · rename_i h1 h2 h3
    exact .inl ⟨rfl, fun v => backV_fold v h2 (fun h => h.elim h1 h3)⟩
theorem backV_lt {v : Nat} (i : Nat) (h : v < 18446744073709551616) : backV i v < 18446744073709551616 := by
  rcases step_cases i with ⟨_, e⟩ | ⟨_, e⟩ | ⟨_, e⟩ <;> rw [e]
  · exact Mx.fold_lt _ h
  · exact Mx.undo_lt _
  · exact Mx.un29_lt h
theorem after_lt (pre : List Nat) : ∀ {x : Nat}, x < 18446744073709551616 → after x pre < 18446744073709551616 := by
  induction pre with
  | nil => intro x h; exact h
  | cons i is ih => intro x h; exact ih (backV_lt i h)
theorem after_all (x : Nat) : after x [4, 3, 2, 1, 0] = Mx.back x := by
  unfold after Mx.back
  rw [List.foldl_cons, List.foldl_cons, List.foldl_cons, List.foldl_cons, List.foldl_cons, List.foldl_nil]
  rw [backV_fold x (i := 4) (by omega) (by omega), backV_undo _ (i := 3) (.inr rfl), backV_un29, backV_undo _ (i := 1) (.inl rfl), backV_fold _ (i := 0) (by omega) (by omega)]

theorem keepsTwo_t {b s : Nat} {A B C : World} (h : KeepsTwo b s A B) (k : KeepsTwo b s B C) : KeepsTwo b s A C := ⟨k.1.trans h.1, k.2.trans h.2⟩
theorem keepsTwo_b {b s : Nat} {w : World} (hb : b < w.heap.size) (hs : s < w.heap.size) (W : World) (l : Nat) (o o' : Obj) (hl : w.heap.size ≤ l) (_ : W.heap[l]? = some o) (_ : o.isCells = false) (_ : o.isWalk = false) : KeepsTwo b s W (W.putObj l o') :=
  ⟨World.putObj_heap_other (by omega), World.putObj_heap_other (by omega)⟩
theorem keepsTwo_alloc {b s : Nat} {W : World} (h : RowAt b s W) (o : Obj) : KeepsTwo b s W (W.alloc o) :=
  ⟨Below.heap_alloc W o b (Array.getElem?_eq_some_iff.1 h.1).1, Below.heap_alloc W o s (Array.getElem?_eq_some_iff.1 h.2).1⟩
theorem keepsTwo_set {b s c : Nat} (W : World) (v : Value) (hb : b ≠ c) (hs : s ≠ c) : KeepsTwo b s W (W.setCell ⟨c, 0, none⟩ v) :=
  ⟨Below.heap_setCell W ⟨c, 0, none⟩ v b hb, Below.heap_setCell W ⟨c, 0, none⟩ v s hs⟩
theorem cells_own {W W' : World} {row : Option Nat} {b : Nat} {o : Obj} (h : W.heap[b]? = some o) (ho : o.isCells = true) (hg : W.grownBy W' row) (hr : ∀ r, row = some r → ∃ o : Obj, W.heap[r]? = some o ∧ o.isCells = false) : W'.heap[b]? = some o :=
  (hg.block b (Array.getElem?_eq_some_iff.1 h).1 (fun e => by obtain ⟨o', h1, h2⟩ := hr b e.symm; rw [h] at h1; cases h1; rw [ho] at h2; cases h2)).trans h
theorem rowAt_own (b s : Nat) : Own (fun (_ : List Nat) W => RowAt b s W) := fun _ X Y row hs hg hr => ⟨cells_own hs.1 rfl hg hr, cells_own hs.2 rfl hg hr⟩

set_option maxRecDepth 100000 in
set_option maxHeartbeats 2000000 in
theorem prog_back (x : Nat) (w : World) (hx : x < 18446744073709551616) :
    Calls Try.prog 10 #[.int .u64 (x : Int)] w fun e w' => e = .returned (.int .u64 (Mx.back x : Nat)) ∧ Below w.heap.size w w' := by
  refine (callsIn_wide (n := 6)).1 ?_
  refine callsIn_of_wp_marks Try.func10 rfl trivial ?_ rfl
  simp only [Try.ntmps10, List.size_toArray, List.length_cons, List.length_nil, Nat.reduceAdd, Nat.reduceSub, Array.replicate_succ, Array.replicate_zero, List.push_toArray, List.append_toArray, List.nil_append, List.cons_append]
  gi_wp2_with (first | (refine ⟨trivial, ?_⟩; gi_at_call 15; refine (callsIn_wide.2 (prog_steps _)).mono ?_; rintro e w2 ⟨rfl, g2⟩; unfold stepsV) | (refine ⟨trivial, ?_⟩; gi_at_call 17; refine (backward_in _ _ _ _ _).mono ?_; rintro e w' ⟨rfl, rfl⟩))
  have hs2 := g2.size
  rw [World.size_alloc] at hs2
  have bX2 : Boxed w2 w.heap.size 22 (.int .u64 (x : Int)) := (g2.block w.heap.size (by simp)).trans (Boxed.new w 22 (.int .u64 (x : Int)))
  have bX := (bX2.alloc (.cells rowC 35)).alloc (.cells #[.slice (some ⟨w2.heap.size, 0, none⟩) 5 5] 41)
  have hR : RowAt w2.heap.size (w2.heap.size + 1) ((w2.alloc (.cells rowC 35)).alloc (.cells #[.slice (some ⟨w2.heap.size, 0, none⟩) 5 5] 41)) := by
    refine ⟨(Below.heap_alloc _ _ _ (by simp)).trans (World.alloc_heap_new w2 _), ?_⟩
    have h := World.alloc_heap_new (w2.alloc (.cells rowC 35)) (.cells #[.slice (some ⟨w2.heap.size, 0, none⟩) 5 5] 41)
    rwa [World.size_alloc] at h
  have hB0 : Below w.heap.size w ((w2.alloc (.cells rowC 35)).alloc (.cells #[.slice (some ⟨w2.heap.size, 0, none⟩) 5 5] 41)) :=
    ((((Below.refl _ w).alloc (Nat.le_refl _) _).trans (g2.mono (by simp))).alloc (by omega) _).alloc (by simp; omega) _
  have hsz : ((w2.alloc (.cells rowC 35)).alloc (.cells #[.slice (some ⟨w2.heap.size, 0, none⟩) 5 5] 41)).heap.size = w2.heap.size + 1 + 1 := by simp
  rw [show #[Value.func (.func 21) #[] #[], .func (.func 23) #[] #[], .func (.func 27) #[] #[], .func (.func 28) #[] #[], .func (.func 25) #[] #[], .func (.func 26) #[] #[], .func (.func 27) #[] #[], .func (.func 28) #[] #[], .func (.func 21) #[] #[], .func (.func 23) #[] #[]] = rowC from rfl]
  obtain ⟨W0, hW0⟩ : ∃ W0, (w2.alloc (.cells rowC 35)).alloc (.cells #[.slice (some ⟨w2.heap.size, 0, none⟩) 5 5] 41) = W0 := ⟨_, rfl⟩
  rw [hW0] at bX hR hB0 hsz ⊢
  clear hW0 g2 bX2
  obtain ⟨b, hb⟩ : ∃ b, w2.heap.size = b := ⟨_, rfl⟩
  rw [hb] at hR hsz hs2 ⊢
  clear hb w2
  refine wpIn_rangeFunc_ownH rfl (by omega) (gf := 29) (lb := #[.pointer (some ⟨b + 1, 0, none⟩)]) rfl trivial (enters_of Try.func29 (by kernel_rfl) rfl)
    (backward_stops (6 - 1) (by omega) b (b + 1) W0 (by omega) (by omega) hR) keepsTwo_t (keepsTwo_b (by omega) (by omega)) (Below.refl _ _) (fun _ => rfl)
    (fun pre W => (Boxed W w.heap.size 22 (.int .u64 (after x pre : Nat)) ∧ RowAt b (b + 1) W) ∧ Below w.heap.size w W)
    (fun _ _ _ => False)
    (OwnFrom.and (OwnFrom.and (Own.from (boxed_own _ _ _) _) (Own.from (rowAt_own _ _) _)) (ownFrom_below (Nat.le_refl _) (by omega)))
    (fun _ _ _ _ _ hs _ _ => hs)
    ⟨⟨bX, hR⟩, hB0⟩
    (fun i a' W => ∃ Bx, w.heap.size < Bx ∧ W.heap[Bx]? = some (.cells #[.func (.func (forthAt i)) #[] #[], .func (.func (backAt i)) #[] #[]] 34 (0, 0)) ∧ a' = { tmps := #[.int .u64 (x : Int), .pointer (some ⟨w.heap.size, 0, none⟩), .int .u64 0, .pointer (some ⟨b, 0, none⟩), undef, .pointer (some ⟨Bx, 0, none⟩), .agg rowC, .slice (some ⟨b, 0, none⟩) 5 5, .func (.func 29) #[] #[.pointer (some ⟨b + 1, 0, none⟩)], .int .i64 (i : Int), .agg #[.func (.func (forthAt i)) #[] #[], .func (.func (backAt i)) #[] #[]], undef, undef, undef, undef, undef], defers := [] })
    (fun i a' _ X Y row hs hg hr => by obtain ⟨Bx, h1, h2, h3⟩ := hs; exact ⟨Bx, h1, cells_own h2 rfl hg (fun r e => (hr r e).2), h3⟩)
    ?assign ?body ?done ?stop
  case assign =>
    rintro l pre i W K ⟨⟨bX1, hR1⟩, hB1⟩ hK
    have hs1 := hB1.size
    unfold encS
    gi_wp2
    exact hK _ _ ((KeepsOthers.alloc _ _).from _) (keepsTwo_alloc hR1 _) ⟨⟨bX1.alloc _, hR1.kept (keepsTwo_alloc hR1 _)⟩, hB1.alloc hs1 _⟩ ⟨W.heap.size, bX1.lt, World.alloc_heap_new W _, rfl⟩
  case body =>
    rintro l pre i a' W hl _ ⟨⟨bX1, hR1⟩, hB1⟩ ⟨Bx, hBx, bS, rfl⟩ _
    have hv := after_lt pre hx
    have cX := bX1.cell
    have fX := bX1.frozen
    have c1 : W.cell? ⟨Bx, 1, none⟩ = some (.func (.func (backAt i)) #[] #[]) := by simp [World.cell?, bS]
    have HV := Lib.hid (after_snoc x pre i)
    generalize after x pre = v at *
    rcases step_cases i with ⟨e1, e2⟩ | ⟨e1, e2⟩ | ⟨e1, e2⟩
    · rw [e1] at c1
      rw [e2] at HV
      clear e1 e2 bS
      gi_wp2_with (refine ⟨trivial, ?_⟩; gi_at_call 23; refine (CallsIn.inRound l (callsIn_wide.2 (back32 v W hv))).mono ?_; rintro e w' ⟨rfl, rfl⟩)
      exact ⟨(KeepsOthers.setCell _ _ _).from _, keepsTwo_set _ _ (by omega) (by omega), ⟨by rw [HV.out]; exact bX1.set _, hR1.kept (keepsTwo_set _ _ (by omega) (by omega))⟩, hB1.setCell (p := ⟨w.heap.size, 0, none⟩) (Nat.le_refl _) _⟩
    · rw [e1] at c1
      rw [e2] at HV
      clear e1 e2 bS
      gi_wp2_with (refine ⟨trivial, ?_⟩; gi_at_call 28; refine (CallsIn.inRound l (callsIn_wide.2 (backTimes v W))).mono ?_; rintro e w' ⟨rfl, rfl⟩)
      exact ⟨(KeepsOthers.setCell _ _ _).from _, keepsTwo_set _ _ (by omega) (by omega), ⟨by rw [HV.out]; exact bX1.set _, hR1.kept (keepsTwo_set _ _ (by omega) (by omega))⟩, hB1.setCell (p := ⟨w.heap.size, 0, none⟩) (Nat.le_refl _) _⟩
    · rw [e1] at c1
      rw [e2] at HV
      clear e1 e2 bS
      gi_wp2_with (refine ⟨trivial, ?_⟩; gi_at_call 26; refine (CallsIn.inRound l (callsIn_wide.2 (back29 v W hv))).mono ?_; rintro e w' ⟨rfl, rfl⟩)
      exact ⟨(KeepsOthers.setCell _ _ _).from _, keepsTwo_set _ _ (by omega) (by omega), ⟨by rw [HV.out]; exact bX1.set _, hR1.kept (keepsTwo_set _ _ (by omega) (by omega))⟩, hB1.setCell (p := ⟨w.heap.size, 0, none⟩) (Nat.le_refl _) _⟩
  case done =>
    rintro D ys W hD rfl ⟨⟨bX1, hR1⟩, hB1⟩ hK
    have cX := bX1.cell
    gi_wp2
    refine ⟨by simp, .inl ⟨_, _, rfl, run_takeDeferred hK, ?_⟩⟩
    exact ⟨_, results_tmp rfl _ _ _, by rw [← after_all]; rfl, hB1.trans (belowK_b (w := w) (Nat.le_refl _) W D _ _ (by omega) hK rfl rfl)⟩
  case stop =>
    rintro D c pre W _ _ h _
    exact h.elim

end Go.Proofs.Ytbeampfgghejfaa
