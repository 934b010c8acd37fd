/-
  A range over a function, in parts of memory: what a round may turn (O) is told apart from what the function that is ranged over reads (M); so such functions may be built of one another.
-/
import Derived.Test.YtfedjeojanpnpabMem
import Derived.RangeFuncNested
import Derived.RangeFuncBound
import Derived.RangeFuncCalls
import Derived.RangeFuncLeaves
import Derived.Shelf.Abstract
import Derived.Shelf.RegionOpen
import Derived.OwnWalkIn
import Derived.TacticsInMore
import Derived.LoopNIn
import Derived.LoopIn
namespace Go.Proofs.Ytfedjeojanpnpab
open Go.RowKit Go.Shelf
set_option linter.unusedVariables false

/-- A step that turns blocks in O alone; behind it the owner has O', of which each was its own, or is new. -/
structure Stp (W : World) (O : Nat → Prop) (W' : World) (O' : Nat → Prop) : Prop where
  turned : Turned O W W'
  own : ∀ k, O' k → O k ∨ W.heap.size ≤ k
theorem Stp.refl (W : World) (O : Nat → Prop) : Stp W O W O := ⟨Turned.refl O W, fun k h => .inl h⟩
theorem Stp.trans {W W1 W2 : World} {O O1 O2 : Nat → Prop} (h : Stp W O W1 O1) (k : Stp W1 O1 W2 O2) : Stp W O W2 O2 :=
  ⟨⟨k.turned.os.trans h.turned.os, k.turned.tape.trans h.turned.tape, k.turned.output.trans h.turned.output, Nat.le_trans h.turned.size k.turned.size, fun i hi hn => by
    refine (k.turned.block i (Nat.lt_of_lt_of_le hi h.turned.size) fun ho => ?_).trans (h.turned.block i hi hn)
    rcases h.own i ho with h1 | h1
    · exact hn h1
    · omega⟩, fun i hi => by
    rcases k.own i hi with h1 | h1
    · exact h.own i h1
    · exact .inr (Nat.le_trans h.turned.size h1)⟩
theorem Turned.weak {N N' : Nat → Prop} {w w' : World} (t : Turned N w w') (h : ∀ k, N k → N' k) : Turned N' w w' :=
  ⟨t.os, t.tape, t.output, t.size, fun k hk hn => t.block k hk fun hN => hn (h k hN)⟩
theorem Turned.put {N : Nat → Prop} {w w1 : World} (h : Turned N w w1) {b : Nat} (hb : N b) (o : Obj) : Turned N w (w1.putObj b o) :=
  h.trans ⟨rfl, rfl, rfl, by simp, fun k _ hn => World.putObj_heap_other (fun e => hn (by rw [e]; exact hb))⟩
theorem Stp.below {W W' : World} (O : Nat → Prop) (b : Below W.heap.size W W') : Stp W O W' O := ⟨Turned.below b, fun k h => .inl h⟩

/-- What speaks of O's blocks alone: it abides whatever else turns. -/
structure Of' {α : Type} (J : List α → (Nat → Prop) → World → Prop) : Prop where
  lt : ∀ {pre O W}, J pre O W → ∀ k, O k → k < W.heap.size
  kept : ∀ {pre O A B}, J pre O A → Turned (fun k => ¬ O k) A B → J pre O B

variable {P : Program} {α : Type}

/-- A function that is ranged over: it calls yield with xs, one behind the other, till a round says no more; it reads the blocks M, and turns none itself. -/
def SeqF (P : Program) (encs : α → Array Value) (g : Nat) (lb : Array Value) (xs : List α) (M : Nat → Prop) (w : World) : Prop :=
  ∀ (l : Nat) (J Jx : List α → (Nat → Prop) → World → Prop) (W : World) (O : Nat → Prop), Of' J → Of' Jx →
    w.heap.size ≤ W.heap.size → (∀ k, M k → W.heap[k]? = w.heap[k]?) → (∀ k, M k → ¬ O k) →
    (∀ pre x W1 O1, J pre O1 W1 → pre ++ [x] <+: xs → YieldAt Fence.wide 0 P l (encs x) W1 fun e W' => ∃ O2, Stp W1 O1 W' O2 ∧
      ((e = .returned (.bool true) ∧ J (pre ++ [x]) O2 W') ∨ (e = .returned (.bool false) ∧ Jx (pre ++ [x]) O2 W'))) →
    J [] O W →
    CallsIn Fence.wide 0 P g (#[.func (.yield l) #[] #[]] ++ lb) W fun e W' => (∃ v, e = .returned v) ∧ ∃ O', Stp W O W' O' ∧ (J xs O' W' ∨ ∃ pre, pre <+: xs ∧ Jx pre O' W')

/-- How a round's body may be left. -/
def rq (I : List α → (Nat → Prop) → World → Prop) (Ix : Code → List α → (Nat → Prop) → World → Prop) (xs : List α) (O : Nat → Prop) (W : World) : Exit → Act → World → Prop
  | .normal, _, W' => ∃ O', Stp W O W' O' ∧ I xs O' W'
  | .ret, _, W' => ∃ O', Stp W O W' O' ∧ Ix .ret xs O' W'
  | .exit id, _, W' => ∃ O', Stp W O W' O' ∧ Ix (.exit id) xs O' W'
  | .goto t, _, W' => ∃ O', Stp W O W' O' ∧ Ix (.goto t) xs O' W'
  | .panic _, _, _ => False
  | .outgrown, _, _ => False

theorem wp_range {encs : α → Array Value} {g : Operand} {ps : Array Tmp} {assign body : Code} {Q : Exit → Act → World → Prop} {a : Act} {w : World} {gf : Nat} {lb : Array Value} {xs : List α} {M : Nat → Prop} {w0 : World}
    (hg : a.eval g = .func (.func gf) #[] lb) (eg : ∀ args w, (callFunc gf args).run P w = .ok (.enter gf args) w) (hseq : SeqF P encs gf lb xs M w0) (hs0 : w0.heap.size ≤ w.heap.size) (hM0 : ∀ k, M k → w.heap[k]? = w0.heap[k]?) (hMl : ∀ k, M k → k < w.heap.size)
    (hps : ∀ x, (encs x).size = ps.size) (I : List α → (Nat → Prop) → World → Prop) (Ix : Code → List α → (Nat → Prop) → World → Prop) (hI : Of' I) (hIx : ∀ c, Of' (Ix c))
    (O : Nat → Prop) (hMO : ∀ k, M k → ¬ O k) (h0 : I [] O w) (a₁ : α → Nat → Act) (ob : α → Obj)
    (hassign : ∀ (l : Nat) (x : α) (W : World) (K : Act → World → Prop), (∀ W', Below W.heap.size W W' → W'.heap[W.heap.size]? = some (ob x) → K (a₁ x W.heap.size) W') → assign.wpIn (Fence.wide.inRound l) 0 P (Exit.then K (fun _ _ _ => False)) { tmps := (ps.zip (encs x)).foldl (fun t (p, v) => t.setIfInBounds p v) a.tmps, defers := [] } W)
    (hbody : ∀ (l : Nat) (pre : List α) (x : α) (W : World) (O1 : Nat → Prop) (B : Nat), I pre O1 W → pre ++ [x] <+: xs → W.heap[B]? = some (ob x) → ¬ O1 B → body.wpIn (Fence.wide.inRound l) 0 P (rq I Ix (pre ++ [x]) O1 W) (a₁ x B) W)
    (hdone : ∀ (D : Nat) (W : World) (O' : Nat → Prop), w.heap.size ≤ D → W.heap[D]? = some (.deferred (some [])) → ¬ O' D → Stp w O W O' → I xs O' W → Q .normal { a with defers := { target := .collected D, args := #[] } :: a.defers } W)
    (hstop : ∀ (D : Nat) (W : World) (O' : Nat → Prop) (c : Code) (pre : List α), w.heap.size ≤ D → W.heap[D]? = some (.deferred (some [])) → ¬ O' D → Stp w O W O' → pre <+: xs → Ix c pre O' W → c.wpIn Fence.wide 0 P Q { a with defers := { target := .collected D, args := #[] } :: a.defers } W) :
    (Code.rangeFunc g ps assign body).wpIn Fence.wide 0 P Q a w := by
  refine wpIn_rangeFunc ?_
  intro fn hfn
  have hro : Fence.wide.round = none := rfl
  rw [hro]
  have rex : ∃ rcd : LoopState → Option Code → Loop, rcd = fun st pe => { state := st, pending := pe, fn, tmps := a.tmps, params := ps, assign, body, defers := w.heap.size } := ⟨_, rfl⟩
  obtain ⟨rcd, hrec⟩ := rex
  -- the two blocks of the loop: D, for calls that rounds put off, and L, its record
  have hW : ∃ W1, (w.alloc (.deferred (some []))).alloc (.loop (rcd .ready none)) = W1 := ⟨_, rfl⟩
  obtain ⟨W1, hW⟩ := hW
  have b1 : Below w.heap.size w W1 := by rw [← hW]; exact ((Below.refl _ w).alloc (Nat.le_refl _) _).alloc (by simp) _
  have s1 : W1.heap.size = w.heap.size + 2 := by rw [← hW]; simp
  have l1 : W1.heap[w.heap.size + 1]? = some (.loop (rcd .ready none)) := by
    rw [← hW]; have := World.alloc_heap_new (w.alloc (.deferred (some []))) (.loop (rcd .ready none)); rwa [World.size_alloc] at this
  have d1 : W1.heap[w.heap.size]? = some (.deferred (some [])) := by
    rw [← hW]; exact (Below.heap_alloc _ _ _ (by simp)).trans (World.alloc_heap_new w _)
  -- with them, the rounds' blocks
  have plus : ∃ plus : (Nat → Prop) → Nat → Prop, plus = fun O k => O k ∨ k = w.heap.size ∨ k = w.heap.size + 1 := ⟨_, rfl⟩
  obtain ⟨plus, hplus⟩ := plus
  have hj : ∃ Jof : (LoopState → Prop) → (Option Code → List α → (Nat → Prop) → World → Prop) → List α → (Nat → Prop) → World → Prop, Jof = fun S T pre O1 W => ∃ O0 st pe, O1 = plus O0 ∧ ¬ O0 w.heap.size ∧ ¬ O0 (w.heap.size + 1) ∧ S st ∧ T pe pre O0 W ∧ W.heap[w.heap.size + 1]? = some (.loop (rcd st pe)) ∧ W.heap[w.heap.size]? = some (.deferred (some [])) := ⟨_, rfl⟩
  obtain ⟨Jof, hJof⟩ := hj
  have hOf : ∀ (S : LoopState → Prop) (T : Option Code → List α → (Nat → Prop) → World → Prop), (∀ c, Of' (T c)) → Of' (Jof S T) := by
    intro S T hT
    subst hJof hplus
    constructor
    · rintro pre O1 W ⟨O0, st, pe, rfl, _, _, _, ht, hl, hd⟩ k (hk | rfl | rfl)
      · exact (hT pe).lt ht k hk
      · exact (Array.getElem?_eq_some_iff.1 hd).1
      · exact (Array.getElem?_eq_some_iff.1 hl).1
    · rintro pre O1 A B ⟨O0, st, pe, rfl, n1, n2, hs, ht, hl, hd⟩ t
      exact ⟨O0, st, pe, rfl, n1, n2, hs, (hT pe).kept ht (t.weak fun k h1 h2 => h1 (.inl h2)), (t.block _ (Array.getElem?_eq_some_iff.1 hl).1 (fun h => h (.inr (.inr rfl)))).trans hl, (t.block _ (Array.getElem?_eq_some_iff.1 hd).1 (fun h => h (.inr (.inl rfl)))).trans hd⟩
  have hlt : ∀ k, O k → k < w.heap.size := hI.lt h0
  have nO1 : ¬ O w.heap.size := fun h => by have := hlt _ h; omega
  have nO2 : ¬ O (w.heap.size + 1) := fun h => by have := hlt _ h; omega
  refine ⟨w.heap.size + 1, [{ target := .collected w.heap.size, args := #[] }], W1, { target := .fn (.func gf) lb, args := #[.func (.yield (w.heap.size + 1)) #[] #[]] }, W1, gf, #[.func (.yield (w.heap.size + 1)) #[] #[]] ++ lb, W1, ?_, ?_, ?_, ?_, fun h => (by cases h), ?_⟩
  · rw [← hW, hrec]; exact run_enterLoop_outer _ _ _ _ _
  · simp only [resolve, hg]
    simp [go_sem]
  · intro f' hf'; trivial
  · simp [invoke, go_sem, eg]
  refine (hseq (w.heap.size + 1) (Jof (fun st => st = .ready) (fun pe pre O0 W => pe = none ∧ I pre O0 W)) (Jof (fun st => st = .done) (fun pe pre O0 W => ∃ c, pe = some c ∧ Ix c pre O0 W)) W1 (plus O)
    (hOf _ _ (fun c => ⟨fun h => hI.lt h.2, fun h t => ⟨h.1, hI.kept h.2 t⟩⟩)) (hOf _ _ (fun c => ⟨fun h => by obtain ⟨c, _, h⟩ := h; exact (hIx c).lt h, fun h t => by obtain ⟨c, e, h⟩ := h; exact ⟨c, e, (hIx c).kept h t⟩⟩))
    (Nat.le_trans hs0 b1.size) (fun k hk => (b1.block k (hMl k hk)).trans (hM0 k hk)) (fun k hk h => ?_) ?_ ?_).mono ?_
  · have hkl := hMl k hk
    rw [hplus] at h
    rcases h with h | h | h
    · exact hMO k hk h
    · omega
    · omega
  · -- one round
    intro pre x W O1 hJ hp
    rw [hJof] at hJ
    obtain ⟨O0, st, pe, e1, n1, n2, est, ⟨epe, hi⟩, hl, hd⟩ := hJ
    subst est epe e1
    have hlt' : w.heap.size + 1 < W.heap.size := (Array.getElem?_eq_some_iff.1 hl).1
    have hy := run_yield (P := P) (args := encs x) hl (by rw [hrec]; exact hps x)
    rw [hrec] at hy
    refine ⟨fn, _, assign, body, hy, roundIn_of_wpIn hfn (hassign _ x W _ ?_)⟩
    clear hy
    intro Wa ba hbx
    have nB : ¬ O0 W.heap.size := fun h => by have := hI.lt hi _ h; omega
    have hbl : W.heap.size < Wa.heap.size := (Array.getElem?_eq_some_iff.1 hbx).1
    replace hl := (ba.block _ hlt').trans hl
    replace hd := (ba.block _ (by omega)).trans hd
    replace hi := hI.kept hi (Turned.below ba)
    have ta : Turned (plus O0) W Wa := Turned.below ba
    refine ⟨_, run_beginRound hl (by rw [hrec]), ?_⟩
    have t2 : Turned (plus O0) W (Wa.putObj (w.heap.size + 1) (.loop { rcd .ready none with state := .busy })) := ta.put (by rw [hplus]; exact .inr (.inr rfl)) _
    have t2' : Turned (fun k => ¬ O0 k) Wa (Wa.putObj (w.heap.size + 1) (.loop { rcd .ready none with state := .busy })) := (Turned.refl _ Wa).put n2 _
    have hl2 : (Wa.putObj (w.heap.size + 1) (.loop { rcd .ready none with state := .busy })).heap[w.heap.size + 1]? = some (.loop { rcd .ready none with state := .busy }) := World.putObj_heap_same (by omega)
    have hd2 : (Wa.putObj (w.heap.size + 1) (.loop { rcd .ready none with state := .busy })).heap[w.heap.size]? = some (.deferred (some [])) := (World.putObj_heap_other (by omega)).trans hd
    have hb2 : (Wa.putObj (w.heap.size + 1) (.loop { rcd .ready none with state := .busy })).heap[W.heap.size]? = some (ob x) := (World.putObj_heap_other (by omega)).trans hbx
    have s2 : (Wa.putObj (w.heap.size + 1) (.loop { rcd .ready none with state := .busy })).heap.size = Wa.heap.size := by simp
    revert t2 t2' hl2 hd2 hb2 s2
    generalize Wa.putObj (w.heap.size + 1) (.loop { rcd .ready none with state := .busy }) = W2
    intro t2 t2' hl2 hd2 hb2 s2
    have fin : ∀ (jump : Option Code) (W3 : World) (O3 : Nat → Prop), Stp W2 O0 W3 O3 →
        (Instr.endRound (w.heap.size + 1) jump).run P W3 = .ok (.bool jump.isNone) (W3.putObj (w.heap.size + 1) (.loop (rcd (if jump.isNone then .ready else .done) jump))) ∧ ¬ O3 w.heap.size ∧ ¬ O3 (w.heap.size + 1) ∧
        Stp W (plus O0) (W3.putObj (w.heap.size + 1) (.loop (rcd (if jump.isNone then .ready else .done) jump))) (plus O3) ∧ Turned (fun k => ¬ O3 k) W3 (W3.putObj (w.heap.size + 1) (.loop (rcd (if jump.isNone then .ready else .done) jump))) ∧
        (W3.putObj (w.heap.size + 1) (.loop (rcd (if jump.isNone then .ready else .done) jump))).heap[w.heap.size + 1]? = some (.loop (rcd (if jump.isNone then .ready else .done) jump)) ∧
        (W3.putObj (w.heap.size + 1) (.loop (rcd (if jump.isNone then .ready else .done) jump))).heap[w.heap.size]? = some (.deferred (some [])) := by
      intro jump W3 O3 s
      have hl3 := (s.turned.block _ (by omega) n2).trans hl2
      have hd3 := (s.turned.block _ (by omega) n1).trans hd2
      have n3 : ∀ k, k < W.heap.size → ¬ O0 k → ¬ O3 k := fun k hk hn h => by
        rcases s.own k h with h | h
        · exact hn h
        · omega
      have hr := run_endRound (P := P) jump hl3
      rw [hrec] at hr
      refine ⟨by rw [hrec]; exact hr, n3 _ (by omega) n1, n3 _ (by omega) n2, ⟨?_, ?_⟩, (Turned.refl _ W3).put (n3 _ (by omega) n2) _, World.putObj_heap_same (Array.getElem?_eq_some_iff.1 hl3).1, (World.putObj_heap_other (by omega)).trans hd3⟩
      · refine (t2.trans (s.turned.weak fun k h => by rw [hplus]; exact .inl h)).put (by rw [hplus]; exact .inr (.inr rfl)) _
      · intro k hk
        rw [hplus] at hk ⊢
        rcases hk with hk | hk
        · rcases s.own k hk with h | h
          · exact .inl (.inl h)
          · exact .inr (by omega)
        · exact .inl (.inr hk)
    refine wpIn_mono (hbody _ pre x W2 O0 W.heap.size (hI.kept hi t2') hp hb2 nB) ?_
    rintro e a3 W3 hq
    cases e with
    | normal =>
      obtain ⟨O3, s, h3⟩ := hq
      obtain ⟨hr, m1, m2, hs, ht, hl4, hd4⟩ := fin none W3 O3 s
      exact ⟨_, _, hr, plus O3, hs, .inl ⟨rfl, by rw [hJof]; exact ⟨O3, _, _, rfl, m1, m2, rfl, ⟨rfl, hI.kept h3 ht⟩, hl4, hd4⟩⟩⟩
    | ret =>
      obtain ⟨O3, s, h3⟩ := hq
      obtain ⟨hr, m1, m2, hs, ht, hl4, hd4⟩ := fin (some .ret) W3 O3 s
      exact ⟨_, _, hr, plus O3, hs, .inr ⟨rfl, by rw [hJof]; exact ⟨O3, _, _, rfl, m1, m2, rfl, ⟨_, rfl, (hIx _).kept h3 ht⟩, hl4, hd4⟩⟩⟩
    | exit id =>
      obtain ⟨O3, s, h3⟩ := hq
      obtain ⟨hr, m1, m2, hs, ht, hl4, hd4⟩ := fin (some (.exit id)) W3 O3 s
      exact ⟨_, _, hr, plus O3, hs, .inr ⟨rfl, by rw [hJof]; exact ⟨O3, _, _, rfl, m1, m2, rfl, ⟨_, rfl, (hIx _).kept h3 ht⟩, hl4, hd4⟩⟩⟩
    | goto t =>
      obtain ⟨O3, s, h3⟩ := hq
      obtain ⟨hr, m1, m2, hs, ht, hl4, hd4⟩ := fin (some (.goto t)) W3 O3 s
      exact ⟨_, _, hr, plus O3, hs, .inr ⟨rfl, by rw [hJof]; exact ⟨O3, _, _, rfl, m1, m2, rfl, ⟨_, rfl, (hIx _).kept h3 ht⟩, hl4, hd4⟩⟩⟩
    | panic ch => exact hq.elim
    | outgrown => exact hq.elim
  · rw [hJof]
    exact ⟨O, .ready, none, rfl, nO1, nO2, rfl, ⟨rfl, hI.kept h0 (Turned.below b1)⟩, l1, d1⟩
  · -- behind it
    rintro e W2 ⟨⟨v, rfl⟩, O2, s, hx⟩
    rw [hJof] at hx
    have key : ∀ O0 st pe, O2 = plus O0 → ¬ O0 w.heap.size → ¬ O0 (w.heap.size + 1) → W2.heap[w.heap.size + 1]? = some (.loop (rcd st pe)) → Stp w O (W2.putObj (w.heap.size + 1) (.loop { rcd st pe with state := .exhausted })) O0 ∧ Turned (fun k => ¬ O0 k) W2 (W2.putObj (w.heap.size + 1) (.loop { rcd st pe with state := .exhausted })) := by
      intro O0 st pe e n1 n2 hl
      subst e
      refine ⟨⟨⟨?_, ?_, ?_, ?_, ?_⟩, ?_⟩, (Turned.refl _ W2).put n2 _⟩
      · exact s.turned.os.trans b1.os
      · exact s.turned.tape.trans b1.tape
      · exact s.turned.output.trans b1.output
      · have := s.turned.size; simp; omega
      · intro k hk hn
        refine (World.putObj_heap_other (by omega)).trans ((s.turned.block k (by omega) ?_).trans (b1.block k hk))
        rw [hplus]
        rintro (h | h | h)
        · exact hn h
        · omega
        · omega
      · intro k hk
        have h1 := s.own k (by rw [hplus]; exact .inl hk)
        rw [hplus] at h1
        rcases h1 with (h | h | h) | h
        · exact .inl h
        · exact .inr (by omega)
        · exact .inr (by omega)
        · exact .inr (by omega)
    rcases hx with ⟨O0, st, pe, e, n1, n2, est, ⟨epe, hi⟩, hl, hd⟩ | ⟨pre, hp, O0, st, pe, e, n1, n2, est, ⟨c, epe, hi⟩, hl, hd⟩
    · subst est epe
      obtain ⟨k1, k2⟩ := key O0 _ _ e n1 n2 hl
      refine ⟨none, _, ?_, hdone w.heap.size _ O0 (Nat.le_refl _) ((World.putObj_heap_other (by omega)).trans hd) n1 k1 (hI.kept hi k2)⟩
      have hr := run_endLoop (P := P) hl (by rw [hrec]; simp)
      rw [hrec] at hr ⊢
      exact hr
    · subst est epe
      obtain ⟨k1, k2⟩ := key O0 _ _ e n1 n2 hl
      refine ⟨some c, _, ?_, hstop w.heap.size _ O0 c pre (Nat.le_refl _) ((World.putObj_heap_other (by omega)).trans hd) n1 k1 hp ((hIx c).kept hi k2)⟩
      have hr := run_endLoop (P := P) hl (by rw [hrec]; simp)
      rw [hrec] at hr ⊢
      exact hr

/-- With blocks E beside them that lie as in WE. -/
def InX (T : List α → (Nat → Prop) → World → Prop) (E : Nat → Prop) (WE : World) (pre : List α) (Oi : Nat → Prop) (W : World) : Prop :=
  ∃ O1, Oi = (fun j => O1 j ∨ E j) ∧ (∀ j, E j → ¬ O1 j) ∧ (∀ j, E j → j < W.heap.size ∧ W.heap[j]? = WE.heap[j]?) ∧ T pre O1 W
theorem InX.of {T : List α → (Nat → Prop) → World → Prop} (h : Of' T) (E : Nat → Prop) (WE : World) : Of' (InX T E WE) := by
  constructor
  · rintro pre O W ⟨O1, rfl, h1, h2, h3⟩ k (hk | hk)
    · exact h.lt h3 k hk
    · exact (h2 k hk).1
  · rintro pre O A B ⟨O1, rfl, h1, h2, h3⟩ t
    exact ⟨O1, rfl, h1, fun j hj => ⟨Nat.lt_of_lt_of_le (h2 j hj).1 t.size, (t.block j (h2 j hj).1 (fun h => h (.inr hj))).trans (h2 j hj).2⟩, h.kept h3 (t.weak fun k k1 k2 => k1 (.inl k2))⟩
theorem InX.out {T : List α → (Nat → Prop) → World → Prop} {E : Nat → Prop} {w W : World} {O Oi : Nat → Prop} {pre : List α} (s : Stp w (fun j => O j ∨ E j) W Oi) (h : InX T E w pre Oi W) : ∃ O1, Stp w O W O1 ∧ T pre O1 W ∧ ∀ j, O1 j → Oi j := by
  obtain ⟨O1, rfl, h1, h2, h3⟩ := h
  refine ⟨O1, ⟨⟨s.turned.os, s.turned.tape, s.turned.output, s.turned.size, fun k hk hn => ?_⟩, fun k hk => ?_⟩, h3, fun j hj => .inl hj⟩
  · by_cases c : E k
    · exact (h2 k c).2
    · exact s.turned.block k hk fun h => h.elim hn c
  · rcases s.own k (.inl hk) with (h | h) | h
    · exact .inl h
    · exact absurd hk (h1 k h)
    · exact .inr h
theorem InX.step {T : List α → (Nat → Prop) → World → Prop} {E : Nat → Prop} {WE W W' : World} {O1 O2 : Nat → Prop} {pre : List α} (s : Stp W O1 W' O2) (h1 : ∀ j, E j → ¬ O1 j) (h2 : ∀ j, E j → j < W.heap.size ∧ W.heap[j]? = WE.heap[j]?) (h3 : T pre O2 W') : ∃ O', Stp W (fun j => O1 j ∨ E j) W' O' ∧ InX T E WE pre O' W' := by
  refine ⟨fun j => O2 j ∨ E j, ⟨s.turned.weak fun k h => .inl h, fun k hk => ?_⟩, O2, rfl, fun j hj ho => ?_, fun j hj => ⟨Nat.lt_of_lt_of_le (h2 j hj).1 s.turned.size, (s.turned.block j (h2 j hj).1 (h1 j hj)).trans (h2 j hj).2⟩, h3⟩
  · rcases hk with hk | hk
    · exact (s.own k hk).imp .inl id
    · exact .inl (.inr hk)
  · rcases s.own j ho with h | h
    · exact h1 j hj h
    · have := (h2 j hj).1; omega

/-- The range, where its body reads blocks E that nobody turns meanwhile. -/
theorem wp_rangeE {encs : α → Array Value} {g : Operand} {ps : Array Tmp} {assign body : Code} {Q : Exit → Act → World → Prop} {a : Act} {w : World} {gf : Nat} {lb : Array Value} {xs : List α} {M : Nat → Prop} {w0 : World}
    (hg : a.eval g = .func (.func gf) #[] lb) (eg : ∀ args w, (callFunc gf args).run P w = .ok (.enter gf args) w) (hseq : SeqF P encs gf lb xs M w0) (hs0 : w0.heap.size ≤ w.heap.size) (hM0 : ∀ k, M k → w.heap[k]? = w0.heap[k]?) (hMl : ∀ k, M k → k < w.heap.size)
    (hps : ∀ x, (encs x).size = ps.size) (T : List α → (Nat → Prop) → World → Prop) (Tx : Code → List α → (Nat → Prop) → World → Prop) (hT : Of' T) (hTx : ∀ c, Of' (Tx c))
    (E O : Nat → Prop) (hMO : ∀ k, M k → ¬ O k) (hME : ∀ k, M k → ¬ E k) (hEl : ∀ k, E k → k < w.heap.size) (hEO : ∀ k, E k → ¬ O k) (h0 : T [] O w) (a₁ : α → Nat → Act) (ob : α → Obj)
    (hassign : ∀ (l : Nat) (x : α) (W : World) (K : Act → World → Prop), (∀ W', Below W.heap.size W W' → W'.heap[W.heap.size]? = some (ob x) → K (a₁ x W.heap.size) W') → assign.wpIn (Fence.wide.inRound l) 0 P (Exit.then K (fun _ _ _ => False)) { tmps := (ps.zip (encs x)).foldl (fun t (p, v) => t.setIfInBounds p v) a.tmps, defers := [] } W)
    (hbody : ∀ (l : Nat) (pre : List α) (x : α) (W : World) (O1 : Nat → Prop) (B : Nat), T pre O1 W → pre ++ [x] <+: xs → W.heap[B]? = some (ob x) → ¬ O1 B → (∀ j, E j → W.heap[j]? = w.heap[j]?) → body.wpIn (Fence.wide.inRound l) 0 P (rq T Tx (pre ++ [x]) O1 W) (a₁ x B) W)
    (hdone : ∀ (D : Nat) (W : World) (O' : Nat → Prop), w.heap.size ≤ D → W.heap[D]? = some (.deferred (some [])) → ¬ O' D → Stp w O W O' → T xs O' W → Q .normal { a with defers := { target := .collected D, args := #[] } :: a.defers } W)
    (hstop : ∀ (D : Nat) (W : World) (O' : Nat → Prop) (c : Code) (pre : List α), w.heap.size ≤ D → W.heap[D]? = some (.deferred (some [])) → ¬ O' D → Stp w O W O' → pre <+: xs → Tx c pre O' W → c.wpIn Fence.wide 0 P Q { a with defers := { target := .collected D, args := #[] } :: a.defers } W) :
    (Code.rangeFunc g ps assign body).wpIn Fence.wide 0 P Q a w := by
  refine wp_range hg eg hseq hs0 hM0 hMl hps (InX T E w) (fun c => InX (Tx c) E w) (InX.of hT E w) (fun c => InX.of (hTx c) E w) (fun j => O j ∨ E j) (fun k hk h => h.elim (hMO k hk) (hME k hk))
    ⟨O, rfl, hEO, fun j hj => ⟨hEl j hj, rfl⟩, h0⟩ a₁ ob hassign ?_ ?_ ?_
  · rintro l pre x W Oi B ⟨O1, rfl, h1, h2, h3⟩ hp hb hB
    refine wpIn_mono (hbody l pre x W O1 B h3 hp hb (fun h => hB (.inl h)) (fun j hj => (h2 j hj).2)) ?_
    rintro e a3 W3 hq
    cases e with
    | normal => obtain ⟨O3, s, k⟩ := hq; exact InX.step s h1 h2 k
    | ret => obtain ⟨O3, s, k⟩ := hq; exact InX.step s h1 h2 k
    | exit id => obtain ⟨O3, s, k⟩ := hq; exact InX.step s h1 h2 k
    | goto t => obtain ⟨O3, s, k⟩ := hq; exact InX.step s h1 h2 k
    | panic ch => exact hq.elim
    | outgrown => exact hq.elim
  · intro D W O' hD hd nD s h
    obtain ⟨O1, s1, h1, h2⟩ := InX.out s h
    exact hdone D W O1 hD hd (fun h => nD (h2 D h)) s1 h1
  · intro D W O' c pre hD hd nD s hp h
    obtain ⟨O1, s1, h1, h2⟩ := InX.out s h
    exact hstop D W O1 c pre hD hd (fun h => nD (h2 D h)) s1 hp h1

/-- The frame in which a round's body begins: what came, and where its box is. -/
def inR {encs : α → Array Value} (ps : Array Tmp) (sl : Nat) (tmps : Array Value) (x : α) (B : Nat) : Act :=
  { tmps := ((ps.zip (encs x)).foldl (fun t (p, v) => t.setIfInBounds p v) tmps).setIfInBounds sl (.pointer (some ⟨B, 0, none⟩)), defers := [] }

theorem wp_rangeS {encs : α → Array Value} {g : Operand} {ps : Array Tmp} {assign body : Code} {Q : Exit → Act → World → Prop} {a : Act} {w : World} {gf : Nat} {lb : Array Value} {xs : List α} {M : Nat → Prop} (sl : Nat) (ob : α → Obj)
    (hg : a.eval g = .func (.func gf) #[] lb) (eg : ∀ args w, (callFunc gf args).run P w = .ok (.enter gf args) w) (hseq : SeqF P encs gf lb xs M w) (hMl : ∀ k, M k → k < w.heap.size)
    (hps : ∀ x, (encs x).size = ps.size) (T : List α → (Nat → Prop) → World → Prop) (Tx : Code → List α → (Nat → Prop) → World → Prop) (hT : Of' T) (hTx : ∀ c, Of' (Tx c))
    (E O : Nat → Prop) (hMO : ∀ k, M k → ¬ O k) (hME : ∀ k, M k → ¬ E k) (hEl : ∀ k, E k → k < w.heap.size) (hEO : ∀ k, E k → ¬ O k) (h0 : T [] O w)
    (hassign : ∀ (l : Nat) (x : α) (W : World) (K : Act → World → Prop), (∀ W', Below W.heap.size W W' → W'.heap[W.heap.size]? = some (ob x) → K (inR (encs := encs) ps sl a.tmps x W.heap.size) W') → assign.wpIn (Fence.wide.inRound l) 0 P (Exit.then K (fun _ _ _ => False)) { tmps := (ps.zip (encs x)).foldl (fun t (p, v) => t.setIfInBounds p v) a.tmps, defers := [] } W)
    (hbody : ∀ (l : Nat) (pre : List α) (x : α) (W : World) (O1 : Nat → Prop) (B : Nat), T pre O1 W → pre ++ [x] <+: xs → W.heap[B]? = some (ob x) → ¬ O1 B → (∀ j, E j → W.heap[j]? = w.heap[j]?) → body.wpIn (Fence.wide.inRound l) 0 P (rq T Tx (pre ++ [x]) O1 W) (inR (encs := encs) ps sl a.tmps x B) W)
    (hdone : ∀ (D : Nat) (W : World) (O' : Nat → Prop), w.heap.size ≤ D → W.heap[D]? = some (.deferred (some [])) → ¬ O' D → Stp w O W O' → T xs O' W → Q .normal { a with defers := { target := .collected D, args := #[] } :: a.defers } W)
    (hstop : ∀ (D : Nat) (W : World) (O' : Nat → Prop) (c : Code) (pre : List α), w.heap.size ≤ D → W.heap[D]? = some (.deferred (some [])) → ¬ O' D → Stp w O W O' → pre <+: xs → Tx c pre O' W → c.wpIn Fence.wide 0 P Q { a with defers := { target := .collected D, args := #[] } :: a.defers } W) :
    (Code.rangeFunc g ps assign body).wpIn Fence.wide 0 P Q a w :=
  wp_rangeE hg eg hseq (Nat.le_refl _) (fun _ _ => rfl) hMl hps T Tx hT hTx E O hMO hME hEl hEO h0 (inR (encs := encs) ps sl a.tmps) ob hassign hbody hdone hstop

end Go.Proofs.Ytfedjeojanpnpab
