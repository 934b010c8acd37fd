/-
  How the program's own wheel lies: its box, its slots and their rows, the bitmap, what is due.
-/
import Derived.Test.YtkiibobpejoaeaaDoorWheelOwn
import Derived.Test.YtkiibobpejoaeaaDoorWheelPure
import Derived.Test.YtkiibobpejoaeaaDoorBitAt
namespace Go.Proofs.YtkiibobpejoaeaaDoor
open Go.RowKit
set_option linter.unusedVariables false

def Tw.cells (x : Tw) : List Value := [.int .u64 (x.v : Int), .int .u64 (x.slot : Int), .int .u64 (x.turn : Int)]
def flatT (l : List Tw) : List Value := l.flatMap Tw.cells
theorem flatT_app (l l' : List Tw) : flatT (l ++ l') = flatT l ++ flatT l' := by simp [flatT]
theorem flatT_cons (x : Tw) (l : List Tw) : flatT (x :: l) = x.cells ++ flatT l := by simp [flatT]
theorem flatT_len : ∀ l : List Tw, (flatT l).length = l.length * 3
  | [] => rfl
  | x :: l => by rw [flatT_cons, List.length_append, flatT_len l, List.length_cons]; simp [Tw.cells]; omega
theorem flatT_one (l : List Tw) : ∀ u ∈ flatT l, u.oneCell' = true := by
  intro u hu
  obtain ⟨x, _, hx⟩ := List.mem_flatMap.1 hu
  simp only [Tw.cells, List.mem_cons, List.not_mem_nil, or_false] at hx
  rcases hx with rfl | rfl | rfl <;> rfl
theorem flatT_get : ∀ {l : List Tw} {i : Nat} {x : Tw}, l[i]? = some x → (flatT l)[i * 3]? = some (.int .u64 (x.v : Int)) ∧ (flatT l)[i * 3 + 1]? = some (.int .u64 (x.slot : Int)) ∧ (flatT l)[i * 3 + 2]? = some (.int .u64 (x.turn : Int))
  | [], i, x, h => by simp at h
  | y :: l, 0, x, h => by
    obtain rfl : y = x := by simpa using h
    rw [flatT_cons]
    exact ⟨rfl, rfl, rfl⟩
  | y :: l, i + 1, x, h => by
    have e := flatT_get (l := l) (i := i) (x := x) (by simpa using h)
    rw [flatT_cons]
    have hl : y.cells.length = 3 := rfl
    refine ⟨?_, ?_, ?_⟩
    · rw [List.getElem?_append_right (by omega), hl, show (i + 1) * 3 - 3 = i * 3 by omega]; exact e.1
    · rw [List.getElem?_append_right (by omega), hl, show (i + 1) * 3 + 1 - 3 = i * 3 + 1 by omega]; exact e.2.1
    · rw [List.getElem?_append_right (by omega), hl, show (i + 1) * 3 + 2 - 3 = i * 3 + 2 by omega]; exact e.2.2

def updV (f : Nat → Value) (p : Nat) (v : Value) : Nat → Value := fun q => if q = p then v else f q
theorem updV_at (f : Nat → Value) (p : Nat) (v : Value) : updV f p v p = v := if_pos rfl
theorem updV_ne {f : Nat → Value} {p q : Nat} {v : Value} (h : q ≠ p) : updV f p v q = f q := if_neg h
def SlRow (w : World) (gs S : Nat) (sv : Nat → Value) : Prop := ∃ cs, Box w gs 71 cs ∧ cs.size = S ∧ ∀ p, p < S → cs[p]? = some (sv p)
section
variable {w w' : World} {gs S : Nat} {sv : Nat → Value}
theorem SlRow.cell (h : SlRow w gs S sv) {p : Nat} (hp : p < S) : w.cell? ⟨gs, p, none⟩ = some (sv p) := by
  obtain ⟨cs, h1, h2, h3⟩ := h
  rw [h1.cell, h3 p hp]
theorem SlRow.frozen (h : SlRow w gs S sv) (p : Nat) : w.frozen? ⟨gs, p, none⟩ = false := by
  obtain ⟨cs, h1, _⟩ := h
  exact h1.frozen p
theorem SlRow.lt (h : SlRow w gs S sv) : gs < w.heap.size := by
  obtain ⟨cs, h1, _⟩ := h
  exact h1.lt
theorem SlRow.same (h : SlRow w gs S sv) (e : w'.heap[gs]? = w.heap[gs]?) : SlRow w' gs S sv := by
  obtain ⟨cs, h1, h2⟩ := h
  exact ⟨cs, e.trans h1, h2⟩
theorem SlRow.set (h : SlRow w gs S sv) (p : Nat) (v : Value) : SlRow (w.setCell ⟨gs, p, none⟩ v) gs S (updV sv p v) := by
  obtain ⟨cs, h1, h2, h3⟩ := h
  refine ⟨_, h1.set p v, by simp [h2], fun q hq => ?_⟩
  by_cases c : q = p
  · subst c
    rw [updV_at, Array.getElem?_setIfInBounds_self_of_lt (by omega)]
  · rw [updV_ne c, Array.getElem?_setIfInBounds_ne (fun e => c e.symm), h3 q hq]
theorem SlRow.not_row (h : SlRow w gs S sv) {base n : Nat} {v : Value} {xs : List Value} (hr : w.ownsRow base 67 3 v n xs) : v.ownBlock ≠ some gs := by
  obtain ⟨cs, h1, _⟩ := h
  exact h1.not_row hr (by decide)
end
theorem Box.not_tail {w : World} {b : Nat} {t : TypeId} {cs : Array Value} (h : Box w b t cs) {base : Nat} {e : TypeId} {v : Value} {xs : List Value} (hr : TailRow w base e v xs) (he : e ≠ t) : v.ownBlock ≠ some b := by
  rcases hr with ⟨rfl, _⟩ | ⟨g, o, cap, cur, rfl, _, hg, _⟩
  · intro e; cases e
  · intro e'
    obtain rfl : g = b := by simpa [Value.ownBlock] using e'
    have := h.symm.trans hg
    simp at this
    exact he this.2.symm
theorem tail_row_ne {w : World} {b1 b2 e1 e2 s n : Nat} {v1 v2 : Value} {xs ys : List Value} (h1 : TailRow w b1 e1 v1 xs) (h2 : w.ownsRow b2 e2 s v2 n ys) (he : e1 ≠ e2) : ∀ k, v2.ownBlock = some k → v1.ownBlock ≠ some k := by
  intro k hk
  rcases h2.2 with ⟨rfl, _⟩ | ⟨g, cap, cur, rfl, _, hg, _⟩
  · simp [Value.ownBlock] at hk
  · obtain rfl : g = k := by simpa [Value.ownBlock] using hk
    have hb : Box w g e2 cur := hg
    exact hb.not_tail h1 he

/-- The slots, their rows, and the bitmap. -/
structure WSlots (w : World) (b gs : Nat) (fa : Addr) (NB : Nat → Prop) (sv : Nat → Value) (m : Nat → Bool) (S : Nat) (R : Nat → List Tw) : Prop where
  gr : SlRow w gs S sv
  row : ∀ p, p < S → w.ownsRow 0 67 3 (sv p) (R p).length (flatT (R p))
  apart : ∀ p q, p < S → q < S → p ≠ q → ∀ k, (sv p).ownBlock = some k → (sv q).ownBlock ≠ some k
  bm : BmAt NB w fa ⟨S, m⟩
  nbb : ¬ NB b
  nbg : ¬ NB gs
  nbr : ∀ p, p < S → ∀ k, NB k → (sv p).ownBlock ≠ some k
  bg : b ≠ gs
  br : ∀ p, p < S → (sv p).ownBlock ≠ some b
section
variable {w w' : World} {b gs : Nat} {fa : Addr} {NB : Nat → Prop} {sv : Nat → Value} {m m' : Nat → Bool} {S : Nat} {R : Nat → List Tw}
theorem WSlots.same (h : WSlots w b gs fa NB sv m S R) (e1 : w'.heap[gs]? = w.heap[gs]?) (e2 : ∀ k, NB k → w'.heap[k]? = w.heap[k]?) (e3 : ∀ p, p < S → ∀ k, (sv p).ownBlock = some k → w'.heap[k]? = w.heap[k]?) : WSlots w' b gs fa NB sv m S R :=
  ⟨h.gr.same e1, fun p hp => own_same (h.row p hp) (e3 p hp), h.apart, h.bm.kept e2, h.nbb, h.nbg, h.nbr, h.bg, h.br⟩
theorem WSlots.below (h : WSlots w b gs fa NB sv m S R) (g : Below w.heap.size w w') : WSlots w' b gs fa NB sv m S R :=
  h.same (g.block _ h.gr.lt) (fun k hk => g.block k (h.bm.lt k hk)) (fun p hp k hk => g.block k ((h.row p hp).lt k hk).2)
/-- A store into the wheel's own cells. -/
theorem WSlots.box (h : WSlots w b gs fa NB sv m S R) (i : Nat) (u : Value) : WSlots (w.setCell ⟨b, i, none⟩ u) b gs fa NB sv m S R :=
  h.same (Below.heap_setCell w ⟨b, i, none⟩ u gs (fun e => h.bg e.symm)) (fun k hk => Below.heap_setCell w ⟨b, i, none⟩ u k (fun e => h.nbb (by have : k = b := e; rw [← this]; exact hk)))
    (fun p hp k hk => Below.heap_setCell w ⟨b, i, none⟩ u k (fun e => h.br p hp (by have : k = b := e; rw [← this]; exact hk)))
/-- A slot's row is another one: the old one grown, or a new one. -/
theorem WSlots.put (h : WSlots w b gs fa NB sv m S R) (hb : b < w.heap.size) {p : Nat} (hp : p < S) {w5 : World} {v' : Value} {l' : List Tw} (g5 : w.grownBy w5 (sv p).ownBlock) (o5 : w5.ownsRow 0 67 3 v' l'.length (flatT l')) (hat : v'.ownBlock = (sv p).ownBlock ∨ v'.ownBlock = some w.heap.size) :
    WSlots (w5.setCell ⟨gs, p, none⟩ v') b gs fa NB (updV sv p v') m S (updR R p l') := by
  have hgr := h.gr
  have hgs : some gs ≠ (sv p).ownBlock := fun e => h.gr.not_row (h.row p hp) e.symm
  have gr5 : SlRow w5 gs S sv := h.gr.same (g5.block gs h.gr.lt hgs)
  have hset : ∀ k, k ≠ gs → (w5.setCell ⟨gs, p, none⟩ v').heap[k]? = w5.heap[k]? := fun k hk => Below.heap_setCell w5 ⟨gs, p, none⟩ v' k hk
  have hv5 : v'.ownBlock ≠ some gs := by
    rcases hat with e | e
    · rw [e]; exact fun e' => hgs e'.symm
    · rw [e]; intro e'; have := Option.some.inj e'; have := h.gr.lt; omega
  have hvb : v'.ownBlock ≠ some b := by
    rcases hat with e | e
    · rw [e]; exact h.br p hp
    · rw [e]; intro e'; have := Option.some.inj e'; omega
  refine ⟨gr5.set p v', fun q hq => ?_, fun q r hq hr hqr k hk => ?_, ?_, h.nbb, h.nbg, fun q hq k hk => ?_, h.bg, fun q hq => ?_⟩
  · by_cases c : q = p
    · subst c
      rw [updV_at, updR_at]
      exact own_same o5 fun k hk => hset k (fun e => hv5 (e ▸ hk))
    · rw [updV_ne c, updR_ne c]
      have k1 := h.row q hq
      refine own_same k1 fun k hk => ?_
      have h2 : some k ≠ (sv p).ownBlock := fun e => h.apart q p hq hp c k hk e.symm
      rw [hset k (fun e => h.gr.not_row k1 (e ▸ hk)), g5.block k (k1.lt k hk).2 h2]
  · by_cases c : q = p
    · subst c
      rw [updV_at] at hk
      rw [updV_ne (fun e => hqr e.symm)]
      rcases hat with e | e
      · exact h.apart q r hq hr hqr k (e ▸ hk)
      · intro e'
        have := ((h.row r hr).lt k e').2
        rw [e] at hk
        have := Option.some.inj hk
        omega
    · rw [updV_ne c] at hk
      by_cases c2 : r = p
      · subst c2
        rw [updV_at]
        rcases hat with e | e
        · rw [e]; exact h.apart q r hq hr hqr k hk
        · rw [e]
          intro e'
          have := ((h.row q hq).lt k hk).2
          have := Option.some.inj e'
          omega
      · rw [updV_ne c2]
        exact h.apart q r hq hr hqr k hk
  · refine h.bm.kept fun k hk => ?_
    rw [hset k (fun e => h.nbg (e ▸ hk)), g5.block k (h.bm.lt k hk) (fun e => h.nbr p hp k hk e.symm)]
  · by_cases c : q = p
    · subst c
      rw [updV_at]
      rcases hat with e | e
      · rw [e]; exact h.nbr q hq k hk
      · rw [e]
        intro e'
        have := h.bm.lt k hk
        have := Option.some.inj e'
        omega
    · rw [updV_ne c]; exact h.nbr q hq k hk
  · by_cases c : q = p
    · subst c; rw [updV_at]; exact hvb
    · rw [updV_ne c]; exact h.br q hq
/-- A slot is emptied. -/
theorem WSlots.clear (h : WSlots w b gs fa NB sv m S R) (hb : b < w.heap.size) {p : Nat} (hp : p < S) : WSlots (w.setCell ⟨gs, p, none⟩ (.slice none 0 0)) b gs fa NB (updV sv p (.slice none 0 0)) m S (updR R p []) := by
  have hset : ∀ k, k ≠ gs → (w.setCell ⟨gs, p, none⟩ (.slice none 0 0)).heap[k]? = w.heap[k]? := fun k hk => Below.heap_setCell w ⟨gs, p, none⟩ _ k hk
  refine ⟨h.gr.set p _, fun q hq => ?_, fun q r hq hr hqr k hk => ?_, ?_, h.nbb, h.nbg, fun q hq k hk => ?_, h.bg, fun q hq => ?_⟩
  · by_cases c : q = p
    · subst c
      rw [updV_at, updR_at]
      exact ⟨rfl, .inl ⟨rfl, rfl⟩⟩
    · rw [updV_ne c, updR_ne c]
      exact own_same (h.row q hq) fun k hk => hset k (fun e => h.gr.not_row (h.row q hq) (e ▸ hk))
  · by_cases c : q = p
    · subst c
      rw [updV_at] at hk
      simp [Value.ownBlock] at hk
    · rw [updV_ne c] at hk
      by_cases c2 : r = p
      · subst c2
        rw [updV_at]
        simp [Value.ownBlock]
      · rw [updV_ne c2]
        exact h.apart q r hq hr hqr k hk
  · exact h.bm.kept fun k hk => hset k (fun e => h.nbg (e ▸ hk))
  · by_cases c : q = p
    · subst c
      rw [updV_at]
      simp [Value.ownBlock]
    · rw [updV_ne c]; exact h.nbr q hq k hk
  · by_cases c : q = p
    · subst c; rw [updV_at]; simp [Value.ownBlock]
    · rw [updV_ne c]; exact h.br q hq
/-- The bitmap turns. -/
theorem WSlots.mark (h : WSlots w b gs fa NB sv m S R) (k : WentB NB w fa ⟨S, m'⟩ w') : WSlots w' b gs fa NB sv m' S R :=
  ⟨h.gr.same (k.2.block gs h.gr.lt h.nbg), fun p hp => own_same (h.row p hp) (fun j hj => k.2.block j ((h.row p hp).lt j hj).2 (fun hn => h.nbr p hp j hn hj)), h.apart, k.1, h.nbb, h.nbg, h.nbr, h.bg, h.br⟩
end

/-- The program's wheel, between any of its steps. -/
structure Ws where
  S : Nat
  width : Nat
  room : Nat
  cur : Nat
  waits : Nat
  turns : Nat
  R : Nat → List Tw
  due : List Nat
structure WLie (w : World) (b gs : Nat) (fa : Addr) (NB : Nat → Prop) (sv : Nat → Value) (dv : Value) (m : Nat → Bool) (s : Ws) : Prop where
  box : WBox w b s.S s.width s.room s.cur gs s.waits s.turns (.pointer (some fa)) dv
  sl : WSlots w b gs fa NB sv m s.S s.R
  due : TailRow w 0 22 dv (s.due.map u64V)
  nbd : ∀ k, NB k → dv.ownBlock ≠ some k
def OwnW (b gs S : Nat) (NB : Nat → Prop) (sv : Nat → Value) (dv : Value) (k : Nat) : Prop := k = b ∨ k = gs ∨ NB k ∨ (∃ p, p < S ∧ (sv p).ownBlock = some k) ∨ dv.ownBlock = some k
section
variable {w w' : World} {b gs : Nat} {fa : Addr} {NB : Nat → Prop} {sv : Nat → Value} {dv : Value} {m : Nat → Bool} {s : Ws}
theorem WLie.lt (h : WLie w b gs fa NB sv dv m s) : ∀ k, OwnW b gs s.S NB sv dv k → k < w.heap.size := by
  rintro k (rfl | rfl | hk | ⟨p, hp, hk⟩ | hk)
  · exact Box.lt (show Box w k _ _ from h.box)
  · exact h.sl.gr.lt
  · exact h.sl.bm.lt k hk
  · exact ((h.sl.row p hp).lt k hk).2
  · exact (h.due.lt k hk).2
theorem WLie.same (h : WLie w b gs fa NB sv dv m s) (e : ∀ k, OwnW b gs s.S NB sv dv k → w'.heap[k]? = w.heap[k]?) : WLie w' b gs fa NB sv dv m s :=
  ⟨(e b (.inl rfl)).trans h.box, h.sl.same (e gs (.inr (.inl rfl))) (fun k hk => e k (.inr (.inr (.inl hk)))) (fun p hp k hk => e k (.inr (.inr (.inr (.inl ⟨p, hp, hk⟩))))), h.due.kept (fun k hk => e k (.inr (.inr (.inr (.inr hk))))), h.nbd⟩
theorem WLie.below (h : WLie w b gs fa NB sv dv m s) (g : Below w.heap.size w w') : WLie w' b gs fa NB sv dv m s := h.same fun k hk => g.block k (h.lt k hk)
theorem WLie.db (h : WLie w b gs fa NB sv dv m s) : dv.ownBlock ≠ some b := Box.not_tail (show Box w b _ _ from h.box) h.due (by decide)
theorem WLie.dg (h : WLie w b gs fa NB sv dv m s) : dv.ownBlock ≠ some gs := by
  obtain ⟨cs, h1, _⟩ := h.sl.gr
  exact h1.not_tail h.due (by decide)
theorem WLie.dr (h : WLie w b gs fa NB sv dv m s) {p : Nat} (hp : p < s.S) : ∀ k, (sv p).ownBlock = some k → dv.ownBlock ≠ some k := tail_row_ne h.due (h.sl.row p hp) (by decide)
theorem tail_set {base : Nat} {e : TypeId} {v : Value} {xs : List Value} {i : Nat} {u : Value} (h : TailRow w base e v xs) (hne : v.ownBlock ≠ some b) : TailRow (w.setCell ⟨b, i, none⟩ u) base e v xs :=
  h.kept fun k hk => Below.heap_setCell w ⟨b, i, none⟩ u k (fun e => hne (by have : k = b := e; rw [← this]; exact hk))
theorem WLie.setCur (h : WLie w b gs fa NB sv dv m s) (c : Nat) : WLie (w.setCell ⟨b, 3, none⟩ (.int .u64 (c : Int))) b gs fa NB sv dv m { s with cur := c } :=
  ⟨Box.set (show Box w b _ _ from h.box) 3 _, h.sl.box 3 _, tail_set h.due h.db, h.nbd⟩
theorem WLie.setWaits (h : WLie w b gs fa NB sv dv m s) (c : Nat) : WLie (w.setCell ⟨b, 6, none⟩ (.int .i64 (c : Int))) b gs fa NB sv dv m { s with waits := c } :=
  ⟨Box.set (show Box w b _ _ from h.box) 6 _, h.sl.box 6 _, tail_set h.due h.db, h.nbd⟩
theorem WLie.setTurns (h : WLie w b gs fa NB sv dv m s) (c : Nat) : WLie (w.setCell ⟨b, 7, none⟩ (.int .u64 (c : Int))) b gs fa NB sv dv m { s with turns := c } :=
  ⟨Box.set (show Box w b _ _ from h.box) 7 _, h.sl.box 7 _, tail_set h.due h.db, h.nbd⟩
end
/-- A wheel lies in the blocks N. -/
def WAt (N : Nat → Prop) (w : World) (a : Addr) (s : Ws) : Prop := ∃ b gs fa NB sv dv m, a = ⟨b, 0, none⟩ ∧ WLie w b gs fa NB sv dv m s ∧ (∀ p, m p = true ↔ p < s.S ∧ s.R p ≠ []) ∧ ∀ k, N k ↔ OwnW b gs s.S NB sv dv k
section
variable {N : Nat → Prop} {w w' : World} {a : Addr} {s : Ws}
theorem WAt.lt (h : WAt N w a s) : ∀ k, N k → k < w.heap.size := by
  obtain ⟨b, gs, fa, NB, sv, dv, m, rfl, h1, h2, h3⟩ := h
  exact fun k hk => h1.lt k ((h3 k).1 hk)
theorem WAt.kept (h : WAt N w a s) (e : ∀ k, N k → w'.heap[k]? = w.heap[k]?) : WAt N w' a s := by
  obtain ⟨b, gs, fa, NB, sv, dv, m, rfl, h1, h2, h3⟩ := h
  exact ⟨b, gs, fa, NB, sv, dv, m, rfl, h1.same fun k hk => e k ((h3 k).2 hk), h2, h3⟩
theorem WAt.below (h : WAt N w a s) (g : Below w.heap.size w w') : WAt N w' a s := h.kept fun k hk => g.block k (h.lt k hk)
end
/-- What numbers a wheel may have. -/
structure Ws.Fits (s : Ws) : Prop where
  s1 : 2 ≤ s.S
  s2 : s.S ≤ 4096
  w1 : 1 ≤ s.width
  w2 : s.width ≤ 1099511627776
  cur : s.cur < 18446744073709551616
  len : ∀ p, p < s.S → (s.R p).length ≤ 65536
  word : ∀ p, p < s.S → ∀ x, x ∈ s.R p → x.v < 18446744073709551616 ∧ x.slot < 18446744073709551616 ∧ x.turn < 18446744073709551616

end Go.Proofs.YtkiibobpejoaeaaDoor
