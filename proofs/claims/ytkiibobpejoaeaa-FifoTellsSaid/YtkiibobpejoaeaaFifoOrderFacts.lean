/-
  FifoOrder: the queue beside blocks of the law's own; its map by keys; what played makes, told.
-/
import Derived.Test.YtkiibobpejoaeaaFifoPlay
import Derived.Maps.OwnOps
import Derived.Maps.OwnSet
import Derived.Maps.Views
import Derived.Maps.RangeWalk
import Derived.DeepKeys4
namespace Go.Proofs.Ytkiibobpejoaeaa
open Go.RowKit Go.Maps Go.WideMaps
set_option linter.unusedVariables false
set_option linter.unusedSimpArgs false
set_option maxRecDepth 100000

theorem laidOutQ : laidOutB Try.prog = true := by kernel_rfl
theorem lawQ : Keyed Try.prog 68 := Keyed.of_law (deep_law_laid (m := 3) laidOutQ (by decide) (of_decide_eq_true (by kernel_rfl)) (by kernel_rfl) (by kernel_rfl))
def qlit (k : Ky) : Lit := .string (keyBytes [.int .u64 (k.at_ : Int), .int .u64 (k.seq : Int)])
theorem wfq64 {n : Nat} (h : n < 18446744073709551616) : (Lit.int .u64 (n : Int)).wf = true := by
  simp [Lit.wf, IntKind.min, IntKind.max, IntKind.signed, IntKind.bits]
  omega
theorem q_key {k : Ky} (hk : k.Fits) : keyOf Try.prog 68 (.agg #[.int .u64 (k.at_ : Int), .int .u64 (k.seq : Int)]) = some (qlit k) := by
  have wa := wfq64 hk.1
  have wb := wfq64 hk.2
  have hkt : Try.prog.keyType 68 = true := by kernel_rfl
  obtain ⟨m, hm⟩ : ∃ m, Try.prog.types.size = m + 1 := ⟨Try.prog.types.size - 1, by kernel_rfl⟩
  unfold keyOf qlit
  simp only [Try.underlying68]
  have h2 : Try.prog.cellsOf 68 = 2 := by kernel_rfl
  have h1 : Try.prog.cellsOf 32 = 1 := by kernel_rfl
  rw [if_pos (by simp [hkt, Value.formed, Try.underlying68, h2]), hm]
  unfold Program.keyLits
  simp only [Try.underlying68, Value.cells]
  rw [if_pos (by rw [h2]; exact ⟨rfl, by kernel_rfl⟩), List.mapM_cons, List.mapM_cons, List.mapM_nil]
  simp [h1, Program.keyLits, Try.underlying32, wa, wb]
theorem qlit_ne {a b : Ky} (ha : a.Fits) (hb : b.Fits) (h : a ≠ b) : qlit a ≠ qlit b := fun e => by
  have h1 := q_key ha
  rw [e] at h1
  have h2 := lawQ.inj h1 (q_key hb)
  simp only [Value.agg.injEq, Array.mk.injEq, List.cons.injEq, Value.int.injEq, true_and, and_true] at h2
  apply h
  cases a; cases b
  simp only at h2
  obtain ⟨e1, e2⟩ := h2
  congr 1 <;> omega
/-- The queue, and blocks that are none of its own. -/
def OSt (X : List Nat) (w W : World) (a : Addr) (g : Fg) : Prop := ∃ N, FSt' N w W a g [] [] ∧ ∀ x, x ∈ X → x < W.heap.size ∧ ¬ N x ∧ w.heap.size ≤ x
section
variable {X : List Nat} {w W W' : World} {a : Addr} {g g' : Fg}
theorem OSt.fst (h : OSt X w W a g) : FSt w W a g [] [] := by
  obtain ⟨N, h, _⟩ := h
  exact ⟨N, h⟩
theorem OSt.lo (h : OSt X w W a g) : Below w.heap.size w W := h.fst.lo
theorem OSt.ok (h : OSt X w W a g) : g.Ok := h.fst.ok
theorem OSt.below (h : OSt X w W a g) (b : Below W.heap.size W W') : OSt X w W' a g := by
  obtain ⟨N, h, k⟩ := h
  exact ⟨N, ⟨h.at_.below b, h.ok, h.new, below_tr h.lo b, fun r hr => (by cases hr), fun r hr => (by cases hr)⟩, fun x hx => ⟨Nat.lt_of_lt_of_le (k x hx).1 b.size, (k x hx).2⟩⟩
theorem OSt.block (h : OSt X w W a g) (b : Below W.heap.size W W') : ∀ x, x ∈ X → W'.heap[x]? = W.heap[x]? := by
  obtain ⟨N, h, k⟩ := h
  exact fun x hx => b.block x (k x hx).1
theorem OSt.add (h : OSt X w W a g) (b : Below W.heap.size W W') (hs : W.heap.size < W'.heap.size) : OSt (W.heap.size :: X) w W' a g := by
  obtain ⟨N, h, k⟩ := h
  refine ⟨N, ⟨h.at_.below b, h.ok, h.new, below_tr h.lo b, fun r hr => (by cases hr), fun r hr => (by cases hr)⟩, fun x hx => ?_⟩
  rcases List.mem_cons.1 hx with rfl | hx
  · exact ⟨hs, fun hn => by have := h.at_.lt _ hn; omega, h.lo.size⟩
  · exact ⟨Nat.lt_of_lt_of_le (k x hx).1 b.size, (k x hx).2⟩
theorem OSt.put {x : Nat} (h : OSt X w W a g) (hx : x ∈ X) (t : W.grownBy W' (some x)) : OSt X w W' a g := by
  obtain ⟨N, h1, h2⟩ := h
  obtain ⟨x1, x2, x3⟩ := h2 x hx
  exact ⟨N, ⟨h1.at_.kept (fun j hj => t.block j (h1.at_.lt j hj) (fun e => x2 (by cases e; exact hj))) t.size, h1.ok, h1.new, h1.lo.trans ⟨t.os, t.tape, t.output, t.size, fun k hk => t.block k (Nat.lt_of_lt_of_le hk h1.lo.size) (fun e => by cases e; omega)⟩, fun r hr => (by cases hr), fun r hr => (by cases hr)⟩, fun y hy => ⟨Nat.lt_of_lt_of_le (h2 y hy).1 t.size, (h2 y hy).2⟩⟩
theorem OSt.went {N : Nat → Prop} (h : FSt' N w W a g [] []) (k : ∀ x, x ∈ X → x < W.heap.size ∧ ¬ N x ∧ w.heap.size ≤ x) (ok : g'.Ok) (t : WentG AtF N W a g' W') : Hid (OSt X w W' a g') ∧ Hid (∀ x, x ∈ X → W'.heap[x]? = W.heap[x]?) := by
  obtain ⟨N', k1, k2, k3⟩ := t
  refine ⟨Lib.hid ⟨N', ⟨k1, ok, fun j hj => ?_, below_turned k2 h.lo.size h.new h.lo, fun r hr => (by cases hr), fun r hr => (by cases hr)⟩, fun x hx => ⟨?_, fun hn => ?_, (k x hx).2.2⟩⟩, Lib.hid fun x hx => k2.block x (k x hx).1 (k x hx).2.1⟩
  · rcases k3 j hj with h5 | h5
    · exact h.new j h5
    · exact Nat.le_trans h.lo.size h5
  · exact Nat.lt_of_lt_of_le (k x hx).1 k2.size
  · rcases k3 _ hn with h5 | h5
    · exact (k x hx).2.1 h5
    · have := (k x hx).1; omega
theorem OSt.push (h : OSt X w W a g) (v : Int) (hv : Hw v) (k : Ky) (hk : k.Fits) : Calls Try.prog 23 #[.pointer (some a), .int .u64 v, kyV k] W fun e W' => e = .returned (.int .i64 (putE g.room g.l k : Nat)) ∧ Hid (OSt X w W' a ⟨g.room, putL g.room g.l k v⟩) ∧ Hid (∀ x, x ∈ X → W'.heap[x]? = W.heap[x]?) := by
  obtain ⟨N, h, k2⟩ := h
  refine (f_push h.at_ h.ok v hv k hk).mono ?_
  rintro e W' ⟨rfl, t⟩
  exact ⟨rfl, OSt.went h k2 (putL_ok h.ok hk hv) t⟩
theorem OSt.pop (h : OSt X w W a g) : Calls Try.prog 25 #[.pointer (some a)] W fun e W' => e = popV g.l.head? ∧ Hid (OSt X w W' a ⟨g.room, g.l.tail⟩) ∧ Hid (∀ x, x ∈ X → W'.heap[x]? = W.heap[x]?) := by
  obtain ⟨N, h, k2⟩ := h
  refine (f_pop h.at_ h.ok).mono ?_
  rintro e W' ⟨rfl, t⟩
  exact ⟨rfl, OSt.went h k2 (tail_ok h.ok) t⟩
end

theorem zeroQ (w : World) : (zeroValue 32).run Try.prog w = .ok (.int .u64 0) w := by kernel_rfl
abbrev MapQ (w : World) (b n : Nat) (D : DataW Unit) : Prop := w.ownsMap Try.prog 68 (plainElem Try.prog 32) b n D
abbrev RngQ (w : World) (b r n : Nat) (D : DataW Unit) (left : Lit → Bool) (cnt : Nat) : Prop := w.ranges Try.prog 68 (plainElem Try.prog 32) b r n D left cnt
theorem mapQ_same {w w' : World} {b n : Nat} {D : DataW Unit} (h : MapQ w b n D) (e : w'.heap[b]? = w.heap[b]?) : MapQ w' b n D := by
  obtain ⟨es, clock, hb, r⟩ := h
  exact ⟨es, clock, e.trans hb, r⟩
theorem rngQ_same {w w' : World} {b r n cnt : Nat} {D : DataW Unit} {left : Lit → Bool} (h : RngQ w b r n D left cnt) (e1 : w'.heap[b]? = w.heap[b]?) (e2 : w'.heap[r]? = w.heap[r]?) : RngQ w' b r n D left cnt := by
  obtain ⟨es, clock, since, seen, c0, hb, F, hs, hD, hr, rest⟩ := h
  exact ⟨es, clock, since, seen, c0, e1.trans hb, F, hs, hD, e2.trans hr, rest⟩
theorem box_same {w w' : World} {b t : Nat} {cs : Array Value} (h : Box w b t cs) (e : w'.heap[b]? = w.heap[b]?) : Box w' b t cs := e.trans h
theorem OSt.sub {X Y : List Nat} {w W : World} {a : Addr} {g : Fg} (h : OSt X w W a g) (s : ∀ x, x ∈ Y → x ∈ X) : OSt Y w W a g := by
  obtain ⟨N, h, k⟩ := h
  exact ⟨N, h, fun x hx => k x (s x hx)⟩
theorem OSt.of {w W : World} {a : Addr} {g : Fg} {B : List BoxH} {R : List RowH} (h : FSt w W a g B R) : OSt [] w W a g := by
  obtain ⟨N, h⟩ := h
  exact ⟨N, ⟨h.at_, h.ok, h.new, h.lo, fun r hr => (by cases hr), fun r hr => (by cases hr)⟩, fun x hx => (by cases hx)⟩
theorem OSt.len {X : List Nat} {w W : World} {a : Addr} {g : Fg} (h : OSt X w W a g) : Calls Try.prog 29 #[.pointer (some a)] W fun e W' => e = .returned (.int .i64 (g.l.length : Nat)) ∧ Hid (Below W.heap.size W W') := by
  obtain ⟨N, ⟨⟨b, ta, NT, rv, gone, P, r, tg, rfl, h1, _⟩, ok, _⟩, _⟩ := h
  have h3 := (parts_small ok h1.parts).2.2
  have h4 := ok.small
  refine (f_len h1 (by omega)).mono ?_
  rintro e W' ⟨rfl, t⟩
  exact ⟨rfl, Lib.hid t⟩
theorem OSt.head {X : List Nat} {w W : World} {a : Addr} {g : Fg} (h : OSt X w W a g) : Calls Try.prog 27 #[.pointer (some a)] W fun e W' => e = popV g.l.head? ∧ Hid (Below W.heap.size W W') := by
  obtain ⟨N, h, _⟩ := h
  refine (f_head h.at_ h.ok).mono ?_
  rintro e W' ⟨rfl, t⟩
  exact ⟨rfl, Lib.hid t⟩
theorem key_neq_self (k : Ky) (W : World) : (binOp .neq 68 (.agg #[.int .u64 (k.at_ : Int), .int .u64 (k.seq : Int)]) (.agg #[.int .u64 (k.at_ : Int), .int .u64 (k.seq : Int)])).run Try.prog W = .ok (.bool false) W := by
  go_simp
theorem rng_not_box {w : World} {b r n cnt q t : Nat} {cs : Array Value} {D : DataW Unit} {left : Lit → Bool} (h : RngQ w b r n D left cnt) (hb : Box w q t cs) : q ≠ r := by
  rintro rfl
  obtain ⟨es, clock, since, seen, c0, _, _, _, _, hr, _⟩ := h
  have := (show w.heap[q]? = some (.cells cs t (0, 0)) from hb).symm.trans hr
  simp at this
/-- What is told of the map: keys that came in and are still there, each with its number. -/
structure InQ (D : DataW Unit) (l : List En) (K : List Ky) : Prop where
  tidy : Tidy D
  nd : K.Nodup
  size : Maps.size D = K.length
  sub : ∀ k, k ∈ K → ∃ v, (⟨k, v⟩ : En) ∈ l ∧ D.atKey (qlit k) (.lit (.int .u64 0)) = .lit (.int .u64 v)
  has : ∀ k : Ky, k.Fits → (Maps.has D (qlit k) = true ↔ k ∈ K)
  only : ∀ kl, Maps.has D kl = true → ∃ k : Ky, k.Fits ∧ k ∈ K ∧ kl = qlit k
theorem inQ_none (l : List En) : InQ (.map []) l [] :=
  ⟨tidy_empty, List.nodup_nil, by simp [Maps.size], fun k hk => (by cases hk), fun k hk => by simp [Maps.has], fun kl h => by simp [Maps.has] at h⟩
theorem inQ_put {D : DataW Unit} {l : List En} {K : List Ky} {k : Ky} {v : Int} (h : InQ D l K) (hk : k.Fits) (hf : ∀ e, e ∈ l → e.key.Fits) (hn : (getL k l).isSome = false) : InQ (D.put (qlit k) (.lit (.int .u64 v))) (insL k v l) (k :: K) := by
  have hkl : WideAt.IsKeyLit (qlit k) := trivial
  have hKl : ∀ x, x ∈ K → x.Fits ∧ x ≠ k := fun x hx => by
    obtain ⟨u, hu, _⟩ := h.sub x hx
    exact ⟨hf _ hu, getL_not hn _ hu⟩
  have hnk : k ∉ K := fun hm => (hKl k hm).2 rfl
  have hh : Maps.has D (qlit k) = false := by
    cases hd : Maps.has D (qlit k) with
    | false => rfl
    | true => exact absurd ((h.has k hk).1 hd) hnk
  refine ⟨h.tidy.put hkl _, List.nodup_cons.2 ⟨hnk, h.nd⟩, ?_, fun x hx => ?_, fun x hx => ?_, fun kl hd => ?_⟩
  · rw [size_put h.tidy, hh, h.size]
    simp
  · rcases List.mem_cons.1 hx with rfl | hx
    · exact ⟨v, insL_mem.2 (.inl rfl), atKey_put_same h.tidy.isMap hkl _ _⟩
    · obtain ⟨u, hu, ha⟩ := h.sub x hx
      exact ⟨u, insL_mem.2 (.inr hu), by rw [atKey_put_other (qlit_ne (hKl x hx).1 hk (hKl x hx).2), ha]⟩
  · by_cases d : x = k
    · subst d
      rw [has_put_same h.tidy.isMap hkl]
      simp
    · rw [has_put_other (qlit_ne hx hk d), h.has x hx]
      simp [d]
  · by_cases d : kl = qlit k
    · exact ⟨k, hk, List.mem_cons_self, d⟩
    · rw [has_put_other d] at hd
      obtain ⟨x, h1, h2, h3⟩ := h.only kl hd
      exact ⟨x, h1, List.mem_cons_of_mem _ h2, h3⟩
theorem inQ_pop {D : DataW Unit} {e : En} {m : List En} {K : List Ky} (h : InQ D (e :: m) K) (hf : ∀ y, y ∈ e :: m → y.key.Fits) : InQ (D.del (qlit e.key)) m (K.erase e.key) := by
  have he := hf e List.mem_cons_self
  refine ⟨h.tidy.del _, h.nd.erase _, ?_, fun x hx => ?_, fun x hx => ?_, fun kl hd => ?_⟩
  · have hs := size_del (k := qlit e.key) h.tidy
    rw [h.size] at hs
    by_cases c : e.key ∈ K
    · rw [(h.has _ he).2 c] at hs
      rw [List.length_erase_of_mem c]
      simp at hs
      omega
    · have hh : Maps.has D (qlit e.key) = false := by
        cases hd : Maps.has D (qlit e.key) with
        | false => rfl
        | true => exact absurd ((h.has _ he).1 hd) c
      rw [hh] at hs
      rw [List.erase_of_not_mem c]
      simpa using hs
  · obtain ⟨h1, h2⟩ := h.nd.mem_erase_iff.1 hx
    obtain ⟨u, hu, ha⟩ := h.sub x h2
    have hxf := hf _ hu
    rcases List.mem_cons.1 hu with hu | hu
    · exact absurd (congrArg En.key hu) h1
    · exact ⟨u, hu, by rw [atKey_del_other (qlit_ne hxf he h1), ha]⟩
  · rw [h.nd.mem_erase_iff]
    by_cases d : x = e.key
    · subst d
      rw [has_del_same]
      simp
    · rw [has_del_other (qlit_ne hx he d), h.has x hx]
      simp [d]
  · by_cases d : kl = qlit e.key
    · subst d
      rw [has_del_same] at hd
      cases hd
    · rw [has_del_other d] at hd
      obtain ⟨x, h1, h2, h3⟩ := h.only kl hd
      exact ⟨x, h1, h.nd.mem_erase_iff.2 ⟨fun e2 => d (by rw [h3, e2]), h2⟩, h3⟩
theorem inQ_least {D : DataW Unit} {e : En} {m : List En} {K : List Ky} (h : InQ D (e :: m) K) (hr : Rises (e :: m)) {k : Ky} (hk : k ∈ K) : ¬ k.lt e.key := by
  obtain ⟨u, hu, _⟩ := h.sub k hk
  obtain ⟨r1, _⟩ := List.pairwise_cons.1 hr
  rcases List.mem_cons.1 hu with hu | hu
  · have : k = e.key := congrArg En.key hu
    rw [this]
    exact Ky.lt_irrefl _
  · exact fun h2 => Ky.lt_irrefl _ (Ky.lt_trans h2 (r1 _ hu))
theorem inQ_val {D : DataW Unit} {e : En} {m : List En} {K : List Ky} (h : InQ D (e :: m) K) (hr : Rises (e :: m)) (hk : e.key ∈ K) : D.atKey (qlit e.key) (.lit (.int .u64 0)) = .lit (.int .u64 e.val) := by
  obtain ⟨u, hu, ha⟩ := h.sub _ hk
  obtain ⟨r1, _⟩ := List.pairwise_cons.1 hr
  rcases List.mem_cons.1 hu with hu | hu
  · rw [ha, congrArg En.val hu.symm]
  · exact absurd (r1 _ hu) (Ky.lt_irrefl _)
theorem inQ_end {D : DataW Unit} {K : List Ky} (h : InQ D [] K) : Maps.size D = 0 := by
  rw [h.size]
  cases K with
  | nil => rfl
  | cons k K =>
    obtain ⟨u, hu, _⟩ := h.sub k List.mem_cons_self
    cases hu

/-- What one call makes of a queue. -/
def stepF (o : OpF) (g : Fg) : Fg := if o.kind = 1 then ⟨g.room, putL g.room g.l o.k o.h⟩ else if o.kind = 2 then ⟨g.room, g.l.tail⟩ else g
theorem playF_snoc (o : OpF) : ∀ (l : List OpF) (g : Fg), playF (l ++ [o]) g = stepF o (playF l g)
  | [], g => rfl
  | p :: l, g => by
    show playF (l ++ [o]) _ = stepF o (playF l _)
    exact playF_snoc o l _
theorem playF_room : ∀ (l : List OpF) (g : Fg), (playF l g).room = g.room
  | [], g => rfl
  | p :: l, g => by
    show (playF l _).room = g.room
    rw [playF_room l]
    split
    · rfl
    · split <;> rfl
theorem op_cellsQ {w : World} {A : Option Addr} {len cap : Nat} {rows : List (List Value)} (h : RowOf [some .u8, some .u64, some .u64, some .u64] w A len cap rows) {j : Nat} (hj : j < len) :
    ∃ (a : Addr) (o : OpF), A = some a ∧ o.Fits ∧ (∃ hl : j < rows.length, opOfF rows[j] = o) ∧ ∀ W, Below w.heap.size w W → W.cell? (a.add (j * 4)) = some (.int .u8 (o.kind : Int)) ∧ W.cell? ⟨(a.add (j * 4)).block, (a.add (j * 4)).off + 1, none⟩ = some (.int .u64 o.h) ∧ W.cell? ⟨(a.add (j * 4)).block, (a.add (j * 4)).off + 2, none⟩ = some (.int .u64 (o.k.at_ : Int)) ∧ W.cell? ⟨(a.add (j * 4)).block, (a.add (j * 4)).off + 3, none⟩ = some (.int .u64 (o.k.seq : Int)) := by
  obtain ⟨h1, _, h3⟩ := h
  have hjl : j < rows.length := by omega
  obtain ⟨hf, a, rfl, hc⟩ := h3 j hjl
  obtain ⟨v0, v1, v2, v3, e⟩ : ∃ v0 v1 v2 v3, rows[j] = [v0, v1, v2, v3] := by
    have := hf.length
    match hr : rows[j], this with
    | [v0, v1, v2, v3], _ => exact ⟨v0, v1, v2, v3, rfl⟩
  rw [e] at hf hc
  obtain ⟨⟨n0, rfl, w0⟩, ⟨n1, rfl, w1⟩, ⟨n2, rfl, w2⟩, ⟨n3, rfl, w3⟩, _⟩ := hf
  obtain ⟨x0, rfl, hx0⟩ := nat_u8 w0
  obtain ⟨x1, rfl, hx1⟩ := nat_u64 w1
  obtain ⟨x2, rfl, hx2⟩ := nat_u64 w2
  obtain ⟨x3, rfl, hx3⟩ := nat_u64 w3
  have c0 := hc 0 _ rfl
  have c1 := hc 1 _ rfl
  have c2 := hc 2 _ rfl
  have c3 := hc 3 _ rfl
  simp only [List.length_cons, List.length_nil, Nat.zero_add, Nat.add_zero, Nat.reduceAdd] at c0 c1 c2 c3
  rw [add_at] at c1 c2 c3
  refine ⟨a, ⟨x0, (x1 : Int), ⟨x2, x3⟩⟩, rfl, ⟨hx0, ⟨by show (0 : Int) ≤ (x1 : Int); omega, by show (x1 : Int) < _; omega⟩, hx2, hx3⟩, ⟨hjl, by rw [e]; rfl⟩, fun W b => ?_⟩
  exact ⟨(b.cell (World.block_lt_of_cell? w _ c0)).trans c0, (b.cell (World.block_lt_of_cell? w _ c1)).trans c1, (b.cell (World.block_lt_of_cell? w _ c2)).trans c2, (b.cell (World.block_lt_of_cell? w _ c3)).trans c3⟩
/-- What the first i calls of a row make. -/
def madeF (z : List (List Value)) (i : Nat) : Fg := playF ((z.take i).map opOfF) ⟨40, []⟩
theorem madeF_succ {z : List (List Value)} {i : Nat} {o : OpF} (h : ∃ hl : i < z.length, opOfF z[i] = o) : madeF z (i + 1) = stepF o (madeF z i) := by
  obtain ⟨hl, rfl⟩ := h
  unfold madeF
  rw [List.take_succ_eq_append_getElem hl, List.map_append, List.map_singleton, playF_snoc]
theorem madeF_room (z : List (List Value)) (i : Nat) : (madeF z i).room = 40 := by
  unfold madeF
  rw [playF_room]
theorem madeF_eq (z : List (List Value)) (i : Nat) : ∃ l, madeF z i = ⟨40, l⟩ := by
  have h := madeF_room z i
  generalize madeF z i = g at *
  obtain ⟨r, l⟩ := g
  exact ⟨l, by simp only at h; rw [h]⟩
set_option maxHeartbeats 8000000 in
set_option maxRecDepth 100000 in
theorem law_made (a0 : Option Addr) (len0 cap0 : Nat) (z0 : List (List Value)) (wa w W0 : World) (hlow : len0 ≤ cap0 ∧ cap0 ≤ 9223372036854775807) (HR : Hid (RowOf [some .u8, some .u64, some .u64, some .u64] wa a0 len0 cap0 z0)) (hwa : Below wa.heap.size wa w) (n : Nat) (hn : n ≤ len0) (lo : Below w.heap.size w W0) :
    Calls Try.prog 33 #[.slice a0 n cap0] W0 fun e W' => ∃ a, e = .returned (.tuple #[.pointer (some a), .bool true]) ∧ Hid (FSt w W' a (madeF z0 (min n 60)) [] []) := by
  have HWa := Lib.hid hwa
  clear hwa
  have KN := Lib.hid (FSt.new_ 40 (by decide) (by decide) w W0 lo)
  obtain ⟨m, Hm⟩ : ∃ m, Hid (min n 60 = m) := ⟨_, Lib.hid rfl⟩
  rw [Hm.out]
  have hm1 : m ≤ n := by have := Hm.out; omega
  have hm2 : m ≤ 60 := by have := Hm.out; omega
  have hco := hlow.2
  have hlo := hlow.1
  have hnz : (n : Int) ≤ (cap0 : Int) := by omega
  go_enter Try.func33, Try.ntmps33
  go_upto_region 2 with (go_at_call 20; refine KN.out.mono ?_; rintro e W1 ⟨a, rfl, S1⟩)
  clear KN
  go_cut [16, 17, 18] (fun v16 v17 v18 wx => v16 = .slice a0 m cap0 ∧ v17 = .int .i64 (m : Int) ∧ v18 = .int .i64 0 ∧ W1 = wx)
  case first =>
    by_cases h60 : 60 < n
    · have h60z : (60 : Int) < (n : Int) := by omega
      obtain rfl : m = 60 := by have := Hm.out; omega
      go_wp2_with fail
      go_meet
      exact ⟨by first | rfl | rw [show (min (n : Int) 60).toNat = 60 by omega], congrArg (Value.int .i64) (by omega), rfl, rfl⟩
    · have h60z : ¬ (60 : Int) < (n : Int) := by omega
      obtain rfl : m = n := by have := Hm.out; omega
      go_wp2_with fail
      go_meet
      exact ⟨by first | rfl | rw [show (min (m : Int) 60).toNat = m by omega], congrArg (Value.int .i64) (by omega), rfl, rfl⟩
  case rest =>
  obtain ⟨rfl, rfl, rfl, rfl⟩ := hcut
  clear Hm
  go_wp2_with fail
  go_loopg [18] m (fun k v18 wx => ∃ (i : Nat) (g : Fg), i + k = m ∧ v18 = .int .i64 (i : Int) ∧ Hid (g = madeF z0 i) ∧ Hid (FSt w wx a g [] []))
  case atStart => exact ⟨0, ⟨40, []⟩, by omega, rfl, Lib.hid rfl, S1⟩
  case round =>
  clear S1
  obtain ⟨i, g, hik, rfl, HG, HS⟩ := hrel
  by_cases hin : i = m
  · have hiz : ¬ (i : Int) < (m : Int) := by omega
    go_wp2_with fail
    go_ret2
    have hr : FSt w wr a (madeF z0 m) [] [] := by
      have h := HS.out
      rw [HG.out, hin] at h
      exact h
    exact ⟨a, rfl, Lib.hid hr⟩
  · have hiz : (i : Int) < (m : Int) := by omega
    obtain ⟨ad, o, rfl, hof, hoz, HO⟩ := op_cellsQ HR.out (show i < len0 by omega)
    have HZ := Lib.hid (madeF_succ hoz)
    rw [← HG.out] at HZ
    obtain ⟨o0, o1, o2, o3⟩ := HO wr (below_tr HWa.out HS.out.lo)
    obtain ⟨kd, v, ⟨ka, kq⟩⟩ := o
    have HOf := Lib.hid hof
    simp only at o0 o1 o2 o3
    obtain ⟨W5, HW5⟩ : ∃ W5, Hid (wr.alloc (.cells #[.int .u8 (kd : Int), .int .u64 v, .int .u64 (ka : Int), .int .u64 (kq : Int)] 70) = W5) := ⟨_, Lib.hid rfl⟩
    obtain ⟨ob, HOB⟩ : ∃ ob, Hid (wr.heap.size = ob) := ⟨_, Lib.hid rfl⟩
    have HS5 := Lib.hid (HS.out.below (W' := W5) (by rw [← HW5.out]; exact (Below.refl _ _).alloc (Nat.le_refl _) _))
    have bx : Box W5 ob 70 #[.int .u8 (kd : Int), .int .u64 v, .int .u64 (ka : Int), .int .u64 (kq : Int)] := by rw [← HW5.out, ← HOB.out]; exact Box.new _ _ _
    clear HO HS hof hoz HG
    go_upto_region 5 with fail
    rw [HW5.out, HOB.out]
    have c0 := bx.cell 0
    have c1 := bx.cell 1
    have c2 := bx.cell 2
    have c3 := bx.cell 3
    clear o0 o1 o2 o3 bx HW5 HOB
    have hwi : IntKind.i64.wrap ((i : Int) + 1) = ((i + 1 : Nat) : Int) := by rw [IntKind.wrap_i64]; omega
    by_cases h1 : kd = 1
    · subst h1
      have KP0 := HS5.out.push v HOf.out.2.1 ⟨ka, kq⟩ HOf.out.2.2
      unfold kyV at KP0
      have KP := Lib.hid KP0
      clear KP0 HS5
      go_wp2_with (go_at_call 23; refine KP.out.mono ?_; rintro e W6 ⟨rfl, S6⟩; clear c0 c1 c2 c3 KP)
      go_roundg (m - (i + 1))
      case measure => omega
      case rel => exact ⟨i + 1, ⟨g.room, putL g.room g.l ⟨ka, kq⟩ v⟩, by omega, by go_num, Lib.hid (HZ.out.trans rfl).symm, S6⟩
    · by_cases h2 : kd = 2
      · subst h2
        have KP := Lib.hid HS5.out.pop
        clear HS5
        unfold popV at KP
        go_wp2_with (go_at_call 25; refine KP.out.mono ?_; rintro e W6 ⟨rfl, S6⟩; clear c0 c1 c2 c3 KP)
        go_roundg (m - (i + 1))
        case measure => omega
        case rel => exact ⟨i + 1, ⟨g.room, g.l.tail⟩, by omega, by go_num, Lib.hid (HZ.out.trans rfl).symm, S6⟩
      · have h1z : ((kd : Int) == 1) = false := by rw [beq_eq_false_iff_ne]; omega
        have h2z : ((kd : Int) == 2) = false := by rw [beq_eq_false_iff_ne]; omega
        have h1n : ¬ (kd : Int) = 1 := by omega
        have h2n : ¬ (kd : Int) = 2 := by omega
        go_wp2_with fail
        go_roundg (m - (i + 1))
        case measure => omega
        case rel => exact ⟨i + 1, g, by omega, by go_num, Lib.hid (by rw [HZ.out]; unfold stepF; simp only; rw [if_neg (by omega), if_neg (by omega)]), HS5⟩

end Go.Proofs.Ytkiibobpejoaeaa
