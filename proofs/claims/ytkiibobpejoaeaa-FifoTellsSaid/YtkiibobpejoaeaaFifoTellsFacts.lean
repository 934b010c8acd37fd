/-
  FifoTells: the queue and the document's own, side by side.
-/
import Derived.Test.YtkiibobpejoaeaaFifoRefPush
import Derived.Test.YtkiibobpejoaeaaFifoOrderFacts
namespace Go.Proofs.Ytkiibobpejoaeaa
open Go.RowKit
set_option linter.unusedVariables false
set_option linter.unusedSimpArgs false
set_option maxRecDepth 100000

theorem cell_heap {W W' : World} {a : Addr} (h : W'.heap[a.block]? = W.heap[a.block]?) : W'.cell? a = W.cell? a := by
  unfold World.cell?
  rw [h]
theorem RowAt.kept_own {W W' : World} {v : Value} {r : List En} (h : RowAt W v r) (e : ∀ k, v.ownBlock = some k → W'.heap[k]? = W.heap[k]?) : RowAt W' v r := by
  obtain ⟨p, c, rfl, h2, h3, h4⟩ := h
  refine ⟨p, c, rfl, h2, h3, fun i x hx => ?_⟩
  obtain ⟨g, o, rfl, k2, k3, k4⟩ := h4 i x hx
  have hg := e g rfl
  exact ⟨g, o, rfl, (cell_heap hg).trans k2, (cell_heap hg).trans k3, (cell_heap hg).trans k4⟩
theorem OSt.addk {X : List Nat} {w W W' : World} {a : Addr} {g : Fg} {k : Nat} (h : OSt X w W a g) (b : Below W.heap.size W W') (h1 : W.heap.size ≤ k) (h2 : k < W'.heap.size) : OSt (k :: X) w W' a g := by
  obtain ⟨N, h, kk⟩ := h
  refine ⟨N, ⟨h.at_.below b, h.ok, h.new, below_tr h.lo b, fun r hr => (by cases hr), fun r hr => (by cases hr)⟩, fun x hx => ?_⟩
  rcases List.mem_cons.1 hx with rfl | hx
  · exact ⟨h2, fun hn => by have := h.at_.lt _ hn; omega, Nat.le_trans h.lo.size h1⟩
  · exact ⟨Nat.lt_of_lt_of_le (kk x hx).1 b.size, (kk x hx).2⟩
theorem OSt.all {X : List Nat} {w W : World} {a : Addr} {g : Fg} (h : OSt X w W a g) : Calls Try.prog 31 #[.pointer (some a)] W fun e W' => ∃ p c, e = .returned (.slice p g.l.length c) ∧ Hid (W'.ownsRow W.heap.size 32 1 (.slice p g.l.length c) g.l.length (g.l.map hV)) ∧ Hid (Below W.heap.size W W') := by
  obtain ⟨N, ⟨⟨b, ta, NT, rv, gone, P, r, tg, rfl, h1, h2⟩, ok, _⟩, _⟩ := h
  refine (f_all h1 ok).mono ?_
  rintro e W' ⟨p, c, rfl, o, t⟩
  exact ⟨p, c, rfl, Lib.hid o, Lib.hid t⟩
/-- The queue with lq; the document's own in a box, with lr. -/
structure TlF (w W : World) (a : Addr) (rb room : Nat) (lq : List En) (v : Value) (lr : List En) (X : List Nat) : Prop where
  q : OSt X w W a ⟨room, lq⟩
  rbx : rb ∈ X
  box : Box W rb 64 #[.int .i64 (room : Int), v]
  row : RowAt W v lr
  sh : ShapeR v lr
  own : ∀ k, v.ownBlock = some k → k ∈ X ∧ k ≠ rb
section
variable {w W W' : World} {a : Addr} {rb room : Nat} {lq lr lq' lr' : List En} {v v' : Value} {X : List Nat}
theorem TlF.kept (h : TlF w W a rb room lq v lr X) (q' : OSt X w W' a ⟨room, lq'⟩) (e : ∀ x, x ∈ X → W'.heap[x]? = W.heap[x]?) : TlF w W' a rb room lq' v lr X :=
  ⟨q', h.rbx, box_same h.box (e _ h.rbx), h.row.kept_own (fun k hk => e k (h.own k hk).1), h.sh, h.own⟩
theorem TlF.below (h : TlF w W a rb room lq v lr X) (b : Below W.heap.size W W') : TlF w W' a rb room lq v lr X := h.kept (h.q.below b) (h.q.block b)
theorem TlF.addk {k : Nat} (h : TlF w W a rb room lq v lr X) (b : Below W.heap.size W W') (h1 : W.heap.size ≤ k) (h2 : k < W'.heap.size) : TlF w W' a rb room lq v lr (k :: X) :=
  ⟨h.q.addk b h1 h2, List.mem_cons_of_mem _ h.rbx, h.box.below b h.box.lt, h.row.below b, h.sh, fun q hq => ⟨List.mem_cons_of_mem _ (h.own q hq).1, (h.own q hq).2⟩⟩
theorem TlF.push (h : TlF w W a rb room lq v lr X) (u : Int) (hu : Hw u) (k : Ky) (hk : k.Fits) : Calls Try.prog 23 #[.pointer (some a), .int .u64 u, kyV k] W fun e W' => e = .returned (.int .i64 (putE room lq k : Nat)) ∧ Hid (TlF w W' a rb room (putL room lq k u) v lr X) ∧ Hid (∀ x, x ∈ X → W'.heap[x]? = W.heap[x]?) := by
  refine (h.q.push u hu k hk).mono ?_
  rintro e W' ⟨rfl, s, x⟩
  exact ⟨rfl, Lib.hid (h.kept s.out x.out), x⟩
theorem TlF.pop (h : TlF w W a rb room lq v lr X) : Calls Try.prog 25 #[.pointer (some a)] W fun e W' => e = popV lq.head? ∧ Hid (TlF w W' a rb room lq.tail v lr X) ∧ Hid (∀ x, x ∈ X → W'.heap[x]? = W.heap[x]?) := by
  refine h.q.pop.mono ?_
  rintro e W' ⟨rfl, s, x⟩
  exact ⟨rfl, Lib.hid (h.kept s.out x.out), x⟩
/-- v' is to be put into the box. -/
def Next11 (W : World) (rb : Nat) (v' : Value) (lr' : List En) (X : List Nat) : Prop := RowAt W v' lr' ∧ ShapeR v' lr' ∧ ∀ k, v'.ownBlock = some k → k ∈ X ∧ k ≠ rb
theorem TlF.rpush (h : TlF w W a rb room lq v lr X) (hr : Rises lr) (hl : lr.length ≤ 65536) (hro : room ≤ 65536) (u : Int) (k : Ky) : Calls Try.prog 24 #[.agg #[.int .i64 (room : Int), v], .int .u64 u, kyV k] W fun e W' => ∃ v' X', e = .returned (.tuple #[.agg #[.int .i64 (room : Int), v'], .int .i64 (putE room lr k : Nat)]) ∧ Hid (TlF w W' a rb room lq v lr X') ∧ Hid (Next11 W' rb v' (putL room lr k u) X') := by
  refine (ref_push room W h.row h.sh hr hl hro u k).mono ?_
  rintro e W' ⟨v', rfl, r1, r2, r3, b⟩
  rcases r3 with rfl | r3
  · exact ⟨_, X, rfl, Lib.hid (h.below b), Lib.hid ⟨r1, r2, h.own⟩⟩
  · cases ho : v'.ownBlock with
    | none => exact ⟨v', X, rfl, Lib.hid (h.below b), Lib.hid ⟨r1, r2, fun k hk => by rw [ho] at hk; cases hk⟩⟩
    | some q =>
      obtain ⟨h1, h2⟩ := r3 q ho
      refine ⟨v', q :: X, rfl, Lib.hid (h.addk b h1 h2), Lib.hid ⟨r1, r2, fun k hk => ?_⟩⟩
      rw [ho] at hk
      cases hk
      exact ⟨List.mem_cons_self, fun e => by have := h.box.lt; omega⟩
theorem TlF.rpop (h : TlF w W a rb room lq v lr X) : Calls Try.prog 26 #[.agg #[.int .i64 (room : Int), v]] W fun e W' => ∃ v', e = .returned (.tuple #[.agg #[.int .i64 (room : Int), v'], .int .u64 (lr.head?.getD noEn).val, kyV (lr.head?.getD noEn).key, .bool lr.head?.isSome]) ∧ Hid (TlF w W' a rb room lq v lr X) ∧ Hid (Next11 W' rb v' lr.tail X) ∧ Hid (Below W.heap.size W W') := by
  refine (ref_pop (room : Int) W h.row h.sh).mono ?_
  rintro e W' ⟨v', rfl, r1, r2, r3, b⟩
  exact ⟨v', rfl, Lib.hid (h.below b), Lib.hid ⟨r1, r2, fun k hk => h.own k (r3 ▸ hk)⟩, Lib.hid b⟩
theorem Next11.below (h : Next11 W rb v' lr' X) (b : Below W.heap.size W W') : Next11 W' rb v' lr' X := ⟨h.1.below b, h.2⟩
theorem TlF.set (h : TlF w W a rb room lq v lr X) (n : Next11 W rb v' lr' X) : TlF w ((W.setCell ⟨rb, 0, none⟩ (.int .i64 (room : Int))).setCell ⟨rb, 1, none⟩ v') a rb room lq v' lr' X := by
  refine ⟨(h.q.put h.rbx (grownBy_set W rb 0 _)).put h.rbx (grownBy_set _ rb 1 _), h.rbx, (h.box.set 0 _).set 1 _, n.1.kept_own fun k hk => ?_, n.2.1, n.2.2⟩
  have hne := (n.2.2 k hk).2
  exact (Below.heap_setCell _ _ _ k hne).trans (Below.heap_setCell _ _ _ k hne)
end

end Go.Proofs.Ytkiibobpejoaeaa
