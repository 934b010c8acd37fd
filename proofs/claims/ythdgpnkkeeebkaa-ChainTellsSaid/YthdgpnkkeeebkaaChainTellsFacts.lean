/-
  The program's chains beside the document's: how a walk holds both.
-/
import Derived.Test.YthdgpnkkeeebkaaChainRefO
import Derived.Test.YthdgpnkkeeebkaaChainPlayed
import Derived.Test.YthdgpnkkeeebkaaChainApartFacts
namespace Go.Proofs.Ythdgpnkkeeebkaa
open Go.RowKit
set_option linter.unusedVariables false

/-- The program's chains are g1, in blocks of N; the document's, which lie in the box q, are g, in blocks of M. -/
structure Tl (K : ChainK) (w W : World) (a : Addr) (lists nodes q : Nat) (N : Nat → Prop) (g1 : Ch) (P : Option Addr) (C : Nat) (M : Nat → Prop) (vs : List Value) (g : Ch) : Prop where
  own : OwnC K w W a N g1
  box : Box W q 29 #[.int .i64 (nodes : Int), .slice P lists C]
  ref : RefAt M W (.slice P lists C) g vs
  ok : g.Ok
  d1 : g.ls.length = lists
  d2 : g.nodes = nodes
  dis : ∀ k, N k → ¬ M k
  nq : ¬ N q
  hq : w.heap.size ≤ q
def TlAt (K : ChainK) (w W : World) (a : Addr) (lists nodes q : Nat) (g : Ch) : Prop := ∃ N P C M vs, Tl K w W a lists nodes q N g P C M vs g
section
variable {K : ChainK} {w W W' : World} {a : Addr} {lists nodes q : Nat} {N N' : Nat → Prop} {g g1 g2 : Ch} {P : Option Addr} {C : Nat} {M : Nat → Prop} {vs : List Value}
theorem Tl.below (h : Tl K w W a lists nodes q N g1 P C M vs g) (b : Below W.heap.size W W') : Tl K w W' a lists nodes q N g1 P C M vs g :=
  ⟨h.own.below b, h.box.below b h.box.lt, h.ref.below b, h.ok, h.d1, h.d2, h.dis, h.nq, h.hq⟩
/-- A step of the program's chains. -/
theorem Tl.step (h : Tl K w W a lists nodes q N g1 P C M vs g) (o : OwnC K w W' a N' g2) (s : Stepped W W' N N') : Tl K w W' a lists nodes q N' g2 P C M vs g := by
  obtain ⟨hn, hb⟩ := not_own h.nq h.box s
  refine ⟨o, hb, h.ref.kept (fun i hi => s.turned.block i (h.ref.lt i hi) (fun hN => h.dis i hN hi)) s.turned.size, h.ok, h.d1, h.d2, fun k hk hm => ?_, hn, h.hq⟩
  rcases s.own k hk with h1 | h1
  · exact h.dis k h1 hm
  · have := h.ref.lt k hm
    omega
/-- The document's next chains are stored where the last ones were. -/
theorem Tl.stored {s' : Value} {M' : Nat → Prop} {vs' : List Value} (h : Tl K w W a lists nodes q N g2 P C M vs g) (R : RefAt M' W' s' g2 vs') (ok : g2.Ok) (e1 : g2.ls.length = g.ls.length) (e2 : g2.nodes = g.nodes) (hM : ∀ k, M' k → M k ∨ W.heap.size ≤ k) (b : Below W.heap.size W W') :
    ∃ P' C', s' = .slice P' lists C' ∧ TlAt K w ((W'.setCell ⟨q, 0, none⟩ (.int .i64 (nodes : Int))).setCell ⟨q, 1, none⟩ s') a lists nodes q g2 ∧ W'.cell? ⟨q, 0, none⟩ = some (.int .i64 (nodes : Int)) ∧ W'.cell? ⟨q, 1, none⟩ = some (.slice P lists C) ∧ W'.frozen? ⟨q, 0, none⟩ = false ∧ W'.frozen? ⟨q, 1, none⟩ = false := by
  obtain ⟨P', C', rfl⟩ := R.form
  have hB := h.below b
  have el : g2.ls.length = lists := e1.trans h.d1
  rw [el] at R
  obtain ⟨r6, x6⟩ := R.put (u0 := .int .i64 (nodes : Int)) (u1 := .slice P' lists C') hB.box
  refine ⟨P', C', by rw [el], ?_, hB.box.cell 0, hB.box.cell 1, hB.box.frozen 0, hB.box.frozen 1⟩
  rw [el]
  refine ⟨N, P', C', M', vs', (hB.own.set hB.nq hB.hq).set hB.nq hB.hq, x6, r6, ok, el, e2.trans h.d2, fun k hk hm => ?_, h.nq, h.hq⟩
  rcases hM k hm with h1 | h1
  · exact h.dis k hk h1
  · have := K.lt h.own.at_ k hk
    omega
theorem Tl.arg (h : Tl K w W a lists nodes q N g1 P C M vs g) : (Value.agg #[.int .i64 (nodes : Int), .slice P lists C]) = refV g (.slice P lists C) := by
  unfold refV
  rw [h.d2]
theorem Tl.form {s' : Value} (h : Tl K w W a lists nodes q N g1 P C M vs g) (e2 : g2.nodes = g.nodes) : refV g2 s' = .agg #[.int .i64 (nodes : Int), s'] := by
  unfold refV
  rw [e2, h.d2]
theorem Tl.r_push {i n : Int} (h : Tl K w W a lists nodes q N (g.push i n) P C M vs g) : Calls Try.prog 13 #[.agg #[.int .i64 (nodes : Int), .slice P lists C], .int .i64 i, .int .i64 n] W fun e W' => ∃ P' C', e = .returned (.tuple #[.agg #[.int .i64 (nodes : Int), .slice P' lists C'], .int .i64 (g.pushE i n : Nat)]) ∧ Below W.heap.size W W' ∧ ∀ W2, Below W'.heap.size W' W2 → TlAt K w ((W2.setCell ⟨q, 0, none⟩ (.int .i64 (nodes : Int))).setCell ⟨q, 1, none⟩ (.slice P' lists C')) a lists nodes q (g.push i n) ∧ W2.cell? ⟨q, 0, none⟩ = some (.int .i64 (nodes : Int)) ∧ W2.cell? ⟨q, 1, none⟩ = some (.slice P lists C) ∧ W2.frozen? ⟨q, 0, none⟩ = false ∧ W2.frozen? ⟨q, 1, none⟩ = false := by
  rw [h.arg]
  refine (ref_push h.ref h.ok i n).mono ?_
  rintro e W' ⟨s', M', vs', rfl, R, hM, b⟩
  obtain ⟨P', C', rfl, _⟩ := h.stored R (h.ok.push i n) (push_dims g i n).1 (push_dims g i n).2 hM b
  refine ⟨P', C', by rw [h.form (push_dims g i n).2], b, fun W2 b2 => ?_⟩
  obtain ⟨P2, C2, e2, h2⟩ := h.stored (R.below b2) (h.ok.push i n) (push_dims g i n).1 (push_dims g i n).2 hM (below_tr b b2)
  exact h2
theorem Tl.r_pop {i : Int} (h : Tl K w W a lists nodes q N (g.pop i) P C M vs g) : Calls Try.prog 15 #[.agg #[.int .i64 (nodes : Int), .slice P lists C], .int .i64 i] W fun e W' => ∃ P' C', e = .returned (.tuple #[.agg #[.int .i64 (nodes : Int), .slice P' lists C'], .int .i64 (((g.list i).head?.getD 0 : Nat) : Int), .bool (g.list i).head?.isSome]) ∧ Below W.heap.size W W' ∧ ∀ W2, Below W'.heap.size W' W2 → TlAt K w ((W2.setCell ⟨q, 0, none⟩ (.int .i64 (nodes : Int))).setCell ⟨q, 1, none⟩ (.slice P' lists C')) a lists nodes q (g.pop i) ∧ W2.cell? ⟨q, 0, none⟩ = some (.int .i64 (nodes : Int)) ∧ W2.cell? ⟨q, 1, none⟩ = some (.slice P lists C) ∧ W2.frozen? ⟨q, 0, none⟩ = false ∧ W2.frozen? ⟨q, 1, none⟩ = false := by
  rw [h.arg]
  refine (ref_pop h.ref h.ok i).mono ?_
  rintro e W' ⟨s', M', vs', rfl, R, hM, b⟩
  obtain ⟨P', C', rfl, _⟩ := h.stored R (h.ok.pop i) (pop_dims g i).1 (pop_dims g i).2 hM b
  refine ⟨P', C', by rw [h.form (pop_dims g i).2], b, fun W2 b2 => ?_⟩
  obtain ⟨P2, C2, e2, h2⟩ := h.stored (R.below b2) (h.ok.pop i) (pop_dims g i).1 (pop_dims g i).2 hM (below_tr b b2)
  exact h2
theorem Tl.r_drop {n : Int} (h : Tl K w W a lists nodes q N (g.drop n) P C M vs g) : Calls Try.prog 17 #[.agg #[.int .i64 (nodes : Int), .slice P lists C], .int .i64 n] W fun e W' => ∃ P' C', e = .returned (.tuple #[.agg #[.int .i64 (nodes : Int), .slice P' lists C'], .bool (g.inn n).isSome]) ∧ Below W.heap.size W W' ∧ ∀ W2, Below W'.heap.size W' W2 → TlAt K w ((W2.setCell ⟨q, 0, none⟩ (.int .i64 (nodes : Int))).setCell ⟨q, 1, none⟩ (.slice P' lists C')) a lists nodes q (g.drop n) ∧ W2.cell? ⟨q, 0, none⟩ = some (.int .i64 (nodes : Int)) ∧ W2.cell? ⟨q, 1, none⟩ = some (.slice P lists C) ∧ W2.frozen? ⟨q, 0, none⟩ = false ∧ W2.frozen? ⟨q, 1, none⟩ = false := by
  rw [h.arg]
  refine (ref_drop h.ref h.ok n).mono ?_
  rintro e W' ⟨s', M', vs', rfl, R, hM, b⟩
  obtain ⟨P', C', rfl, _⟩ := h.stored R (h.ok.drop n) (drop_dims g n).1 (drop_dims g n).2 hM b
  refine ⟨P', C', by rw [h.form (drop_dims g n).2], b, fun W2 b2 => ?_⟩
  obtain ⟨P2, C2, e2, h2⟩ := h.stored (R.below b2) (h.ok.drop n) (drop_dims g n).1 (drop_dims g n).2 hM (below_tr b b2)
  exact h2
theorem Tl.r_list (h : Tl K w W a lists nodes q N g1 P C M vs g) (i : Int) : Calls Try.prog 19 #[.agg #[.int .i64 (nodes : Int), .slice P lists C], .int .i64 i] W fun e w' => ∃ p c, e = .returned (.slice p (g.list i).length c) ∧ Inner M w' (.slice p (g.list i).length c) (g.list i) ∧ Below W.heap.size W w' := by
  rw [h.arg]
  exact ref_list h.ref i h.ok.len
theorem Tl.r_in (h : Tl K w W a lists nodes q N g1 P C M vs g) (n : Int) : Calls Try.prog 24 #[.agg #[.int .i64 (nodes : Int), .slice P lists C], .int .i64 n] W fun e w' => e = .returned (outV (g.inn n)) ∧ Below W.heap.size W w' := by
  rw [h.arg]
  exact ref_in h.ref h.ok n
/-- At the start. -/
theorem Tl.start {W1 W2 : World} {s' : Value} {M' : Nat → Prop} {vs' : List Value} (o : OwnC K w W1 a N g) (b : Below W1.heap.size W1 W2) (R : RefAt M' W2 s' g vs') (hM : ∀ k, M' k → W1.heap.size ≤ k) (d1 : g.ls.length = lists) (d2 : g.nodes = nodes) : ∃ P' C', s' = .slice P' lists C' ∧ TlAt K w (W2.alloc (.cells #[.int .i64 (nodes : Int), s'] 29)) a lists nodes W2.heap.size g := by
  obtain ⟨P', C', rfl⟩ := R.form
  rw [d1] at R ⊢
  have o2 := o.below b
  have al := (Below.refl W2.heap.size W2).alloc (Nat.le_refl _) (.cells #[.int .i64 (nodes : Int), .slice P' lists C'] 29)
  refine ⟨P', C', rfl, N, P', C', M', vs', o2.below al, Box.new _ _ _, R.below al, o.ok, d1, d2, fun k hk hm => ?_, fun hk => ?_, o2.lo.size⟩
  · have h1 := K.lt o.at_ k hk
    have h2 := hM k hm
    omega
  · exact absurd (K.lt o2.at_ _ hk) (Nat.lt_irrefl _)
end

/-- A number is stored into a row of the call's own. -/
theorem own_put {w : World} {base e n c B j : Nat} {xs : List Value} (h : w.ownsRow base e 1 (.slice (some ⟨B, 0, none⟩) n c) n xs) (hj : j < n) (u : Value) : (∃ v, w.cell? ⟨B, j, none⟩ = some v) ∧ w.frozen? ⟨B, j, none⟩ = false ∧ ∃ ys, (w.setCell ⟨B, j, none⟩ u).ownsRow base e 1 (.slice (some ⟨B, 0, none⟩) n c) n ys := by
  rcases h.2 with ⟨e', _⟩ | ⟨g, cap, cur, e', h2, h3, h4, h5, h6, h7⟩
  · cases e'
  · cases e'
    have hb : Box w B e cur := h3
    refine ⟨⟨cur[j]'(by omega), ?_⟩, hb.frozen j, (cur.setIfInBounds j u).toList.take (n * 1), ?_, .inr ⟨B, c, cur.setIfInBounds j u, rfl, h2, hb.set j u, h4, h5, by simpa using h6, rfl⟩⟩
    · rw [hb.cell, Array.getElem?_eq_getElem (by omega)]
    · simp
      omega

end Go.Proofs.Ythdgpnkkeeebkaa
