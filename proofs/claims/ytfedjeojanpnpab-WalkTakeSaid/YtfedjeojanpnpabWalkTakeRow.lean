/-
  Rows of entries that the law lets grow, beside its tree.
-/
import Derived.Test.YtfedjeojanpnpabWalkTakeFacts
import Derived.Test.YtfedjeojanpnpabWalkFromSame
namespace Go.Proofs.Ytfedjeojanpnpab
open Go.RowKit
set_option linter.unusedVariables false

/-- No row and no box of these is v's. -/
structure Apart (bx : List (Nat × TypeId × Array Value)) (rs : List (Value × List En)) (v : Value) : Prop where
  rows : ∀ r, r ∈ rs → r.1.ownBlock = none ∨ r.1.ownBlock ≠ v.ownBlock
  boxes : ∀ b, b ∈ bx → v.ownBlock ≠ some b.1
theorem Apart.none (bx : List (Nat × TypeId × Array Value)) (rs : List (Value × List En)) : Apart bx rs (.slice none 0 0) :=
  ⟨fun r _ => by
    by_cases h : r.1.ownBlock = Option.none
    · exact .inl h
    · exact .inr h, fun b _ => by intro h; cases h⟩
theorem lit_empty3 {e : TypeId} (w : World) (base : Nat) (hb : base ≤ w.heap.size) : (w.alloc (.cells #[] e)).ownsRow base e 3 (.slice (some ⟨w.heap.size, 0, none⟩) 0 0) 0 [] :=
  ⟨rfl, .inr ⟨w.heap.size, 0, #[], rfl, hb, World.alloc_heap_new w _, Nat.le_refl _, by decide, rfl, rfl⟩⟩
section
variable {K : TreeK} {w W W' : World} {a : Addr} {l : List En} {bx : List (Nat × TypeId × Array Value)} {rs : List (Value × List En)}
theorem St.nilrow (s : St K w W a l bx rs) : St K w W a l bx ((.slice none 0 0, []) :: rs) := by
  obtain ⟨N, g, o, h1, h2, h3, h4⟩ := s
  refine ⟨N, g, o, h1, h2, h3, fun r hr => ?_⟩
  rcases List.mem_cons.1 hr with rfl | hr
  · exact ⟨by simp, ⟨rfl, .inl ⟨rfl, rfl⟩⟩, fun k hk e => by cases e⟩
  · exact h4 r hr
/-- A block that has been made behind. -/
theorem St.boxed (s : St K w W a l bx rs) (b : Below W.heap.size W W') {g : Nat} {t : TypeId} {cs : Array Value} (hb : Box W' g t cs) (hg : W.heap.size ≤ g) : St K w W' a l ((g, t, cs) :: bx) rs := by
  have s' := s.below b
  obtain ⟨N, g0, o, h1, h2, h3, h4⟩ := s
  refine ⟨N, g0, o.below b, h1, h2, fun q hq => ?_, fun r hr => ⟨(h4 r hr).1, (h4 r hr).2.below b⟩⟩
  rcases List.mem_cons.1 hq with rfl | hq
  · refine ⟨fun hn => ?_, Nat.le_trans o.lo.size hg, hb⟩
    have := K.lt o.at_ _ hn
    simp only at this
    omega
  · exact ⟨(h3 q hq).1, (h3 q hq).2.1, (h3 q hq).2.2.below b (h3 q hq).2.2.lt⟩
theorem St.fresh (s : St K w W a l bx rs) (b : Below W.heap.size W W') {E : List En} {p : Option Addr} {n c : Nat} (r : W'.ownsRow W.heap.size 52 3 (.slice p n c) n (E.flatMap enC)) (hE : E.length = n) (h : n ≤ 200) : St K w W' a l bx ((.slice p n c, E) :: rs) := by
  subst hE
  exact s.told r b h
theorem St.mine (s : St K w W a l bx rs) {v : Value} {G : List En} (h : (v, G) ∈ rs) : W.ownsRow w.heap.size 52 3 v G.length (G.flatMap enC) := s.row h
/-- What the row v has becomes longer by X. -/
theorem St.grow (s : St K w W a l bx rs) {v : Value} {G X : List En} {p : Option Addr} {n c : Nat} (hv : (v, G) ∈ rs) {rs' : List (Value × List En)} (hrs : ∀ r, r ∈ rs' → r ∈ rs) (ap : Apart bx rs' v)
    (r : W'.ownsRow w.heap.size 52 3 (.slice p n c) n (G.flatMap enC ++ X.flatMap enC)) (g : W.grownBy W' v.ownBlock) (hb : (Value.slice p n c).ownBlock = v.ownBlock ∨ (Value.slice p n c).ownBlock = some W.heap.size) (hn : G.length + X.length = n) (h2 : n ≤ 200) :
    St K w W' a l bx ((.slice p n c, G ++ X) :: rs') ∧ Apart bx rs' (.slice p n c) := by
  obtain ⟨N, g0, o, h1, h2', h3, h4⟩ := s
  obtain ⟨_, hvr, hvo⟩ := h4 (v, G) hv
  have hN : ∀ k, N k → W'.heap[k]? = W.heap[k]? := fun k hk => g.block k (K.lt o.at_ k hk) (fun e => hvo k hk e.symm)
  have lo : Below w.heap.size w W' := o.lo.trans ⟨g.os, g.tape, g.output, g.size, fun k hk => g.block k (Nat.lt_of_lt_of_le hk o.lo.size) (fun e => by
    have := (hvr.lt k e.symm).1
    omega)⟩
  refine ⟨⟨N, g0, ⟨K.kept o.at_ hN g.size, o.ok, o.new, lo⟩, h1, h2', fun b hb' => ⟨(h3 b hb').1, (h3 b hb').2.1, (h3 b hb').2.2.grown g (fun e => ap.boxes b hb' e.symm)⟩, fun q hq => ?_⟩, ⟨fun q hq => ?_, fun b hb' => ?_⟩⟩
  · rcases List.mem_cons.1 hq with rfl | hq
    · have hl : (G ++ X).length = n := by rw [List.length_append]; exact hn
      refine ⟨by show (G ++ X).length ≤ 200; omega, ?_, fun k hk e => ?_⟩
      · show W'.ownsRow w.heap.size 52 3 (.slice p n c) (G ++ X).length ((G ++ X).flatMap enC)
        rw [hl, List.flatMap_append]
        exact r
      · rcases hb with e' | e'
        · exact hvo k hk (e'.symm.trans e)
        · have h9 : W.heap.size = k := Option.some.inj (e'.symm.trans e)
          have := K.lt o.at_ k hk
          omega
    · exact ⟨(h4 q (hrs q hq)).1, (h4 q (hrs q hq)).2.row.kept g (ap.rows q hq), (h4 q (hrs q hq)).2.off⟩
  · rcases hb with e' | e'
    · rw [e']; exact ap.rows q hq
    · rw [e']
      refine far_or (v := .slice (some ⟨W.heap.size, 0, Option.none⟩) 0 0) (fun k e => ?_)
      have := ((h4 q (hrs q hq)).2.row.lt k e).2
      intro h
      have h9 : W.heap.size = k := Option.some.inj h
      omega
  · rcases hb with e' | e'
    · rw [e']; exact ap.boxes b hb'
    · rw [e']
      have := (h3 b hb').2.2.lt
      intro h
      have h9 : W.heap.size = b.1 := Option.some.inj h
      omega
end

end Go.Proofs.Ytfedjeojanpnpab
