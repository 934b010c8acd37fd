/-
  What is taken, call by call: pure facts, and rows that grow.
-/
import Derived.Test.YtfedjeojanpnpabWalkSt
import Derived.Test.YtfedjeojanpnpabWalkFromSame
namespace Go.Proofs.Ytfedjeojanpnpab
open Go.RowKit
set_option linter.unusedVariables false

/-- got is taken of l0, and l left. -/
structure Taken (t : Nat) (l0 got l : List En) : Prop where
  all : got ++ l = l0
  upto : got ++ uptoL t l = uptoL t l0
theorem Taken.start (t : Nat) (l : List En) : Taken t l [] l := ⟨rfl, rfl⟩
theorem upto_app (t : Nat) (a b : List En) : uptoL t (a ++ b) = uptoL t a ++ uptoL t b := List.filter_append ..
theorem upto_self {t : Nat} {l : List En} : uptoL t (uptoL t l) = uptoL t l := by
  unfold uptoL
  rw [List.filter_filter]
  simp
theorem Taken.step {t : Nat} {l0 got l : List En} (h : Taken t l0 got l) (hr : Rises l) (n : Nat) : Taken t l0 (got ++ (uptoL t l).take n) (l.drop ((uptoL t l).take n).length) := by
  have hp : (uptoL t l).take n <+: l := (List.take_prefix _ _).trans (upto_pre hr)
  obtain ⟨r, hrr⟩ := hp
  have hd : l.drop ((uptoL t l).take n).length = r := by
    have h2 := congrArg (List.drop ((uptoL t l).take n).length) hrr
    rw [List.drop_left] at h2
    exact h2.symm
  rw [hd]
  refine ⟨by rw [List.append_assoc, hrr]; exact h.all, ?_⟩
  have hX : uptoL t ((uptoL t l).take n) = (uptoL t l).take n := by
    unfold uptoL
    rw [List.filter_eq_self]
    intro e he
    exact (List.mem_filter.1 (List.mem_of_mem_take he)).2
  rw [List.append_assoc]
  have h3 : (uptoL t l).take n ++ uptoL t r = uptoL t l := by
    have h4 := congrArg (uptoL t) hrr
    rw [upto_app, hX] at h4
    exact h4
  rw [h3]
  exact h.upto
theorem Taken.last {t : Nat} {l0 got l : List En} (h : Taken t l0 (got ++ (uptoL t l).take 60) (l.drop ((uptoL t l).take 60).length)) (hl : l.length ≤ 60) (h0 : got ++ uptoL t l = uptoL t l0) : got ++ (uptoL t l).take 60 = uptoL t l0 ∧ ∀ e, e ∈ l.drop ((uptoL t l).take 60).length → ¬ e.key.at_ ≤ t := by
  have h1 : (uptoL t l).take 60 = uptoL t l := List.take_of_length_le (Nat.le_trans (List.length_filter_le _ _) hl)
  rw [h1] at h ⊢
  refine ⟨h0, fun e he hc => ?_⟩
  have h2 := h.upto
  rw [h0] at h2
  have h3 : uptoL t (l.drop (uptoL t l).length) = [] := by
    have := congrArg List.length h2
    rw [List.length_append] at this
    exact List.length_eq_zero_iff.1 (by omega)
  have h4 : e ∈ uptoL t (l.drop (uptoL t l).length) := List.mem_filter.2 ⟨he, by simpa using hc⟩
  rw [h3] at h4
  cases h4


end Go.Proofs.Ytfedjeojanpnpab

/- Rows of entries that the law lets grow, beside its tree. -/
namespace Go.Proofs.Ytfedjeojanpnpab
open Go.RowKit
set_option linter.unusedVariables false

/-- No row and no box of these is v's. -/
structure Apart (bx : List (Nat × TypeId × Array Value)) (rs : List (Value × List En)) (v : Value) : Prop where
  rows : ∀ r, r ∈ rs → r.1.ownBlock = none ∨ r.1.ownBlock ≠ v.ownBlock
  boxes : ∀ b, b ∈ bx → v.ownBlock ≠ some b.1
theorem Apart.none (bx : List (Nat × TypeId × Array Value)) (rs : List (Value × List En)) : Apart bx rs (.slice none 0 0) :=
  ⟨fun r _ => by
    by_cases h : r.1.ownBlock = Option.none
    · exact .inl h
    · exact .inr h, fun b _ => by intro h; cases h⟩
theorem lit_empty3 {e : TypeId} (w : World) (base : Nat) (hb : base ≤ w.heap.size) : (w.alloc (.cells #[] e)).ownsRow base e 3 (.slice (some ⟨w.heap.size, 0, none⟩) 0 0) 0 [] :=
  ⟨rfl, .inr ⟨w.heap.size, 0, #[], rfl, hb, World.alloc_heap_new w _, Nat.le_refl _, by decide, rfl, rfl⟩⟩
section
variable {K : TreeK} {w W W' : World} {a : Addr} {l : List En} {bx : List (Nat × TypeId × Array Value)} {rs : List (Value × List En)}
theorem St.nilrow (s : St K w W a l bx rs) : St K w W a l bx ((.slice none 0 0, []) :: rs) := by
  obtain ⟨N, g, o, h1, h2, h3, h4⟩ := s
  refine ⟨N, g, o, h1, h2, h3, fun r hr => ?_⟩
  rcases List.mem_cons.1 hr with rfl | hr
  · exact ⟨by simp, ⟨rfl, .inl ⟨rfl, rfl⟩⟩, fun k hk e => by cases e⟩
  · exact h4 r hr
/-- A block that has been made behind. -/
theorem St.boxed (s : St K w W a l bx rs) (b : Below W.heap.size W W') {g : Nat} {t : TypeId} {cs : Array Value} (hb : Box W' g t cs) (hg : W.heap.size ≤ g) : St K w W' a l ((g, t, cs) :: bx) rs := by
  have s' := s.below b
  obtain ⟨N, g0, o, h1, h2, h3, h4⟩ := s
  refine ⟨N, g0, o.below b, h1, h2, fun q hq => ?_, fun r hr => ⟨(h4 r hr).1, (h4 r hr).2.below b⟩⟩
  rcases List.mem_cons.1 hq with rfl | hq
  · refine ⟨fun hn => ?_, Nat.le_trans o.lo.size hg, hb⟩
    have := K.lt o.at_ _ hn
    simp only at this
    omega
  · exact ⟨(h3 q hq).1, (h3 q hq).2.1, (h3 q hq).2.2.below b (h3 q hq).2.2.lt⟩
theorem St.fresh (s : St K w W a l bx rs) (b : Below W.heap.size W W') {E : List En} {p : Option Addr} {n c : Nat} (r : W'.ownsRow W.heap.size 52 3 (.slice p n c) n (E.flatMap enC)) (hE : E.length = n) (h : n ≤ 200) : St K w W' a l bx ((.slice p n c, E) :: rs) := by
  subst hE
  exact s.told r b h
theorem St.mine (s : St K w W a l bx rs) {v : Value} {G : List En} (h : (v, G) ∈ rs) : W.ownsRow w.heap.size 52 3 v G.length (G.flatMap enC) := s.row h
/-- What the row v has becomes longer by X. -/
theorem St.grow (s : St K w W a l bx rs) {v : Value} {G X : List En} {p : Option Addr} {n c : Nat} (hv : (v, G) ∈ rs) {rs' : List (Value × List En)} (hrs : ∀ r, r ∈ rs' → r ∈ rs) (ap : Apart bx rs' v)
    (r : W'.ownsRow w.heap.size 52 3 (.slice p n c) n (G.flatMap enC ++ X.flatMap enC)) (g : W.grownBy W' v.ownBlock) (hb : (Value.slice p n c).ownBlock = v.ownBlock ∨ (Value.slice p n c).ownBlock = some W.heap.size) (hn : G.length + X.length = n) (h2 : n ≤ 200) :
    St K w W' a l bx ((.slice p n c, G ++ X) :: rs') ∧ Apart bx rs' (.slice p n c) := by
  obtain ⟨N, g0, o, h1, h2', h3, h4⟩ := s
  obtain ⟨_, hvr, hvo⟩ := h4 (v, G) hv
  have hN : ∀ k, N k → W'.heap[k]? = W.heap[k]? := fun k hk => g.block k (K.lt o.at_ k hk) (fun e => hvo k hk e.symm)
  have lo : Below w.heap.size w W' := o.lo.trans ⟨g.os, g.tape, g.output, g.size, fun k hk => g.block k (Nat.lt_of_lt_of_le hk o.lo.size) (fun e => by
    have := (hvr.lt k e.symm).1
    omega)⟩
  refine ⟨⟨N, g0, ⟨K.kept o.at_ hN g.size, o.ok, o.new, lo⟩, h1, h2', fun b hb' => ⟨(h3 b hb').1, (h3 b hb').2.1, (h3 b hb').2.2.grown g (fun e => ap.boxes b hb' e.symm)⟩, fun q hq => ?_⟩, ⟨fun q hq => ?_, fun b hb' => ?_⟩⟩
  · rcases List.mem_cons.1 hq with rfl | hq
    · have hl : (G ++ X).length = n := by rw [List.length_append]; exact hn
      refine ⟨by show (G ++ X).length ≤ 200; omega, ?_, fun k hk e => ?_⟩
      · show W'.ownsRow w.heap.size 52 3 (.slice p n c) (G ++ X).length ((G ++ X).flatMap enC)
        rw [hl, List.flatMap_append]
        exact r
      · rcases hb with e' | e'
        · exact hvo k hk (e'.symm.trans e)
        · have h9 : W.heap.size = k := Option.some.inj (e'.symm.trans e)
          have := K.lt o.at_ k hk
          omega
    · exact ⟨(h4 q (hrs q hq)).1, (h4 q (hrs q hq)).2.row.kept g (ap.rows q hq), (h4 q (hrs q hq)).2.off⟩
  · rcases hb with e' | e'
    · rw [e']; exact ap.rows q hq
    · rw [e']
      refine far_or (v := .slice (some ⟨W.heap.size, 0, Option.none⟩) 0 0) (fun k e => ?_)
      have := ((h4 q (hrs q hq)).2.row.lt k e).2
      intro h
      have h9 : W.heap.size = k := Option.some.inj h
      omega
  · rcases hb with e' | e'
    · rw [e']; exact ap.boxes b hb'
    · rw [e']
      have := (h3 b hb').2.2.lt
      intro h
      have h9 : W.heap.size = b.1 := Option.some.inj h
      omega
end

end Go.Proofs.Ytfedjeojanpnpab
