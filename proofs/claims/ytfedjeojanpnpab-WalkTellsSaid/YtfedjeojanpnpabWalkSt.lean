/-
  Where a law of layer 7 stands: its tree, boxes of its own, and rows of entries of its own; and what each call makes of that.
-/
import Derived.Test.YtfedjeojanpnpabWalkOf
import Derived.Test.YtfedjeojanpnpabTreeProg
namespace Go.Proofs.Ytfedjeojanpnpab
open Go.RowKit
set_option linter.unusedVariables false

def St (K : TreeK) (w W : World) (a : Addr) (l : List En) (bx : List (Nat × TypeId × Array Value)) (rs : List (Value × List En)) : Prop :=
  ∃ N g, OwnT K w W a N g ∧ g.room = 60 ∧ g.l = l ∧ (∀ b, b ∈ bx → ¬ N b.1 ∧ w.heap.size ≤ b.1 ∧ Box W b.1 b.2.1 b.2.2) ∧ (∀ r, r ∈ rs → r.2.length ≤ 200 ∧ MineT w W N 52 3 r.1 r.2.length (r.2.flatMap enC))
section
variable {K : TreeK} {w W W' : World} {a : Addr} {l : List En} {bx : List (Nat × TypeId × Array Value)} {rs : List (Value × List En)}
theorem St.below (h : St K w W a l bx rs) (b : Below W.heap.size W W') : St K w W' a l bx rs := by
  obtain ⟨N, g, o, h1, h2, h3, h4⟩ := h
  exact ⟨N, g, o.below b, h1, h2, fun q hq => ⟨(h3 q hq).1, (h3 q hq).2.1, (h3 q hq).2.2.below b (h3 q hq).2.2.lt⟩, fun r hr => ⟨(h4 r hr).1, (h4 r hr).2.below b⟩⟩
theorem St.lo (h : St K w W a l bx rs) : Below w.heap.size w W := by
  obtain ⟨N, g, o, _⟩ := h
  exact o.lo
theorem St.rises (h : St K w W a l bx rs) : Rises l := by
  obtain ⟨N, g, o, _, rfl, _⟩ := h
  exact o.ok.rises
theorem St.fits (h : St K w W a l bx rs) : ∀ e, e ∈ l → e.Fits := by
  obtain ⟨N, g, o, _, rfl, _⟩ := h
  exact o.ok.fits
theorem St.len (h : St K w W a l bx rs) : l.length ≤ 60 := by
  obtain ⟨N, g, o, h1, rfl, _⟩ := h
  have := o.ok.room
  omega
theorem St.box (h : St K w W a l bx rs) {b : Nat × TypeId × Array Value} (hb : b ∈ bx) : Box W b.1 b.2.1 b.2.2 := by
  obtain ⟨N, g, o, _, _, h3, _⟩ := h
  exact (h3 b hb).2.2
theorem St.row (h : St K w W a l bx rs) {r : Value × List En} (hr : r ∈ rs) : W.ownsRow w.heap.size 52 3 r.1 r.2.length (r.2.flatMap enC) := by
  obtain ⟨N, g, o, _, _, _, h4⟩ := h
  exact (h4 r hr).2.row
theorem St.rlen (h : St K w W a l bx rs) {r : Value × List En} (hr : r ∈ rs) : r.2.length ≤ 200 := by
  obtain ⟨N, g, o, _, _, _, h4⟩ := h
  exact (h4 r hr).1
theorem St.forget (h : St K w W a l bx rs) {bx' : List (Nat × TypeId × Array Value)} {rs' : List (Value × List En)} (hb : ∀ b, b ∈ bx' → b ∈ bx) (hr : ∀ r, r ∈ rs' → r ∈ rs) : St K w W a l bx' rs' := by
  obtain ⟨N, g, o, h1, h2, h3, h4⟩ := h
  exact ⟨N, g, o, h1, h2, fun b k => h3 b (hb b k), fun r k => h4 r (hr r k)⟩
theorem St.alloc (h : St K w W a l bx rs) (cs : Array Value) (t : TypeId) : St K w (W.alloc (.cells cs t)) a l ((W.heap.size, t, cs) :: bx) rs := by
  have b := (Below.refl W.heap.size W).alloc (Nat.le_refl _) (.cells cs t)
  obtain ⟨N, g, o, h1, h2, h3, h4⟩ := h
  refine ⟨N, g, o.below b, h1, h2, fun q hq => ?_, fun r hr => ⟨(h4 r hr).1, (h4 r hr).2.below b⟩⟩
  rcases List.mem_cons.1 hq with rfl | hq
  · exact ⟨fun hn => absurd (K.lt o.at_ _ hn) (Nat.lt_irrefl _), o.lo.size, Box.new _ _ _⟩
  · exact ⟨(h3 q hq).1, (h3 q hq).2.1, (h3 q hq).2.2.below b (h3 q hq).2.2.lt⟩
/-- A row of entries is laid. -/
theorem St.lit (h : St K w W a l bx rs) (es : List En) (cs : Array Value) (hcs : cs.toList = es.flatMap enC) (n : Nat) (hn : es.length = n) (hn2 : n ≤ 200) : St K w (W.alloc (.cells cs 52)) a l bx ((.slice (some ⟨W.heap.size, 0, none⟩) n n, es) :: rs) := by
  subst hn
  have b := (Below.refl W.heap.size W).alloc (Nat.le_refl _) (.cells cs 52)
  obtain ⟨N, g, o, h1, h2, h3, h4⟩ := h
  refine ⟨N, g, o.below b, h1, h2, fun q hq => ⟨(h3 q hq).1, (h3 q hq).2.1, (h3 q hq).2.2.below b (h3 q hq).2.2.lt⟩, fun r hr => ?_⟩
  rcases List.mem_cons.1 hr with rfl | hr
  · refine ⟨hn2, ?_, fun k hk e => ?_⟩
    · have hl : cs.size = es.length * 3 := by rw [← Array.length_toList, hcs, flat3]
      refine ⟨flat3 es, .inr ⟨W.heap.size, es.length, cs, rfl, o.lo.size, World.alloc_heap_new W _, Nat.le_refl _, by simp [maxLen]; omega, hl, ?_⟩⟩
      rw [← hl, ← Array.length_toList, List.take_length, hcs]
    · have e' : W.heap.size = k := Option.some.inj e
      have := K.lt o.at_ k hk
      omega
  · exact ⟨(h4 r hr).1, (h4 r hr).2.below b⟩
/-- A row that a call has told. -/
theorem St.told (h : St K w W a l bx rs) {X : List En} {p : Option Addr} {c : Nat} (r : W'.ownsRow W.heap.size 52 3 (.slice p X.length c) X.length (X.flatMap enC)) (b : Below W.heap.size W W') (hX : X.length ≤ 200) : St K w W' a l bx ((.slice p X.length c, X) :: rs) := by
  obtain ⟨N, g, o, h1, h2, h3, h4⟩ := h
  refine ⟨N, g, o.below b, h1, h2, fun q hq => ⟨(h3 q hq).1, (h3 q hq).2.1, (h3 q hq).2.2.below b (h3 q hq).2.2.lt⟩, fun x hx => ?_⟩
  rcases List.mem_cons.1 hx with rfl | hx
  · exact ⟨hX, own_low r o.lo.size, OffV.fresh (fun k hk => K.lt o.at_ k hk) r⟩
  · exact ⟨(h4 x hx).1, (h4 x hx).2.below b⟩
theorem St.reads (h : St K w W a l bx rs) : ∃ M, Reads (.pointer (some a)) l M W := by
  obtain ⟨N, g, o, h1, rfl, h3, h4⟩ := h
  exact ⟨N, reads_of K o.at_ o.ok⟩
theorem St.from_ (h : St K w W a l bx rs) (k : Ky) (hk : k.Fits) (n : Int) : Calls Try.prog 17 #[.pointer (some a), kyV k, .int .i64 n] W fun e W' => ∃ p c, e = .returned (.slice p ((fromL k l).take n.toNat).length c) ∧ St K w W' a l bx ((.slice p ((fromL k l).take n.toNat).length c, (fromL k l).take n.toNat) :: rs) := by
  obtain ⟨M, hR⟩ := h.reads
  have hl := h.len
  refine (walk_from hR (by omega) k hk n).mono ?_
  rintro e W' ⟨p, c, rfl, r, b⟩
  exact ⟨p, c, rfl, h.told r b (by rw [List.length_take]; have := List.length_filter_le (fun e : En => !decide (e.key.lt k)) l; unfold fromL; omega)⟩
theorem St.upto (h : St K w W a l bx rs) (t : Nat) (ht : t < 18446744073709551616) (n : Int) : Calls Try.prog 19 #[.pointer (some a), .int .u64 (t : Int), .int .i64 n] W fun e W' => ∃ p c, e = .returned (.slice p ((uptoL t l).take n.toNat).length c) ∧ St K w W' a l bx ((.slice p ((uptoL t l).take n.toNat).length c, (uptoL t l).take n.toNat) :: rs) := by
  obtain ⟨M, hR⟩ := h.reads
  have hl := h.len
  refine (walk_upto hR (by omega) t ht n).mono ?_
  rintro e W' ⟨p, c, rfl, r, b⟩
  exact ⟨p, c, rfl, h.told r b (by rw [List.length_take]; have := List.length_filter_le (fun e : En => decide (e.key.at_ ≤ t)) l; unfold uptoL; omega)⟩
theorem round_len (k : Ky) (l : List En) : (roundL k l).length = l.length := by
  unfold roundL aboveL belowL
  induction l with
  | nil => rfl
  | cons e l ih =>
    by_cases c : k.lt e.key
    · rw [List.filter_cons_of_pos (by simpa using c), List.filter_cons_of_neg (by simpa using c)]
      simp only [List.length_append, List.length_cons] at ih ⊢
      omega
    · rw [List.filter_cons_of_neg (by simpa using c), List.filter_cons_of_pos (by simpa using c)]
      simp only [List.length_append, List.length_cons] at ih ⊢
      omega
theorem St.sweep (h : St K w W a l bx rs) (k : Ky) (hk : k.Fits) (n : Int) : Calls Try.prog 15 #[.pointer (some a), kyV k, .int .i64 n] W fun e W' => ∃ p c, e = .returned (.tuple #[.slice p ((roundL k l).take n.toNat).length c, kyV (lastK ((roundL k l).take n.toNat) k)]) ∧ St K w W' a l bx ((.slice p ((roundL k l).take n.toNat).length c, (roundL k l).take n.toNat) :: rs) := by
  obtain ⟨M, hR⟩ := h.reads
  have hl := h.len
  refine (walk_sweep hR (by omega) k hk n).mono ?_
  rintro e W' ⟨p, c, rfl, r, b⟩
  exact ⟨p, c, rfl, h.told r b (by rw [List.length_take, round_len]; omega)⟩
theorem St.take (h : St K w W a l bx rs) (t : Nat) (ht : t < 18446744073709551616) (n : Int) : Calls Try.prog 21 #[.pointer (some a), .int .u64 (t : Int), .int .i64 n] W fun e W' => ∃ p c, e = .returned (.slice p ((uptoL t l).take n.toNat).length c) ∧ St K w W' a (l.drop ((uptoL t l).take n.toNat).length) bx ((.slice p ((uptoL t l).take n.toNat).length c, (uptoL t l).take n.toNat) :: rs) := by
  have hl := h.len
  obtain ⟨N, g, o, h1, rfl, h3, h4⟩ := h
  refine (walk_take K o.at_ o.ok t ht n).mono ?_
  rintro e W' ⟨p, c, N', g', rfl, r, off, at', ok', hr, hl', s⟩
  refine ⟨p, c, rfl, N', g', ⟨at', ok', fun k hk => ?_, below_turned s.turned o.lo.size o.new o.lo⟩, hr.trans h1, hl', fun q hq => ?_, fun x hx => ?_⟩
  · rcases s.own k hk with h | h
    · exact o.new k h
    · exact Nat.le_trans o.lo.size h
  · obtain ⟨k1, k2⟩ := step_box (h3 q hq).1 (h3 q hq).2.2 s
    exact ⟨k1, (h3 q hq).2.1, k2⟩
  · rcases List.mem_cons.1 hx with rfl | hx
    · exact ⟨by
        show ((uptoL t g.l).take n.toNat).length ≤ 200
        rw [List.length_take]; have := List.length_filter_le (fun e : En => decide (e.key.at_ ≤ t)) g.l; unfold uptoL; omega, own_low r o.lo.size, off⟩
    · exact ⟨(h4 x hx).1, (h4 x hx).2.step s⟩
theorem St.same (h : St K w W a l bx rs) {r1 r2 : Value × List En} (h1 : r1 ∈ rs) (h2 : r2 ∈ rs) : Calls Try.prog 12 #[r1.1, r2.1] W fun e W' => e = .returned (.bool (decide (r1.2 = r2.2))) ∧ St K w W' a l bx rs := by
  have o1 := h.row h1
  have o2 := h.row h2
  have n1 := h.rlen h1
  have n2 := h.rlen h2
  obtain ⟨v1, x1⟩ := r1
  obtain ⟨v2, x2⟩ := r2
  obtain ⟨p, c, e1⟩ := owns_slice o1
  obtain ⟨q, d, e2⟩ := owns_slice o2
  simp only at e1 e2 o1 o2 n1 n2
  subst e1 e2
  refine (law_same p q c d w.heap.size w.heap.size x1 x2 W (by omega) (by omega) o1 o2).mono ?_
  rintro e W' ⟨rfl, b⟩
  exact ⟨rfl, h.below b⟩
theorem St.all (h : St K w W a l bx rs) : Calls Try.prog 11 #[.pointer (some a)] W fun e W' => ∃ p c, e = .returned (.slice p l.length c) ∧ St K w W' a l bx ((.slice p l.length c, l) :: rs) := by
  have hl := h.len
  have h0 := h
  obtain ⟨N, g, o, h1, rfl, h3, h4⟩ := h
  refine (K.all o.at_ o.ok).mono ?_
  rintro e W' ⟨p, c, rfl, r, b⟩
  exact ⟨p, c, rfl, h0.told r b (by omega)⟩
theorem St.tlen (h : St K w W a l bx rs) : Calls Try.prog 27 #[.pointer (some a)] W fun e W' => e = .returned (.int .i64 (l.length : Nat)) ∧ St K w W' a l bx rs := by
  have h0 := h
  obtain ⟨N, g, o, h1, rfl, h3, h4⟩ := h
  refine (K.len o.at_ o.ok).mono ?_
  rintro e W' ⟨rfl, b⟩
  exact ⟨rfl, h0.below b⟩
/-- Behind Of: the tree, and the document's own row. -/
theorem st_of {W0 : World} {ks : List Ky} {e : Ending} (lo : Below w.heap.size w W0) (h : OfC K W0 ks e W') : ∃ a p c, e = .returned (.tuple #[.pointer (some a), .agg #[.slice p (ofL ks).length c, .int .i64 60]]) ∧ St K w W' a (ofL ks) [] [(.slice p (ofL ks).length c, ofL ks)] := by
  obtain ⟨a, N, g, p, n, c, rfl, o, h1, h2, r, h3⟩ := h
  subst h3
  rw [h2] at r ⊢
  have hl := o.ok.room
  rw [h2, h1] at hl
  refine ⟨a, p, c, rfl, N, g, ⟨o.at_, o.ok, fun k hk => Nat.le_trans lo.size (o.new k hk), below_tr lo o.lo⟩, h1, h2, fun b hb => (by cases hb), fun x hx => ?_⟩
  rw [List.mem_singleton.1 hx]
  exact ⟨by show (ofL ks).length ≤ 200; omega, own_low r.row lo.size, r.off⟩
end

/-- Behind Of, with boxes that were there ahead of it. -/
theorem st_of' {K : TreeK} {w W0 W' : World} {ks : List Ky} {e : Ending} {bx : List (Nat × TypeId × Array Value)} (lo : Below w.heap.size w W0) (hb : ∀ b, b ∈ bx → w.heap.size ≤ b.1 ∧ Box W0 b.1 b.2.1 b.2.2) (h : OfC K W0 ks e W') : ∃ a p c, e = .returned (.tuple #[.pointer (some a), .agg #[.slice p (ofL ks).length c, .int .i64 60]]) ∧ St K w W' a (ofL ks) bx [(.slice p (ofL ks).length c, ofL ks)] := by
  obtain ⟨a, N, g, p, n, c, rfl, o, h1, h2, r, h3⟩ := h
  subst h3
  rw [h2] at r ⊢
  have hl := o.ok.room
  rw [h2, h1] at hl
  refine ⟨a, p, c, rfl, N, g, ⟨o.at_, o.ok, fun k hk => Nat.le_trans lo.size (o.new k hk), below_tr lo o.lo⟩, h1, h2, fun b hb' => ?_, fun x hx => ?_⟩
  · obtain ⟨k1, k2⟩ := hb b hb'
    exact ⟨fun hn => by have := o.new _ hn; have := k2.lt; omega, k1, k2.below o.lo k2.lt⟩
  · rw [List.mem_singleton.1 hx]
    exact ⟨by show (ofL ks).length ≤ 200; omega, own_low r.row lo.size, r.off⟩

end Go.Proofs.Ytfedjeojanpnpab
