/-
  FifoTurn: its map of numbers beside the queue; what the rounds keep.
-/
import Derived.Test.YtkiibobpejoaeabFifoSt
import Derived.Maps.OwnOps
import Derived.Maps.OwnSet
import Derived.Maps.Views
import Derived.Maps.RangeWalk
namespace Go.Proofs.Ytkiibobpejoaeab
open Go.RowKit Go.Maps
set_option linter.unusedVariables false
set_option linter.unusedSimpArgs false
set_option maxRecDepth 100000

theorem lawU : Keyed Try.prog 30 := int_keyed Try.underlying30
theorem zeroU (w : World) : (zeroValue 3).run Try.prog w = .ok (.int .i64 0) w := by kernel_rfl
abbrev MapU (w : World) (b n : Nat) (D : DataW Unit) : Prop := w.ownsMap Try.prog 30 (plainElem Try.prog 3) b n D
abbrev RngU (w : World) (b r n : Nat) (D : DataW Unit) (left : Lit → Bool) (cnt : Nat) : Prop := w.ranges Try.prog 30 (plainElem Try.prog 3) b r n D left cnt
theorem mapU_same {w w' : World} {b n : Nat} {D : DataW Unit} (h : MapU w b n D) (e : w'.heap[b]? = w.heap[b]?) : MapU w' b n D := by
  obtain ⟨es, clock, hb, r⟩ := h
  exact ⟨es, clock, e.trans hb, r⟩
theorem rngU_same {w w' : World} {b r n cnt : Nat} {D : DataW Unit} {left : Lit → Bool} (h : RngU w b r n D left cnt) (e1 : w'.heap[b]? = w.heap[b]?) (e2 : w'.heap[r]? = w.heap[r]?) : RngU w' b r n D left cnt := by
  obtain ⟨es, clock, since, seen, c0, hb, F, hs, hD, hr, rest⟩ := h
  exact ⟨es, clock, since, seen, c0, e1.trans hb, F, hs, hD, e2.trans hr, rest⟩
theorem key_u16 {x : Int} (h : (Lit.int .u16 x).wf = true) : keyOf Try.prog 30 (.int .u16 x) = some (.int .u16 x) := keyOf_int_mk Try.underlying30 h
theorem wf_u16 {x : Nat} (h : x < 65536) : (Lit.int .u16 (x : Int)).wf = true := by
  simp [Lit.wf, IntKind.min, IntKind.max, IntKind.signed, IntKind.bits]
  omega
theorem nat_u16 {x : Int} (h : (Lit.int .u16 x).wf = true) : ∃ n : Nat, x = (n : Int) ∧ n < 65536 := by
  simp [Lit.wf, IntKind.min, IntKind.max, IntKind.signed, IntKind.bits] at h
  exact ⟨x.toNat, by omega, by omega⟩
theorem u16_cell {w : World} {A : Option Addr} {len cap : Nat} {rows : List (List Value)} (h : RowOf [some .u16] w A len cap rows) {j : Nat} (hj : j < len) :
    ∃ (a : Addr) (x : Nat), A = some a ∧ x < 65536 ∧ ∀ W, Below w.heap.size w W → W.cell? (a.add j) = some (.int .u16 (x : Int)) := by
  obtain ⟨h1, _, h3⟩ := h
  obtain ⟨hf, a, rfl, hc⟩ := h3 j (by omega)
  obtain ⟨v, e⟩ : ∃ v, rows[j] = [v] := by
    have := hf.length
    match hr : rows[j], this with
    | [v], _ => exact ⟨v, rfl⟩
  rw [e] at hf hc
  obtain ⟨⟨n0, rfl, w0⟩, _⟩ := hf
  obtain ⟨x, rfl, hx⟩ := nat_u16 w0
  have c0 := hc 0 _ rfl
  refine ⟨a, x, rfl, hx, fun W b => ?_⟩
  have c1 : w.cell? (a.add j) = some (.int .u16 (x : Int)) := by simpa using c0
  exact (b.cell (World.block_lt_of_cell? w _ c1)).trans c1

/-- The queue, and blocks that are none of its own. -/
def TSt (X : List Nat) (w W : World) (a : Addr) (g : Fg) : Prop := ∃ N, FSt' N w W a g [] [] ∧ ∀ x, x ∈ X → x < W.heap.size ∧ ¬ N x ∧ w.heap.size ≤ x
section
variable {X : List Nat} {w W W' : World} {a : Addr} {g g' : Fg}
theorem TSt.fst (h : TSt X w W a g) : FSt w W a g [] [] := by
  obtain ⟨N, h, _⟩ := h
  exact ⟨N, h⟩
theorem TSt.lo (h : TSt X w W a g) : Below w.heap.size w W := h.fst.lo
theorem TSt.ok (h : TSt X w W a g) : g.Ok := h.fst.ok
theorem TSt.below (h : TSt X w W a g) (b : Below W.heap.size W W') : TSt X w W' a g := by
  obtain ⟨N, h, k⟩ := h
  exact ⟨N, ⟨h.at_.below b, h.ok, h.new, below_tr h.lo b, fun r hr => (by cases hr), fun r hr => (by cases hr)⟩, fun x hx => ⟨Nat.lt_of_lt_of_le (k x hx).1 b.size, (k x hx).2⟩⟩
theorem TSt.block (h : TSt X w W a g) (b : Below W.heap.size W W') : ∀ x, x ∈ X → W'.heap[x]? = W.heap[x]? := by
  obtain ⟨N, h, k⟩ := h
  exact fun x hx => b.block x (k x hx).1
theorem TSt.add (h : TSt X w W a g) (b : Below W.heap.size W W') (hs : W.heap.size < W'.heap.size) : TSt (W.heap.size :: X) w W' a g := by
  obtain ⟨N, h, k⟩ := h
  refine ⟨N, ⟨h.at_.below b, h.ok, h.new, below_tr h.lo b, fun r hr => (by cases hr), fun r hr => (by cases hr)⟩, fun x hx => ?_⟩
  rcases List.mem_cons.1 hx with rfl | hx
  · exact ⟨hs, fun hn => by have := h.at_.lt _ hn; omega, h.lo.size⟩
  · exact ⟨Nat.lt_of_lt_of_le (k x hx).1 b.size, (k x hx).2⟩
theorem TSt.put {x : Nat} (h : TSt X w W a g) (hx : x ∈ X) (t : W.grownBy W' (some x)) : TSt X w W' a g := by
  obtain ⟨N, h1, h2⟩ := h
  obtain ⟨x1, x2, x3⟩ := h2 x hx
  exact ⟨N, ⟨h1.at_.kept (fun j hj => t.block j (h1.at_.lt j hj) (fun e => x2 (by cases e; exact hj))) t.size, h1.ok, h1.new, h1.lo.trans ⟨t.os, t.tape, t.output, t.size, fun k hk => t.block k (Nat.lt_of_lt_of_le hk h1.lo.size) (fun e => by cases e; omega)⟩, fun r hr => (by cases hr), fun r hr => (by cases hr)⟩, fun y hy => ⟨Nat.lt_of_lt_of_le (h2 y hy).1 t.size, (h2 y hy).2⟩⟩
theorem TSt.went {N : Nat → Prop} (h : FSt' N w W a g [] []) (k : ∀ x, x ∈ X → x < W.heap.size ∧ ¬ N x ∧ w.heap.size ≤ x) (ok : g'.Ok) (t : WentG AtF N W a g' W') : Hid (TSt X w W' a g') ∧ Hid (∀ x, x ∈ X → W'.heap[x]? = W.heap[x]?) := by
  obtain ⟨N', k1, k2, k3⟩ := t
  refine ⟨Lib.hid ⟨N', ⟨k1, ok, fun j hj => ?_, below_turned k2 h.lo.size h.new h.lo, fun r hr => (by cases hr), fun r hr => (by cases hr)⟩, fun x hx => ⟨?_, fun hn => ?_, (k x hx).2.2⟩⟩, Lib.hid fun x hx => k2.block x (k x hx).1 (k x hx).2.1⟩
  · rcases k3 j hj with h5 | h5
    · exact h.new j h5
    · exact Nat.le_trans h.lo.size h5
  · exact Nat.lt_of_lt_of_le (k x hx).1 k2.size
  · rcases k3 _ hn with h5 | h5
    · exact (k x hx).2.1 h5
    · have := (k x hx).1; omega
theorem TSt.push (h : TSt X w W a g) (v : Int) (hv : Hw v) (k : Ky) (hk : k.Fits) : Calls Try.prog 8 #[.pointer (some a), .int .u64 v, kyV k] W fun e W' => e = .returned (.int .i64 (putE g.room g.l k : Nat)) ∧ Hid (TSt X w W' a ⟨g.room, putL g.room g.l k v⟩) ∧ Hid (∀ x, x ∈ X → W'.heap[x]? = W.heap[x]?) := by
  obtain ⟨N, h, k2⟩ := h
  refine (f_push h.at_ h.ok v hv k hk).mono ?_
  rintro e W' ⟨rfl, t⟩
  exact ⟨rfl, TSt.went h k2 (putL_ok h.ok hk hv) t⟩
theorem TSt.pop (h : TSt X w W a g) : Calls Try.prog 9 #[.pointer (some a)] W fun e W' => e = popV g.l.head? ∧ Hid (TSt X w W' a ⟨g.room, g.l.tail⟩) ∧ Hid (∀ x, x ∈ X → W'.heap[x]? = W.heap[x]?) := by
  obtain ⟨N, h, k2⟩ := h
  refine (f_pop h.at_ h.ok).mono ?_
  rintro e W' ⟨rfl, t⟩
  exact ⟨rfl, TSt.went h k2 (tail_ok h.ok) t⟩
end

/-- Behind k numbers of one instant: how often each was met, what came in. -/
structure MetP (v : Nat) (D : DataW Unit) (l : List En) (c : Nat → Nat) (k : Nat) : Prop where
  tidy : Tidy D
  ent : ∀ e, e ∈ l → ∃ s : Nat, s < 65536 ∧ e = ⟨⟨v, s⟩, ((s + 1 : Nat) : Int)⟩
  at_ : ∀ s : Nat, D.atKey (.int .u16 (s : Int)) (.lit (.int .i64 0)) = .lit (.int .i64 (c s : Int))
  has : ∀ s : Nat, Maps.has D (.int .u16 (s : Int)) = decide (0 < c s)
  get : ∀ s : Nat, (getL ⟨v, s⟩ l).isSome = decide (0 < c s)
  size : Maps.size D = l.length
  le : ∀ s, c s ≤ k
  len : l.length ≤ k
theorem met_none (v : Nat) : MetP v (.map []) [] (fun _ => 0) 0 :=
  ⟨tidy_empty, fun e he => (by cases he), fun s => by simp [DataW.atKey], fun s => by simp [Maps.has], fun s => by simp [getL], by simp [Maps.size], fun s => Nat.le_refl _, Nat.le_refl _⟩
theorem met_put {v k s : Nat} {D : DataW Unit} {l : List En} {c : Nat → Nat} (h : MetP v D l c k) (hs : s < 65536) (hk : k < 60) :
    putE 60 l ⟨v, s⟩ = (if 0 < c s then 60 else 0) ∧ MetP v (D.put (.int .u16 (s : Int)) (.lit (.int .i64 ((c s + 1 : Nat) : Int)))) (putL 60 l ⟨v, s⟩ ((s + 1 : Nat) : Int)) (fun x => if x = s then c s + 1 else c x) (k + 1) := by
  have hkl : WideAt.IsKeyLit (.int .u16 (s : Int)) := trivial
  have hlen := h.len
  have he : putE 60 l ⟨v, s⟩ = (if 0 < c s then 60 else 0) := by
    unfold putE
    rw [h.get s]
    by_cases c0 : 0 < c s
    · simp [c0]
    · simp [c0]
      omega
  refine ⟨he, ⟨h.tidy.put hkl _, ?_, fun x => ?_, fun x => ?_, ?_, ?_, fun x => ?_, ?_⟩⟩
  · intro e hm
    unfold putL at hm
    split at hm
    · rcases insL_mem.1 hm with rfl | hm
      · exact ⟨s, hs, rfl⟩
      · exact h.ent e hm
    · exact h.ent e hm
  · by_cases d : x = s
    · subst d
      rw [atKey_put_same h.tidy.isMap hkl]
      simp
    · rw [atKey_put_other (fun e => d (by cases e; rfl)), h.at_ x]
      simp [d]
  · by_cases d : x = s
    · subst d
      rw [has_put_same h.tidy.isMap hkl]
      simp
    · rw [has_put_other (fun e => d (by cases e; rfl)), h.has x]
      simp [d]
  · intro x
    unfold putL
    rw [he]
    by_cases c0 : 0 < c s
    · rw [if_pos c0, if_neg (by decide), h.get x]
      by_cases d : x = s
      · subst d; simp [c0]
      · simp [d]
    · rw [if_neg c0, if_pos rfl]
      by_cases d : x = s
      · subst d
        have : (getL (⟨v, x⟩ : Ky) (insL ⟨v, x⟩ ((x + 1 : Nat) : Int) l)).isSome = true := getL_isSome.2 ⟨_, insL_mem.2 (.inl rfl), rfl⟩
        rw [this]
        simp
      · have hx := h.get x
        simp only [d, if_false]
        rw [← hx, Bool.eq_iff_iff, getL_isSome, getL_isSome]
        constructor
        · rintro ⟨e, hm, hk2⟩
          rcases insL_mem.1 hm with rfl | hm
          · exact absurd (congrArg Ky.seq hk2).symm d
          · exact ⟨e, hm, hk2⟩
        · rintro ⟨e, hm, hk2⟩
          exact ⟨e, insL_mem.2 (.inr hm), hk2⟩
  · rw [size_put h.tidy, h.has, h.size]
    unfold putL
    rw [he]
    by_cases c0 : 0 < c s
    · simp [c0]
    · simp [c0, insL_length]
  · have := h.le x
    have := h.le s
    show (if x = s then c s + 1 else c x) ≤ k + 1
    split <;> omega
  · unfold putL
    split
    · rw [insL_length]; omega
    · omega
/-- While all come out again: what is left of the queue, as many keys of the map. -/
structure Left2 (v last : Nat) (l : List En) (K : List Nat) (left : Lit → Bool) : Prop where
  rises : Rises l
  ent : ∀ e, e ∈ l → ∃ s : Nat, s < 65536 ∧ last < s + 1 ∧ e = ⟨⟨v, s⟩, ((s + 1 : Nat) : Int)⟩
  len : l.length = K.length
  nd : K.Nodup
  left : ∀ s : Nat, s < 65536 → (left (.int .u16 (s : Int)) = true ↔ s ∈ K)
  small : ∀ s, s ∈ K → s < 65536
theorem left_start {v k : Nat} {D : DataW Unit} {l : List En} {c : Nat → Nat} (h : MetP v D l c k) (hr : Rises l) : Left2 v 0 l (l.map fun e => e.key.seq) (Maps.has D) := by
  refine ⟨hr, fun e he => ?_, by rw [List.length_map], ?_, fun s hs => ?_, fun s hs => ?_⟩
  · obtain ⟨s, h1, h2⟩ := h.ent e he
    exact ⟨s, h1, by omega, h2⟩
  · rw [List.nodup_iff_pairwise_ne, List.pairwise_map]
    refine List.Pairwise.imp_of_mem (fun {a b} ha hb hab => ?_) hr
    obtain ⟨s, _, rfl⟩ := h.ent a ha
    obtain ⟨t, _, rfl⟩ := h.ent b hb
    unfold Ky.lt at hab
    simp only at hab ⊢
    omega
  · rw [h.has s, ← h.get s, getL_isSome, List.mem_map]
    constructor
    · rintro ⟨e, he, hk⟩
      exact ⟨e, he, by rw [hk]⟩
    · rintro ⟨e, he, hk⟩
      obtain ⟨t, _, rfl⟩ := h.ent e he
      exact ⟨_, he, by rw [← hk]⟩
  · obtain ⟨e, he, rfl⟩ := List.mem_map.1 hs
    obtain ⟨t, ht, rfl⟩ := h.ent e he
    exact ht
theorem left_next {v last s : Nat} {l : List En} {K : List Nat} {left : Lit → Bool} (h : Left2 v last l K left) (hs : s < 65536) (hl : left (.int .u16 (s : Int)) = true) :
    ∃ q m, l = ⟨⟨v, q⟩, ((q + 1 : Nat) : Int)⟩ :: m ∧ q < 65536 ∧ last < q + 1 ∧ Left2 v (q + 1) m (K.erase s) (fun z => left z && !z.sameKey (.int .u16 (s : Int))) := by
  have hk := (h.left s hs).1 hl
  have hpos : 0 < K.length := List.length_pos_of_mem hk
  cases l with
  | nil => have := h.len; rw [List.length_nil] at this; omega
  | cons e m =>
    obtain ⟨q, hq, hlast, rfl⟩ := h.ent e List.mem_cons_self
    obtain ⟨r1, r2⟩ := List.pairwise_cons.1 h.rises
    refine ⟨q, m, rfl, hq, hlast, ⟨r2, fun y hy => ?_, ?_, h.nd.erase s, fun t ht => ?_, fun t ht => h.small t (List.mem_of_mem_erase ht)⟩⟩
    · obtain ⟨t, ht, _, rfl⟩ := h.ent y (List.mem_cons_of_mem _ hy)
      have hlt := r1 _ hy
      unfold Ky.lt at hlt
      simp only at hlt
      exact ⟨t, ht, by omega, rfl⟩
    · have := h.len
      rw [List.length_cons] at this
      rw [List.length_erase_of_mem hk]
      omega
    · rw [h.nd.mem_erase_iff, ← h.left t ht]
      by_cases d : t = s
      · subst d
        simp [Lit.sameKey]
      · simp [Lit.sameKey, d]
        intro _
        omega
theorem left_end {v last : Nat} {l : List En} {K : List Nat} {left : Lit → Bool} (h : Left2 v last l K left) (hl : ∀ kl, left kl = false) : l = [] := by
  cases K with
  | nil => exact List.eq_nil_of_length_eq_zero h.len
  | cons s K =>
    have := (h.left s (h.small s List.mem_cons_self)).2 List.mem_cons_self
    rw [hl] at this
    cases this
theorem insL_last {k : Ky} {v : Int} : ∀ {l : List En}, (∀ e, e ∈ l → e.key.lt k) → insL k v l = l ++ [⟨k, v⟩]
  | [], _ => rfl
  | a :: t, h => by
    have h1 := h a List.mem_cons_self
    unfold insL
    rw [if_neg (fun h2 => Ky.lt_irrefl _ (Ky.lt_trans h1 h2)), insL_last (fun e he => h e (List.mem_cons_of_mem _ he))]
    rfl
/-- Behind i steps: in order, as they came. -/
structure Row3 (i wh : Nat) (l : List En) : Prop where
  len : l.length = i
  el : ∀ (j : Nat) (e : En), l[j]? = some e → e.val = (j : Int) ∧ e.key.at_ ≤ wh ∧ e.key.seq = j
  le : wh ≤ 255 * i
theorem row3_next {i wh x : Nat} {l : List En} (h : Row3 i wh l) (hi : i < 60) (hx : x < 256) : putE 60 l ⟨wh + x, i⟩ = 0 ∧ Row3 (i + 1) (wh + x) (putL 60 l ⟨wh + x, i⟩ (i : Int)) := by
  have hl : ∀ e, e ∈ l → e.key.lt ⟨wh + x, i⟩ := by
    intro e he
    obtain ⟨j, hj⟩ := List.getElem?_of_mem he
    obtain ⟨h1, h2, h3⟩ := h.el j e hj
    have : j < l.length := (List.getElem?_eq_some_iff.1 hj).1
    have := h.len
    unfold Ky.lt
    simp only
    omega
  have hg : (getL (⟨wh + x, i⟩ : Ky) l).isSome = false := by
    cases hs : (getL (⟨wh + x, i⟩ : Ky) l).isSome with
    | false => rfl
    | true =>
      obtain ⟨e, he, hk⟩ := getL_isSome.1 hs
      have := hl e he
      rw [hk] at this
      exact absurd this (Ky.lt_irrefl _)
  have h0 : putE 60 l ⟨wh + x, i⟩ = 0 := by
    unfold putE
    rw [hg]
    simp only [Bool.false_eq_true, if_false]
    rw [if_neg (by rw [h.len]; omega)]
  refine ⟨h0, ?_⟩
  unfold putL
  rw [if_pos h0, insL_last hl]
  refine ⟨by rw [List.length_append, h.len]; rfl, fun j e hj => ?_, by have := h.le; omega⟩
  rw [List.getElem?_append, h.len] at hj
  split at hj
  · obtain ⟨h1, h2, h3⟩ := h.el j e hj
    exact ⟨h1, by omega, h3⟩
  · rename_i hji
    have hj0 : j = i := by
      have := (List.getElem?_eq_some_iff.1 hj).1
      simp at this
      omega
    subst hj0
    simp at hj
    subst hj
    exact ⟨rfl, Nat.le_refl _, rfl⟩
/-- While they come out again, j by then. -/
structure Row4 (n j : Nat) (m : List En) : Prop where
  len : m.length + j = n
  el : ∀ (k : Nat) (e : En), m[k]? = some e → e.val = ((j + k : Nat) : Int)
theorem row4_start {n wh : Nat} {l : List En} (h : Row3 n wh l) : Row4 n 0 l :=
  ⟨h.len, fun k e he => by rw [(h.el k e he).1, Nat.zero_add]⟩
theorem row4_next {n j : Nat} {m : List En} (h : Row4 n j m) (hj : j < n) : ∃ x m', m = x :: m' ∧ x.val = (j : Int) ∧ Row4 n (j + 1) m' := by
  have := h.len
  cases m with
  | nil => rw [List.length_nil] at this; omega
  | cons x m' =>
    rw [List.length_cons] at this
    refine ⟨x, m', rfl, by have := h.el 0 x rfl; simpa using this, by omega, fun k e he => ?_⟩
    rw [h.el (k + 1) e (by simpa using he)]
    congr 1
    omega

end Go.Proofs.Ytkiibobpejoaeab
