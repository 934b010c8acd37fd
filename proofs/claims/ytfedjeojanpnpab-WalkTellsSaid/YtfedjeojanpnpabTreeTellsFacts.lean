/-
  TreeTells: the tree beside the document's own.
-/
import Derived.Test.YtfedjeojanpnpabTreeRefE
import Derived.Test.YtfedjeojanpnpabTreeSame
namespace Go.Proofs.Ytfedjeojanpnpab
open Go.RowKit
set_option linter.unusedVariables false

/-- Same, asked of two rows that are the same, only reads. -/
theorem law_same_q (p q : Option Addr) (c d b1 b2 n : Nat) (l : List En) (w : World) (hl : n ≤ 65536) (hn : l.length = n) (h1 : w.ownsRow b1 52 3 (.slice p n c) n (l.flatMap enC)) (h2 : w.ownsRow b2 52 3 (.slice q n d) n (l.flatMap enC)) :
    Calls Try.prog 12 #[.slice p n c, .slice q n d] w fun e w' => e = .returned (.bool true) ∧ ∃ m, w' = w.drewN m := by
  subst hn
  have hz : ((l.length : Int) != (l.length : Int)) = false := by simp
  have HC1 : Hid (∀ (j : Nat) (h : j < l.length), ∃ gb, p = some ⟨gb, 0, none⟩ ∧ ∀ W, Below w.heap.size w W → W.cell? ⟨gb, j * 3, none⟩ = some (.int .u64 (l[j].key.at_ : Int)) ∧ W.cell? ⟨gb, j * 3 + 1, none⟩ = some (.int .u64 (l[j].key.seq : Int)) ∧ W.cell? ⟨gb, j * 3 + 2, none⟩ = some (.int .i64 l[j].val)) := by
    refine Lib.hid fun j h => ?_
    obtain ⟨gb, rfl, hg, c0, c1, c2⟩ := en_cells h1 h
    exact ⟨gb, rfl, fun W b => ⟨(b.cell (p := ⟨gb, j * 3, none⟩) hg).trans c0, (b.cell (p := ⟨gb, j * 3 + 1, none⟩) hg).trans c1, (b.cell (p := ⟨gb, j * 3 + 2, none⟩) hg).trans c2⟩⟩
  have HC2 : Hid (∀ (j : Nat) (h : j < l.length), ∃ gb, q = some ⟨gb, 0, none⟩ ∧ ∀ W, Below w.heap.size w W → W.cell? ⟨gb, j * 3, none⟩ = some (.int .u64 (l[j].key.at_ : Int)) ∧ W.cell? ⟨gb, j * 3 + 1, none⟩ = some (.int .u64 (l[j].key.seq : Int)) ∧ W.cell? ⟨gb, j * 3 + 2, none⟩ = some (.int .i64 l[j].val)) := by
    refine Lib.hid fun j h => ?_
    obtain ⟨gb, rfl, hg, c0, c1, c2⟩ := en_cells h2 h
    exact ⟨gb, rfl, fun W b => ⟨(b.cell (p := ⟨gb, j * 3, none⟩) hg).trans c0, (b.cell (p := ⟨gb, j * 3 + 1, none⟩) hg).trans c1, (b.cell (p := ⟨gb, j * 3 + 2, none⟩) hg).trans c2⟩⟩
  clear h1 h2
  go_enter Try.func12, Try.ntmps12
  go_wp2_with fail
  go_loopg [13] l.length (fun k i wx => ∃ (j : Nat), l.length - j = k ∧ j ≤ l.length ∧ i = .int .i64 (j : Int) ∧ Hid (∃ m, wx = w.drewN m))
  case atStart => exact ⟨0, rfl, by omega, rfl, ⟨0, rfl⟩⟩
  case round =>
    obtain ⟨j, rfl, hj, rfl, HB⟩ := hrel
    by_cases h0 : j = l.length
    · have h0z : ¬ (j : Int) < (l.length : Int) := by omega
      clear h0
      go_wp2_with fail
      go_ret
      exact ⟨rfl, HB.out⟩
    · have hjl : j < l.length := by omega
      have hjz : (j : Int) < (l.length : Int) := by omega
      obtain ⟨g1, rfl, k1⟩ := HC1.out j hjl
      obtain ⟨g2, rfl, k2⟩ := HC2.out j hjl
      obtain ⟨m, hm⟩ := HB.out
      have BB : Below w.heap.size w wr := by rw [hm]; exact below_drewN (Below.refl _ _) _
      obtain ⟨c0, c1, c2⟩ := k1 wr BB
      obtain ⟨d0, d1, d2⟩ := k2 wr BB
      have HB2 : Hid (∀ m, ∃ m', wr.drewN m = w.drewN m') := Lib.hid fun m2 => ⟨m + m2, by rw [hm, World.drewN_drewN]⟩
      clear k1 k2 h0 BB hm HB
      generalize l[j] = x at *
      go_upto_region 6 with fail
      go_quiet (fail)
      go_wp2_with fail
      go_roundg (l.length - (j + 1))
      case measure => omega
      case rel => exact ⟨j + 1, rfl, by omega, by go_num, HB2.out _⟩

/-- The tree, and the document's own beside it. -/
structure Tl6 (K : TreeK) (w W : World) (a : Addr) (q room : Nat) (N : Nat → Prop) (g : Tg) (p : Option Addr) (n c : Nat) (l : List En) : Prop where
  own : OwnT K w W a N g
  box : Box W q 41 #[.slice p n c, .int .i64 (room : Int)]
  row : MineT w W N 52 3 (.slice p n c) n (l.flatMap enC)
  len : l.length = n
  ri : Rises l
  sm : n ≤ room
  nq : ¬ N q
  lq : w.heap.size ≤ q
  room_ : g.room = room
section
variable {K : TreeK} {w W W' : World} {a : Addr} {q room : Nat} {N N' : Nat → Prop} {g g' : Tg} {p p' : Option Addr} {n c n' c' : Nat} {l l' : List En}
theorem Tl6.below (h : Tl6 K w W a q room N g p n c l) (b : Below W.heap.size W W') : Tl6 K w W' a q room N g p n c l :=
  ⟨h.own.below b, h.box.below b h.box.lt, h.row.below b, h.len, h.ri, h.sm, h.nq, h.lq, h.room_⟩
theorem Tl6.step (h : Tl6 K w W a q room N g p n c l) (o : OwnT K w W' a N' g') (hr : g'.room = g.room) (s : SteppedT W W' N N') : Tl6 K w W' a q room N' g' p n c l := by
  refine ⟨o, h.box.turned s.turned h.nq, h.row.step s, h.len, h.ri, h.sm, fun hq => ?_, h.lq, hr.trans h.room_⟩
  rcases s.own q hq with h1 | h1
  · exact h.nq h1
  · have := h.box.lt
    omega
theorem OwnT.set6 {j : Nat} {u : Value} (h : OwnT K w W a N g) (nq : ¬ N q) (lq : w.heap.size ≤ q) : OwnT K w (W.setCell ⟨q, j, none⟩ u) a N g :=
  ⟨K.kept h.at_ (fun k hk => Below.heap_setCell W ⟨q, j, none⟩ u k (fun e => nq (by have e2 : k = q := e; rw [← e2]; exact hk))) (by rw [World.size_setCell]; exact Nat.le_refl _), h.ok, h.new, h.lo.setCell lq _⟩
/-- The document's own is another one now. -/
theorem Tl6.put (h : Tl6 K w W a q room N g p n c l) (b : Below W.heap.size W W') (r : W'.ownsRow w.heap.size 52 3 (.slice p' n' c') n' (l'.flatMap enC)) (o : .slice p n c = Value.slice p' n' c' ∨ W'.ownsRow W.heap.size 52 3 (.slice p' n' c') n' (l'.flatMap enC)) (hl : l'.length = n') (ri : Rises l') (hs : n' ≤ room) (X : Obj) :
    Tl6 K w (((W'.alloc X).setCell ⟨q, 0, none⟩ (.slice p' n' c')).setCell ⟨q, 1, none⟩ (.int .i64 (room : Int))) a q room N g p' n' c' l' := by
  have h2 := h.below b
  have al : Below W'.heap.size W' (W'.alloc X) := (Below.refl _ _).alloc (Nat.le_refl _) _
  have bx := ((h2.box.alloc X).set 0 (.slice p' n' c')).set 1 (.int .i64 (room : Int))
  refine ⟨((h2.own.below al).set6 h.nq h.lq).set6 h.nq h.lq, bx, ⟨?_, ?_⟩, hl, ri, hs, h.nq, h.lq, h.room_⟩
  · have r2 := owns_below r al
    have hne := (h2.box.alloc X).not_row r2 (by decide)
    exact own_set (own_set r2 hne) hne
  · rcases o with o | o
    · rw [← o]
      exact h.row.off
    · exact OffV.fresh (fun k hk => K.lt h.own.at_ k hk) o
theorem Tl6.n6 (h : Tl6 K w W a q room N g p n c l) : n ≤ 65536 := by
  have := h.sm
  have := h.own.ok.small
  have := h.room_
  omega
theorem Rises.putL (h : Rises l) (k : Ky) (v : Int) : Rises (putL room l k v) := by
  unfold Go.Proofs.Ytfedjeojanpnpab.putL
  split
  · rename_i he
    refine h.ins (getL_none ?_)
    unfold putE at he
    cases hg : getL k l with
    | none => rfl
    | some x => rw [hg] at he; simp at he
  · exact h
theorem Rises.delL (h : Rises l) (k : Ky) : Rises (delL k l) := List.Pairwise.sublist List.filter_sublist h
theorem putL_room (k : Ky) (v : Int) (h : l.length ≤ room) : (putL room l k v).length ≤ room := by
  unfold Go.Proofs.Ytfedjeojanpnpab.putL
  split
  · rename_i he
    rw [insL_length]
    unfold putE at he
    split at he
    · omega
    · split at he <;> omega
  · exact h
theorem delL_room (k : Ky) (h : l.length ≤ room) : (delL k l).length ≤ room := Nat.le_trans (List.length_filter_le _ _) h
theorem Tl6.r_put (h : Tl6 K w W a q room N g p n c l) (k : Ky) (v : Int) : Calls Try.prog 36 #[.agg #[.slice p n c, .int .i64 (room : Int)], kyV k, .int .i64 v] W fun e W' => ∃ p' n' c', e = .returned (.tuple #[.agg #[.slice p' n' c', .int .i64 (room : Int)], .int .i64 (putE room l k : Nat)]) ∧ Below W.heap.size W W' ∧ ∀ X, Tl6 K w (((W'.alloc X).setCell ⟨q, 0, none⟩ (.slice p' n' c')).setCell ⟨q, 1, none⟩ (.int .i64 (room : Int))) a q room N g p' n' c' (putL room l k v) := by
  refine (ref_put p c n w.heap.size room l k v W h.len h.n6 (by have := h.own.ok.small; have := h.room_; omega) h.ri h.own.lo.size h.row.row).mono ?_
  rintro e W' ⟨p', n', c', rfl, hl, r, b, o⟩
  exact ⟨p', n', c', rfl, b, fun X => h.put b r o hl (h.ri.putL k v) (by rw [← hl]; exact putL_room k v (by rw [h.len]; exact h.sm)) X⟩
theorem Tl6.r_drop (h : Tl6 K w W a q room N g p n c l) (k : Ky) : Calls Try.prog 22 #[.agg #[.slice p n c, .int .i64 (room : Int)], kyV k] W fun e W' => ∃ p' n' c', e = .returned (.tuple #[.agg #[.slice p' n' c', .int .i64 (room : Int)], .int .i64 ((getL k l).getD 0), .bool (getL k l).isSome]) ∧ Below W.heap.size W W' ∧ ∀ X, Tl6 K w (((W'.alloc X).setCell ⟨q, 0, none⟩ (.slice p' n' c')).setCell ⟨q, 1, none⟩ (.int .i64 (room : Int))) a q room N g p' n' c' (delL k l) := by
  refine (ref_drop p c n w.heap.size room l k W h.len h.n6 h.ri h.own.lo.size h.row.row).mono ?_
  rintro e W' ⟨p', n', c', rfl, hl, r, b, o⟩
  exact ⟨p', n', c', rfl, b, fun X => h.put b r o hl (h.ri.delL k) (by rw [← hl]; exact delL_room k (by rw [h.len]; exact h.sm)) X⟩
end

end Go.Proofs.Ytfedjeojanpnpab
