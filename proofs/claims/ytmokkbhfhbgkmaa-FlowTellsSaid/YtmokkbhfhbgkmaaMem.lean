/-
  What lies in memory, of no program: rows that a slice owns, boxes of structs, what turns in a step and what stays.
-/
import Derived.Test.YtmokkbhfhbgkmaaBase
import Derived.Test.YtmokkbhfhbgkmaaOpen
import Derived.Below
import Derived.Deep.QuietTactic
import Derived.BigQuiet
import Derived.Deep.DeepCutAuto
import Derived.Deep.CutBlock
import Derived.Deep.LoopGhost
import Derived.Deep.RegionHeld3
import Derived.OwnWalk
import Derived.WalkSmall
import Derived.Laws.AppendOwnNone
import Derived.Maps.AppendAt
import Derived.ArgAppend
import Derived.Deep.OwnRows
namespace Go.Proofs.Ytmokkbhfhbgkmaa
open Go.RowKit
set_option linter.unusedVariables false

theorem ret_u {a b : Int} {k : IntKind} (h : a = b) : Ending.returned (.int k a) = .returned (.int k b) := by rw [h]
theorem ret_hb {k : IntKind} {a b : Int} {c : Bool} (h : a = b) : Ending.returned (.tuple #[.int k a, .bool c]) = .returned (.tuple #[.int k b, .bool c]) := by rw [h]
def natV (n : Nat) : Value := .int .i64 (n : Int)
def u64V (n : Nat) : Value := .int .u64 (n : Int)
theorem ne_some {a b : Nat} (h : a ≠ b) : some a ≠ some b := fun e => h (Option.some.inj e)
theorem grownBy_set (w : World) (b i : Nat) (v : Value) : w.grownBy (w.setCell ⟨b, i, none⟩ v) (some b) :=
  ⟨rfl, rfl, rfl, by simp, fun k _ hk => Below.heap_setCell _ _ _ k (fun e => hk (by rw [e]))⟩
theorem lit_empty {e : TypeId} (w : World) (base : Nat) (hb : base ≤ w.heap.size) : (w.alloc (.cells #[] e)).ownsRow base e 1 (.slice (some ⟨w.heap.size, 0, none⟩) 0 0) 0 [] := by
  have h := World.ownsRow_lit (base := base) (e := e) (size := 1) w #[] 0 hb (by decide) rfl
  exact h
theorem lit_one {e : TypeId} (w : World) (u : Value) : (w.alloc (.cells #[u] e)).ownsRow 0 e 1 (.slice (some ⟨w.heap.size, 0, none⟩) 1 1) 1 [u] :=
  World.ownsRow_lit (base := 0) (e := e) (size := 1) w #[u] 1 (Nat.zero_le _) (by decide) rfl
theorem owns_slice {w : World} {base e size n : Nat} {v : Value} {xs : List Value} (h : w.ownsRow base e size v n xs) : ∃ p c, v = .slice p n c := by
  rcases h.2 with ⟨rfl, rfl⟩ | ⟨g, cap, cur, rfl, _⟩
  · exact ⟨none, 0, rfl⟩
  · exact ⟨_, _, rfl⟩
theorem owns_below {w w' : World} {base e size n : Nat} {v : Value} {xs : List Value} (h : w.ownsRow base e size v n xs) (g : Below w.heap.size w w') : w'.ownsRow base e size v n xs := by
  refine h.kept (row := none) ⟨g.os, g.tape, g.output, g.size, fun k hk _ => g.block k hk⟩ ?_
  by_cases c : v.ownBlock = none
  · exact .inl c
  · exact .inr c
theorem own_form {w : World} {base e n c m : Nat} {p : Option Addr} {xs : List Value} (h : w.ownsRow base e 1 (.slice p n c) m xs) : n = m ∧ (0 < m → ∃ g, p = some ⟨g, 0, none⟩) := by
  rcases h.2 with ⟨h1, h2⟩ | ⟨g, cap, cur, h1, _⟩
  · cases h1; exact ⟨h2.symm, fun h => by omega⟩
  · cases h1; exact ⟨rfl, fun _ => ⟨g, rfl⟩⟩
theorem own_cap {w : World} {base e n c g : Nat} {xs : List Value} (h : w.ownsRow base e 1 (.slice (some ⟨g, 0, none⟩) n c) n xs) : n ≤ c ∧ c ≤ 9223372036854775807 := by
  rcases h.2 with ⟨h1, h2⟩ | ⟨g, cap, cur, h1, _, _, h2, h3, _⟩
  · cases h1
  · cases h1; exact ⟨h2, h3⟩
theorem own_init {w : World} {base e n m c : Nat} {p : Option Addr} {xs ys : List Value} (h : w.ownsRow base e 1 (.slice p n c) n (xs ++ ys)) (hm : xs.length = m) (hn : 0 < n) : w.ownsRow base e 1 (.slice p m c) m xs := by
  have hl := h.1
  rw [List.length_append] at hl
  refine ⟨by omega, ?_⟩
  rcases h.2 with ⟨_, h2⟩ | ⟨g, cap, cur, h1, h2, h3, h4, h5, h6, h7⟩
  · omega
  · cases h1
    refine .inr ⟨g, c, cur, rfl, h2, h3, by omega, h5, h6, ?_⟩
    have h8 : List.take m (List.take (n * 1) cur.toList) = xs := by
      rw [h7, ← hm]
      exact List.take_left
    rw [List.take_take, show min m (n * 1) = m * 1 by omega] at h8
    exact h8
theorem own_cast {w : World} {base e size n n' c m : Nat} {p : Option Addr} {xs : List Value} (h : w.ownsRow base e size (.slice p n c) m xs) (hn : n = n') : w.ownsRow base e size (.slice p n' c) m xs := hn ▸ h
theorem own_low {w : World} {base b e size n : Nat} {v : Value} {xs : List Value} (h : w.ownsRow base e size v n xs) (hb : b ≤ base) : w.ownsRow b e size v n xs := by
  refine ⟨h.1, ?_⟩
  rcases h.2 with h' | ⟨g, cap, cur, e, h2, k⟩
  · exact .inl h'
  · exact .inr ⟨g, cap, cur, e, Nat.le_trans hb h2, k⟩
theorem own_zero {w : World} {base e size n : Nat} {v : Value} {xs : List Value} (h : w.ownsRow base e size v n xs) : w.ownsRow 0 e size v n xs := by
  refine ⟨h.1, ?_⟩
  rcases h.2 with h' | ⟨g, cap, cur, e, _, k⟩
  · exact .inl h'
  · exact .inr ⟨g, cap, cur, e, Nat.zero_le _, k⟩
theorem own_set {w : World} {base e size n g j : Nat} {v u : Value} {xs : List Value} (h : w.ownsRow base e size v n xs) (hne : v.ownBlock ≠ some g) : (w.setCell ⟨g, j, none⟩ u).ownsRow base e size v n xs :=
  h.kept (grownBy_set w g j u) (.inr hne)
theorem own_ne {w : World} {b1 b2 e1 e2 s1 s2 n1 n2 g : Nat} {v : Value} {xs ys : List Value} {c : Nat} (h1 : w.ownsRow b1 e1 s1 v n1 xs) (h2 : w.ownsRow b2 e2 s2 (.slice (some ⟨g, 0, none⟩) n2 c) n2 ys) (he : e1 ≠ e2) : v.ownBlock ≠ some g := by
  rcases h1.2 with ⟨rfl, _⟩ | ⟨g1, c1, cur1, rfl, _, k1, _⟩
  · intro e; cases e
  · intro e
    obtain rfl : g1 = g := by simpa [Value.ownBlock] using e
    rcases h2.2 with ⟨h, _⟩ | ⟨g2, c2, cur2, h, _, k2, _⟩
    · cases h
    · cases h
      have := k1.symm.trans k2
      simp at this
      exact he this.2
theorem own_ne2 {w : World} {b1 b2 e1 e2 s1 s2 n1 n2 : Nat} {v1 v2 : Value} {xs ys : List Value} (h1 : w.ownsRow b1 e1 s1 v1 n1 xs) (h2 : w.ownsRow b2 e2 s2 v2 n2 ys) (he : e1 ≠ e2) : v1.ownBlock = none ∨ v1.ownBlock ≠ v2.ownBlock := by
  rcases h2.2 with ⟨rfl, _⟩ | ⟨g, c, cur, rfl, _⟩
  · by_cases c : v1.ownBlock = none
    · exact .inl c
    · exact .inr c
  · exact .inr (own_ne h1 h2 he)
theorem own_far {w w' : World} {b1 b2 e1 e2 s1 s2 n1 n2 B : Nat} {v1 v2 : Value} {xs ys : List Value} (h1 : w.ownsRow b1 e1 s1 v1 n1 xs) (h2 : w'.ownsRow b2 e2 s2 v2 n2 ys) (hw : w.heap.size ≤ b2) : v1.ownBlock = none ∨ v1.ownBlock ≠ v2.ownBlock := by
  by_cases c : v1.ownBlock = none
  · exact .inl c
  · refine .inr fun e => ?_
    obtain ⟨k, hk⟩ := Option.ne_none_iff_exists'.1 c
    have h3 := (h1.lt k hk).2
    have h4 := (h2.lt k (e ▸ hk)).1
    omega
theorem own_same {w w' : World} {base e size n : Nat} {v : Value} {xs : List Value} (h : w.ownsRow base e size v n xs) (k : ∀ g, v.ownBlock = some g → w'.heap[g]? = w.heap[g]?) : w'.ownsRow base e size v n xs := by
  refine ⟨h.1, ?_⟩
  rcases h.2 with h' | ⟨g, cap, cur, rfl, h2, h3, r⟩
  · exact .inl h'
  · exact .inr ⟨g, cap, cur, rfl, h2, (k g rfl).trans h3, r⟩
theorem far_or {u v : Value} (h : ∀ k, u.ownBlock = some k → v.ownBlock ≠ some k) : u.ownBlock = none ∨ u.ownBlock ≠ v.ownBlock := by
  cases e : u.ownBlock with
  | none => exact .inl rfl
  | some k => exact .inr fun e' => h k e e'.symm
theorem owns_nat {w : World} {base e : Nat} {p : Option Addr} {n c : Nat} {l : List Nat} (h : w.ownsRow base e 1 (.slice p n c) l.length (l.map natV)) :
    n = l.length ∧ ((p = none ∧ l = []) ∨ ∃ g, p = some ⟨g, 0, none⟩ ∧ g < w.heap.size ∧ ∀ j (hj : j < l.length), w.cell? ⟨g, j, none⟩ = some (.int .i64 (l[j] : Int))) := by
  rcases h.2 with ⟨h1, h2⟩ | ⟨g, cap, cur, h1, _, h3, _⟩
  · cases h1
    exact ⟨h2.symm, .inl ⟨rfl, List.length_eq_zero_iff.1 h2⟩⟩
  · have h' := h
    rw [h1] at h'
    cases h1
    refine ⟨rfl, .inr ⟨g, rfl, (Array.getElem?_eq_some_iff.1 h3).1, fun j hj => ?_⟩⟩
    rw [h'.cellAt j (by omega)]
    simp [hj, natV]

/-- A slice's row is none of the blocks that N names. -/
def Off (N : Nat → Prop) (p : Option Addr) (n c : Nat) : Prop := ∀ k, N k → (Value.slice p n c).ownBlock ≠ some k
theorem off_fresh {N : Nat → Prop} {w w' : World} {e n c m : Nat} {p : Option Addr} {xs : List Value} (hN : ∀ k, N k → k < w.heap.size) (h : w'.ownsRow w.heap.size e 1 (.slice p n c) m xs) : Off N p n c := by
  intro k hk e'
  have h1 := (h.lt k e').1
  have h2 := hN k hk
  omega
/-- Only blocks that N names have turned. -/
structure Turned (N : Nat → Prop) (w w' : World) : Prop where
  os : w'.os = w.os
  tape : w'.tape = w.tape
  output : w'.output = w.output
  size : w.heap.size ≤ w'.heap.size
  block : ∀ k, k < w.heap.size → ¬ N k → w'.heap[k]? = w.heap[k]?
theorem own_turned {N : Nat → Prop} {w w' : World} {base e size n m c : Nat} {p : Option Addr} {xs : List Value} (h : w.ownsRow base e size (.slice p n c) m xs) (o : Off N p n c) (t : Turned N w w') : w'.ownsRow base e size (.slice p n c) m xs := by
  refine ⟨h.1, ?_⟩
  rcases h.2 with h' | ⟨g, cap, cur, e, h2, h3, k⟩
  · exact .inl h'
  · refine .inr ⟨g, cap, cur, e, h2, (t.block g (Array.getElem?_eq_some_iff.1 h3).1 (fun hn => o g hn (by rw [e]; rfl))).trans h3, k⟩
section
variable {w W W' : World} {p : Option Addr} {c : Nat}
theorem off_went {N N' : Nat → Prop} {n m base e s : Nat} {xs : List Value} (h : Off N p n c) (r : W.ownsRow base e s (.slice p n c) m xs) (h3 : ∀ k, N' k → N k ∨ W.heap.size ≤ k) : Off N' p n c := by
  intro k hk he
  rcases h3 k hk with h4 | h4
  · exact h k h4 he
  · have := (r.lt k he).2; omega
theorem below_turned {N : Nat → Prop} (t : Turned N W W') (hw : w.heap.size ≤ W.heap.size) (hn : ∀ k, N k → w.heap.size ≤ k) (b : Below w.heap.size w W) : Below w.heap.size w W' :=
  b.trans ⟨t.os, t.tape, t.output, t.size, fun k hk => t.block k (by omega) (fun hN => by have := hn k hN; omega)⟩
end
theorem below_tr {a b c : World} (h : Below a.heap.size a b) (k : Below b.heap.size b c) : Below a.heap.size a c := h.trans (k.mono h.size)
theorem Turned.refl (N : Nat → Prop) (w : World) : Turned N w w := ⟨rfl, rfl, rfl, Nat.le_refl _, fun _ _ _ => rfl⟩
theorem Turned.below {N : Nat → Prop} {w w' : World} (b : Below w.heap.size w w') : Turned N w w' := ⟨b.os, b.tape, b.output, b.size, fun k hk _ => b.block k hk⟩
theorem Turned.trans {N : Nat → Prop} {w w1 w2 : World} (h : Turned N w w1) (k : Turned N w1 w2) : Turned N w w2 :=
  ⟨k.os.trans h.os, k.tape.trans h.tape, k.output.trans h.output, Nat.le_trans h.size k.size, fun i hi hn => (k.block i (Nat.lt_of_lt_of_le hi h.size) hn).trans (h.block i hi hn)⟩
theorem Turned.set {N : Nat → Prop} {w w1 : World} (h : Turned N w w1) {b i : Nat} (hb : N b) (u : Value) : Turned N w (w1.setCell ⟨b, i, none⟩ u) :=
  h.trans ⟨rfl, rfl, rfl, by simp, fun k _ hn => Below.heap_setCell w1 ⟨b, i, none⟩ u k (fun e => hn (by have : k = b := e; rw [this]; exact hb))⟩
theorem Turned.drew {N : Nat → Prop} {w w1 : World} (h : Turned N w w1) : Turned N w w1.drew := h.trans ⟨rfl, rfl, rfl, Nat.le_refl _, fun _ _ _ => rfl⟩
theorem Turned.alloc {N : Nat → Prop} {w w1 : World} (h : Turned N w w1) (o : Obj) : Turned N w (w1.alloc o) := h.trans (Turned.below ((Below.refl _ w1).alloc (Nat.le_refl _) o))
theorem Turned.grown {N : Nat → Prop} {w w1 w2 : World} (h : Turned N w w1) {row : Option Nat} (g : w1.grownBy w2 row) (hr : ∀ k, row = some k → k < w.heap.size → N k) : Turned N w w2 :=
  ⟨g.os.trans h.os, g.tape.trans h.tape, g.output.trans h.output, Nat.le_trans h.size g.size, fun i hi hn => (g.block i (Nat.lt_of_lt_of_le hi h.size) (fun e => hn (hr i e.symm hi))).trans (h.block i hi hn)⟩
theorem nat_u8 {x : Int} (h : (Lit.int .u8 x).wf = true) : ∃ n : Nat, x = (n : Int) ∧ n < 256 := by
  simp [Lit.wf, IntKind.min, IntKind.max, IntKind.signed, IntKind.bits] at h
  exact ⟨x.toNat, by omega, by omega⟩
theorem nat_u64 {x : Int} (h : (Lit.int .u64 x).wf = true) : ∃ n : Nat, x = (n : Int) ∧ n < 18446744073709551616 := by
  simp [Lit.wf, IntKind.min, IntKind.max, IntKind.signed, IntKind.bits] at h
  exact ⟨x.toNat, by omega, by omega⟩
theorem row_fit {ks : List (Option IntKind)} {w : World} {A : Option Addr} {len cap : Nat} {rows : List (List Value)} (h : RowOf ks w A len cap rows) : len ≤ cap ∧ cap ≤ 9223372036854775807 := by
  rcases h.2.1 with ⟨_, rfl, rfl⟩ | ⟨_, _, h1, h2⟩
  · exact ⟨Nat.le_refl _, by decide⟩
  · exact ⟨h1, h2⟩
theorem u8_cell {w : World} {A : Option Addr} {len cap : Nat} {rows : List (List Value)} (h : RowOf [some .u8] w A len cap rows) {j : Nat} (hj : j < len) :
    ∃ (a : Addr) (x : Nat), A = some a ∧ x < 256 ∧ ∀ W, Below w.heap.size w W → W.cell? (a.add j) = some (.int .u8 (x : Int)) := by
  obtain ⟨h1, _, h3⟩ := h
  obtain ⟨hf, a, rfl, hc⟩ := h3 j (by omega)
  obtain ⟨v, e⟩ : ∃ v, rows[j] = [v] := by
    have := hf.length
    match hr : rows[j], this with
    | [v], _ => exact ⟨v, rfl⟩
  rw [e] at hf hc
  obtain ⟨⟨n0, rfl, w0⟩, _⟩ := hf
  obtain ⟨x, rfl, hx⟩ := nat_u8 w0
  have c0 := hc 0 _ rfl
  refine ⟨a, x, rfl, hx, fun W b => ?_⟩
  have c1 : w.cell? (a.add j) = some (.int .u8 (x : Int)) := by simpa using c0
  exact (b.cell (World.block_lt_of_cell? w _ c1)).trans c1
theorem add_at (a : Addr) (n k : Nat) : a.add (n + (k + 1)) = ⟨(a.add n).block, (a.add n).off + (k + 1), none⟩ := by
  rw [← Go.Deep.add_add]
  simp [Addr.add]

/-- A value's own block is none that N names. -/
def OffV (N : Nat → Prop) (v : Value) : Prop := ∀ k, N k → v.ownBlock ≠ some k
theorem OffV.went {N N' : Nat → Prop} {W : World} {base e s m : Nat} {v : Value} {xs : List Value} (h : OffV N v) (r : W.ownsRow base e s v m xs) (h3 : ∀ k, N' k → N k ∨ W.heap.size ≤ k) : OffV N' v := by
  intro k hk he
  rcases h3 k hk with h4 | h4
  · exact h k h4 he
  · have := (r.lt k he).2; omega
theorem OffV.fresh {N : Nat → Prop} {w w' : World} {e s m : Nat} {v : Value} {xs : List Value} (hN : ∀ k, N k → k < w.heap.size) (h : w'.ownsRow w.heap.size e s v m xs) : OffV N v := by
  intro k hk e'
  have h1 := (h.lt k e').1
  have h2 := hN k hk
  omega
theorem own_turnedV {N : Nat → Prop} {w w' : World} {base e size m : Nat} {v : Value} {xs : List Value} (h : w.ownsRow base e size v m xs) (o : OffV N v) (t : Turned N w w') : w'.ownsRow base e size v m xs :=
  own_same h fun g hg => t.block g (h.lt g hg).2 (fun hn => o g hn hg)

/-- Behind a call that may turn what lies at a: g now, in blocks of its own, of which each was one of its own, or is new. -/
def WentG {G : Type} (At : (Nat → Prop) → World → Addr → G → Prop) (N : Nat → Prop) (w : World) (a : Addr) (g : G) (w' : World) : Prop :=
  ∃ N', At N' w' a g ∧ Turned N w w' ∧ ∀ k, N' k → N k ∨ w.heap.size ≤ k
theorem WentG.after {G : Type} {At : (Nat → Prop) → World → Addr → G → Prop} {N : Nat → Prop} {w w1 w2 : World} {a : Addr} {g : G} (b : Below w.heap.size w w1) (h : WentG At N w1 a g w2) : WentG At N w a g w2 := by
  obtain ⟨N', h1, h2, h3⟩ := h
  exact ⟨N', h1, (Turned.below b).trans h2, fun k hk => (h3 k hk).imp id (fun h => Nat.le_trans b.size h)⟩

/-- A struct's cells lie in block b. -/
def Box (w : World) (b : Nat) (t : TypeId) (cs : Array Value) : Prop := w.heap[b]? = some (.cells cs t (0, 0))
section
variable {w w' : World} {b : Nat} {t : TypeId} {cs : Array Value}
theorem Box.lt (h : Box w b t cs) : b < w.heap.size := (Array.getElem?_eq_some_iff.1 h).1
theorem Box.cell (h : Box w b t cs) (i : Nat) : w.cell? ⟨b, i, none⟩ = cs[i]? := cell_of_row w b i cs t (0, 0) h
theorem Box.frozen (h : Box w b t cs) (i : Nat) : w.frozen? ⟨b, i, none⟩ = false := by
  unfold Box at h
  simp [World.frozen?, h]
theorem Box.new (w : World) (t : TypeId) (cs : Array Value) : Box (w.alloc (.cells cs t)) w.heap.size t cs := (MapKept.heap_alloc w _).1
theorem Box.below {B : Nat} (h : Box w b t cs) (g : Below B w w') (hb : b < B) : Box w' b t cs := (g.block b hb).trans h
theorem Box.grown {row : Option Nat} (h : Box w b t cs) (g : w.grownBy w' row) (hne : some b ≠ row) : Box w' b t cs := (g.block b h.lt hne).trans h
theorem Box.alloc (h : Box w b t cs) (o : Obj) : Box (w.alloc o) b t cs := h.below ((Below.refl _ w).alloc (Nat.le_refl _) o) h.lt
theorem Box.set (h : Box w b t cs) (i : Nat) (u : Value) : Box (w.setCell ⟨b, i, none⟩ u) b t (cs.setIfInBounds i u) := by
  obtain ⟨hlt, hk⟩ := Array.getElem?_eq_some_iff.1 h
  show (w.heap.modify b _)[b]? = _
  rw [Array.getElem?_eq_getElem (by rw [Array.size_modify]; exact hlt), Array.getElem_modify_self, hk]
  rfl
theorem Box.other {c i : Nat} (h : Box w b t cs) (hne : b ≠ c) (u : Value) : Box (w.setCell ⟨c, i, none⟩ u) b t cs := (Below.heap_setCell w ⟨c, i, none⟩ u b hne).trans h
theorem Box.turned {N : Nat → Prop} (h : Box w b t cs) (k : Turned N w w') (hb : ¬ N b) : Box w' b t cs := (k.block b h.lt hb).trans h
theorem Box.ne {b' : Nat} {t' : TypeId} {cs' : Array Value} (h : Box w b t cs) (h' : Box w b' t' cs') (hne : t ≠ t') : b ≠ b' := by
  rintro rfl
  have := h.symm.trans h'
  simp at this
  exact hne this.2
theorem Box.not_row (h : Box w b t cs) {base e size n : Nat} {v : Value} {xs : List Value} (hr : w.ownsRow base e size v n xs) (he : e ≠ t) : v.ownBlock ≠ some b := by
  rcases hr.2 with ⟨rfl, _⟩ | ⟨g, cap, cur, rfl, _, hg, _⟩
  · intro e; cases e
  · intro e'
    obtain rfl : g = b := by simpa [Value.ownBlock] using e'
    have := h.symm.trans hg
    simp at this
    exact he this.2.symm
/-- A row lies as it lay behind a store into the struct. -/
theorem Box.row {i : Nat} {u : Value} (h : Box w b t cs) {base e size n : Nat} {v : Value} {xs : List Value} (hr : w.ownsRow base e size v n xs) (he : e ≠ t) : (w.setCell ⟨b, i, none⟩ u).ownsRow base e size v n xs :=
  hr.kept (grownBy_set w b i u) (.inr (h.not_row hr he))
end

/-- append of what another slice owns: what lies behind it, and where. -/
theorem wpList_append_any {P : Program} (w : World) {ops : Array Oper} {rest : List Oper} {o : Oper} {a : Act} {Q : Exit → Act → World → Prop} (hgd : o.guard = none) (s x : Operand) (t : TypeId)
    (ho : o.op = .call { callee := .builtin .append, args := #[s, x], argTypes := #[t, t] })
    (base : Nat) (e : TypeId) (i : TypeInfo) (z : Value) (size bytes : Nat) (ht : P.underlying t = some (.slice e)) (hi : P.info? e = some i) (hz : i.zero = some z)
    (hsize : i.size = size) (hby : i.bytes = bytes) (hzs : z.cells.size = size) (hsz : 0 < size)
    (v : Value) (n : Nat) (xs : List Value) (hs : a.eval s = v) (hown : w.ownsRow base e size v n xs)
    (b0 : Nat) (v2 : Value) (m : Nat) (news : List Value) (hx : a.eval x = v2) (hsrc : w.ownsRow b0 e size v2 m news) (h1 : ∀ u ∈ news, u.oneCell' = true)
    (h63 : n + m ≤ maxLen) (hbytes : (n + m) * bytes ≤ 140737488355328) (hbase : base ≤ w.heap.size)
    (h : ∀ p' c' w', w'.ownsRow base e size (.slice p' (n + m) c') (n + m) (xs ++ news) → w.grownBy w' v.ownBlock → ((Value.slice p' (n + m) c').ownBlock = v.ownBlock ∨ (Value.slice p' (n + m) c').ownBlock = some w.heap.size) → wpList P ops Q rest (a.put o.dst (.slice p' (n + m) c')) w') : wpList P ops Q (o :: rest) a w := by
  rcases hsrc.2 with ⟨rfl, rfl⟩ | ⟨g, cap, cur, rfl, _⟩
  · have hn : news = [] := List.length_eq_zero_iff.1 (by rw [hsrc.1, Nat.zero_mul])
    subst hn
    obtain ⟨p, c, rfl⟩ := owns_slice hown
    refine wpList_append_own_none hgd s x t ho base e i size ht hi _ n xs hs hown hx (h p c w ?_ (World.grownBy.refl w _) (.inl rfl))
    rw [Nat.add_zero, List.append_nil]
    exact hown
  · refine wpList_append_own_at w hgd s x t ho base e i z size bytes ht hi hz hsize hby hzs hsz v n xs hs hown ⟨g, 0, none⟩ m cap news hx hsrc.1 (hsrc.cells rfl) h1 h63 hbytes hbase fun v' w' a b _ l => ?_
    obtain ⟨p', c', rfl⟩ := owns_slice a
    exact h p' c' w' a b l

def upd (f : Nat → Nat) (i v : Nat) : Nat → Nat := fun j => if j = i then v else f j
theorem upd_at (f : Nat → Nat) (i v : Nat) : upd f i v i = v := if_pos rfl
theorem upd_ne {f : Nat → Nat} {i v j : Nat} (h : j ≠ i) : upd f i v j = f j := if_neg h

/-- Block b holds k numbers. -/
def RowN (w : World) (b : Nat) (t : TypeId) (k : Nat) (f : Nat → Nat) : Prop := ∃ cs : Array Value, Box w b t cs ∧ cs.size = k ∧ ∀ i, i < k → cs[i]? = some (natV (f i))
section
variable {w w' : World} {b k : Nat} {t : TypeId} {f : Nat → Nat}
theorem RowN.cell (h : RowN w b t k f) {i : Nat} (hi : i < k) : w.cell? ⟨b, i, none⟩ = some (.int .i64 (f i : Int)) := by
  obtain ⟨cs, h1, h2, h3⟩ := h
  rw [h1.cell, h3 i hi]
  rfl
theorem RowN.frozen (h : RowN w b t k f) (i : Nat) : w.frozen? ⟨b, i, none⟩ = false := by
  obtain ⟨cs, h1, _⟩ := h
  exact h1.frozen i
theorem RowN.lt (h : RowN w b t k f) : b < w.heap.size := by
  obtain ⟨cs, h1, _⟩ := h
  exact h1.lt
theorem RowN.same (h : RowN w b t k f) (e : w'.heap[b]? = w.heap[b]?) : RowN w' b t k f := by
  obtain ⟨cs, h1, h2⟩ := h
  exact ⟨cs, e.trans h1, h2⟩
theorem RowN.other {c i : Nat} (h : RowN w b t k f) (hne : b ≠ c) (u : Value) : RowN (w.setCell ⟨c, i, none⟩ u) b t k f := by
  obtain ⟨cs, h1, h2⟩ := h
  exact ⟨cs, h1.other hne u, h2⟩
theorem RowN.congr {f' : Nat → Nat} (h : RowN w b t k f) (e : ∀ i, i < k → f i = f' i) : RowN w b t k f' := by
  obtain ⟨cs, h1, h2, h3⟩ := h
  exact ⟨cs, h1, h2, fun i hi => by rw [h3 i hi, e i hi]⟩
theorem RowN.set (h : RowN w b t k f) (i v : Nat) : RowN (w.setCell ⟨b, i, none⟩ (.int .i64 (v : Int))) b t k (upd f i v) := by
  obtain ⟨cs, h1, h2, h3⟩ := h
  refine ⟨_, h1.set i _, by simp [h2], fun j hj => ?_⟩
  by_cases c : j = i
  · subst c
    rw [upd_at, Array.getElem?_setIfInBounds_self_of_lt (by omega)]
    rfl
  · rw [upd_ne c, Array.getElem?_setIfInBounds_ne (fun e => c e.symm), h3 j hj]
theorem RowN.ne {b' k' : Nat} {t' : TypeId} {f' : Nat → Nat} (h : RowN w b t k f) (h' : RowN w b' t' k' f') (hne : t ≠ t') : b ≠ b' := by
  obtain ⟨cs, h1, _⟩ := h
  obtain ⟨cs', h1', _⟩ := h'
  exact h1.ne h1' hne
theorem RowN.box_ne {b' : Nat} {t' : TypeId} {cs' : Array Value} (h : RowN w b t k f) (h' : Box w b' t' cs') (hne : t ≠ t') : b ≠ b' := by
  obtain ⟨cs, h1, _⟩ := h
  exact h1.ne h' hne
end

theorem madeCells_get (z : Array Value) (k i : Nat) (v : Value) (hz : ∀ j, j < z.size → z[j]! = v) (h0 : 0 < z.size) (hi : i < k) : (madeCells z k)[i]? = some v := by
  unfold madeCells
  simp [hi]
  exact hz (i % z.size) (Nat.mod_lt _ h0)
theorem RowN.made (w : World) (t : TypeId) (z : Array Value) (k : Nat) (hz : ∀ j, j < z.size → z[j]! = natV 0) (h0 : 0 < z.size) : RowN (w.alloc (.cells (madeCells z k) t)) w.heap.size t k (fun _ => 0) :=
  ⟨_, Box.new w t _, size_madeCells _ _, fun i hi => madeCells_get z k i _ hz h0 hi⟩
theorem RowN.owns {w : World} {b k : Nat} {t : TypeId} {f : Nat → Nat} (h : RowN w b t k f) (l : List Nat) (hl : l.length = k) (hf : ∀ i (hi : i < l.length), f i = l[i]) {base : Nat} (hb : base ≤ b) (hk : k ≤ maxLen) : w.ownsRow base t 1 (.slice (some ⟨b, 0, none⟩) l.length k) l.length (l.map natV) := by
  obtain ⟨cs, h1, h2, h3⟩ := h
  refine ⟨by simp, .inr ⟨b, k, cs, rfl, hb, h1, by omega, hk, by omega, ?_⟩⟩
  apply List.ext_getElem?
  intro i
  by_cases hi : i < l.length
  · rw [List.getElem?_take, if_pos (by omega), Array.getElem?_toList, h3 i (by omega), hf i hi, List.getElem?_map, List.getElem?_eq_getElem hi]
    rfl
  · rw [List.getElem?_take, if_neg (by omega), List.getElem?_eq_none (by simp; omega)]

/-- make of k elements, each of some cells: the world behind it. -/
theorem run_make_cells {P : Program} (t e : TypeId) (i : TypeInfo) (z : Value) (size : Nat) (ht : P.underlying t = some (.slice e)) (hi : P.info? e = some i) (hz : i.zero = some z) (hsize : i.size = size)
    (L : Int) (k : Nat) (hL : L = (k : Int)) (hbytes : (i.bytes : Int) * k ≤ 281474976710656) (h63 : k ≤ 65600) (W : World) :
    (Instr.makeSlice t (.int .i64 L) (.int .i64 L)).run P W = .ok (.slice (some ⟨W.heap.size, 0, none⟩) k k) (W.alloc (.cells (madeCells z.cells (k * size)) e)) := by
  subst hL
  have hrun := run_make (P := P) W t e i z ht hi hz .i64 .i64 k k (by omega) (by omega) hbytes (by omega)
  simp only [Int.toNat_natCast, hsize] at hrun
  exact hrun

/-- append of what another slice owns, as one step of a region that draws its order. -/
theorem step_append_any {P : Program} {w : World} {ops : Array Oper} {o : Oper} {a : Act} {K : Act → World → Prop} {Q : Exit → Act → World → Prop} {E : Prop} (hgd : o.guard = none) (s x : Operand) (t : TypeId)
    (ho : o.op = .call { callee := .builtin .append, args := #[s, x], argTypes := #[t, t] })
    (base : Nat) (e : TypeId) (i : TypeInfo) (z : Value) (size bytes : Nat) (ht : P.underlying t = some (.slice e)) (hi : P.info? e = some i) (hz : i.zero = some z)
    (hsize : i.size = size) (hby : i.bytes = bytes) (hzs : z.cells.size = size) (hsz : 0 < size)
    (v : Value) (n : Nat) (xs : List Value) (hs : a.eval s = v) (hown : w.ownsRow base e size v n xs)
    (b0 : Nat) (v2 : Value) (m : Nat) (news : List Value) (hx : a.eval x = v2) (hsrc : w.ownsRow b0 e size v2 m news) (h1 : ∀ u ∈ news, u.oneCell' = true)
    (N : Nat) (hN : n + m = N) (h63 : N ≤ maxLen) (hbytes : N * bytes ≤ 140737488355328) (hbase : base ≤ w.heap.size)
    (h : ∀ p' c' w', w'.ownsRow base e size (.slice p' N c') N (xs ++ news) → w.grownBy w' v.ownBlock → ((Value.slice p' N c').ownBlock = v.ownBlock ∨ (Value.slice p' N c').ownBlock = some w.heap.size) → K (a.put o.dst (.slice p' N c')) w') :
    if Region.wanted o (yielded ops a.tmps) = true then Oper.wp P o a w K Q else E := by
  subst hN
  have hw : Region.wanted o (yielded ops a.tmps) = true := by simp [Region.wanted, hgd]
  rw [if_pos hw]
  rcases hsrc.2 with ⟨rfl, rfl⟩ | ⟨g, cap, cur, rfl, _⟩
  · have hn : news = [] := List.length_eq_zero_iff.1 (by rw [hsrc.1, Nat.zero_mul])
    subst hn
    obtain ⟨p, c, rfl⟩ := owns_slice hown
    have hrun := run_append_owned_none (P := P) (w := w) base t o.type e i size ht hi _ n xs hown
    unfold Oper.wp
    simp [execOp, ho, resolve, invoke, builtin, hs, hx, hrun, Result.andThen]
    refine h p c w ?_ (World.grownBy.refl w _) (.inl rfl)
    rw [Nat.add_zero, List.append_nil]
    exact hown
  · obtain ⟨v', w', hrun, a1, a2, _, a3⟩ := run_append_own_at (P := P) w base t o.type e i z size bytes ht hi hz hsize hby hzs hsz v n xs hown ⟨g, 0, none⟩ m cap news hsrc.1 (hsrc.cells rfl) h1 h63 hbytes hbase
    obtain ⟨p', c', rfl⟩ := owns_slice a1
    unfold Oper.wp
    simp [execOp, ho, resolve, invoke, builtin, hs, hx, hrun, Result.andThen]
    exact h p' c' w' a1 a2 a3

/-- A number is stored into a row of the call's own. -/
theorem own_put {w : World} {base e n c B j : Nat} {xs : List Value} (h : w.ownsRow base e 1 (.slice (some ⟨B, 0, none⟩) n c) n xs) (hj : j < n) (u : Value) : (∃ v, w.cell? ⟨B, j, none⟩ = some v) ∧ w.frozen? ⟨B, j, none⟩ = false ∧ ∃ ys, (w.setCell ⟨B, j, none⟩ u).ownsRow base e 1 (.slice (some ⟨B, 0, none⟩) n c) n ys := by
  rcases h.2 with ⟨e', _⟩ | ⟨g, cap, cur, e', h2, h3, h4, h5, h6, h7⟩
  · cases e'
  · cases e'
    have hb : Box w B e cur := h3
    refine ⟨⟨cur[j]'(by omega), ?_⟩, hb.frozen j, (cur.setIfInBounds j u).toList.take (n * 1), ?_, .inr ⟨B, c, cur.setIfInBounds j u, rfl, h2, hb.set j u, h4, h5, by simpa using h6, rfl⟩⟩
    · rw [hb.cell, Array.getElem?_eq_getElem (by omega)]
    · simp
      omega

theorem below_grown {w wx w5 : World} {base e n : Nat} {v : Value} {xs : List Value} (lo : Below w.heap.size w wx) (r : wx.ownsRow base e 1 v n xs) (hb : w.heap.size ≤ base) (g : wx.grownBy w5 v.ownBlock) : Below w.heap.size w w5 :=
  lo.trans ⟨g.os, g.tape, g.output, g.size, fun k hk => g.block k (Nat.lt_of_lt_of_le hk lo.size) (fun e => by
    have := (r.lt k e.symm).1
    omega)⟩
theorem own_put1 {w : World} {base e s n c g j : Nat} {xs : List Value} (h : w.ownsRow base e s (.slice (some ⟨g, 0, none⟩) n c) n xs) (v : Value) : (w.setCell ⟨g, j, none⟩ v).ownsRow base e s (.slice (some ⟨g, 0, none⟩) n c) n (xs.set j v) := by
  refine ⟨by rw [List.length_set]; exact h.1, ?_⟩
  rcases h.2 with ⟨h1, _⟩ | ⟨g', cap, cur, h1, h2, h3, h4, h5, h6, h7⟩
  · cases h1
  · cases h1
    have hb : Box w g e cur := h3
    refine .inr ⟨g, c, _, rfl, h2, hb.set j v, h4, h5, by simpa using h6, ?_⟩
    rw [Array.toList_setIfInBounds, List.take_set, h7]

end Go.Proofs.Ytmokkbhfhbgkmaa
