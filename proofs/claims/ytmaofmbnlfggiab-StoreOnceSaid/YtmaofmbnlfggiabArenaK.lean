/-
  What a law of layer 4 asks of the program's own arena: an arena in lists (Gh), in blocks of its own (N).
-/
import Derived.Test.YtmaofmbnlfggiabArenaGhost
import Derived.Test.YtmaofmbnlfggiabOpen
namespace Go.Proofs.Ytmaofmbnlfggiab
open Go.RowKit
set_option linter.unusedVariables false

/-- Behind a call that may turn the arena. -/
def Went (At : (Nat → Prop) → World → Addr → Gh → Prop) (N : Nat → Prop) (w : World) (a : Addr) (g : Gh) (w' : World) : Prop :=
  ∃ N', At N' w' a g ∧ Turned N w w' ∧ ∀ k, N' k → N k ∨ w.heap.size ≤ k
def TookP (At : (Nat → Prop) → World → Addr → Gh → Prop) (N : Nat → Prop) (w : World) (a : Addr) (g : Gh) (h x : Nat) (e : Ending) (w' : World) : Prop := e = .returned (.tuple #[.int .u64 (h : Int), .int .i64 (x : Int)]) ∧ Went At N w a g w'
def GaveP (At : (Nat → Prop) → World → Addr → Gh → Prop) (N : Nat → Prop) (w : World) (a : Addr) (g : Gh) (x : Nat) (e : Ending) (w' : World) : Prop := e = .returned (.int .i64 (x : Int)) ∧ Went At N w a g w'
def NewP (At : (Nat → Prop) → World → Addr → Gh → Prop) (w : World) (room : Nat) (e : Ending) (w' : World) : Prop :=
  ∃ a N, e = .returned (.tuple #[.pointer (some a), .int .i64 0]) ∧ At N w' a (Gh.new room) ∧ (∀ k, N k → w.heap.size ≤ k) ∧ Below w.heap.size w w'

structure ArenaK where
  At : (Nat → Prop) → World → Addr → Gh → Prop
  lt : ∀ {N w a g}, At N w a g → ∀ k, N k → k < w.heap.size
  kept : ∀ {N w w' a g}, At N w a g → (∀ k, N k → w'.heap[k]? = w.heap[k]?) → w.heap.size ≤ w'.heap.size → At N w' a g
  new : ∀ (room : Nat) (w : World), 1 ≤ room → room ≤ 65536 → Calls Try.prog 21 #[.int .i64 (room : Int)] w (NewP At w room)
  new_no : ∀ (room : Int) (w : World), (room < 1 ∨ 65536 < room) → Calls Try.prog 21 #[.int .i64 room] w fun e w' => e = .returned (.tuple #[.pointer none, .int .i64 2]) ∧ Below w.heap.size w w'
  take_full : ∀ {N w a g M}, At N w a g → g.Ok M → M ≤ 1000 → g.full → Calls Try.prog 25 #[.pointer (some a)] w (TookP At N w a g 0 4)
  take : ∀ {N w a g M}, At N w a g → g.Ok M → M ≤ 1000 → ¬ g.full → Calls Try.prog 25 #[.pointer (some a)] w (TookP At N w a g.take g.handle 0)
  give_no : ∀ {N w a g M} (x : Nat), At N w a g → g.Ok M → M ≤ 1000 → x < 18446744073709551616 → placeOf g.ts g.l x = none → Calls Try.prog 30 #[.pointer (some a), .int .u64 (x : Int)] w (GaveP At N w a g 40)
  give : ∀ {N w a g M} (x p : Nat), At N w a g → g.Ok M → M ≤ 1000 → x < 18446744073709551616 → placeOf g.ts g.l x = some p → Calls Try.prog 30 #[.pointer (some a), .int .u64 (x : Int)] w (GaveP At N w a (g.give p) 0)
  place : ∀ {N w a g M} (x : Nat), At N w a g → g.Ok M → M ≤ 1000 → x < 18446744073709551616 → Calls Try.prog 26 #[.pointer (some a), .int .u64 (x : Int)] w fun e w' => e = .returned (placeV (placeOf g.ts g.l x)) ∧ Below w.heap.size w w'
  used : ∀ {N w a g M}, At N w a g → g.Ok M → Calls Try.prog 32 #[.pointer (some a)] w fun e w' => e = .returned (.int .i64 (g.l.count true : Nat)) ∧ Below w.heap.size w w'

theorem ArenaK.below (K : ArenaK) {N w w' a g} (h : K.At N w a g) (b : Below w.heap.size w w') : K.At N w' a g :=
  K.kept h (fun k hk => b.block k (K.lt h k hk)) b.size

/-- Between two calls: the program's arena, the document's, and the handles that were taken. -/
structure Play (K : ArenaK) (w W : World) (a : Addr) (B : Nat) (N : Nat → Prop) (g : Gh) (M : Nat) (vt vk vb : Value) (p : Option Addr) (c : Nat) (H : List Nat) : Prop where
  at_ : K.At N W a g
  ok : g.Ok M
  new : ∀ k, N k → w.heap.size ≤ k
  box : Boxed4 W B vt vk vb (.int .i64 (g.room : Int))
  boxN : ¬ N B
  boxw : w.heap.size ≤ B
  ref : RAt N W (.agg #[vt, vk, vb, .int .i64 (g.room : Int)]) g
  row : W.ownsRow w.heap.size 32 1 (.slice p H.length c) H.length (H.map u64V)
  off : Off N p H.length c
  small : ∀ h, h ∈ H → h < 18446744073709551616
  lo : Below w.heap.size w W

section
variable {K : ArenaK} {w W W' : World} {a : Addr} {B : Nat} {N : Nat → Prop} {g : Gh} {M : Nat} {vt vk vb : Value} {p : Option Addr} {c : Nat} {H : List Nat}
/-- Behind what turns nothing that lay. -/
theorem Play.below (h : Play K w W a B N g M vt vk vb p c H) (b : Below W.heap.size W W') : Play K w W' a B N g M vt vk vb p c H :=
  ⟨K.below h.at_ b, h.ok, h.new, h.box.below b, h.boxN, h.boxw, h.ref.below b, owns_below h.row b, h.off, h.small, h.lo.trans (b.mono h.lo.size)⟩
theorem Boxed4.turned {N : Nat → Prop} {b : Nat} {v0 v1 v2 v3 : Value} (h : Boxed4 W b v0 v1 v2 v3) (t : Turned N W W') (hb : ¬ N b) : Boxed4 W' b v0 v1 v2 v3 :=
  (t.block b (Array.getElem?_eq_some_iff.1 h).1 hb).trans h
/-- Behind the program's own step: all but the document's arena goes on. -/
theorem Play.went (h : Play K w W a B N g M vt vk vb p c H) {g' : Gh} (t : Went K.At N W a g' W') :
    ∃ N', K.At N' W' a g' ∧ (∀ k, N' k → w.heap.size ≤ k) ∧ Boxed4 W' B vt vk vb (.int .i64 (g.room : Int)) ∧ ¬ N' B ∧ RAt N' W' (.agg #[vt, vk, vb, .int .i64 (g.room : Int)]) g ∧ W'.ownsRow w.heap.size 32 1 (.slice p H.length c) H.length (H.map u64V) ∧ Off N' p H.length c ∧ Below w.heap.size w W' := by
  obtain ⟨N', h1, h2, h3⟩ := t
  have hs := h.lo.size
  have hlt := (Array.getElem?_eq_some_iff.1 h.box).1
  refine ⟨N', h1, fun k hk => ?_, h.box.turned h2 h.boxN, fun hb => ?_, ?_, own_turned h.row h.off h2, fun k hk he => ?_, below_turned h2 hs h.new h.lo⟩
  · rcases h3 k hk with h4 | h4
    · exact h.new k h4
    · omega
  · rcases h3 B hb with h4 | h4
    · exact h.boxN h4
    · omega
  · have h5 := h.ref
    obtain ⟨pt, ct, pk, ck, pb, cb, e, r1, r2, r3, o1, o2, o3⟩ := h5
    refine ⟨pt, ct, pk, ck, pb, cb, e, own_turned r1 o1 h2, own_turned r2 o2 h2, own_turned r3 o3 h2, fun k hk he => ?_, fun k hk he => ?_, fun k hk he => ?_⟩
    · rcases h3 k hk with h4 | h4
      · exact o1 k h4 he
      · have := (r1.lt k he).2; omega
    · rcases h3 k hk with h4 | h4
      · exact o2 k h4 he
      · have := (r2.lt k he).2; omega
    · rcases h3 k hk with h4 | h4
      · exact o3 k h4 he
      · have := (r3.lt k he).2; omega
  · rcases h3 k hk with h4 | h4
    · exact h.off k h4 he
    · have := (h.row.lt k he).2; omega
end

end Go.Proofs.Ytmaofmbnlfggiab
