/-
  What a law of layer 6 asks of the program's own tree: a red-black tree (RB), in blocks of its own (N).
-/
import Derived.Test.YtkiibobpejoaeaaMem
import Derived.Test.YtkiibobpejoaeaaTreeGhost
namespace Go.Proofs.Ytkiibobpejoaeaa
open Go.RowKit
set_option linter.unusedVariables false

def I64 (n : Int) : Prop := -9223372036854775808 ≤ n ∧ n ≤ 9223372036854775807
theorem i64_nat {n : Nat} (h : n ≤ 65536) : I64 (n : Int) := ⟨by omega, by omega⟩
theorem i64_wf {n : Int} (h : (Lit.int .i64 n).wf = true) : I64 n := by
  simp [Lit.wf, IntKind.min, IntKind.max, IntKind.signed, IntKind.bits] at h
  exact ⟨by omega, by omega⟩
def Ky.Fits (k : Ky) : Prop := k.at_ < 18446744073709551616 ∧ k.seq < 18446744073709551616
def En.Fits (e : En) : Prop := e.key.Fits ∧ I64 e.val
def kyC (k : Ky) : List Value := [.int .u64 (k.at_ : Int), .int .u64 (k.seq : Int)]
def kyV (k : Ky) : Value := .agg #[.int .u64 (k.at_ : Int), .int .u64 (k.seq : Int)]
def enC (e : En) : List Value := [.int .u64 (e.key.at_ : Int), .int .u64 (e.key.seq : Int), .int .i64 e.val]
def enV (e : En) : Value := .agg #[.int .u64 (e.key.at_ : Int), .int .u64 (e.key.seq : Int), .int .i64 e.val]
def twC (x : Tw) : List Value := [.int .u64 (x.key.at_ : Int), .int .u64 (x.key.seq : Int), .bool x.red, .int .i64 x.up]
def noEn : En := ⟨⟨0, 0⟩, 0⟩
/-- An entry, if there is one, and whether there is. -/
def outE (o : Option En) : Value := .tuple #[enV (o.getD noEn), .bool o.isSome]
/-- A number, if there is one, and whether there is. -/
def outI (o : Option Int) : Value := .tuple #[.int .i64 (o.getD 0), .bool o.isSome]

/-- A tree, and for how many keys there is room. -/
structure Tg where
  room : Nat
  t : RB
def Tg.l (g : Tg) : List En := g.t.toL
structure Tg.Ok (g : Tg) : Prop where
  rises : Rises g.l
  bal : ∃ n, g.t.Bal true n
  fits : ∀ e, e ∈ g.l → e.Fits
  room : g.l.length ≤ g.room
  one : 1 ≤ g.room
  small : g.room ≤ 65536
/-- Put: what it answers, and what is there then. -/
def putE (room : Nat) (l : List En) (k : Ky) : Nat := if (getL k l).isSome then 60 else if room ≤ l.length then 4 else 0
def putL (room : Nat) (l : List En) (k : Ky) (v : Int) : List En := if putE room l k = 0 then insL k v l else l

def NewT (At : (Nat → Prop) → World → Addr → Tg → Prop) (w : World) (room : Nat) (e : Ending) (w' : World) : Prop :=
  ∃ a N, e = .returned (.tuple #[.pointer (some a), .int .i64 0]) ∧ At N w' a ⟨room, .leaf⟩ ∧ (∀ k, N k → w.heap.size ≤ k) ∧ Below w.heap.size w w'
/-- Behind a call that may turn it: some tree that is in order, with such entries. -/
def TurnT (At : (Nat → Prop) → World → Addr → Tg → Prop) (N : Nat → Prop) (w : World) (a : Addr) (room : Nat) (l : List En) (w' : World) : Prop :=
  ∃ g : Tg, g.room = room ∧ g.l = l ∧ g.Ok ∧ WentG At N w a g w'
/-- What is handed out is in memory of its own. -/
def AllC (w : World) (l : List En) (e : Ending) (w' : World) : Prop :=
  ∃ p c, e = .returned (.slice p l.length c) ∧ w'.ownsRow w.heap.size 126 3 (.slice p l.length c) l.length (l.flatMap enC) ∧ Below w.heap.size w w'

structure TreeK where
  At : (Nat → Prop) → World → Addr → Tg → Prop
  lt : ∀ {N w a g}, At N w a g → ∀ k, N k → k < w.heap.size
  kept : ∀ {N w w' a g}, At N w a g → (∀ k, N k → w'.heap[k]? = w.heap[k]?) → w.heap.size ≤ w'.heap.size → At N w' a g
  new : ∀ (room : Nat) (w : World), 1 ≤ room → room ≤ 65536 → Calls Try.prog 47 #[.int .i64 (room : Int)] w (NewT At w room)
  new_no : ∀ (room : Int) (w : World), (room < 1 ∨ 65536 < room) → Calls Try.prog 47 #[.int .i64 room] w fun e w' => e = .returned (.tuple #[.pointer none, .int .i64 2]) ∧ Below w.heap.size w w'
  put : ∀ {N w a g} (k : Ky) (v : Int), At N w a g → g.Ok → k.Fits → I64 v → Calls Try.prog 52 #[.pointer (some a), kyV k, .int .i64 v] w fun e w' => e = .returned (.int .i64 (putE g.room g.l k : Nat)) ∧ TurnT At N w a g.room (putL g.room g.l k v) w'
  drop : ∀ {N w a g} (k : Ky), At N w a g → g.Ok → k.Fits → Calls Try.prog 55 #[.pointer (some a), kyV k] w fun e w' => e = .returned (outI (getL k g.l)) ∧ TurnT At N w a g.room (delL k g.l) w'
  get : ∀ {N w a g} (k : Ky), At N w a g → g.Ok → k.Fits → Calls Try.prog 69 #[.pointer (some a), kyV k] w fun e w' => e = .returned (outI (getL k g.l)) ∧ Below w.heap.size w w'
  first : ∀ {N w a g}, At N w a g → g.Ok → Calls Try.prog 75 #[.pointer (some a)] w fun e w' => e = .returned (outE g.l.head?) ∧ Below w.heap.size w w'
  len : ∀ {N w a g}, At N w a g → g.Ok → Calls Try.prog 58 #[.pointer (some a)] w fun e w' => e = .returned (.int .i64 (g.l.length : Nat)) ∧ Below w.heap.size w w'
  room : ∀ {N w a g}, At N w a g → g.Ok → Calls Try.prog 50 #[.pointer (some a)] w fun e w' => e = .returned (.int .i64 (g.room : Nat)) ∧ Below w.heap.size w w'
  all : ∀ {N w a g}, At N w a g → g.Ok → Calls Try.prog 59 #[.pointer (some a)] w (AllC w g.l)

theorem TreeK.below (K : TreeK) {N w w' a g} (h : K.At N w a g) (b : Below w.heap.size w w') : K.At N w' a g :=
  K.kept h (fun k hk => b.block k (K.lt h k hk)) b.size

/-- A tree of the call's own, behind some of its calls. -/
structure OwnT (K : TreeK) (w W : World) (a : Addr) (N : Nat → Prop) (g : Tg) : Prop where
  at_ : K.At N W a g
  ok : g.Ok
  new : ∀ k, N k → w.heap.size ≤ k
  lo : Below w.heap.size w W
/-- What a step of the tree leaves of all else. -/
structure SteppedT (W W' : World) (N N' : Nat → Prop) : Prop where
  turned : Turned N W W'
  own : ∀ k, N' k → N k ∨ W.heap.size ≤ k
/-- A row of the call's own, none of the tree's. -/
structure MineT (w W : World) (N : Nat → Prop) (t : TypeId) (sz : Nat) (v : Value) (m : Nat) (xs : List Value) : Prop where
  row : W.ownsRow w.heap.size t sz v m xs
  off : OffV N v
section
variable {K : TreeK} {w W W' : World} {a : Addr} {N N' : Nat → Prop} {g g' : Tg}
theorem OwnT.below (h : OwnT K w W a N g) (b : Below W.heap.size W W') : OwnT K w W' a N g :=
  ⟨K.below h.at_ b, h.ok, h.new, below_tr h.lo b⟩
theorem OwnT.went {room : Nat} {l : List En} (h : OwnT K w W a N g) (t : TurnT K.At N W a room l W') : ∃ N' g', g'.room = room ∧ g'.l = l ∧ OwnT K w W' a N' g' ∧ SteppedT W W' N N' := by
  obtain ⟨g', e1, e2, ok, N', h1, h2, h3⟩ := t
  refine ⟨N', g', e1, e2, ⟨h1, ok, fun k hk => ?_, below_turned h2 h.lo.size h.new h.lo⟩, ⟨h2, h3⟩⟩
  rcases h3 k hk with h4 | h4
  · exact h.new k h4
  · exact Nat.le_trans h.lo.size h4
theorem MineT.below {t : TypeId} {sz : Nat} {v : Value} {m : Nat} {xs : List Value} (h : MineT w W N t sz v m xs) (b : Below W.heap.size W W') : MineT w W' N t sz v m xs := ⟨owns_below h.row b, h.off⟩
theorem MineT.step {t : TypeId} {sz : Nat} {v : Value} {m : Nat} {xs : List Value} (h : MineT w W N t sz v m xs) (s : SteppedT W W' N N') : MineT w W' N' t sz v m xs :=
  ⟨own_turnedV h.row h.off s.turned, h.off.went h.row s.own⟩
theorem OwnT.new_ (K : TreeK) (w : World) (room : Nat) (h1 : 1 ≤ room) (h2 : room ≤ 65536) (W : World) (lo : Below w.heap.size w W) : Calls Try.prog 47 #[.int .i64 (room : Int)] W fun e W' => ∃ a N, e = .returned (.tuple #[.pointer (some a), .int .i64 0]) ∧ OwnT K w W' a N ⟨room, .leaf⟩ ∧ Below W.heap.size W W' ∧ ∀ k, N k → W.heap.size ≤ k := by
  refine (K.new room W h1 h2).mono ?_
  rintro e W' ⟨a, N, rfl, h3, h4, h5⟩
  exact ⟨a, N, rfl, ⟨h3, ⟨List.Pairwise.nil, ⟨0, rfl⟩, fun e he => by simp [Tg.l, RB.toL] at he, Nat.zero_le _, h1, h2⟩, fun k hk => Nat.le_trans lo.size (h4 k hk), below_tr lo h5⟩, h5, h4⟩
theorem OwnT.put (h : OwnT K w W a N g) (k : Ky) (v : Int) (hk : k.Fits) (hv : I64 v) : Calls Try.prog 52 #[.pointer (some a), kyV k, .int .i64 v] W fun e W' => e = .returned (.int .i64 (putE g.room g.l k : Nat)) ∧ ∃ N' g', g'.room = g.room ∧ g'.l = putL g.room g.l k v ∧ OwnT K w W' a N' g' ∧ SteppedT W W' N N' := by
  refine (K.put k v h.at_ h.ok hk hv).mono ?_
  rintro e W' ⟨rfl, t⟩
  exact ⟨rfl, h.went t⟩
theorem OwnT.drop (h : OwnT K w W a N g) (k : Ky) (hk : k.Fits) : Calls Try.prog 55 #[.pointer (some a), kyV k] W fun e W' => e = .returned (outI (getL k g.l)) ∧ ∃ N' g', g'.room = g.room ∧ g'.l = delL k g.l ∧ OwnT K w W' a N' g' ∧ SteppedT W W' N N' := by
  refine (K.drop k h.at_ h.ok hk).mono ?_
  rintro e W' ⟨rfl, t⟩
  exact ⟨rfl, h.went t⟩
theorem OwnT.get (h : OwnT K w W a N g) (k : Ky) (hk : k.Fits) : Calls Try.prog 69 #[.pointer (some a), kyV k] W fun e W' => e = .returned (outI (getL k g.l)) ∧ OwnT K w W' a N g ∧ Below W.heap.size W W' := by
  refine (K.get k h.at_ h.ok hk).mono ?_
  rintro e W' ⟨rfl, b⟩
  exact ⟨rfl, h.below b, b⟩
theorem OwnT.first (h : OwnT K w W a N g) : Calls Try.prog 75 #[.pointer (some a)] W fun e W' => e = .returned (outE g.l.head?) ∧ OwnT K w W' a N g ∧ Below W.heap.size W W' := by
  refine (K.first h.at_ h.ok).mono ?_
  rintro e W' ⟨rfl, b⟩
  exact ⟨rfl, h.below b, b⟩
theorem OwnT.len (h : OwnT K w W a N g) : Calls Try.prog 58 #[.pointer (some a)] W fun e W' => e = .returned (.int .i64 (g.l.length : Nat)) ∧ OwnT K w W' a N g ∧ Below W.heap.size W W' := by
  refine (K.len h.at_ h.ok).mono ?_
  rintro e W' ⟨rfl, b⟩
  exact ⟨rfl, h.below b, b⟩
theorem OwnT.room (h : OwnT K w W a N g) : Calls Try.prog 50 #[.pointer (some a)] W fun e W' => e = .returned (.int .i64 (g.room : Nat)) ∧ OwnT K w W' a N g ∧ Below W.heap.size W W' := by
  refine (K.room h.at_ h.ok).mono ?_
  rintro e W' ⟨rfl, b⟩
  exact ⟨rfl, h.below b, b⟩
theorem OwnT.all (h : OwnT K w W a N g) : Calls Try.prog 59 #[.pointer (some a)] W fun e W' => ∃ p c, e = .returned (.slice p g.l.length c) ∧ MineT w W' N 126 3 (.slice p g.l.length c) g.l.length (g.l.flatMap enC) ∧ OwnT K w W' a N g ∧ Below W.heap.size W W' := by
  refine (K.all h.at_ h.ok).mono ?_
  rintro e W' ⟨p, c, rfl, o, b⟩
  exact ⟨p, c, rfl, ⟨own_low o h.lo.size, OffV.fresh (fun k hk => K.lt h.at_ k hk) o⟩, h.below b, b⟩
end

/-- Rows of as many cells each: what lies where. -/
theorem flat_get {α : Type} (f : α → List Value) (k : Nat) (hf : ∀ x, (f x).length = k) : ∀ (l : List α) (i j : Nat), j < k → (l.flatMap f)[i * k + j]? = l[i]?.bind fun x => (f x)[j]?
  | [], i, j, _ => by simp
  | x :: t, 0, j, hj => by
    rw [List.flatMap_cons, Nat.zero_mul, Nat.zero_add, List.getElem?_append_left (by rw [hf]; exact hj)]
    rfl
  | x :: t, i + 1, j, hj => by
    rw [List.flatMap_cons, List.getElem?_append_right (by rw [hf, Nat.succ_mul]; omega), hf, Nat.succ_mul, show i * k + k + j - k = i * k + j by omega, flat_get f k hf t i j hj]
    rfl
/-- What a row of entries reads. -/
theorem en_cells {W : World} {base n c : Nat} {p : Option Addr} {l : List En} (h : W.ownsRow base 126 3 (.slice p n c) l.length (l.flatMap enC)) {i : Nat} (hi : i < l.length) :
    ∃ B, p = some ⟨B, 0, none⟩ ∧ B < W.heap.size ∧ W.cell? ⟨B, i * 3, none⟩ = some (.int .u64 (l[i].key.at_ : Int)) ∧ W.cell? ⟨B, i * 3 + 1, none⟩ = some (.int .u64 (l[i].key.seq : Int)) ∧ W.cell? ⟨B, i * 3 + 2, none⟩ = some (.int .i64 l[i].val) := by
  rcases h.2 with ⟨_, e⟩ | ⟨B, cap, cur, e, h2, h3, h4, h5, h6, h7⟩
  · omega
  · cases e
    have hb := (Array.getElem?_eq_some_iff.1 h3).1
    have g : ∀ j, j < 3 → W.cell? ⟨B, i * 3 + j, none⟩ = (enC l[i])[j]? := by
      intro j hj
      rw [cell_of_row W B (i * 3 + j) cur _ (0, 0) h3]
      have e1 := flat_get enC 3 (fun _ => rfl) l i j hj
      rw [List.getElem?_eq_getElem hi] at e1
      rw [← h7, List.getElem?_take, if_pos (by omega)] at e1
      simpa using e1
    exact ⟨B, rfl, hb, g 0 (by omega), g 1 (by omega), g 2 (by omega)⟩


end Go.Proofs.Ytkiibobpejoaeaa
