/-
  What a law of layer 9 asks of the program's own wheel: a wheel in lists (Wg), in blocks of its own (N).
-/
import Derived.Test.YtkiibobpejoaeaaDoorWheelGhost
import Derived.Test.YtkiibobpejoaeaaDoorBitOwn
namespace Go.Proofs.YtkiibobpejoaeaaDoor
open Go.RowKit
set_option linter.unusedVariables false

/-- The library's table lies as its initialiser lays it, in none of the blocks N. -/
def TabN (N : Nat → Prop) (w : World) : Prop := Tab w ∧ ¬ N 2
theorem Tab.block {w : World} (h : Tab w) : 2 < w.heap.size := World.block_lt_of_cell? w _ (h 0 (by decide))
theorem TabN.turned {N : Nat → Prop} {w w' : World} (h : TabN N w) (t : Turned N w w') : Tab w' := fun j hj => by
  have e := t.block _ h.1.block h.2
  have c := h.1 j hj
  unfold World.cell? at c ⊢
  simp only at c ⊢
  rw [e]
  exact c
theorem TabN.less {N N' : Nat → Prop} {w : World} (h : TabN N w) (hn : ∀ k, N' k → N k) : TabN N' w := ⟨h.1, fun k => h.2 (hn _ k)⟩
theorem TabN.off {N : Nat → Prop} {w W : World} (h : Tab w) (hN : ∀ j, N j → w.heap.size ≤ j) (b : Below w.heap.size w W) : TabN N W := ⟨h.below b, fun hn => by have := hN _ hn; have := h.block; omega⟩
def nextV (g : Wg) : Value := .tuple #[.int .u64 (((g.next.map fun s => beginW s g.width).getD 0 : Nat) : Int), .bool g.next.isSome]
structure WheelK where
  At : (Nat → Prop) → World → Addr → Wg → Prop
  lt : ∀ {N w a g}, At N w a g → ∀ k, N k → k < w.heap.size
  kept : ∀ {N w w' a g}, At N w a g → (∀ k, N k → w'.heap[k]? = w.heap[k]?) → w.heap.size ≤ w'.heap.size → At N w' a g
  new : ∀ (slots width room : Nat) (w : World), 2 ≤ slots → slots ≤ 4096 → 1 ≤ width → width ≤ 1099511627776 → 1 ≤ room → room ≤ 65536 → Calls Tryd.prog 5 #[.int .i64 (slots : Int), .int .u64 (width : Int), .int .i64 (room : Int)] w fun e w' => ∃ a N, e = .returned (.tuple #[.pointer (some a), .int .i64 0]) ∧ At N w' a ⟨slots, width, room, 0, [], [], 0⟩ ∧ (∀ k, N k → w.heap.size ≤ k) ∧ Below w.heap.size w w'
  put : ∀ {N w a g} (v t : Nat), At N w a g → g.Ok → g.n < 4294967296 → v < 18446744073709551616 → t < 18446744073709551616 → Calls Tryd.prog 8 #[.pointer (some a), .int .u64 (v : Int), .int .u64 (t : Int)] w fun e w' => e = .returned (.int .i64 (g.putE : Nat)) ∧ WentG At N w a (g.put v (slotW t g.width)) w'
  advance : ∀ {N w a g} (now : Nat), At N w a g → g.Ok → now < 18446744073709551616 → TabN N w → Calls Tryd.prog 10 #[.pointer (some a), .int .u64 (now : Int)] w fun e w' => e = .returned (.int .i64 ((g.ripe now).length : Nat)) ∧ WentG At N w a (g.adv now) w'
  take : ∀ {N w a g}, At N w a g → g.Ok → Calls Tryd.prog 12 #[.pointer (some a)] w fun e w' => e = .returned (.tuple #[.int .u64 ((g.due.headD 0 : Nat) : Int), .bool (!g.due.isEmpty)]) ∧ WentG At N w a g.took w'
  due : ∀ {N w a g}, At N w a g → g.Ok → Calls Tryd.prog 16 #[.pointer (some a)] w fun e w' => e = .returned (.int .i64 (g.due.length : Nat)) ∧ Below w.heap.size w w'
  waits : ∀ {N w a g}, At N w a g → g.Ok → Calls Tryd.prog 17 #[.pointer (some a)] w fun e w' => e = .returned (.int .i64 (g.l.length : Nat)) ∧ Below w.heap.size w w'
  cursor : ∀ {N w a g}, At N w a g → g.Ok → Calls Tryd.prog 18 #[.pointer (some a)] w fun e w' => e = .returned (.int .u64 (g.cur : Nat)) ∧ Below w.heap.size w w'
  next : ∀ {N w a g}, At N w a g → g.Ok → Tab w → Calls Tryd.prog 14 #[.pointer (some a)] w fun e w' => e = .returned (nextV g) ∧ Below w.heap.size w w'
  held : ∀ {N w a g}, At N w a g → g.Ok → Calls Tryd.prog 20 #[.pointer (some a)] w fun e w' => ∃ p c, e = .returned (.slice p g.slots c) ∧ w'.ownsRow w.heap.size 3 1 (.slice p g.slots c) g.slots (g.held.map natV) ∧ Below w.heap.size w w'
theorem WheelK.below (K : WheelK) {N w w' a g} (h : K.At N w a g) (b : Below w.heap.size w w') : K.At N w' a g := K.kept h (fun k hk => b.block k (K.lt h k hk)) b.size

/-- A wheel of the call's own, behind some of its calls. -/
def WSt (K : WheelK) (w W : World) (a : Addr) (g : Wg) : Prop := ∃ N, K.At N W a g ∧ g.Ok ∧ (∀ j, N j → w.heap.size ≤ j) ∧ Below w.heap.size w W
section
variable {K : WheelK} {w W W' : World} {a : Addr} {g : Wg}
theorem WSt.lo (h : WSt K w W a g) : Below w.heap.size w W := by
  obtain ⟨N, _, _, _, h⟩ := h
  exact h
theorem WSt.ok (h : WSt K w W a g) : g.Ok := by
  obtain ⟨N, _, h, _⟩ := h
  exact h
theorem WSt.below (h : WSt K w W a g) (b : Below W.heap.size W W') : WSt K w W' a g := by
  obtain ⟨N, h1, h0, h2, h3⟩ := h
  exact ⟨N, K.below h1 b, h0, h2, below_tr h3 b⟩
theorem WSt.went {N : Nat → Prop} {g' : Wg} (ok : g'.Ok) (h2 : ∀ j, N j → w.heap.size ≤ j) (h3 : Below w.heap.size w W) (h : WentG K.At N W a g' W') : WSt K w W' a g' := by
  obtain ⟨N', k1, k2, k3⟩ := h
  refine ⟨N', k1, ok, fun j hj => ?_, below_turned k2 h3.size h2 h3⟩
  rcases k3 j hj with h | h
  · exact h2 j h
  · exact Nat.le_trans h3.size h
theorem new_ok {slots width room : Nat} (h1 : 2 ≤ slots) (h2 : slots ≤ 4096) (h3 : 1 ≤ width) (h4 : width ≤ 1099511627776) (h5 : 1 ≤ room) (h6 : room ≤ 65536) : (⟨slots, width, room, 0, [], [], 0⟩ : Wg).Ok :=
  ⟨h1, h2, h3, h4, h5, h6, (by show 0 < 18446744073709551616; decide), Nat.zero_le _, fun x hx => (by cases hx), fun v hv => (by cases hv), fun x hx => (by cases hx), fun x hx => (by cases hx)⟩
theorem WSt.new_ (K : WheelK) (slots width room : Nat) (w W : World) (lo : Below w.heap.size w W) (h1 : 2 ≤ slots) (h2 : slots ≤ 4096) (h3 : 1 ≤ width) (h4 : width ≤ 1099511627776) (h5 : 1 ≤ room) (h6 : room ≤ 65536) : Calls Tryd.prog 5 #[.int .i64 (slots : Int), .int .u64 (width : Int), .int .i64 (room : Int)] W fun e W' => ∃ a, e = .returned (.tuple #[.pointer (some a), .int .i64 0]) ∧ Hid (WSt K w W' a ⟨slots, width, room, 0, [], [], 0⟩) := by
  refine (K.new slots width room W h1 h2 h3 h4 h5 h6).mono ?_
  rintro e W' ⟨a, N, rfl, k1, k2, k3⟩
  exact ⟨a, rfl, Lib.hid ⟨N, k1, new_ok h1 h2 h3 h4 h5 h6, fun j hj => Nat.le_trans lo.size (k2 j hj), below_tr lo k3⟩⟩
theorem WSt.put (h : WSt K w W a g) (hn : g.n < 4294967296) (v t : Nat) (hv : v < 18446744073709551616) (ht : t < 18446744073709551616) (hs : slotW t g.width < 18446744073709551616) : Calls Tryd.prog 8 #[.pointer (some a), .int .u64 (v : Int), .int .u64 (t : Int)] W fun e W' => e = .returned (.int .i64 (g.putE : Nat)) ∧ Hid (WSt K w W' a (g.put v (slotW t g.width))) := by
  obtain ⟨N, h1, h0, h2, h3⟩ := h
  refine (K.put v t h1 h0 hn hv ht).mono ?_
  rintro e W' ⟨rfl, k⟩
  exact ⟨rfl, Lib.hid (.went (h0.put hv hs) h2 h3 k)⟩
theorem WSt.advance (h : WSt K w W a g) (hT : Tab w) (now : Nat) (hn : now < 18446744073709551616) : Calls Tryd.prog 10 #[.pointer (some a), .int .u64 (now : Int)] W fun e W' => e = .returned (.int .i64 ((g.ripe now).length : Nat)) ∧ Hid (WSt K w W' a (g.adv now)) := by
  obtain ⟨N, h1, h0, h2, h3⟩ := h
  refine (K.advance now h1 h0 hn (.off hT h2 h3)).mono ?_
  rintro e W' ⟨rfl, k⟩
  exact ⟨rfl, Lib.hid (.went (h0.adv hn) h2 h3 k)⟩
theorem WSt.take (h : WSt K w W a g) : Calls Tryd.prog 12 #[.pointer (some a)] W fun e W' => e = .returned (.tuple #[.int .u64 ((g.due.headD 0 : Nat) : Int), .bool (!g.due.isEmpty)]) ∧ Hid (WSt K w W' a g.took) := by
  obtain ⟨N, h1, h0, h2, h3⟩ := h
  refine (K.take h1 h0).mono ?_
  rintro e W' ⟨rfl, k⟩
  exact ⟨rfl, Lib.hid (.went h0.took h2 h3 k)⟩
theorem WSt.due (h : WSt K w W a g) : Calls Tryd.prog 16 #[.pointer (some a)] W fun e W' => e = .returned (.int .i64 (g.due.length : Nat)) ∧ Hid (WSt K w W' a g) := by
  have h' := h
  obtain ⟨N, h1, h0, h2, h3⟩ := h
  refine (K.due h1 h0).mono ?_
  rintro e W' ⟨rfl, b⟩
  exact ⟨rfl, Lib.hid (h'.below b)⟩
theorem WSt.waits (h : WSt K w W a g) : Calls Tryd.prog 17 #[.pointer (some a)] W fun e W' => e = .returned (.int .i64 (g.l.length : Nat)) ∧ Hid (WSt K w W' a g) := by
  have h' := h
  obtain ⟨N, h1, h0, h2, h3⟩ := h
  refine (K.waits h1 h0).mono ?_
  rintro e W' ⟨rfl, b⟩
  exact ⟨rfl, Lib.hid (h'.below b)⟩
theorem WSt.cursor (h : WSt K w W a g) : Calls Tryd.prog 18 #[.pointer (some a)] W fun e W' => e = .returned (.int .u64 (g.cur : Nat)) ∧ Hid (WSt K w W' a g) := by
  have h' := h
  obtain ⟨N, h1, h0, h2, h3⟩ := h
  refine (K.cursor h1 h0).mono ?_
  rintro e W' ⟨rfl, b⟩
  exact ⟨rfl, Lib.hid (h'.below b)⟩
theorem WSt.next (h : WSt K w W a g) (hT : Tab w) : Calls Tryd.prog 14 #[.pointer (some a)] W fun e W' => e = .returned (nextV g) ∧ Hid (WSt K w W' a g) := by
  have h' := h
  obtain ⟨N, h1, h0, h2, h3⟩ := h
  refine (K.next h1 h0 (hT.below h3)).mono ?_
  rintro e W' ⟨rfl, b⟩
  exact ⟨rfl, Lib.hid (h'.below b)⟩
theorem WSt.held (h : WSt K w W a g) {n : Nat} (hn : g.slots = n) : Calls Tryd.prog 20 #[.pointer (some a)] W fun e W' => ∃ p c, e = .returned (.slice p n c) ∧ Hid (W'.ownsRow W.heap.size 3 1 (.slice p n c) n (g.held.map natV) ∧ WSt K w W' a g) := by
  have h' := h
  obtain ⟨N, h1, h0, h2, h3⟩ := h
  refine (K.held h1 h0).mono ?_
  rintro e W' ⟨p, c, rfl, r, b⟩
  subst hn
  exact ⟨p, c, rfl, Lib.hid ⟨r, h'.below b⟩⟩
end
theorem sum_one (d : Nat) : ∀ n, ((List.range n).map fun i => if d = i then 1 else 0).sum = if d < n then 1 else 0
  | 0 => by simp
  | n + 1 => by
    rw [List.range_succ, List.map_append, List.sum_append, sum_one d n]
    simp only [List.map_cons, List.map_nil, List.sum_cons, List.sum_nil]
    split <;> split <;> split <;> omega
theorem sum_two (f h : Nat → Nat) : ∀ n, ((List.range n).map fun i => f i + h i).sum = ((List.range n).map f).sum + ((List.range n).map h).sum
  | 0 => rfl
  | n + 1 => by
    simp only [List.range_succ, List.map_append, List.sum_append, sum_two f h n, List.map_cons, List.map_nil, List.sum_cons, List.sum_nil]
    omega
theorem sum_zero : ∀ n, ((List.range n).map fun _ => 0).sum = 0
  | 0 => rfl
  | n + 1 => by simp [List.range_succ, sum_zero n]
/-- What waits stands in one of the slots, each once. -/
theorem held_sum {g : Wg} (h : g.Ok) : g.held.sum = g.l.length := by
  have key : ∀ l : List Th, (∀ x, x ∈ l → g.cur ≤ x.at_ ∧ x.at_ ≤ lastW g.slots g.cur) → ((List.range g.slots).map fun i => l.countP fun x => decide (x.at_ = g.cur + i)).sum = l.length := by
    intro l
    induction l with
    | nil => intro _; simp only [List.countP_nil, List.length_nil]; exact sum_zero _
    | cons x l ih =>
      intro hl
      have h1 := hl x List.mem_cons_self
      have e : (fun i => (x :: l).countP fun x => decide (x.at_ = g.cur + i)) = fun i => (l.countP fun x => decide (x.at_ = g.cur + i)) + (if x.at_ - g.cur = i then 1 else 0) := by
        funext i
        rw [List.countP_cons]
        congr 1
        by_cases c : x.at_ = g.cur + i
        · rw [if_pos (by simpa using c), if_pos (by omega)]
        · rw [if_neg (by simpa using c), if_neg (by omega)]
      rw [e, sum_two, ih (fun y hy => hl y (List.mem_cons_of_mem _ hy)), sum_one, List.length_cons, if_pos]
      have := h.s1
      unfold lastW at h1
      omega
  exact key g.l h.low
theorem held_len (g : Wg) : g.held.length = g.slots := by simp [Wg.held]

end Go.Proofs.YtkiibobpejoaeaaDoor
