/-
  slices.Backward at the row of steps: its function value calls yield with 4, 3, 2, 1, 0 and the step at each, as long as the loop's body keeps the row and the slice's box.
-/
import Derived.Test.YtbeampfgghejfaaMix
import Derived.RangeFuncNested
import Derived.RangeFuncBound
import Derived.RangeFuncCalls
import Derived.RangeFuncLeaves
import Derived.Shelf.Abstract
import Derived.Shelf.RegionOpen
import Derived.OwnWalkIn
import Derived.TacticsInMore
import Derived.LoopNIn
import Derived.LoopIn
namespace Go.Proofs.Ytbeampfgghejfaa
open Go.RowKit Go.Shelf
set_option linter.unusedVariables false
attribute [local go_sem] Oper.semAt_some

/-- The functions of the step at an index: forth, back. -/
def forthAt : Nat → Nat | 1 => 27 | 2 => 25 | 3 => 27 | _ => 21
def backAt : Nat → Nat | 1 => 28 | 2 => 26 | 3 => 28 | _ => 23
/-- What yield is called with. -/
def encS (i : Nat) : Array Value := #[.int .i64 (i : Int), .agg #[.func (.func (forthAt i)) #[] #[], .func (.func (backAt i)) #[] #[]]]

/-- The row's cells. -/
def rowC : Array Value := #[.func (.func 21) #[] #[], .func (.func 23) #[] #[], .func (.func 27) #[] #[], .func (.func 28) #[] #[], .func (.func 25) #[] #[], .func (.func 26) #[] #[], .func (.func 27) #[] #[], .func (.func 28) #[] #[], .func (.func 21) #[] #[], .func (.func 23) #[] #[]]

/-- Two blocks lie as they lay: the row, and the box of the slice. -/
def KeepsTwo (b s : Nat) (W W' : World) : Prop := W'.heap[b]? = W.heap[b]? ∧ W'.heap[s]? = W.heap[s]?

/-- The row lies in block b, and the slice of all of it in the box s. -/
def RowAt (b s : Nat) (W : World) : Prop := W.heap[b]? = some (.cells rowC 35 (0, 0)) ∧ W.heap[s]? = some (.cells #[.slice (some ⟨b, 0, none⟩) 5 5] 41 (0, 0))

theorem RowAt.kept {b s : Nat} {W W' : World} (h : RowAt b s W) (k : KeepsTwo b s W W') : RowAt b s W' := ⟨k.1.trans h.1, k.2.trans h.2⟩
theorem RowAt.box {b s : Nat} {W : World} (h : RowAt b s W) : W.cell? ⟨s, 0, none⟩ = some (.slice (some ⟨b, 0, none⟩) 5 5) := by
  simp [World.cell?, h.2]
theorem RowAt.cell {b s : Nat} {W : World} (h : RowAt b s W) (j : Nat) (hj : j < 10) : W.cell? ⟨b, j, none⟩ = rowC[j]? := by
  simp [World.cell?, h.1]

set_option maxRecDepth 100000 in
set_option maxHeartbeats 2000000 in
theorem backward1 (n : Nat) (hn : 1 ≤ n) (l b s : Nat) (J Jx : List Nat → World → Prop)
    (hY : ∀ pre x W, J pre W → pre.length < 5 → YieldAt Fence.wide (n - 1) Try.prog l (encS x) W fun e W' =>
      (e = .returned (.bool true) ∧ J (pre ++ [x]) W' ∧ KeepsTwo b s W W') ∨ (e = .returned (.bool false) ∧ Jx (pre ++ [x]) W'))
    (W : World) (hW : RowAt b s W) (h0 : J [] W) :
    CallsIn Fence.wide n Try.prog 29 #[.func (.yield l) #[] #[], .pointer (some ⟨s, 0, none⟩)] W fun e W' => (∃ v, e = .returned v) ∧
      ((∃ ys, ys = [4, 3, 2, 1, 0] ∧ J ys W') ∨ (∃ pre, True ∧ Jx pre W')) := by
  have cB := hW.box
  refine callsIn_of_wp Try.func29 rfl trivial ?_ rfl
  simp only [Try.ntmps29, List.size_toArray, List.length_cons, List.length_nil, Nat.reduceAdd, Nat.reduceSub, Array.replicate_succ, Array.replicate_zero, List.push_toArray, List.append_toArray, List.nil_append, List.cons_append]
  gi_wp2
  gi_loopw [3] (fun i wr => ∃ k : Nat, k ≤ 5 ∧ i = .int .i64 (4 - (k : Int)) ∧ J ([4, 3, 2, 1, 0].take k) wr ∧ RowAt b s wr)
    (fun i _ => (intOf i + 1).toNat)
  case atStart => exact ⟨0, by omega, rfl, h0, hW⟩
  case round =>
    obtain ⟨k, hk, rfl, hJs, hw⟩ := hrel
    have cB := hw.box
    have H : k = 0 ∨ k = 1 ∨ k = 2 ∨ k = 3 ∨ k = 4 ∨ k = 5 := by omega
    rcases H with rfl | rfl | rfl | rfl | rfl | rfl
    · obtain ⟨fn, tmps, assign, body, hy, hR⟩ := hY [] 4 wr hJs (by decide)
      have hy1 : (Instr.yield l #[.int .i64 4, .agg #[.func (.func 21) #[] #[], .func (.func 23) #[] #[]]]).run Try.prog wr = .ok (.round l fn tmps assign body) wr := hy
      clear hy
      have c0 : wr.cell? ⟨b, 8, none⟩ = some (.func (.func 21) #[] #[]) := hw.cell 8 (by omega)
      have c1 : wr.cell? ⟨b, 9, none⟩ = some (.func (.func 23) #[] #[]) := hw.cell 9 (by omega)
      rw [show (4 : Int) - ((0 : Nat) : Int) = 4 by omega]
      gi_wp2
      refine hR.mono ?_
      rintro e W3 (⟨rfl, hJ3, hk3⟩ | ⟨rfl, hJx3⟩)
      · gi_wp2
        go_roundw
        case rel => exact ⟨1, by omega, rfl, hJ3, hw.kept hk3⟩
        case measure => simp [intOf]
      · gi_wp2
        refine bodyPost_ret (results_none rfl _ _ _) rfl ?_
        exact ⟨⟨_, rfl⟩, .inr ⟨_, trivial, hJx3⟩⟩
    · obtain ⟨fn, tmps, assign, body, hy, hR⟩ := hY [4] 3 wr hJs (by decide)
      have hy1 : (Instr.yield l #[.int .i64 3, .agg #[.func (.func 27) #[] #[], .func (.func 28) #[] #[]]]).run Try.prog wr = .ok (.round l fn tmps assign body) wr := hy
      clear hy
      have c0 : wr.cell? ⟨b, 6, none⟩ = some (.func (.func 27) #[] #[]) := hw.cell 6 (by omega)
      have c1 : wr.cell? ⟨b, 7, none⟩ = some (.func (.func 28) #[] #[]) := hw.cell 7 (by omega)
      rw [show (4 : Int) - ((1 : Nat) : Int) = 3 by omega]
      gi_wp2
      refine hR.mono ?_
      rintro e W3 (⟨rfl, hJ3, hk3⟩ | ⟨rfl, hJx3⟩)
      · gi_wp2
        go_roundw
        case rel => exact ⟨2, by omega, rfl, hJ3, hw.kept hk3⟩
        case measure => simp [intOf]
      · gi_wp2
        refine bodyPost_ret (results_none rfl _ _ _) rfl ?_
        exact ⟨⟨_, rfl⟩, .inr ⟨_, trivial, hJx3⟩⟩
    · obtain ⟨fn, tmps, assign, body, hy, hR⟩ := hY [4, 3] 2 wr hJs (by decide)
      have hy1 : (Instr.yield l #[.int .i64 2, .agg #[.func (.func 25) #[] #[], .func (.func 26) #[] #[]]]).run Try.prog wr = .ok (.round l fn tmps assign body) wr := hy
      clear hy
      have c0 : wr.cell? ⟨b, 4, none⟩ = some (.func (.func 25) #[] #[]) := hw.cell 4 (by omega)
      have c1 : wr.cell? ⟨b, 5, none⟩ = some (.func (.func 26) #[] #[]) := hw.cell 5 (by omega)
      rw [show (4 : Int) - ((2 : Nat) : Int) = 2 by omega]
      gi_wp2
      refine hR.mono ?_
      rintro e W3 (⟨rfl, hJ3, hk3⟩ | ⟨rfl, hJx3⟩)
      · gi_wp2
        go_roundw
        case rel => exact ⟨3, by omega, rfl, hJ3, hw.kept hk3⟩
        case measure => simp [intOf]
      · gi_wp2
        refine bodyPost_ret (results_none rfl _ _ _) rfl ?_
        exact ⟨⟨_, rfl⟩, .inr ⟨_, trivial, hJx3⟩⟩
    · obtain ⟨fn, tmps, assign, body, hy, hR⟩ := hY [4, 3, 2] 1 wr hJs (by decide)
      have hy1 : (Instr.yield l #[.int .i64 1, .agg #[.func (.func 27) #[] #[], .func (.func 28) #[] #[]]]).run Try.prog wr = .ok (.round l fn tmps assign body) wr := hy
      clear hy
      have c0 : wr.cell? ⟨b, 2, none⟩ = some (.func (.func 27) #[] #[]) := hw.cell 2 (by omega)
      have c1 : wr.cell? ⟨b, 3, none⟩ = some (.func (.func 28) #[] #[]) := hw.cell 3 (by omega)
      rw [show (4 : Int) - ((3 : Nat) : Int) = 1 by omega]
      gi_wp2
      refine hR.mono ?_
      rintro e W3 (⟨rfl, hJ3, hk3⟩ | ⟨rfl, hJx3⟩)
      · gi_wp2
        go_roundw
        case rel => exact ⟨4, by omega, rfl, hJ3, hw.kept hk3⟩
        case measure => simp [intOf]
      · gi_wp2
        refine bodyPost_ret (results_none rfl _ _ _) rfl ?_
        exact ⟨⟨_, rfl⟩, .inr ⟨_, trivial, hJx3⟩⟩
    · obtain ⟨fn, tmps, assign, body, hy, hR⟩ := hY [4, 3, 2, 1] 0 wr hJs (by decide)
      have hy1 : (Instr.yield l #[.int .i64 0, .agg #[.func (.func 21) #[] #[], .func (.func 23) #[] #[]]]).run Try.prog wr = .ok (.round l fn tmps assign body) wr := hy
      clear hy
      have c0 : wr.cell? ⟨b, 0, none⟩ = some (.func (.func 21) #[] #[]) := hw.cell 0 (by omega)
      have c1 : wr.cell? ⟨b, 1, none⟩ = some (.func (.func 23) #[] #[]) := hw.cell 1 (by omega)
      rw [show (4 : Int) - ((4 : Nat) : Int) = 0 by omega]
      gi_wp2
      refine hR.mono ?_
      rintro e W3 (⟨rfl, hJ3, hk3⟩ | ⟨rfl, hJx3⟩)
      · gi_wp2
        go_roundw
        case rel => exact ⟨5, by omega, rfl, hJ3, hw.kept hk3⟩
        case measure => simp [intOf]
      · gi_wp2
        refine bodyPost_ret (results_none rfl _ _ _) rfl ?_
        exact ⟨⟨_, rfl⟩, .inr ⟨_, trivial, hJx3⟩⟩
    · rw [show (4 : Int) - ((5 : Nat) : Int) = -1 by omega]
      gi_wp2
      go_end0
      exact ⟨⟨_, rfl⟩, .inl ⟨_, rfl, hJs⟩⟩

set_option maxHeartbeats 1000000 in
/-- slices.Backward: the slice is boxed; the function value captures the box. -/
theorem backward_in (n : Nat) (a : Option Addr) (len cap : Nat) (w : World) :
    CallsIn Fence.wide n Try.prog 17 #[.slice a len cap] w fun e w' => e = .returned (.func (.func 29) #[] #[.pointer (some ⟨w.heap.size, 0, none⟩)]) ∧ w' = w.alloc (.cells #[.slice a len cap] 41) := by
  refine callsIn_of_wp Try.func17 rfl trivial ?_ rfl
  simp only [Try.ntmps17, List.size_toArray, List.length_cons, List.length_nil, Nat.reduceAdd, Nat.reduceSub, Array.replicate_succ, Array.replicate_zero, List.push_toArray, List.append_toArray, List.nil_append, List.cons_append]
  gi_wp2
  go_ret
  exact ⟨rfl, rfl⟩

/-- What slices.Backward hands back, over the row: all five, from the last on; or a round has said no more. -/
theorem backward_stops (n : Nat) (hn : 1 ≤ n) (b s : Nat) (w : World) (hb : b < w.heap.size) (hs : s < w.heap.size) (hw : RowAt b s w) :
    SeqStopsK Fence.wide n Try.prog 29 #[.pointer (some ⟨s, 0, none⟩)] encS (KeepsTwo b s) (fun ys => ys = [4, 3, 2, 1, 0]) (fun _ => True) 5 w :=
  fun l J Jx W hW _ _ hY h0 => backward1 n hn l b s J Jx hY W (hw.kept ⟨hW.block b hb, hW.block s hs⟩) h0

end Go.Proofs.Ytbeampfgghejfaa
