/-
  MixFar's walk: for all numbers the law's text answers true.
-/
import Derived.Test.YtbeampfgghejfaaMixAwake
import Derived.Deep.QuietTactic
import Derived.BigQuiet
import Derived.WalkSmall
namespace Go.Proofs.Ytbeampfgghejfaa
open Go.RowKit
set_option linter.unusedVariables false

/-- The sum of the first n. -/
def sumTo (f : Nat → Nat) : Nat → Nat
  | 0 => 0
  | n + 1 => sumTo f n + f n
/-- One more at k. -/
def more (f : Nat → Nat) (k : Nat) : Nat → Nat := fun j => if j = k then f j + 1 else f j
theorem sumTo_more_far (f : Nat → Nat) (k : Nat) : ∀ n, n ≤ k → sumTo (more f k) n = sumTo f n
  | 0, _ => rfl
  | n + 1, h => by
    have e : more f k n = f n := if_neg (by omega)
    rw [sumTo, sumTo, e, sumTo_more_far f k n (by omega)]
theorem sumTo_more (f : Nat → Nat) (k : Nat) : ∀ n, k < n → sumTo (more f k) n = sumTo f n + 1
  | 0, h => by omega
  | n + 1, h => by
    rw [sumTo, sumTo]
    by_cases c : n = k
    · have e : more f k n = f n + 1 := if_pos c
      rw [e, sumTo_more_far f k n (by omega)]
      omega
    · have e : more f k n = f n := if_neg c
      rw [e, sumTo_more f k n (by omega)]
      omega
theorem le_sumTo (f : Nat → Nat) (k : Nat) : ∀ n, k < n → f k ≤ sumTo f n
  | 0, h => by omega
  | n + 1, h => by
    rw [sumTo]
    by_cases c : n = k
    · subst c; omega
    · have := le_sumTo f k n (by omega); omega

/-- Block b holds the counts. -/
def Counts (b : Nat) (f : Nat → Nat) (W : World) : Prop := b < W.heap.size ∧ ∀ j, j < 16 → W.cell? ⟨b, j, none⟩ = some (.int .i64 (f j : Int)) ∧ W.frozen? ⟨b, j, none⟩ = false

theorem Counts.below {b : Nat} {f : Nat → Nat} {W W' : World} (h : Counts b f W) (g : Below W.heap.size W W') : Counts b f W' :=
  ⟨Nat.lt_of_lt_of_le h.1 g.size, fun j hj => ⟨(g.cell (p := ⟨b, j, none⟩) h.1).trans (h.2 j hj).1, (g.frozen (p := ⟨b, j, none⟩) h.1).trans (h.2 j hj).2⟩⟩
theorem Counts.set {b k : Nat} {f : Nat → Nat} {W : World} (h : Counts b f W) (hk : k < 16) : Counts b (more f k) (W.setCell ⟨b, k, none⟩ (.int .i64 ((f k : Int) + 1))) := by
  refine ⟨by simpa [World.setCell] using h.1, fun j hj => ⟨?_, by rw [World.frozen?_setCell]; exact (h.2 j hj).2⟩⟩
  by_cases c : j = k
  · subst c
    rw [World.cell?_setCell_same W ⟨b, j, none⟩ _ (h.2 j hj).1]
    have e : more f j j = f j + 1 := if_pos rfl
    rw [e]
    rfl
  · rw [World.cell?_setCell_other W ⟨b, k, none⟩ ⟨b, j, none⟩ _ (fun e => c (by cases e; rfl)), (h.2 j hj).1]
    have e : more f k j = f j := if_neg c
    rw [e]

theorem counts_of {b : Nat} {W : World} {t : TypeId} (h : W.heap[b]? = some (.cells #[.int .i64 0, .int .i64 0, .int .i64 0, .int .i64 0, .int .i64 0, .int .i64 0, .int .i64 0, .int .i64 0, .int .i64 0, .int .i64 0, .int .i64 0, .int .i64 0, .int .i64 0, .int .i64 0, .int .i64 0, .int .i64 0] t (0, 0))) : Counts b (fun _ => 0) W := by
  refine ⟨(Array.getElem?_eq_some_iff.1 h).1, fun j hj => ?_⟩
  have c : j = 0 ∨ j = 1 ∨ j = 2 ∨ j = 3 ∨ j = 4 ∨ j = 5 ∨ j = 6 ∨ j = 7 ∨ j = 8 ∨ j = 9 ∨ j = 10 ∨ j = 11 ∨ j = 12 ∨ j = 13 ∨ j = 14 ∨ j = 15 := by omega
  refine ⟨?_, by simp [World.frozen?, h]⟩
  rcases c with rfl | rfl | rfl | rfl | rfl | rfl | rfl | rfl | rfl | rfl | rfl | rfl | rfl | rfl | rfl | rfl <;> simp [World.cell?, h]
theorem counts_new (w : World) (t : TypeId) : Counts w.heap.size (fun _ => 0) (w.alloc (.cells #[.int .i64 0, .int .i64 0, .int .i64 0, .int .i64 0, .int .i64 0, .int .i64 0, .int .i64 0, .int .i64 0, .int .i64 0, .int .i64 0, .int .i64 0, .int .i64 0, .int .i64 0, .int .i64 0, .int .i64 0, .int .i64 0] t)) := counts_of (World.alloc_heap_new w _)

theorem bucket4 (y : Nat) (hy : y < 18446744073709551616) : ∃ k : Nat, k < 16 ∧ Hid (∀ w, Calls Try.prog 12 #[.int .u64 (y : Int), .int .i64 4] w fun e w' => e = .returned (.int .i64 (k : Int)) ∧ Below w.heap.size w w') :=
  ⟨Mx.high (Mx.mix y) 4, Mx.high_lt (n := 4) (Mx.mix_lt y) (by omega), fun w => prog_bucket y 4 w hy (by omega)⟩

theorem beside (x : Nat) (hx : x < 18446744073709551616) : ∃ m t z : Nat, m < 18446744073709551616 ∧ IntKind.u64.wrap ((m : Int) + 1) = (t : Int) ∧ t < 18446744073709551616 ∧ z ≠ x ∧
    Hid (∀ w, Calls Try.prog 8 #[.int .u64 (x : Int)] w fun e w' => e = .returned (.int .u64 (m : Int)) ∧ Below w.heap.size w w') ∧
    Hid (∀ w, Calls Try.prog 10 #[.int .u64 (t : Int)] w fun e w' => e = .returned (.int .u64 (z : Int)) ∧ Below w.heap.size w w') := by
  have hm := Mx.mix_lt x
  have ht : (Mx.mix x + 1) % 18446744073709551616 < 18446744073709551616 := Nat.mod_lt _ (by omega)
  refine ⟨Mx.mix x, (Mx.mix x + 1) % 18446744073709551616, Mx.back ((Mx.mix x + 1) % 18446744073709551616), hm, ?_, ht, ?_, fun w => prog_mix x w hx, fun w => prog_back _ w ht⟩
  · rw [IntKind.wrap_u64]
    omega
  · intro e
    have h := Mx.mix_back ht
    rw [e] at h
    omega

theorem sums (f : Nat → Nat) (h : sumTo f 16 = 256) : ∃ n0 n1 n2 n3 n4 n5 n6 n7 n8 n9 n10 n11 n12 n13 n14 n15 s2 s3 s4 s5 s6 s7 s8 s9 s10 s11 s12 s13 s14 s15 : Nat, (f 0 = n0 ∧ f 1 = n1 ∧ f 2 = n2 ∧ f 3 = n3 ∧ f 4 = n4 ∧ f 5 = n5 ∧ f 6 = n6 ∧ f 7 = n7 ∧ f 8 = n8 ∧ f 9 = n9 ∧ f 10 = n10 ∧ f 11 = n11 ∧ f 12 = n12 ∧ f 13 = n13 ∧ f 14 = n14 ∧ f 15 = n15) ∧ ((n0 : Int) + (n1 : Int) = (s2 : Int) ∧ (s2 : Int) + (n2 : Int) = (s3 : Int) ∧ (s3 : Int) + (n3 : Int) = (s4 : Int) ∧ (s4 : Int) + (n4 : Int) = (s5 : Int) ∧ (s5 : Int) + (n5 : Int) = (s6 : Int) ∧ (s6 : Int) + (n6 : Int) = (s7 : Int) ∧ (s7 : Int) + (n7 : Int) = (s8 : Int) ∧ (s8 : Int) + (n8 : Int) = (s9 : Int) ∧ (s9 : Int) + (n9 : Int) = (s10 : Int) ∧ (s10 : Int) + (n10 : Int) = (s11 : Int) ∧ (s11 : Int) + (n11 : Int) = (s12 : Int) ∧ (s12 : Int) + (n12 : Int) = (s13 : Int) ∧ (s13 : Int) + (n13 : Int) = (s14 : Int) ∧ (s14 : Int) + (n14 : Int) = (s15 : Int) ∧ (s15 : Int) + (n15 : Int) = 256) ∧ (n0 ≤ 256 ∧ n1 ≤ 256 ∧ n2 ≤ 256 ∧ n3 ≤ 256 ∧ n4 ≤ 256 ∧ n5 ≤ 256 ∧ n6 ≤ 256 ∧ n7 ≤ 256 ∧ n8 ≤ 256 ∧ n9 ≤ 256 ∧ n10 ≤ 256 ∧ n11 ≤ 256 ∧ n12 ≤ 256 ∧ n13 ≤ 256 ∧ n14 ≤ 256 ∧ n15 ≤ 256) ∧ (s2 ≤ 256 ∧ s3 ≤ 256 ∧ s4 ≤ 256 ∧ s5 ≤ 256 ∧ s6 ≤ 256 ∧ s7 ≤ 256 ∧ s8 ≤ 256 ∧ s9 ≤ 256 ∧ s10 ≤ 256 ∧ s11 ≤ 256 ∧ s12 ≤ 256 ∧ s13 ≤ 256 ∧ s14 ≤ 256 ∧ s15 ≤ 256) := by
  simp only [sumTo] at h
  refine ⟨f 0, f 1, f 2, f 3, f 4, f 5, f 6, f 7, f 8, f 9, f 10, f 11, f 12, f 13, f 14, f 15, (f 0 + f 1), (f 0 + f 1 + f 2), (f 0 + f 1 + f 2 + f 3), (f 0 + f 1 + f 2 + f 3 + f 4), (f 0 + f 1 + f 2 + f 3 + f 4 + f 5), (f 0 + f 1 + f 2 + f 3 + f 4 + f 5 + f 6), (f 0 + f 1 + f 2 + f 3 + f 4 + f 5 + f 6 + f 7), (f 0 + f 1 + f 2 + f 3 + f 4 + f 5 + f 6 + f 7 + f 8), (f 0 + f 1 + f 2 + f 3 + f 4 + f 5 + f 6 + f 7 + f 8 + f 9), (f 0 + f 1 + f 2 + f 3 + f 4 + f 5 + f 6 + f 7 + f 8 + f 9 + f 10), (f 0 + f 1 + f 2 + f 3 + f 4 + f 5 + f 6 + f 7 + f 8 + f 9 + f 10 + f 11), (f 0 + f 1 + f 2 + f 3 + f 4 + f 5 + f 6 + f 7 + f 8 + f 9 + f 10 + f 11 + f 12), (f 0 + f 1 + f 2 + f 3 + f 4 + f 5 + f 6 + f 7 + f 8 + f 9 + f 10 + f 11 + f 12 + f 13), (f 0 + f 1 + f 2 + f 3 + f 4 + f 5 + f 6 + f 7 + f 8 + f 9 + f 10 + f 11 + f 12 + f 13 + f 14), ?_, ?_, ?_, ?_⟩
  · exact ⟨rfl, rfl, rfl, rfl, rfl, rfl, rfl, rfl, rfl, rfl, rfl, rfl, rfl, rfl, rfl, rfl⟩
  · refine ⟨?_, ?_, ?_, ?_, ?_, ?_, ?_, ?_, ?_, ?_, ?_, ?_, ?_, ?_, ?_⟩ <;> omega
  · refine ⟨?_, ?_, ?_, ?_, ?_, ?_, ?_, ?_, ?_, ?_, ?_, ?_, ?_, ?_, ?_, ?_⟩ <;> omega
  · refine ⟨?_, ?_, ?_, ?_, ?_, ?_, ?_, ?_, ?_, ?_, ?_, ?_, ?_, ?_⟩ <;> omega

set_option maxRecDepth 100000 in
set_option maxHeartbeats 4000000 in
theorem mixFar_nat (x : Nat) (w : World) (hx : x < 18446744073709551616) :
    Calls Try.prog 7 #[.int .u64 (x : Int)] w fun e w' => e = .returned (.bool true) ∧ Below w.heap.size w w' := by
  have hC0 := counts_new w 31
  have hB0 : Below w.heap.size w (w.alloc (.cells #[.int .i64 0, .int .i64 0, .int .i64 0, .int .i64 0, .int .i64 0, .int .i64 0, .int .i64 0, .int .i64 0, .int .i64 0, .int .i64 0, .int .i64 0, .int .i64 0, .int .i64 0, .int .i64 0, .int .i64 0, .int .i64 0] 31)) := (Below.refl _ w).alloc (Nat.le_refl _) _
  go_enter Try.func7, Try.ntmps7
  go_wp2_with fail
  go_loopg [9] 256 (fun g t9 wx => ∃ (j : Nat) (f : Nat → Nat), 256 - j = g ∧ j ≤ 256 ∧ t9 = .int .u64 (j : Int) ∧ Counts w.heap.size f wx ∧ Hid (sumTo f 16 = j) ∧ Below w.heap.size w wx)
  case atStart => exact ⟨0, fun _ => 0, rfl, by omega, rfl, hC0, rfl, hB0⟩
  case round =>
    clear hC0 hB0
    obtain ⟨j, f, rfl, hj, rfl, hC, HS, hB⟩ := hrel
    by_cases h0 : j = 256
    · subst h0
      obtain ⟨n0, n1, n2, n3, n4, n5, n6, n7, n8, n9, n10, n11, n12, n13, n14, n15, s2, s3, s4, s5, s6, s7, s8, s9, s10, s11, s12, s13, s14, s15, ⟨e0, e1, e2, e3, e4, e5, e6, e7, e8, e9, e10, e11, e12, e13, e14, e15⟩, ⟨a1, a2, a3, a4, a5, a6, a7, a8, a9, a10, a11, a12, a13, a14, a15⟩, ⟨b0, b1, b2, b3, b4, b5, b6, b7, b8, b9, b10, b11, b12, b13, b14, b15⟩, ⟨d2, d3, d4, d5, d6, d7, d8, d9, d10, d11, d12, d13, d14, d15⟩⟩ := sums f HS.out
      have c0 := (hC.2 0 (by omega)).1
      rw [e0] at c0
      have c1 := (hC.2 1 (by omega)).1
      rw [e1] at c1
      have c2 := (hC.2 2 (by omega)).1
      rw [e2] at c2
      have c3 := (hC.2 3 (by omega)).1
      rw [e3] at c3
      have c4 := (hC.2 4 (by omega)).1
      rw [e4] at c4
      have c5 := (hC.2 5 (by omega)).1
      rw [e5] at c5
      have c6 := (hC.2 6 (by omega)).1
      rw [e6] at c6
      have c7 := (hC.2 7 (by omega)).1
      rw [e7] at c7
      have c8 := (hC.2 8 (by omega)).1
      rw [e8] at c8
      have c9 := (hC.2 9 (by omega)).1
      rw [e9] at c9
      have c10 := (hC.2 10 (by omega)).1
      rw [e10] at c10
      have c11 := (hC.2 11 (by omega)).1
      rw [e11] at c11
      have c12 := (hC.2 12 (by omega)).1
      rw [e12] at c12
      have c13 := (hC.2 13 (by omega)).1
      rw [e13] at c13
      have c14 := (hC.2 14 (by omega)).1
      rw [e14] at c14
      have c15 := (hC.2 15 (by omega)).1
      rw [e15] at c15
      clear e0 e1 e2 e3 e4 e5 e6 e7 e8 e9 e10 e11 e12 e13 e14 e15 HS
      have i0 : ∀ w : World, (Instr.index 31 (.agg #[.int .i64 (n0 : Int), .int .i64 (n1 : Int), .int .i64 (n2 : Int), .int .i64 (n3 : Int), .int .i64 (n4 : Int), .int .i64 (n5 : Int), .int .i64 (n6 : Int), .int .i64 (n7 : Int), .int .i64 (n8 : Int), .int .i64 (n9 : Int), .int .i64 (n10 : Int), .int .i64 (n11 : Int), .int .i64 (n12 : Int), .int .i64 (n13 : Int), .int .i64 (n14 : Int), .int .i64 (n15 : Int)]) (.int .i64 0)).run Try.prog w = .ok (.int .i64 (n0 : Int)) w := fun _ => by kernel_rfl
      have i1 : ∀ w : World, (Instr.index 31 (.agg #[.int .i64 (n0 : Int), .int .i64 (n1 : Int), .int .i64 (n2 : Int), .int .i64 (n3 : Int), .int .i64 (n4 : Int), .int .i64 (n5 : Int), .int .i64 (n6 : Int), .int .i64 (n7 : Int), .int .i64 (n8 : Int), .int .i64 (n9 : Int), .int .i64 (n10 : Int), .int .i64 (n11 : Int), .int .i64 (n12 : Int), .int .i64 (n13 : Int), .int .i64 (n14 : Int), .int .i64 (n15 : Int)]) (.int .i64 1)).run Try.prog w = .ok (.int .i64 (n1 : Int)) w := fun _ => by kernel_rfl
      have i2 : ∀ w : World, (Instr.index 31 (.agg #[.int .i64 (n0 : Int), .int .i64 (n1 : Int), .int .i64 (n2 : Int), .int .i64 (n3 : Int), .int .i64 (n4 : Int), .int .i64 (n5 : Int), .int .i64 (n6 : Int), .int .i64 (n7 : Int), .int .i64 (n8 : Int), .int .i64 (n9 : Int), .int .i64 (n10 : Int), .int .i64 (n11 : Int), .int .i64 (n12 : Int), .int .i64 (n13 : Int), .int .i64 (n14 : Int), .int .i64 (n15 : Int)]) (.int .i64 2)).run Try.prog w = .ok (.int .i64 (n2 : Int)) w := fun _ => by kernel_rfl
      have i3 : ∀ w : World, (Instr.index 31 (.agg #[.int .i64 (n0 : Int), .int .i64 (n1 : Int), .int .i64 (n2 : Int), .int .i64 (n3 : Int), .int .i64 (n4 : Int), .int .i64 (n5 : Int), .int .i64 (n6 : Int), .int .i64 (n7 : Int), .int .i64 (n8 : Int), .int .i64 (n9 : Int), .int .i64 (n10 : Int), .int .i64 (n11 : Int), .int .i64 (n12 : Int), .int .i64 (n13 : Int), .int .i64 (n14 : Int), .int .i64 (n15 : Int)]) (.int .i64 3)).run Try.prog w = .ok (.int .i64 (n3 : Int)) w := fun _ => by kernel_rfl
      have i4 : ∀ w : World, (Instr.index 31 (.agg #[.int .i64 (n0 : Int), .int .i64 (n1 : Int), .int .i64 (n2 : Int), .int .i64 (n3 : Int), .int .i64 (n4 : Int), .int .i64 (n5 : Int), .int .i64 (n6 : Int), .int .i64 (n7 : Int), .int .i64 (n8 : Int), .int .i64 (n9 : Int), .int .i64 (n10 : Int), .int .i64 (n11 : Int), .int .i64 (n12 : Int), .int .i64 (n13 : Int), .int .i64 (n14 : Int), .int .i64 (n15 : Int)]) (.int .i64 4)).run Try.prog w = .ok (.int .i64 (n4 : Int)) w := fun _ => by kernel_rfl
      have i5 : ∀ w : World, (Instr.index 31 (.agg #[.int .i64 (n0 : Int), .int .i64 (n1 : Int), .int .i64 (n2 : Int), .int .i64 (n3 : Int), .int .i64 (n4 : Int), .int .i64 (n5 : Int), .int .i64 (n6 : Int), .int .i64 (n7 : Int), .int .i64 (n8 : Int), .int .i64 (n9 : Int), .int .i64 (n10 : Int), .int .i64 (n11 : Int), .int .i64 (n12 : Int), .int .i64 (n13 : Int), .int .i64 (n14 : Int), .int .i64 (n15 : Int)]) (.int .i64 5)).run Try.prog w = .ok (.int .i64 (n5 : Int)) w := fun _ => by kernel_rfl
      have i6 : ∀ w : World, (Instr.index 31 (.agg #[.int .i64 (n0 : Int), .int .i64 (n1 : Int), .int .i64 (n2 : Int), .int .i64 (n3 : Int), .int .i64 (n4 : Int), .int .i64 (n5 : Int), .int .i64 (n6 : Int), .int .i64 (n7 : Int), .int .i64 (n8 : Int), .int .i64 (n9 : Int), .int .i64 (n10 : Int), .int .i64 (n11 : Int), .int .i64 (n12 : Int), .int .i64 (n13 : Int), .int .i64 (n14 : Int), .int .i64 (n15 : Int)]) (.int .i64 6)).run Try.prog w = .ok (.int .i64 (n6 : Int)) w := fun _ => by kernel_rfl
      have i7 : ∀ w : World, (Instr.index 31 (.agg #[.int .i64 (n0 : Int), .int .i64 (n1 : Int), .int .i64 (n2 : Int), .int .i64 (n3 : Int), .int .i64 (n4 : Int), .int .i64 (n5 : Int), .int .i64 (n6 : Int), .int .i64 (n7 : Int), .int .i64 (n8 : Int), .int .i64 (n9 : Int), .int .i64 (n10 : Int), .int .i64 (n11 : Int), .int .i64 (n12 : Int), .int .i64 (n13 : Int), .int .i64 (n14 : Int), .int .i64 (n15 : Int)]) (.int .i64 7)).run Try.prog w = .ok (.int .i64 (n7 : Int)) w := fun _ => by kernel_rfl
      have i8 : ∀ w : World, (Instr.index 31 (.agg #[.int .i64 (n0 : Int), .int .i64 (n1 : Int), .int .i64 (n2 : Int), .int .i64 (n3 : Int), .int .i64 (n4 : Int), .int .i64 (n5 : Int), .int .i64 (n6 : Int), .int .i64 (n7 : Int), .int .i64 (n8 : Int), .int .i64 (n9 : Int), .int .i64 (n10 : Int), .int .i64 (n11 : Int), .int .i64 (n12 : Int), .int .i64 (n13 : Int), .int .i64 (n14 : Int), .int .i64 (n15 : Int)]) (.int .i64 8)).run Try.prog w = .ok (.int .i64 (n8 : Int)) w := fun _ => by kernel_rfl
      have i9 : ∀ w : World, (Instr.index 31 (.agg #[.int .i64 (n0 : Int), .int .i64 (n1 : Int), .int .i64 (n2 : Int), .int .i64 (n3 : Int), .int .i64 (n4 : Int), .int .i64 (n5 : Int), .int .i64 (n6 : Int), .int .i64 (n7 : Int), .int .i64 (n8 : Int), .int .i64 (n9 : Int), .int .i64 (n10 : Int), .int .i64 (n11 : Int), .int .i64 (n12 : Int), .int .i64 (n13 : Int), .int .i64 (n14 : Int), .int .i64 (n15 : Int)]) (.int .i64 9)).run Try.prog w = .ok (.int .i64 (n9 : Int)) w := fun _ => by kernel_rfl
      have i10 : ∀ w : World, (Instr.index 31 (.agg #[.int .i64 (n0 : Int), .int .i64 (n1 : Int), .int .i64 (n2 : Int), .int .i64 (n3 : Int), .int .i64 (n4 : Int), .int .i64 (n5 : Int), .int .i64 (n6 : Int), .int .i64 (n7 : Int), .int .i64 (n8 : Int), .int .i64 (n9 : Int), .int .i64 (n10 : Int), .int .i64 (n11 : Int), .int .i64 (n12 : Int), .int .i64 (n13 : Int), .int .i64 (n14 : Int), .int .i64 (n15 : Int)]) (.int .i64 10)).run Try.prog w = .ok (.int .i64 (n10 : Int)) w := fun _ => by kernel_rfl
      have i11 : ∀ w : World, (Instr.index 31 (.agg #[.int .i64 (n0 : Int), .int .i64 (n1 : Int), .int .i64 (n2 : Int), .int .i64 (n3 : Int), .int .i64 (n4 : Int), .int .i64 (n5 : Int), .int .i64 (n6 : Int), .int .i64 (n7 : Int), .int .i64 (n8 : Int), .int .i64 (n9 : Int), .int .i64 (n10 : Int), .int .i64 (n11 : Int), .int .i64 (n12 : Int), .int .i64 (n13 : Int), .int .i64 (n14 : Int), .int .i64 (n15 : Int)]) (.int .i64 11)).run Try.prog w = .ok (.int .i64 (n11 : Int)) w := fun _ => by kernel_rfl
      have i12 : ∀ w : World, (Instr.index 31 (.agg #[.int .i64 (n0 : Int), .int .i64 (n1 : Int), .int .i64 (n2 : Int), .int .i64 (n3 : Int), .int .i64 (n4 : Int), .int .i64 (n5 : Int), .int .i64 (n6 : Int), .int .i64 (n7 : Int), .int .i64 (n8 : Int), .int .i64 (n9 : Int), .int .i64 (n10 : Int), .int .i64 (n11 : Int), .int .i64 (n12 : Int), .int .i64 (n13 : Int), .int .i64 (n14 : Int), .int .i64 (n15 : Int)]) (.int .i64 12)).run Try.prog w = .ok (.int .i64 (n12 : Int)) w := fun _ => by kernel_rfl
      have i13 : ∀ w : World, (Instr.index 31 (.agg #[.int .i64 (n0 : Int), .int .i64 (n1 : Int), .int .i64 (n2 : Int), .int .i64 (n3 : Int), .int .i64 (n4 : Int), .int .i64 (n5 : Int), .int .i64 (n6 : Int), .int .i64 (n7 : Int), .int .i64 (n8 : Int), .int .i64 (n9 : Int), .int .i64 (n10 : Int), .int .i64 (n11 : Int), .int .i64 (n12 : Int), .int .i64 (n13 : Int), .int .i64 (n14 : Int), .int .i64 (n15 : Int)]) (.int .i64 13)).run Try.prog w = .ok (.int .i64 (n13 : Int)) w := fun _ => by kernel_rfl
      have i14 : ∀ w : World, (Instr.index 31 (.agg #[.int .i64 (n0 : Int), .int .i64 (n1 : Int), .int .i64 (n2 : Int), .int .i64 (n3 : Int), .int .i64 (n4 : Int), .int .i64 (n5 : Int), .int .i64 (n6 : Int), .int .i64 (n7 : Int), .int .i64 (n8 : Int), .int .i64 (n9 : Int), .int .i64 (n10 : Int), .int .i64 (n11 : Int), .int .i64 (n12 : Int), .int .i64 (n13 : Int), .int .i64 (n14 : Int), .int .i64 (n15 : Int)]) (.int .i64 14)).run Try.prog w = .ok (.int .i64 (n14 : Int)) w := fun _ => by kernel_rfl
      have i15 : ∀ w : World, (Instr.index 31 (.agg #[.int .i64 (n0 : Int), .int .i64 (n1 : Int), .int .i64 (n2 : Int), .int .i64 (n3 : Int), .int .i64 (n4 : Int), .int .i64 (n5 : Int), .int .i64 (n6 : Int), .int .i64 (n7 : Int), .int .i64 (n8 : Int), .int .i64 (n9 : Int), .int .i64 (n10 : Int), .int .i64 (n11 : Int), .int .i64 (n12 : Int), .int .i64 (n13 : Int), .int .i64 (n14 : Int), .int .i64 (n15 : Int)]) (.int .i64 15)).run Try.prog w = .ok (.int .i64 (n15 : Int)) w := fun _ => by kernel_rfl
      obtain ⟨m, t, z, hm, ht, ht1, hz, R1, R2⟩ := beside x hx
      have hz1 : ((z : Int) != (x : Int)) = true := by simp; omega
      have HB := Lib.hid hB
      clear hC hB
      go_wp2_with fail
      refine wp_loop_rounds 17 ?_
      rw [rounds_succ]
      go_wp2_with fail
      rw [rounds_succ]
      go_wp2_with fail
      rw [rounds_succ]
      go_wp2_with fail
      rw [rounds_succ]
      go_wp2_with fail
      rw [rounds_succ]
      go_wp2_with fail
      rw [rounds_succ]
      go_wp2_with fail
      rw [rounds_succ]
      go_wp2_with fail
      rw [rounds_succ]
      go_wp2_with fail
      rw [rounds_succ]
      go_wp2_with fail
      rw [rounds_succ]
      go_wp2_with fail
      rw [rounds_succ]
      go_wp2_with fail
      rw [rounds_succ]
      go_wp2_with fail
      rw [rounds_succ]
      go_wp2_with fail
      rw [rounds_succ]
      go_wp2_with fail
      rw [rounds_succ]
      go_wp2_with fail
      rw [rounds_succ]
      go_wp2_with fail
      rw [rounds_succ]
      go_wp2_with fail
      refine (R1.out _).mono ?_
      rintro e w1 ⟨rfl, g1⟩
      go_wp2_with fail
      refine (R2.out _).mono ?_
      rintro e w2 ⟨rfl, g2⟩
      go_wp2_with fail
      refine (awake_walk _).mono ?_
      rintro e w3 ⟨rfl, g3⟩
      go_wp2_with fail
      go_ret
      exact ⟨rfl, HB.out.trans ((below_trans (below_trans g1 g2) g3).mono HB.out.size)⟩
    · have hjz : (j : Int) < 256 := by omega
      obtain ⟨y, hy, hy1⟩ : ∃ y : Nat, IntKind.u64.wrap ((x : Int) + (j : Int)) = (y : Int) ∧ y < 18446744073709551616 := ⟨(x + j) % 18446744073709551616, by rw [IntKind.wrap_u64]; omega, by omega⟩
      obtain ⟨k, hk, R⟩ := bucket4 y hy1
      obtain ⟨c, Hc⟩ : ∃ c, Hid (f k = c) := ⟨_, rfl⟩
      have hc : c ≤ 256 := by
        have h := le_sumTo f k 16 hk
        rw [HS.out, Hc.out] at h
        omega
      have hk0 : ¬ (k : Int) < 0 := by omega
      have hk1 : ¬ (15 : Int) < (k : Int) := by omega
      have hk2 : (k : Int) < 16 := by omega
      have HN : Hid (sumTo (more f k) 16 = j + 1) := by
        show sumTo (more f k) 16 = j + 1
        rw [sumTo_more f k 16 hk, HS.out]
      go_wp2_with fail
      refine (R.out _).mono ?_
      rintro e w1 ⟨rfl, g1⟩
      have hC1 := Lib.hid (hC.below g1)
      have ck := (hC1.out.2 k hk).1
      have fk := (hC1.out.2 k hk).2
      rw [Hc.out] at ck
      have HB1 := Lib.hid (hB.trans (g1.mono hB.size))
      have HC2 := Lib.hid (hC1.out.set hk)
      rw [Hc.out] at HC2
      clear hC hB g1
      go_wp2_with fail
      go_roundg (256 - (j + 1))
      case measure => omega
      case rel => exact ⟨j + 1, more f k, rfl, by omega, by go_num, HC2, HN, HB1.out.setCell (p := ⟨w.heap.size, k, none⟩) (Nat.le_refl _) _⟩

theorem mixFar_walk (a0 : Int) (w : World) (h0 : (Lit.int .u64 a0).wf = true) :
    Calls Try.prog 7 #[.int .u64 a0] w fun e w' => e = .returned (.bool true) ∧ Below w.heap.size w w' := by
  obtain ⟨x, rfl, hx⟩ := nat_of_u64 h0
  exact mixFar_nat x w hx

end Go.Proofs.Ytbeampfgghejfaa
