/-
  Two wheels of the call's own, beside each other.
-/
import Derived.Test.YtmaofmbnlfggiaaDoorWheelK
namespace Go.Proofs.YtmaofmbnlfggiaaDoor
open Go.RowKit
set_option linter.unusedVariables false

structure WTwo' (K : WheelK) (N1 N2 : Nat → Prop) (w W : World) (a b : Addr) (g h : Wg) : Prop where
  one : K.At N1 W a g
  two : K.At N2 W b h
  ok1 : g.Ok
  ok2 : h.Ok
  new1 : ∀ j, N1 j → w.heap.size ≤ j
  new2 : ∀ j, N2 j → w.heap.size ≤ j
  apart : ∀ j, N1 j → ¬ N2 j
  lo : Below w.heap.size w W
def WTwo (K : WheelK) (w W : World) (a b : Addr) (g h : Wg) : Prop := ∃ N1 N2, WTwo' K N1 N2 w W a b g h
section
variable {K : WheelK} {w W W' : World} {a b : Addr} {g h : Wg}
theorem WTwo.lo (s : WTwo K w W a b g h) : Below w.heap.size w W := by
  obtain ⟨_, _, s⟩ := s
  exact s.lo
theorem WTwo.ok1 (s : WTwo K w W a b g h) : g.Ok := by
  obtain ⟨_, _, s⟩ := s
  exact s.ok1
theorem WTwo.ok2 (s : WTwo K w W a b g h) : h.Ok := by
  obtain ⟨_, _, s⟩ := s
  exact s.ok2
theorem WTwo.swap (s : WTwo K w W a b g h) : WTwo K w W b a h g := by
  obtain ⟨N1, N2, s⟩ := s
  exact ⟨N2, N1, s.two, s.one, s.ok2, s.ok1, s.new2, s.new1, fun j h2 h1 => s.apart j h1 h2, s.lo⟩
theorem WTwo.below (s : WTwo K w W a b g h) (l : Below W.heap.size W W') : WTwo K w W' a b g h := by
  obtain ⟨N1, N2, s⟩ := s
  exact ⟨N1, N2, K.below s.one l, K.below s.two l, s.ok1, s.ok2, s.new1, s.new2, s.apart, below_tr s.lo l⟩
theorem WTwo.went {N1 N2 : Nat → Prop} {g' : Wg} (s : WTwo' K N1 N2 w W a b g h) (ok : g'.Ok) (k : WentG K.At N1 W a g' W') : WTwo K w W' a b g' h := by
  obtain ⟨N', k1, k2, k3⟩ := k
  refine ⟨N', N2, k1, K.kept s.two (fun j hj => k2.block j (K.lt s.two j hj) (fun hn => s.apart j hn hj)) k2.size, ok, s.ok2, fun j hj => ?_, s.new2, fun j hj h2 => ?_, below_turned k2 s.lo.size s.new1 s.lo⟩
  · rcases k3 j hj with h | h
    · exact s.new1 j h
    · exact Nat.le_trans s.lo.size h
  · rcases k3 j hj with h | h
    · exact s.apart j h h2
    · have := K.lt s.two j h2; omega
/-- A second wheel beside the first. -/
theorem WTwo.new_ (s : WSt K w W a g) (slots width room : Nat) (h1 : 2 ≤ slots) (h2 : slots ≤ 4096) (h3 : 1 ≤ width) (h4 : width ≤ 1099511627776) (h5 : 1 ≤ room) (h6 : room ≤ 65536) : Calls Tryd.prog 9 #[.int .i64 (slots : Int), .int .u64 (width : Int), .int .i64 (room : Int)] W fun e W' => ∃ b, e = .returned (.tuple #[.pointer (some b), .int .i64 0]) ∧ Hid (WTwo K w W' a b g ⟨slots, width, room, 0, [], [], 0⟩) := by
  obtain ⟨N, k1, ok, k2, k3⟩ := s
  refine (K.new slots width room W h1 h2 h3 h4 h5 h6).mono ?_
  rintro e W' ⟨b, N2, rfl, m1, m2, m3⟩
  exact ⟨b, rfl, Lib.hid ⟨N, N2, K.below k1 m3, m1, ok, new_ok h1 h2 h3 h4 h5 h6, k2, fun j hj => Nat.le_trans k3.size (m2 j hj), fun j hj hj2 => by have := K.lt k1 j hj; have := m2 j hj2; omega, below_tr k3 m3⟩⟩
theorem WTwo.put (s : WTwo K w W a b g h) (hn : g.n < 4294967296) (v t : Nat) (hv : v < 18446744073709551616) (ht : t < 18446744073709551616) (hs : slotW t g.width < 18446744073709551616) : Calls Tryd.prog 12 #[.pointer (some a), .int .u64 (v : Int), .int .u64 (t : Int)] W fun e W' => e = .returned (.int .i64 (g.putE : Nat)) ∧ Hid (WTwo K w W' a b (g.put v (slotW t g.width)) h) := by
  obtain ⟨N1, N2, s⟩ := s
  refine (K.put v t s.one s.ok1 hn hv ht).mono ?_
  rintro e W' ⟨rfl, k⟩
  exact ⟨rfl, Lib.hid (.went s (s.ok1.put hv hs) k)⟩
theorem WTwo.advance (s : WTwo K w W a b g h) (hT : Tab w) (now : Nat) (hn : now < 18446744073709551616) : Calls Tryd.prog 14 #[.pointer (some a), .int .u64 (now : Int)] W fun e W' => e = .returned (.int .i64 ((g.ripe now).length : Nat)) ∧ Hid (WTwo K w W' a b (g.adv now) h) := by
  obtain ⟨N1, N2, s⟩ := s
  refine (K.advance now s.one s.ok1 hn (.off hT s.new1 s.lo)).mono ?_
  rintro e W' ⟨rfl, k⟩
  exact ⟨rfl, Lib.hid (.went s (s.ok1.adv hn) k)⟩
theorem WTwo.take (s : WTwo K w W a b g h) : Calls Tryd.prog 16 #[.pointer (some a)] W fun e W' => e = .returned (.tuple #[.int .u64 ((g.due.headD 0 : Nat) : Int), .bool (!g.due.isEmpty)]) ∧ Hid (WTwo K w W' a b g.took h) := by
  obtain ⟨N1, N2, s⟩ := s
  refine (K.take s.one s.ok1).mono ?_
  rintro e W' ⟨rfl, k⟩
  exact ⟨rfl, Lib.hid (.went s s.ok1.took k)⟩
theorem WTwo.due (s : WTwo K w W a b g h) : Calls Tryd.prog 20 #[.pointer (some a)] W fun e W' => e = .returned (.int .i64 (g.due.length : Nat)) ∧ Hid (WTwo K w W' a b g h) := by
  have s' := s
  obtain ⟨N1, N2, s⟩ := s
  refine (K.due s.one s.ok1).mono ?_
  rintro e W' ⟨rfl, l⟩
  exact ⟨rfl, Lib.hid (s'.below l)⟩
theorem WTwo.waits (s : WTwo K w W a b g h) : Calls Tryd.prog 21 #[.pointer (some a)] W fun e W' => e = .returned (.int .i64 (g.l.length : Nat)) ∧ Hid (WTwo K w W' a b g h) := by
  have s' := s
  obtain ⟨N1, N2, s⟩ := s
  refine (K.waits s.one s.ok1).mono ?_
  rintro e W' ⟨rfl, l⟩
  exact ⟨rfl, Lib.hid (s'.below l)⟩
theorem WTwo.cursor (s : WTwo K w W a b g h) : Calls Tryd.prog 22 #[.pointer (some a)] W fun e W' => e = .returned (.int .u64 (g.cur : Nat)) ∧ Hid (WTwo K w W' a b g h) := by
  have s' := s
  obtain ⟨N1, N2, s⟩ := s
  refine (K.cursor s.one s.ok1).mono ?_
  rintro e W' ⟨rfl, l⟩
  exact ⟨rfl, Lib.hid (s'.below l)⟩
end

end Go.Proofs.YtmaofmbnlfggiaaDoor
