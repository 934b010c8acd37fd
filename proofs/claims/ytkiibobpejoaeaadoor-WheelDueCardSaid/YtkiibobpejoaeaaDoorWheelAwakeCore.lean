/-
  The chapter's examples, over any wheel.
-/
import Derived.Test.YtkiibobpejoaeaaDoorWheelK
import Derived.Test.YtkiibobpejoaeaaDoorInts
namespace Go.Proofs.YtkiibobpejoaeaaDoor
open Go.RowKit
set_option linter.unusedVariables false

def aw0 : Wg := ⟨4, 10, 9, 0, [], [], 0⟩
def aw1 : Wg := ⟨4, 10, 9, 0, [⟨7, 3, 3⟩], [], 1⟩
def aw2 : Wg := ⟨4, 10, 9, 0, [⟨7, 3, 3⟩, ⟨8, 2, 2⟩], [], 2⟩
def aw3 : Wg := ⟨4, 10, 9, 0, [⟨7, 3, 3⟩, ⟨8, 2, 2⟩, ⟨9, 10, 3⟩], [], 3⟩
def aw4 : Wg := ⟨4, 10, 9, 1, [⟨7, 3, 3⟩, ⟨8, 2, 2⟩, ⟨9, 10, 3⟩], [], 3⟩
def aw5 : Wg := ⟨4, 10, 9, 2, [⟨7, 3, 3⟩, ⟨9, 10, 3⟩], [8], 3⟩
def aw6 : Wg := ⟨4, 10, 9, 2, [⟨7, 3, 3⟩, ⟨9, 10, 3⟩], [], 3⟩
def aw7 : Wg := ⟨4, 10, 9, 3, [⟨9, 10, 6⟩], [7], 3⟩
def aw8 : Wg := ⟨4, 10, 9, 3, [⟨9, 10, 6⟩], [], 3⟩
theorem aw1_ : aw0.put 7 (slotW 25 aw0.width) = aw1 := by rfl
theorem aw2_ : aw1.put 8 (slotW 12 aw1.width) = aw2 := by rfl
theorem aw3_ : aw2.put 9 (slotW 100 aw2.width) = aw3 := by rfl
theorem aw4_ : aw3.adv 19 = aw4 ∧ (aw3.ripe 19).length = 0 := by constructor <;> rfl
theorem aw5_ : aw4.adv 29 = aw5 ∧ (aw4.ripe 29).length = 1 := by constructor <;> rfl
theorem aw7_ : aw6.adv 35 = aw7 ∧ (aw6.ripe 35).length = 1 := by constructor <;> rfl
theorem aw3_held : aw3.held = [0, 0, 1, 2] := by rfl
theorem aw6_held : aw6.held = [0, 2, 0, 0] := by rfl
theorem aw8_held : aw8.held = [0, 0, 0, 1] := by rfl
theorem aw3_next : nextV aw3 = .tuple #[.int .u64 20, .bool true] := by rfl

theorem wheel_new_one (w : World) : Calls Tryd.prog 5 #[.int .i64 1, .int .u64 10, .int .i64 9] w fun e w' => e = .returned (.tuple #[.pointer none, .int .i64 2]) ∧ w' = w := by
  go_enter Tryd.func5, Tryd.ntmps5
  go_wp2_with fail
  go_ret2
  exact ⟨rfl, rfl⟩
/-- A row of numbers, as a slice of its own. -/
abbrev Rw := Option Addr × Nat × List Nat
def Rw.ok (N : Nat → Prop) (w W : World) (r : Rw) : Prop := W.ownsRow w.heap.size 3 1 (.slice r.1 r.2.2.length r.2.1) r.2.2.length (r.2.2.map natV) ∧ OffV N (.slice r.1 r.2.2.length r.2.1)
/-- A wheel of the call's own, and rows beside it. -/
def WRs (K : WheelK) (w W : World) (a : Addr) (g : Wg) (R : List Rw) : Prop := ∃ N, K.At N W a g ∧ g.Ok ∧ (∀ j, N j → w.heap.size ≤ j) ∧ Below w.heap.size w W ∧ ∀ r, r ∈ R → Rw.ok N w W r
section
variable {K : WheelK} {w W W' : World} {a : Addr} {g g' : Wg} {R : List Rw}
theorem WRs.of (h : WSt K w W a g) : WRs K w W a g [] := by
  obtain ⟨N, h1, h0, h2, h3⟩ := h
  exact ⟨N, h1, h0, h2, h3, fun r hr => by cases hr⟩
theorem WRs.lo (h : WRs K w W a g R) : Below w.heap.size w W := by
  obtain ⟨N, h1, h0, h2, h3, h4⟩ := h
  exact h3
theorem WRs.row (h : WRs K w W a g R) {p : Option Addr} {c : Nat} {l : List Nat} (hr : (p, c, l) ∈ R) : W.ownsRow w.heap.size 3 1 (.slice p l.length c) l.length (l.map natV) := by
  obtain ⟨N, h1, h0, h2, h3, h4⟩ := h
  exact (h4 _ hr).1
theorem WRs.below (h : WRs K w W a g R) (b : Below W.heap.size W W') : WRs K w W' a g R := by
  obtain ⟨N, h1, h0, h2, h3, h4⟩ := h
  exact ⟨N, K.below h1 b, h0, h2, below_tr h3 b, fun r hr => ⟨owns_below (h4 r hr).1 b, (h4 r hr).2⟩⟩
theorem WRs.went {N : Nat → Prop} (ok : g'.Ok) (h2 : ∀ j, N j → w.heap.size ≤ j) (h3 : Below w.heap.size w W) (h4 : ∀ r, r ∈ R → Rw.ok N w W r) (h : WentG K.At N W a g' W') : WRs K w W' a g' R := by
  obtain ⟨N', k1, k2, k3⟩ := h
  refine ⟨N', k1, ok, fun j hj => ?_, below_turned k2 h3.size h2 h3, fun r hr => ⟨own_turnedV (h4 r hr).1 (h4 r hr).2 k2, (h4 r hr).2.went (h4 r hr).1 k3⟩⟩
  rcases k3 j hj with h | h
  · exact h2 j h
  · exact Nat.le_trans h3.size h
theorem WRs.put (h : WRs K w W a g R) (hn : g.n < 4294967296) (v t : Nat) (hv : v < 18446744073709551616) (ht : t < 18446744073709551616) (hs : slotW t g.width < 18446744073709551616) : Calls Tryd.prog 8 #[.pointer (some a), .int .u64 (v : Int), .int .u64 (t : Int)] W fun e W' => e = .returned (.int .i64 (g.putE : Nat)) ∧ Hid (WRs K w W' a (g.put v (slotW t g.width)) R) := by
  obtain ⟨N, h1, h0, h2, h3, h4⟩ := h
  refine (K.put v t h1 h0 hn hv ht).mono ?_
  rintro e W' ⟨rfl, k⟩
  exact ⟨rfl, Lib.hid (.went (h0.put hv hs) h2 h3 h4 k)⟩
theorem WRs.advance (h : WRs K w W a g R) (hT : Tab w) (now : Nat) (hn : now < 18446744073709551616) : Calls Tryd.prog 10 #[.pointer (some a), .int .u64 (now : Int)] W fun e W' => e = .returned (.int .i64 ((g.ripe now).length : Nat)) ∧ Hid (WRs K w W' a (g.adv now) R) := by
  obtain ⟨N, h1, h0, h2, h3, h4⟩ := h
  refine (K.advance now h1 h0 hn (.off hT h2 h3)).mono ?_
  rintro e W' ⟨rfl, k⟩
  exact ⟨rfl, Lib.hid (.went (h0.adv hn) h2 h3 h4 k)⟩
theorem WRs.take (h : WRs K w W a g R) : Calls Tryd.prog 12 #[.pointer (some a)] W fun e W' => e = .returned (.tuple #[.int .u64 ((g.due.headD 0 : Nat) : Int), .bool (!g.due.isEmpty)]) ∧ Hid (WRs K w W' a g.took R) := by
  obtain ⟨N, h1, h0, h2, h3, h4⟩ := h
  refine (K.take h1 h0).mono ?_
  rintro e W' ⟨rfl, k⟩
  exact ⟨rfl, Lib.hid (.went h0.took h2 h3 h4 k)⟩
theorem WRs.cursor (h : WRs K w W a g R) : Calls Tryd.prog 18 #[.pointer (some a)] W fun e W' => e = .returned (.int .u64 (g.cur : Nat)) ∧ Hid (WRs K w W' a g R) := by
  have h' := h
  obtain ⟨N, h1, h0, h2, h3, h4⟩ := h
  refine (K.cursor h1 h0).mono ?_
  rintro e W' ⟨rfl, b⟩
  exact ⟨rfl, Lib.hid (h'.below b)⟩
theorem WRs.next (h : WRs K w W a g R) (hT : Tab w) : Calls Tryd.prog 14 #[.pointer (some a)] W fun e W' => e = .returned (nextV g) ∧ Hid (WRs K w W' a g R) := by
  have h' := h
  obtain ⟨N, h1, h0, h2, h3, h4⟩ := h
  refine (K.next h1 h0 (hT.below h3)).mono ?_
  rintro e W' ⟨rfl, b⟩
  exact ⟨rfl, Lib.hid (h'.below b)⟩
theorem WRs.held (h : WRs K w W a g R) {n : Nat} {l : List Nat} (hn : g.slots = n) (hl : g.held = l) (hln : l.length = n) : Calls Tryd.prog 20 #[.pointer (some a)] W fun e W' => ∃ p c, e = .returned (.slice p n c) ∧ Hid (WRs K w W' a g ((p, c, l) :: R)) := by
  have h' := h
  obtain ⟨N, h1, h0, h2, h3, h4⟩ := h
  refine (K.held h1 h0).mono ?_
  rintro e W' ⟨p, c, rfl, r, b⟩
  rw [hn, hl] at r
  subst hn
  refine ⟨p, c, rfl, Lib.hid ⟨N, K.below h1 b, h0, h2, below_tr h3 b, fun x hx => ?_⟩⟩
  rcases List.mem_cons.1 hx with rfl | hx
  · refine ⟨?_, ?_⟩
    · show W'.ownsRow _ _ 1 (.slice p l.length c) l.length _
      rw [hln]
      exact own_low r h3.size
    · show OffV N (.slice p l.length c)
      rw [hln]
      exact OffV.fresh (K.lt h1) r
  · exact ⟨owns_below (h4 x hx).1 b, (h4 x hx).2⟩
theorem WRs.ints (h : WRs K w W a g R) {p : Option Addr} {c : Nat} {l : List Nat} (hr : (p, c, l) ∈ R) (hl : l.length ≤ 65536) {cs : Array Value} {n : Nat} (hcs : (l.map natV).toArray = cs) (hn : l.length = n) : Calls Tryd.prog 19 #[.slice p n c, .slice (some ⟨W.heap.size, 0, none⟩) n n] (W.alloc (.cells cs 3)) fun e W' => e = .returned (.bool true) ∧ Hid (WRs K w W' a g R) := by
  subst hcs hn
  have hb : Below W.heap.size W (W.alloc (.cells (l.map natV).toArray 3)) := (Below.refl _ W).alloc (Nat.le_refl _) _
  have h' := h.below hb
  have hx := World.ownsRow_lit (base := w.heap.size) (e := 3) (size := 1) W (l.map natV).toArray l.length h.lo.size (Nat.le_trans hl (by decide)) (by simp)
  refine (law_ints p (some ⟨W.heap.size, 0, none⟩) c l.length w.heap.size w.heap.size l l _ hl hl (h'.row hr) hx).mono ?_
  rintro e W' ⟨rfl, b⟩
  exact ⟨by rw [decide_eq_true rfl], Lib.hid (h'.below b)⟩
end

set_option maxHeartbeats 8000000 in
set_option maxRecDepth 100000 in
theorem awake9_of (K : WheelK) (w : World) (hT : Tab w) : Calls Tryd.prog 7 #[] w fun e w' => e = .returned (.bool true) ∧ Below w.heap.size w w' := by
  have HT := Lib.hid hT
  have KN := Lib.hid (WSt.new_ K 4 10 9 w w (Below.refl _ _) (by omega) (by omega) (by omega) (by omega) (by omega) (by omega))
  clear hT
  go_enter Tryd.func7, Tryd.ntmps7
  go_wp2_with fail
  refine KN.out.mono ?_
  rintro e W0 ⟨a, rfl, S0⟩
  replace S0 : Hid (WRs K w W0 a aw0 []) := Lib.hid (WRs.of S0.out)
  clear KN
  have K1 := S0.out.put (by decide) 7 25 (by decide) (by decide) (by decide)
  rw [aw1_] at K1
  go_wp2_with fail
  refine K1.mono ?_
  rintro e W1 ⟨rfl, S1⟩
  clear K1 S0
  have K2 := S1.out.put (by decide) 8 12 (by decide) (by decide) (by decide)
  rw [aw2_] at K2
  go_wp2_with fail
  refine K2.mono ?_
  rintro e W2 ⟨rfl, S2⟩
  clear K2 S1
  have K3 := S2.out.put (by decide) 9 100 (by decide) (by decide) (by decide)
  rw [aw3_] at K3
  go_wp2_with fail
  refine K3.mono ?_
  rintro e W3 ⟨rfl, S3⟩
  clear K3 S2
  have K4 := S3.out.held (n := 4) rfl aw3_held rfl
  go_wp2_with fail
  refine K4.mono ?_
  rintro e W4 ⟨p1, c1, rfl, S4⟩
  clear K4 S3
  have K5 := S4.out.next HT.out
  rw [aw3_next] at K5
  go_wp2_with fail
  refine K5.mono ?_
  rintro e W5 ⟨rfl, S5⟩
  clear K5 S4
  have K6 := S5.out.advance HT.out 19 (by decide)
  rw [aw4_.1, aw4_.2] at K6
  go_wp2_with fail
  refine K6.mono ?_
  rintro e W6 ⟨rfl, S6⟩
  clear K6 S5
  have K7 := S6.out.advance HT.out 29 (by decide)
  rw [aw5_.1, aw5_.2] at K7
  go_wp2_with fail
  refine K7.mono ?_
  rintro e W7 ⟨rfl, S7⟩
  clear K7 S6
  have K8 : Calls Tryd.prog 12 #[.pointer (some a)] W7 fun e W' => e = .returned (.tuple #[.int .u64 8, .bool true]) ∧ Hid (WRs K w W' a aw6 [(p1, c1, [0, 0, 1, 2])]) := S7.out.take
  go_wp2_with fail
  refine K8.mono ?_
  rintro e W8 ⟨rfl, S8⟩
  clear K8 S7
  have K9 : Calls Tryd.prog 18 #[.pointer (some a)] W8 fun e W' => e = .returned (.int .u64 2) ∧ Hid (WRs K w W' a aw6 [(p1, c1, [0, 0, 1, 2])]) := S8.out.cursor
  go_wp2_with fail
  refine K9.mono ?_
  rintro e W9 ⟨rfl, S9⟩
  clear K9 S8
  have K10 := S9.out.held (n := 4) rfl aw6_held rfl
  go_wp2_with fail
  refine K10.mono ?_
  rintro e W10 ⟨p2, c2, rfl, S10⟩
  clear K10 S9
  have K11 := S10.out.advance HT.out 35 (by decide)
  rw [aw7_.1, aw7_.2] at K11
  go_wp2_with fail
  refine K11.mono ?_
  rintro e W11 ⟨rfl, S11⟩
  clear K11 S10
  have K12 : Calls Tryd.prog 12 #[.pointer (some a)] W11 fun e W' => e = .returned (.tuple #[.int .u64 7, .bool true]) ∧ Hid (WRs K w W' a aw8 [(p2, c2, [0, 2, 0, 0]), (p1, c1, [0, 0, 1, 2])]) := S11.out.take
  go_wp2_with fail
  refine K12.mono ?_
  rintro e W12 ⟨rfl, S12⟩
  clear K12 S11
  have K13 := S12.out.held (n := 4) rfl aw8_held rfl
  go_wp2_with fail
  refine K13.mono ?_
  rintro e W13 ⟨p3, c3, rfl, S13⟩
  clear K13 S12
  go_wp2_with fail
  refine (wheel_new_one W13).mono ?_
  rintro e W14 ⟨rfl, rfl⟩
  go_wp2_with fail
  refine (S13.out.ints (l := [0, 0, 1, 2]) (by simp) (by decide) rfl rfl).mono ?_
  rintro e W15 ⟨rfl, S15⟩
  clear S13
  go_wp2_with fail
  refine (S15.out.ints (l := [0, 2, 0, 0]) (by simp) (by decide) rfl rfl).mono ?_
  rintro e W16 ⟨rfl, S16⟩
  clear S15
  go_wp2_with fail
  refine (S16.out.ints (l := [0, 0, 0, 1]) (by simp) (by decide) rfl rfl).mono ?_
  rintro e W17 ⟨rfl, S17⟩
  clear S16
  go_wp2_with fail
  go_ret
  exact ⟨rfl, S17.out.lo⟩

end Go.Proofs.YtkiibobpejoaeaaDoor
