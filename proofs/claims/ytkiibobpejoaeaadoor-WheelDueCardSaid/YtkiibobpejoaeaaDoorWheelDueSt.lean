/-
  Where WheelDue stands: a wheel of the call's own, a row of instants and a row of marks beside it.
-/
import Derived.Test.YtkiibobpejoaeaaDoorWheelK
namespace Go.Proofs.YtkiibobpejoaeaaDoor
open Go.RowKit
set_option linter.unusedVariables false

structure DSt' (K : WheelK) (N : Nat → Prop) (w W : World) (a : Addr) (g : Wg) (va vc : Value) (xs : List Nat) (bs : List Bool) : Prop where
  at_ : K.At N W a g
  ok : g.Ok
  new : ∀ j, N j → w.heap.size ≤ j
  lo : Below w.heap.size w W
  ra : W.ownsRow w.heap.size 22 1 va xs.length (xs.map u64V)
  rc : W.ownsRow w.heap.size 4 1 vc bs.length (bs.map Value.bool)
  oa : OffV N va
  oc : OffV N vc
def DSt (K : WheelK) (w W : World) (a : Addr) (g : Wg) (va vc : Value) (xs : List Nat) (bs : List Bool) : Prop := ∃ N, DSt' K N w W a g va vc xs bs
section
variable {K : WheelK} {w W W' : World} {a : Addr} {g : Wg} {va vc : Value} {xs : List Nat} {bs : List Bool}
theorem DSt.lo (h : DSt K w W a g va vc xs bs) : Below w.heap.size w W := by
  obtain ⟨N, h⟩ := h
  exact h.lo
theorem DSt.ok (h : DSt K w W a g va vc xs bs) : g.Ok := by
  obtain ⟨N, h⟩ := h
  exact h.ok
theorem DSt.ra (h : DSt K w W a g va vc xs bs) : W.ownsRow w.heap.size 22 1 va xs.length (xs.map u64V) := by
  obtain ⟨N, h⟩ := h
  exact h.ra
theorem DSt.rc (h : DSt K w W a g va vc xs bs) : W.ownsRow w.heap.size 4 1 vc bs.length (bs.map Value.bool) := by
  obtain ⟨N, h⟩ := h
  exact h.rc
theorem DSt.of (h : WSt K w W a g) : DSt K w W a g (.slice none 0 0) (.slice none 0 0) [] [] := by
  obtain ⟨N, h1, h2, h3, h4⟩ := h
  exact ⟨N, h1, h2, h3, h4, World.ownsRow_nil _ _ _ _, World.ownsRow_nil _ _ _ _, fun k _ e => (by cases e), fun k _ e => (by cases e)⟩
theorem DSt.below (h : DSt K w W a g va vc xs bs) (b : Below W.heap.size W W') : DSt K w W' a g va vc xs bs := by
  obtain ⟨N, h⟩ := h
  exact ⟨N, K.below h.at_ b, h.ok, h.new, below_tr h.lo b, owns_below h.ra b, owns_below h.rc b, h.oa, h.oc⟩
theorem DSt.went {N : Nat → Prop} {g' : Wg} (h : DSt' K N w W a g va vc xs bs) (ok : g'.Ok) (k : WentG K.At N W a g' W') : DSt K w W' a g' va vc xs bs := by
  obtain ⟨N', k1, k2, k3⟩ := k
  refine ⟨N', k1, ok, fun j hj => ?_, below_turned k2 h.lo.size h.new h.lo, own_turnedV h.ra h.oa k2, own_turnedV h.rc h.oc k2, h.oa.went h.ra k3, h.oc.went h.rc k3⟩
  rcases k3 j hj with h5 | h5
  · exact h.new j h5
  · exact Nat.le_trans h.lo.size h5
theorem DSt.put (h : DSt K w W a g va vc xs bs) (hn : g.n < 4294967296) (v t : Nat) (hv : v < 18446744073709551616) (ht : t < 18446744073709551616) (hs : slotW t g.width < 18446744073709551616) : Calls Tryd.prog 8 #[.pointer (some a), .int .u64 (v : Int), .int .u64 (t : Int)] W fun e W' => e = .returned (.int .i64 (g.putE : Nat)) ∧ Hid (DSt K w W' a (g.put v (slotW t g.width)) va vc xs bs) := by
  obtain ⟨N, h⟩ := h
  refine (K.put v t h.at_ h.ok hn hv ht).mono ?_
  rintro e W' ⟨rfl, k⟩
  exact ⟨rfl, Lib.hid (.went h (h.ok.put hv hs) k)⟩
/-- A box that was laid behind stays, too. -/
theorem DSt.putB {W5 : World} {ob : Nat} {ty : TypeId} {cs : Array Value} (h : DSt K w W a g va vc xs bs) (b : Below W.heap.size W W5) (hx : Box W5 ob ty cs) (ho : W.heap.size ≤ ob) (hn : g.n < 4294967296) (v t : Nat) (hv : v < 18446744073709551616) (ht : t < 18446744073709551616) (hs : slotW t g.width < 18446744073709551616) : Calls Tryd.prog 8 #[.pointer (some a), .int .u64 (v : Int), .int .u64 (t : Int)] W5 fun e W' => e = .returned (.int .i64 (g.putE : Nat)) ∧ Hid (DSt K w W' a (g.put v (slotW t g.width)) va vc xs bs) ∧ Hid (Box W' ob ty cs) := by
  obtain ⟨N, h⟩ := h
  have hlt := fun k hk => K.lt h.at_ k hk
  have h5 : DSt' K N w W5 a g va vc xs bs := ⟨K.below h.at_ b, h.ok, h.new, below_tr h.lo b, owns_below h.ra b, owns_below h.rc b, h.oa, h.oc⟩
  refine (K.put v t h5.at_ h5.ok hn hv ht).mono ?_
  rintro e W' ⟨rfl, k⟩
  refine ⟨rfl, Lib.hid (.went h5 (h5.ok.put hv hs) k), Lib.hid ?_⟩
  obtain ⟨N', k1, k2, k3⟩ := k
  exact hx.turned k2 (fun hN => by have := hlt _ hN; omega)
theorem DSt.advance (h : DSt K w W a g va vc xs bs) (hT : Tab w) (now : Nat) (hn : now < 18446744073709551616) : Calls Tryd.prog 10 #[.pointer (some a), .int .u64 (now : Int)] W fun e W' => e = .returned (.int .i64 ((g.ripe now).length : Nat)) ∧ Hid (DSt K w W' a (g.adv now) va vc xs bs) := by
  obtain ⟨N, h⟩ := h
  refine (K.advance now h.at_ h.ok hn (.off hT h.new h.lo)).mono ?_
  rintro e W' ⟨rfl, k⟩
  exact ⟨rfl, Lib.hid (.went h (h.ok.adv hn) k)⟩
theorem DSt.take (h : DSt K w W a g va vc xs bs) : Calls Tryd.prog 12 #[.pointer (some a)] W fun e W' => e = .returned (.tuple #[.int .u64 ((g.due.headD 0 : Nat) : Int), .bool (!g.due.isEmpty)]) ∧ Hid (DSt K w W' a g.took va vc xs bs) := by
  obtain ⟨N, h⟩ := h
  refine (K.take h.at_ h.ok).mono ?_
  rintro e W' ⟨rfl, k⟩
  exact ⟨rfl, Lib.hid (.went h h.ok.took k)⟩
theorem DSt.due (h : DSt K w W a g va vc xs bs) : Calls Tryd.prog 16 #[.pointer (some a)] W fun e W' => e = .returned (.int .i64 (g.due.length : Nat)) ∧ Hid (DSt K w W' a g va vc xs bs) := by
  have h' := h
  obtain ⟨N, h⟩ := h
  refine (K.due h.at_ h.ok).mono ?_
  rintro e W' ⟨rfl, b⟩
  exact ⟨rfl, Lib.hid (h'.below b)⟩
/-- The row of instants behind an append. -/
theorem DSt.growA {w1 : World} {va' : Value} {xs' : List Nat} (h : DSt K w W a g va vc xs bs) (o : w1.ownsRow w.heap.size 22 1 va' xs'.length (xs'.map u64V)) (t : W.grownBy w1 va.ownBlock) (hat : va'.ownBlock = va.ownBlock ∨ va'.ownBlock = some W.heap.size) : DSt K w w1 a g va' vc xs' bs := by
  obtain ⟨N, h⟩ := h
  have hlt := fun k hk => K.lt h.at_ k hk
  refine ⟨N, K.kept h.at_ (fun k hk => t.block k (hlt k hk) (fun e => h.oa k hk e.symm)) t.size, h.ok, h.new, below_grown h.lo h.ra (Nat.le_refl _) t, o, h.rc.kept t (own_ne2 h.rc h.ra (by decide)), fun k hk e => ?_, h.oc⟩
  rcases hat with h4 | h4
  · exact h.oa k hk (h4.symm.trans e)
  · have h5 := hlt k hk
    rw [h4] at e
    have := Option.some.inj e
    omega
/-- The row of marks behind an append. -/
theorem DSt.growC {w1 : World} {vc' : Value} {bs' : List Bool} (h : DSt K w W a g va vc xs bs) (o : w1.ownsRow w.heap.size 4 1 vc' bs'.length (bs'.map Value.bool)) (t : W.grownBy w1 vc.ownBlock) (hat : vc'.ownBlock = vc.ownBlock ∨ vc'.ownBlock = some W.heap.size) : DSt K w w1 a g va vc' xs bs' := by
  obtain ⟨N, h⟩ := h
  have hlt := fun k hk => K.lt h.at_ k hk
  refine ⟨N, K.kept h.at_ (fun k hk => t.block k (hlt k hk) (fun e => h.oc k hk e.symm)) t.size, h.ok, h.new, below_grown h.lo h.rc (Nat.le_refl _) t, h.ra.kept t (own_ne2 h.ra h.rc (by decide)), o, h.oa, fun k hk e => ?_⟩
  rcases hat with h4 | h4
  · exact h.oc k hk (h4.symm.trans e)
  · have h5 := hlt k hk
    rw [h4] at e
    have := Option.some.inj e
    omega
/-- A mark is set. -/
theorem DSt.mark {gc n c j : Nat} (h : DSt K w W a g va (.slice (some ⟨gc, 0, none⟩) n c) xs bs) (b : Bool) : DSt K w (W.setCell ⟨gc, j, none⟩ (.bool b)) a g va (.slice (some ⟨gc, 0, none⟩) n c) xs (bs.set j b) := by
  obtain ⟨N, h⟩ := h
  obtain ⟨q, c', e⟩ := owns_slice h.rc
  cases e
  have hn : ¬ N gc := fun hk => h.oc gc hk rfl
  have hgc := h.rc.lt gc rfl
  have t : Turned (fun k => k = gc) W (W.setCell ⟨gc, j, none⟩ (.bool b)) := Turned.set (N := fun k => k = gc) (Turned.refl _ W) (b := gc) rfl _
  refine ⟨N, K.kept h.at_ (fun k hk => t.block k (K.lt h.at_ k hk) (fun e => hn (e ▸ hk))) t.size, h.ok, h.new, below_turned t h.lo.size (fun k e => by subst e; exact hgc.1) h.lo, own_set h.ra (own_ne h.ra h.rc (by decide)), ?_, h.oa, h.oc⟩
  have r := own_put1 (j := j) h.rc (.bool b)
  rw [List.length_set, List.map_set]
  exact r
end

end Go.Proofs.YtkiibobpejoaeaaDoor
