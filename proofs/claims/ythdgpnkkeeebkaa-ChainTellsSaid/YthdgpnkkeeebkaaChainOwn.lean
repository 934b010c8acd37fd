/-
  The program's own chains (package chain): how chains lie in memory, and what the small calls answer.
-/
import Derived.Test.YthdgpnkkeeebkaaChainFacts
import Derived.Test.YthdgpnkkeeebkaaChainK
namespace Go.Proofs.Ythdgpnkkeeebkaa
open Go.RowKit
set_option linter.unusedVariables false

def upd (f : Nat → Nat) (i v : Nat) : Nat → Nat := fun j => if j = i then v else f j
theorem upd_at (f : Nat → Nat) (i v : Nat) : upd f i v i = v := if_pos rfl
theorem upd_ne {f : Nat → Nat} {i v j : Nat} (h : j ≠ i) : upd f i v j = f j := if_neg h

/-- Block b holds k numbers. -/
def RowN (w : World) (b : Nat) (t : TypeId) (k : Nat) (f : Nat → Nat) : Prop := ∃ cs : Array Value, Box w b t cs ∧ cs.size = k ∧ ∀ i, i < k → cs[i]? = some (natV (f i))
section
variable {w w' : World} {b k : Nat} {t : TypeId} {f : Nat → Nat}
theorem RowN.cell (h : RowN w b t k f) {i : Nat} (hi : i < k) : w.cell? ⟨b, i, none⟩ = some (.int .i64 (f i : Int)) := by
  obtain ⟨cs, h1, h2, h3⟩ := h
  rw [h1.cell, h3 i hi]
  rfl
theorem RowN.frozen (h : RowN w b t k f) (i : Nat) : w.frozen? ⟨b, i, none⟩ = false := by
  obtain ⟨cs, h1, _⟩ := h
  exact h1.frozen i
theorem RowN.lt (h : RowN w b t k f) : b < w.heap.size := by
  obtain ⟨cs, h1, _⟩ := h
  exact h1.lt
theorem RowN.same (h : RowN w b t k f) (e : w'.heap[b]? = w.heap[b]?) : RowN w' b t k f := by
  obtain ⟨cs, h1, h2⟩ := h
  exact ⟨cs, e.trans h1, h2⟩
theorem RowN.other {c i : Nat} (h : RowN w b t k f) (hne : b ≠ c) (u : Value) : RowN (w.setCell ⟨c, i, none⟩ u) b t k f := by
  obtain ⟨cs, h1, h2⟩ := h
  exact ⟨cs, h1.other hne u, h2⟩
theorem RowN.congr {f' : Nat → Nat} (h : RowN w b t k f) (e : ∀ i, i < k → f i = f' i) : RowN w b t k f' := by
  obtain ⟨cs, h1, h2, h3⟩ := h
  exact ⟨cs, h1, h2, fun i hi => by rw [h3 i hi, e i hi]⟩
theorem RowN.set (h : RowN w b t k f) (i v : Nat) : RowN (w.setCell ⟨b, i, none⟩ (.int .i64 (v : Int))) b t k (upd f i v) := by
  obtain ⟨cs, h1, h2, h3⟩ := h
  refine ⟨_, h1.set i _, by simp [h2], fun j hj => ?_⟩
  by_cases c : j = i
  · subst c
    rw [upd_at, Array.getElem?_setIfInBounds_self_of_lt (by omega)]
    rfl
  · rw [upd_ne c, Array.getElem?_setIfInBounds_ne (fun e => c e.symm), h3 j hj]
theorem RowN.ne {b' k' : Nat} {t' : TypeId} {f' : Nat → Nat} (h : RowN w b t k f) (h' : RowN w b' t' k' f') (hne : t ≠ t') : b ≠ b' := by
  obtain ⟨cs, h1, _⟩ := h
  obtain ⟨cs', h1', _⟩ := h'
  exact h1.ne h1' hne
theorem RowN.box_ne {b' : Nat} {t' : TypeId} {cs' : Array Value} (h : RowN w b t k f) (h' : Box w b' t' cs') (hne : t ≠ t') : b ≠ b' := by
  obtain ⟨cs, h1, _⟩ := h
  exact h1.ne h' hne
end

/-- n nodes and m lists lie in four blocks. -/
structure Raw (w : World) (b gl gh gs n m : Nat) (K H S : Nat → Nat) : Prop where
  box : Box w b 58 #[.slice (some ⟨gl, 0, none⟩) (n + m) (n + m), .slice (some ⟨gh, 0, none⟩) n n, .slice (some ⟨gs, 0, none⟩) m m]
  links : RowN w gl 63 ((n + m) * 2) K
  homes : RowN w gh 3 n H
  sizes : RowN w gs 3 m S
  ne : gh ≠ gs
  n1 : n ≤ 65536
  m0 : 1 ≤ m
  m1 : m ≤ 64
def Own4 (b gl gh gs : Nat) (k : Nat) : Prop := k = b ∨ k = gl ∨ k = gh ∨ k = gs
section
variable {w w' : World} {b gl gh gs n m : Nat} {K H S : Nat → Nat}
theorem Raw.cells (h : Raw w b gl gh gs n m K H S) : w.cell? ⟨b, 0, none⟩ = some (.slice (some ⟨gl, 0, none⟩) (n + m) (n + m)) ∧ w.cell? ⟨b, 1, none⟩ = some (.slice (some ⟨gh, 0, none⟩) n n) ∧ w.cell? ⟨b, 2, none⟩ = some (.slice (some ⟨gs, 0, none⟩) m m) :=
  ⟨h.box.cell 0, h.box.cell 1, h.box.cell 2⟩
theorem Raw.same (h : Raw w b gl gh gs n m K H S) (e : ∀ k, Own4 b gl gh gs k → w'.heap[k]? = w.heap[k]?) : Raw w' b gl gh gs n m K H S :=
  ⟨(e b (.inl rfl)).trans h.box, h.links.same (e gl (.inr (.inl rfl))), h.homes.same (e gh (.inr (.inr (.inl rfl)))), h.sizes.same (e gs (.inr (.inr (.inr rfl)))), h.ne, h.n1, h.m0, h.m1⟩
theorem Raw.lt (h : Raw w b gl gh gs n m K H S) : ∀ k, Own4 b gl gh gs k → k < w.heap.size := by
  rintro k (rfl | rfl | rfl | rfl)
  · exact h.box.lt
  · exact h.links.lt
  · exact h.homes.lt
  · exact h.sizes.lt
theorem Raw.drewN (h : Raw w b gl gh gs n m K H S) (k : Nat) : Raw (w.drewN k) b gl gh gs n m K H S := h.same fun i hi => (below_drewN (Below.refl w.heap.size w) k).block i (h.lt i hi)
theorem Raw.below (h : Raw w b gl gh gs n m K H S) (bl : Below w.heap.size w w') : Raw w' b gl gh gs n m K H S := h.same fun k hk => bl.block k (h.lt k hk)
theorem Raw.setL (h : Raw w b gl gh gs n m K H S) (i v : Nat) : Raw (w.setCell ⟨gl, i, none⟩ (.int .i64 (v : Int))) b gl gh gs n m (upd K i v) H S :=
  ⟨h.box.other (Ne.symm (h.links.box_ne h.box (by decide))) _, h.links.set i v, h.homes.other (Ne.symm (h.links.ne h.homes (by decide))) _, h.sizes.other (Ne.symm (h.links.ne h.sizes (by decide))) _, h.ne, h.n1, h.m0, h.m1⟩
theorem Raw.setH (h : Raw w b gl gh gs n m K H S) (i v : Nat) : Raw (w.setCell ⟨gh, i, none⟩ (.int .i64 (v : Int))) b gl gh gs n m K (upd H i v) S :=
  ⟨h.box.other (Ne.symm (h.homes.box_ne h.box (by decide))) _, h.links.other (h.links.ne h.homes (by decide)) _, h.homes.set i v, h.sizes.other (Ne.symm h.ne) _, h.ne, h.n1, h.m0, h.m1⟩
theorem Raw.setS (h : Raw w b gl gh gs n m K H S) (i v : Nat) : Raw (w.setCell ⟨gs, i, none⟩ (.int .i64 (v : Int))) b gl gh gs n m K H (upd S i v) :=
  ⟨h.box.other (Ne.symm (h.sizes.box_ne h.box (by decide))) _, h.links.other (h.links.ne h.sizes (by decide)) _, h.homes.other h.ne _, h.sizes.set i v, h.ne, h.n1, h.m0, h.m1⟩
theorem Raw.putH (h : Raw w b gl gh gs n m K H S) (i v : Nat) {u : Int} (e : u = (v : Int)) : Raw (w.setCell ⟨gh, i, none⟩ (.int .i64 u)) b gl gh gs n m K (upd H i v) S := e ▸ h.setH i v
theorem Raw.putS (h : Raw w b gl gh gs n m K H S) (i v : Nat) {u : Int} (e : u = (v : Int)) : Raw (w.setCell ⟨gs, i, none⟩ (.int .i64 u)) b gl gh gs n m K H (upd S i v) := e ▸ h.setS i v

theorem raw_made (h : Raw w b gl gh gs n m K H S) :
    Calls Try.prog 28 #[.pointer (some ⟨b, 0, none⟩)] w fun e w' => e = .returned (.bool true) ∧ w' = w := by
  obtain ⟨c0, c1, c2⟩ := h.cells
  have h1 := h.m0
  have h2 := h.m1
  have h0 : (0 : Int) < (m : Int) := by omega
  have HE : Hid (Ending.returned (.bool (decide (0 < m))) = .returned (.bool true)) := by
    show _ = _
    rw [decide_eq_true (by omega)]
  clear h h0
  go_enter Try.func28, Try.ntmps28
  go_wp2_with fail
  go_ret
  exact ⟨HE.out, rfl⟩
theorem raw_end (h : Raw w b gl gh gs n m K H S) (i : Nat) (hi : i < m) :
    Calls Try.prog 26 #[.pointer (some ⟨b, 0, none⟩), .int .i64 (i : Int)] w fun e w' => e = .returned (.int .i64 ((n + i : Nat) : Int)) ∧ w' = w := by
  obtain ⟨c0, c1, c2⟩ := h.cells
  have h1 := h.n1
  have h2 := h.m1
  clear h
  go_enter Try.func26, Try.ntmps26
  go_wp2_with fail
  go_ret
  exact ⟨ret_u (by omega), rfl⟩
theorem raw_hasList (h : Raw w b gl gh gs n m K H S) (i : Int) (t : Bool) (ht : t = true ↔ 0 ≤ i ∧ i < m) :
    Calls Try.prog 29 #[.pointer (some ⟨b, 0, none⟩), .int .i64 i] w fun e w' => e = .returned (.bool t) ∧ w' = w := by
  obtain ⟨c0, c1, c2⟩ := h.cells
  have h1 := h.n1
  have h2 := h.m1
  clear h
  by_cases a1 : i < 0
  · obtain rfl : t = false := by
      cases t
      · rfl
      · exact absurd (ht.1 rfl).1 (by omega)
    have a2 : ¬ (0 : Int) ≤ i := by omega
    clear ht
    go_enter Try.func29, Try.ntmps29
    go_wp2_with fail
    go_ret
    exact ⟨rfl, rfl⟩
  · by_cases a2 : i < m
    · obtain rfl : t = true := ht.2 ⟨by omega, a2⟩
      have a3 : (0 : Int) ≤ i := by omega
      clear ht
      go_enter Try.func29, Try.ntmps29
      go_wp2_with fail
      go_ret
      exact ⟨rfl, rfl⟩
    · obtain rfl : t = false := by
        cases t
        · rfl
        · exact absurd (ht.1 rfl).2 a2
      have a3 : (0 : Int) ≤ i := by omega
      clear ht
      go_enter Try.func29, Try.ntmps29
      go_wp2_with fail
      go_ret
      exact ⟨rfl, rfl⟩
theorem raw_hasNode (h : Raw w b gl gh gs n m K H S) (i : Int) (t : Bool) (ht : t = true ↔ 0 ≤ i ∧ i < n) :
    Calls Try.prog 30 #[.pointer (some ⟨b, 0, none⟩), .int .i64 i] w fun e w' => e = .returned (.bool t) ∧ w' = w := by
  obtain ⟨c0, c1, c2⟩ := h.cells
  have h1 := h.n1
  have h2 := h.m1
  clear h
  by_cases a1 : i < 0
  · obtain rfl : t = false := by
      cases t
      · rfl
      · exact absurd (ht.1 rfl).1 (by omega)
    have a2 : ¬ (0 : Int) ≤ i := by omega
    clear ht
    go_enter Try.func30, Try.ntmps30
    go_wp2_with fail
    go_ret
    exact ⟨rfl, rfl⟩
  · by_cases a2 : i < n
    · obtain rfl : t = true := ht.2 ⟨by omega, a2⟩
      have a3 : (0 : Int) ≤ i := by omega
      clear ht
      go_enter Try.func30, Try.ntmps30
      go_wp2_with fail
      go_ret
      exact ⟨rfl, rfl⟩
    · obtain rfl : t = false := by
        cases t
        · rfl
        · exact absurd (ht.1 rfl).2 a2
      have a3 : (0 : Int) ≤ i := by omega
      clear ht
      go_enter Try.func30, Try.ntmps30
      go_wp2_with fail
      go_ret
      exact ⟨rfl, rfl⟩
def joined (K : Nat → Nat) (p q : Nat) : Nat → Nat := upd (upd K (p * 2 + 1) q) (q * 2) p
theorem raw_join (h : Raw w b gl gh gs n m K H S) (p q : Nat) (hp : p < n + m) (hq : q < n + m) :
    Calls Try.prog 27 #[.pointer (some ⟨b, 0, none⟩), .int .i64 (p : Int), .int .i64 (q : Int)] w fun e w' => e = .returned (.tuple #[]) ∧ Raw w' b gl gh gs n m (joined K p q) H S ∧ Turned (Own4 b gl gh gs) w w' := by
  have HR := Lib.hid ((h.setL (p * 2 + 1) q).setL (q * 2) p)
  have HT := Lib.hid (((Turned.refl (Own4 b gl gh gs) w).set (b := gl) (i := p * 2 + 1) (.inr (.inl rfl)) (.int .i64 (q : Int))).set (b := gl) (i := q * 2) (.inr (.inl rfl)) (.int .i64 (p : Int)))
  obtain ⟨c0, _, _⟩ := h.cells
  have d0 := h.links.cell (i := p * 2 + 1) (by omega)
  have f0 := h.links.frozen (p * 2 + 1)
  have h' := h.setL (p * 2 + 1) q
  obtain ⟨e0, _, _⟩ := h'.cells
  have d1 := h'.links.cell (i := q * 2) (by omega)
  have f1 := h'.links.frozen (q * 2)
  have h1 := h.n1
  have h2 := h.m1
  clear h h'
  go_enter Try.func27, Try.ntmps27
  go_wp2_with fail
  go_end0
  exact ⟨rfl, HR.out, HT.out⟩
end

end Go.Proofs.Ythdgpnkkeeebkaa
