/-
  The program's own bitmap (package bitmap): how its floors lie in memory, and what the small calls answer.
-/
import Derived.Test.YtkiibobpejoaeaaDoorBitPure
import Derived.Test.YtkiibobpejoaeaaDoorMem
import Derived.Shelf.Spec.TrailingZeros
import Derived.LaidEqlPtr
namespace Go.Proofs.YtkiibobpejoaeaaDoor
open Go.RowKit
set_option linter.unusedVariables false

/-- The library's table lies as its initialiser lays it. -/
def Tab (w : World) : Prop := TabAt 2 Lib.deBruijn64tab w
theorem Tab.below {w w' : World} (h : Tab w) (b : Below w.heap.size w w') : Tab w' := fun j hj => (b.cell (World.block_lt_of_cell? w _ (h j hj))).trans (h j hj)

theorem tz64_core (x k idx : Nat) (w : World) (hx0 : ((x : Int) == 0) = false)
    (key : IntKind.u64.wrap (bits BinOp.and IntKind.u64 (x : Int) (IntKind.u64.wrap (-(x : Int))) * 285870213051353865) / 288230376151711744 = (idx : Int))
    (hi : idx < 64) (hk : k < 64) (hcell : w.cell? ⟨2, idx, none⟩ = some (.int .u8 k)) :
    Calls Tryd.prog 81 #[.int .u64 x] w fun e w' => e = .returned (.int .i64 k) ∧ w' = w := by
  go_enter Tryd.func81, Tryd.ntmps81
  go_wp2_with (simp only [key])
  go_ret
  exact ⟨rfl, rfl⟩
theorem tz64 (x : Nat) (h0 : x ≠ 0) (hx : x < 18446744073709551616) (w : World) (hT : Tab w) :
    Calls Tryd.prog 81 #[.int .u64 x] w fun e w' => e = .returned (.int .i64 (Lib.ctz 64 x : Nat)) ∧ w' = w := by
  obtain ⟨hlow, hk⟩ := Lib.lowest_bit 64 x h0 hx
  obtain ⟨hi, htab⟩ := Lib.deBruijn64_at _ hk
  have hcell := hT _ hi
  rw [htab] at hcell
  exact tz64_core x _ _ w (by simp; omega) (tz64_key x _ hx h0 hlow) hi hk hcell

theorem mark_val (i : Nat) : IntKind.u64.wrap (2 ^ (i % 64)) = ((2 ^ (i % 64) : Nat) : Int) := by
  have h := pow_lt64 i
  have e : (2 : Int) ^ (i % 64) = ((2 ^ (i % 64) : Nat) : Int) := (Int.natCast_pow 2 _).symm
  rw [e]
  generalize 2 ^ (i % 64) = y at *
  rw [IntKind.wrap_u64]
  omega
theorem bit_mark (i : Nat) (h1 : i ≤ 65600) (w : World) : Calls Tryd.prog 60 #[.int .i64 (i : Int)] w fun e w' => e = .returned (.int .u64 (2 ^ (i % 64) : Nat)) ∧ w' = w := by
  have HM := Lib.hid (mark_val i)
  have h2 : (0 : Int) ≤ (i : Int) % 64 := by omega
  have h3 : (i : Int) % 64 ≤ 64 := by omega
  go_enter Tryd.func60, Tryd.ntmps60
  go_wp2_with fail
  go_ret
  exact ⟨ret_u HM.out, rfl⟩

/-- A row of words lies in block b. -/
def RowU (w : World) (b : Nat) (t : TypeId) (k : Nat) (f : Nat → Nat) : Prop := ∃ cs, Box w b t cs ∧ cs.size = k ∧ ∀ i, i < k → cs[i]? = some (u64V (f i))
section
variable {w w' : World} {b k : Nat} {t : TypeId} {f : Nat → Nat}
theorem RowU.cell (h : RowU w b t k f) {i : Nat} (hi : i < k) : w.cell? ⟨b, i, none⟩ = some (.int .u64 (f i : Int)) := by
  obtain ⟨cs, h1, h2, h3⟩ := h
  rw [h1.cell, h3 i hi]
  rfl
theorem RowU.frozen (h : RowU w b t k f) (i : Nat) : w.frozen? ⟨b, i, none⟩ = false := by
  obtain ⟨cs, h1, _⟩ := h
  exact h1.frozen i
theorem RowU.lt (h : RowU w b t k f) : b < w.heap.size := by
  obtain ⟨cs, h1, _⟩ := h
  exact h1.lt
theorem RowU.same (h : RowU w b t k f) (e : w'.heap[b]? = w.heap[b]?) : RowU w' b t k f := by
  obtain ⟨cs, h1, h2⟩ := h
  exact ⟨cs, e.trans h1, h2⟩
theorem RowU.other {c i : Nat} (h : RowU w b t k f) (hne : b ≠ c) (u : Value) : RowU (w.setCell ⟨c, i, none⟩ u) b t k f := by
  obtain ⟨cs, h1, h2⟩ := h
  exact ⟨cs, h1.other hne u, h2⟩
theorem RowU.set (h : RowU w b t k f) (i v : Nat) : RowU (w.setCell ⟨b, i, none⟩ (.int .u64 (v : Int))) b t k (updN f i v) := by
  obtain ⟨cs, h1, h2, h3⟩ := h
  refine ⟨_, h1.set i _, by simp [h2], fun j hj => ?_⟩
  by_cases c : j = i
  · subst c
    rw [updN, if_pos rfl, Array.getElem?_setIfInBounds_self_of_lt (by omega)]
    rfl
  · rw [updN, if_neg c, Array.getElem?_setIfInBounds_ne (fun e => c e.symm), h3 j hj]
theorem RowU.box_ne {b' : Nat} {t' : TypeId} {cs' : Array Value} (h : RowU w b t k f) (h' : Box w b' t' cs') (hne : t ≠ t') : b ≠ b' := by
  obtain ⟨cs, h1, _⟩ := h
  exact h1.ne h' hne
theorem RowU.made (w : World) (t : TypeId) (z : Array Value) (k : Nat) (hz : ∀ j, j < z.size → z[j]! = u64V 0) (h0 : 0 < z.size) : RowU (w.alloc (.cells (madeCells z k) t)) w.heap.size t k (fun _ => 0) :=
  ⟨_, Box.new w t _, size_madeCells _ _, fun i hi => madeCells_get z k i _ hz h0 hi⟩
end
/-- The floors' slices lie in block g. -/
def FlRow (w : World) (g k n : Nat) (fb : Nat → Nat) : Prop := ∃ cs, Box w g 29 cs ∧ ∀ f, f < k → cs[f]? = some (.slice (some ⟨fb f, 0, none⟩) (wn n f) (wn n f))
theorem FlRow.cell {w : World} {g k n : Nat} {fb : Nat → Nat} (h : FlRow w g k n fb) {f : Nat} (hf : f < k) : w.cell? ⟨g, f, none⟩ = some (.slice (some ⟨fb f, 0, none⟩) (wn n f) (wn n f)) := by
  obtain ⟨cs, h1, h2⟩ := h
  rw [h1.cell, h2 f hf]

structure BMem (w : World) (b gf cf k n : Nat) (cnt : Nat) (fb : Nat → Nat) (X : Nat → Nat → Nat) : Prop where
  box : Box w b 83 #[.pointer (some ⟨b, 0, none⟩), .int .i64 (n : Int), .int .i64 (cnt : Int), .slice (some ⟨gf, 0, none⟩) k cf]
  fl : FlRow w gf k n fb
  row : ∀ f, f < k → RowU w (fb f) 22 (wn n f) (X f)
  ne : ∀ f g, f < k → g < k → f ≠ g → fb f ≠ fb g
  k1 : 1 ≤ k
  k3 : k ≤ 3
  last : wn n (k - 1) ≤ 1
  n1 : 1 ≤ n
  n2 : n ≤ 65536
def OwnB (b gf k : Nat) (fb : Nat → Nat) (j : Nat) : Prop := j = b ∨ j = gf ∨ ∃ f, f < k ∧ j = fb f
section
variable {w w' : World} {b gf cf k n cnt : Nat} {fb : Nat → Nat} {X : Nat → Nat → Nat}
theorem BMem.cells (h : BMem w b gf cf k n cnt fb X) : w.cell? ⟨b, 0, none⟩ = some (.pointer (some ⟨b, 0, none⟩)) ∧ w.cell? ⟨b, 1, none⟩ = some (.int .i64 (n : Int)) ∧ w.cell? ⟨b, 2, none⟩ = some (.int .i64 (cnt : Int)) ∧ w.cell? ⟨b, 3, none⟩ = some (.slice (some ⟨gf, 0, none⟩) k cf) :=
  ⟨h.box.cell 0, h.box.cell 1, h.box.cell 2, h.box.cell 3⟩
theorem BMem.lt (h : BMem w b gf cf k n cnt fb X) : ∀ j, OwnB b gf k fb j → j < w.heap.size := by
  rintro j (rfl | rfl | ⟨f, hf, rfl⟩)
  · exact h.box.lt
  · obtain ⟨cs, h1, _⟩ := h.fl
    exact h1.lt
  · exact (h.row f hf).lt
theorem BMem.same (h : BMem w b gf cf k n cnt fb X) (e : ∀ j, OwnB b gf k fb j → w'.heap[j]? = w.heap[j]?) : BMem w' b gf cf k n cnt fb X := by
  refine ⟨(e b (.inl rfl)).trans h.box, ?_, fun f hf => (h.row f hf).same (e _ (.inr (.inr ⟨f, hf, rfl⟩))), h.ne, h.k1, h.k3, h.last, h.n1, h.n2⟩
  obtain ⟨cs, h1, h2⟩ := h.fl
  exact ⟨cs, (e gf (.inr (.inl rfl))).trans h1, h2⟩
theorem BMem.below (h : BMem w b gf cf k n cnt fb X) (bl : Below w.heap.size w w') : BMem w' b gf cf k n cnt fb X := h.same fun j hj => bl.block j (h.lt j hj)
theorem BMem.drewN (h : BMem w b gf cf k n cnt fb X) (i : Nat) : BMem (w.drewN i) b gf cf k n cnt fb X := h.below (below_drewN (Below.refl _ _) i)
def upd2 (X : Nat → Nat → Nat) (f j v : Nat) : Nat → Nat → Nat := fun g => if g = f then updN (X g) j v else X g
theorem BMem.put (h : BMem w b gf cf k n cnt fb X) {f : Nat} (hf : f < k) (j v : Nat) : BMem (w.setCell ⟨fb f, j, none⟩ (.int .u64 (v : Int))) b gf cf k n cnt fb (upd2 X f j v) := by
  have hr := h.row f hf
  refine ⟨h.box.other (Ne.symm (hr.box_ne h.box (by decide))) _, ?_, fun g hg => ?_, h.ne, h.k1, h.k3, h.last, h.n1, h.n2⟩
  · obtain ⟨cs, h1, h2⟩ := h.fl
    exact ⟨cs, h1.other (Ne.symm (hr.box_ne h1 (by decide))) _, h2⟩
  · by_cases c : g = f
    · subst c
      rw [upd2, if_pos rfl]
      exact hr.set j v
    · rw [upd2, if_neg c]
      exact (h.row g hg).other (h.ne g f hg hf c) _
theorem BMem.setCnt (h : BMem w b gf cf k n cnt fb X) (c : Nat) : BMem (w.setCell ⟨b, 2, none⟩ (.int .i64 (c : Int))) b gf cf k n c fb X := by
  refine ⟨h.box.set 2 _, ?_, fun g hg => (h.row g hg).other ((h.row g hg).box_ne h.box (by decide)) _, h.ne, h.k1, h.k3, h.last, h.n1, h.n2⟩
  obtain ⟨cs, h1, h2⟩ := h.fl
  exact ⟨cs, h1.other (h1.ne h.box (by decide)) _, h2⟩
theorem bit_made (h : BMem w b gf cf k n cnt fb X) :
    Calls Tryd.prog 74 #[.pointer (some ⟨b, 0, none⟩)] w fun e w' => e = .returned (.bool true) ∧ w' = w := by
  obtain ⟨c0, c1, c2, c3⟩ := h.cells
  clear h
  obtain ⟨inf, hi1, _⟩ := info_parts (P := Tryd.prog) (e := 83) (z := .agg #[.pointer none, .int .i64 0, .int .i64 0, .slice none 0 0]) (size := 4) (bytes := 48) (by kernel_rfl)
  have hq := fun w : World => run_eql_ptr_same (P := Tryd.prog) (w := w) (tp := 59) (te := 83) ⟨b, 0, none⟩ (by kernel_rfl) hi1
  go_enter Tryd.func74, Tryd.ntmps74
  go_wp2_with fail
  go_ret
  exact ⟨rfl, rfl⟩
theorem bit_there (h : BMem w b gf cf k n cnt fb X) (i : Int) (t : Bool) (ht : t = true ↔ 0 ≤ i ∧ i < n) :
    Calls Tryd.prog 58 #[.pointer (some ⟨b, 0, none⟩), .int .i64 i] w fun e w' => e = .returned (.bool t) ∧ w' = w := by
  have HM := Lib.hid (bit_made h)
  obtain ⟨c0, c1, c2, c3⟩ := h.cells
  clear h
  by_cases a1 : i < 0
  · obtain rfl : t = false := by
      cases t
      · rfl
      · exact absurd (ht.1 rfl).1 (by omega)
    have a2 : ¬ (0 : Int) ≤ i := by omega
    clear ht
    go_enter Tryd.func58, Tryd.ntmps58
    go_wp2_with (go_at_call 74; refine HM.out.mono ?_; rintro e w1 ⟨rfl, rfl⟩)
    go_ret
    exact ⟨rfl, rfl⟩
  · by_cases a2 : i < n
    · obtain rfl : t = true := ht.2 ⟨by omega, a2⟩
      have a3 : (0 : Int) ≤ i := by omega
      clear ht
      go_enter Tryd.func58, Tryd.ntmps58
      go_wp2_with (go_at_call 74; refine HM.out.mono ?_; rintro e w1 ⟨rfl, rfl⟩)
      go_ret
      exact ⟨rfl, rfl⟩
    · obtain rfl : t = false := by
        cases t
        · rfl
        · exact absurd (ht.1 rfl).2 a2
      have a3 : (0 : Int) ≤ i := by omega
      have HE : Hid (Ending.returned (.bool (decide (i < (n : Int)))) = .returned (.bool false)) := by
        show _ = _
        rw [decide_eq_false a2]
      clear ht
      go_enter Tryd.func58, Tryd.ntmps58
      go_wp2_with (go_at_call 74; refine HM.out.mono ?_; rintro e w1 ⟨rfl, rfl⟩)
      go_ret
      exact ⟨HE.out, rfl⟩
end

end Go.Proofs.YtkiibobpejoaeaaDoor
