/-
  The program's own arena (package arena): how an arena in lists lies in memory, and what its small calls answer.
-/
import Derived.Test.YtmaofmbnlfggiabArenaK
import Derived.Laws.Bits64b
namespace Go.Proofs.Ytmaofmbnlfggiab
open Go.RowKit
set_option linter.unusedVariables false

/-- The arena's three cells lie in block b. -/
def Boxed3 (w : World) (b : Nat) (v0 v1 v2 : Value) : Prop := w.heap[b]? = some (.cells #[v0, v1, v2] 86 (0, 0))
section
variable {w w' : World} {b : Nat} {v0 v1 v2 : Value}
theorem Boxed3.cells (h : Boxed3 w b v0 v1 v2) : w.cell? ⟨b, 0, none⟩ = some v0 ∧ w.cell? ⟨b, 1, none⟩ = some v1 ∧ w.cell? ⟨b, 2, none⟩ = some v2 := by
  unfold Boxed3 at h
  simp [World.cell?, h]
theorem Boxed3.frozen (h : Boxed3 w b v0 v1 v2) (i : Nat) : w.frozen? ⟨b, i, none⟩ = false := by
  unfold Boxed3 at h
  simp [World.frozen?, h]
theorem Boxed3.lt (h : Boxed3 w b v0 v1 v2) : b < w.heap.size := (Array.getElem?_eq_some_iff.1 h).1
theorem Boxed3.new (w : World) (v0 v1 v2 : Value) : Boxed3 (w.alloc (.cells #[v0, v1, v2] 86)) w.heap.size v0 v1 v2 := (MapKept.heap_alloc w _).1
theorem Boxed3.alloc (h : Boxed3 w b v0 v1 v2) (o : Obj) : Boxed3 (w.alloc o) b v0 v1 v2 :=
  (((Below.refl _ w).alloc (Nat.le_refl _) o).block b h.lt).trans h
theorem Boxed3.grown {row : Option Nat} (h : Boxed3 w b v0 v1 v2) (g : w.grownBy w' row) (hne : some b ≠ row) : Boxed3 w' b v0 v1 v2 :=
  (g.block b h.lt hne).trans h
theorem Boxed3.set1 (h : Boxed3 w b v0 v1 v2) (u : Value) : Boxed3 (w.setCell ⟨b, 1, none⟩ u) b v0 u v2 := by
  obtain ⟨hlt, hk⟩ := Array.getElem?_eq_some_iff.1 h
  show (w.heap.modify b _)[b]? = _
  rw [Array.getElem?_eq_getElem (by rw [Array.size_modify]; exact hlt), Array.getElem_modify_self, hk]
  rfl
theorem Boxed3.set2 (h : Boxed3 w b v0 v1 v2) (u : Value) : Boxed3 (w.setCell ⟨b, 2, none⟩ u) b v0 v1 u := by
  obtain ⟨hlt, hk⟩ := Array.getElem?_eq_some_iff.1 h
  show (w.heap.modify b _)[b]? = _
  rw [Array.getElem?_eq_getElem (by rw [Array.size_modify]; exact hlt), Array.getElem_modify_self, hk]
  rfl
theorem Boxed3.other {c i : Nat} (h : Boxed3 w b v0 v1 v2) (hne : b ≠ c) (u : Value) : Boxed3 (w.setCell ⟨c, i, none⟩ u) b v0 v1 v2 :=
  (Below.heap_setCell w ⟨c, i, none⟩ u b hne).trans h
theorem Boxed3.not_row (h : Boxed3 w b v0 v1 v2) {base e size n : Nat} {v : Value} {xs : List Value} (hr : w.ownsRow base e size v n xs) (he : e ≠ 86) : v.ownBlock ≠ some b := by
  rcases hr.2 with ⟨rfl, _⟩ | ⟨g, cap, cur, rfl, _, hg, _⟩
  · intro e; cases e
  · intro e'
    obtain rfl : g = b := by simpa [Value.ownBlock] using e'
    have := h.symm.trans hg
    simp at this
    exact he this.2.symm
theorem Boxed3.row {i : Nat} {u : Value} (h : Boxed3 w b v0 v1 v2) {base e size n : Nat} {v : Value} {xs : List Value} (hr : w.ownsRow base e size v n xs) (he : e ≠ 86) : (w.setCell ⟨b, i, none⟩ u).ownsRow base e size v n xs :=
  hr.kept (grownBy_set w b i u) (.inr (h.not_row hr he))
end

/-- Of each place the handle that holds, or 0. -/
def heldRow (g : Gh) : List Nat := (List.range g.l.length).map fun p => (hd g.ts g.l p).getD 0
/-- Of each place that was given back the handle that it gets next. -/
def againRow (g : Gh) : List Nat := g.bk.map fun p => (g.ts[p]?.getD 0) * 4294967296 + p + 1
theorem heldRow_length (g : Gh) : (heldRow g).length = g.l.length := by simp [heldRow]
theorem againRow_length (g : Gh) : (againRow g).length = g.bk.length := by simp [againRow]
theorem heldRow_get {g : Gh} {p : Nat} (h : p < g.l.length) : (heldRow g)[p]? = some ((hd g.ts g.l p).getD 0) := by
  simp [heldRow, h]

/-- The arena at a holds g: a box, two rows of its own. -/
structure Lies (N : Nat → Prop) (w : World) (b : Nat) (ph : Option Addr) (ch : Nat) (pa : Option Addr) (ca : Nat) (g : Gh) : Prop where
  box : Boxed3 w b (.int .i64 (g.room : Int)) (.slice ph g.l.length ch) (.slice pa g.bk.length ca)
  rh : w.ownsRow 0 32 1 (.slice ph g.l.length ch) g.l.length ((heldRow g).map u64V)
  ra : w.ownsRow 0 32 1 (.slice pa g.bk.length ca) g.bk.length ((againRow g).map u64V)
  ne : ∀ k, (Value.slice pa g.bk.length ca).ownBlock = some k → (Value.slice ph g.l.length ch).ownBlock ≠ some k
  nb : N b
  nh : ∀ k, (Value.slice ph g.l.length ch).ownBlock = some k → N k
  na : ∀ k, (Value.slice pa g.bk.length ca).ownBlock = some k → N k
  lt : ∀ k, N k → k < w.heap.size
  pos : 1 ≤ g.room

def AtP (N : Nat → Prop) (w : World) (a : Addr) (g : Gh) : Prop := ∃ b ph ch pa ca, a = ⟨b, 0, none⟩ ∧ Lies N w b ph ch pa ca g

section
variable {N : Nat → Prop} {w w' : World} {b : Nat} {ph : Option Addr} {ch : Nat} {pa : Option Addr} {ca : Nat} {g : Gh}
theorem Lies.kept (h : Lies N w b ph ch pa ca g) (k : ∀ i, N i → w'.heap[i]? = w.heap[i]?) (hs : w.heap.size ≤ w'.heap.size) : Lies N w' b ph ch pa ca g :=
  ⟨(k b h.nb).trans h.box, own_same h.rh (fun i hi => k i (h.nh i hi)), own_same h.ra (fun i hi => k i (h.na i hi)), h.ne, h.nb, h.nh, h.na, fun i hi => Nat.lt_of_lt_of_le (h.lt i hi) hs, h.pos⟩
theorem Lies.below (h : Lies N w b ph ch pa ca g) (bl : Below w.heap.size w w') : Lies N w' b ph ch pa ca g :=
  h.kept (fun i hi => bl.block i (h.lt i hi)) bl.size
end
theorem AtP.lt {N w a g} (h : AtP N w a g) : ∀ k, N k → k < w.heap.size := by
  obtain ⟨b, ph, ch, pa, ca, _, h⟩ := h
  exact h.lt
theorem AtP.kept {N w w' a g} (h : AtP N w a g) (k : ∀ i, N i → w'.heap[i]? = w.heap[i]?) (hs : w.heap.size ≤ w'.heap.size) : AtP N w' a g := by
  obtain ⟨b, ph, ch, pa, ca, e, h⟩ := h
  exact ⟨b, ph, ch, pa, ca, e, h.kept k hs⟩

/-- made, of one that New made. -/
theorem own_made {N w b ph ch pa ca g} (h : Lies N w b ph ch pa ca g) :
    Calls Try.prog 33 #[.pointer (some ⟨b, 0, none⟩)] w fun e w' => e = .returned (.bool true) ∧ w' = w := by
  obtain ⟨c0, c1, c2⟩ := h.box.cells
  have hp := h.pos
  have h0 : (0 : Int) < (g.room : Int) := by omega
  clear h
  generalize (g.room : Int) = r at *
  go_enter Try.func33, Try.ntmps33
  go_wp2_with fail
  go_ret
  exact ⟨rfl, rfl⟩

/-- The place that a handle speaks of; none: far beyond. -/
def spoken (x : Nat) : Nat := (x % 4294967296 + 18446744073709551615) % 18446744073709551616
theorem spoken_lt (x : Nat) : spoken x < 18446744073709551616 := Nat.mod_lt _ (by decide)
theorem low_bits (a : Nat) (ha : a < 18446744073709551616) : bits .and .u64 (a : Int) 4294967295 = ((a % 4294967296 : Nat) : Int) := by
  have h := bits_and_u64_nat a 4294967295 ha (by omega)
  have e : a &&& 4294967295 = a % 4294967296 := Nat.and_two_pow_sub_one_eq_mod a 32
  rw [e] at h
  exact h
theorem spoken_eq (x : Nat) (hx : x < 18446744073709551616) : IntKind.u64.wrap (bits .and .u64 (x : Int) 4294967295 - 1) = ((spoken x : Nat) : Int) := by
  rw [low_bits x hx, IntKind.wrap_u64]
  unfold spoken
  omega
theorem own_placeOf (x : Nat) (w : World) (hx : x < 18446744073709551616) :
    Calls Try.prog 35 #[.int .u64 (x : Int)] w fun e w' => e = .returned (.int .u64 (spoken x : Nat)) ∧ w' = w := by
  have HS := Lib.hid (spoken_eq x hx)
  go_enter Try.func35, Try.ntmps35
  go_wp2_with fail
  go_ret
  exact ⟨ret_u HS.out, rfl⟩

theorem spoken_hd {ts : List Nat} {l : List Bool} {p x : Nat} (F : Fit ts l) (h : hd ts l p = some x) : p < l.length ∧ spoken x = p ∧ x ≠ 0 ∧ x < 18446744073709551616 := by
  by_cases c : l[p]? = some true
  · obtain ⟨n, hn, hn1⟩ := F.pos p c
    have hp := (List.getElem?_eq_some_iff.1 c).1
    have hs := F.small
    rw [hd_some c hn] at h
    have e : n * 4294967296 + p + 1 = x := Option.some.inj h
    refine ⟨hp, ?_, by omega, by omega⟩
    unfold spoken
    omega
  · rw [hd_none c] at h; cases h
theorem placeOf_spoken {ts : List Nat} {l : List Bool} {x : Nat} (F : Fit ts l) (h : hd ts l (spoken x) = some x) : placeOf ts l x = some (spoken x) := by
  refine placeOf_some (spoken_hd F h).1 h fun i hi hh => ?_
  have := (spoken_hd F hh).2.1
  omega
theorem placeOf_not {ts : List Nat} {l : List Bool} {x : Nat} (F : Fit ts l) (h : hd ts l (spoken x) ≠ some x) : placeOf ts l x = none := by
  refine placeOf_none fun i hi hh => ?_
  have := (spoken_hd F hh).2.1
  rw [this] at h
  exact h hh
theorem placeOf_is {ts : List Nat} {l : List Bool} {x p : Nat} (F : Fit ts l) (h : placeOf ts l x = some p) : hd ts l p = some x ∧ spoken x = p ∧ p < l.length := by
  by_cases c : hd ts l (spoken x) = some x
  · rw [placeOf_spoken F c] at h
    obtain rfl := Option.some.inj h
    exact ⟨c, rfl, (spoken_hd F c).1⟩
  · rw [placeOf_not F c] at h; cases h

/-- What the row of those that hold reads. -/
theorem Lies.reads {N w b ph ch pa ca g} (h : Lies N w b ph ch pa ca g) {p : Nat} (hp : p < g.l.length) : ∃ gh, ph = some ⟨gh, 0, none⟩ ∧ w.cell? ⟨gh, p, none⟩ = some (.int .u64 (((hd g.ts g.l p).getD 0 : Nat) : Int)) := by
  obtain ⟨_, hf⟩ := own_form h.rh
  obtain ⟨gh, rfl⟩ := hf (by omega)
  refine ⟨gh, rfl, ?_⟩
  rw [h.rh.cellAt p (by omega), List.getElem?_map, heldRow_get hp]
  rfl

theorem own_used {N w b ph ch pa ca g M} (h : Lies N w b ph ch pa ca g) (ok : g.Ok M) :
    Calls Try.prog 32 #[.pointer (some ⟨b, 0, none⟩)] w fun e w' => e = .returned (.int .i64 (g.l.count true : Nat)) ∧ Below w.heap.size w w' := by
  have HM := Lib.hid (own_made h)
  obtain ⟨c0, c1, c2⟩ := h.box.cells
  have h1 := ok.fits
  have h2 := ok.small
  have h3 := ok.cnt
  have h4 : (g.l.length : Int) - (g.bk.length : Int) = ((g.l.count true : Nat) : Int) := by omega
  have HE := Lib.hid h4
  clear h4 h
  go_enter Try.func32, Try.ntmps32
  go_wp2_with fail
  refine HM.out.mono ?_
  rintro e w1 ⟨rfl, rfl⟩
  go_wp2_with fail
  go_quiet (fail)
  go_wp2_with fail
  go_ret
  exact ⟨ret_u HE.out, below_drewN (Below.refl _ _) _⟩

theorem own_new (room : Nat) (w : World) (h1 : 1 ≤ room) (h2 : room ≤ 65536) : Calls Try.prog 21 #[.int .i64 (room : Int)] w (NewP AtP w room) := by
  have h3 : ¬ (room : Int) < 1 := by omega
  have h4 : ¬ (65536 : Int) < (room : Int) := by omega
  have HX := Lib.hid (Boxed3.new w (.int .i64 (room : Int)) (.slice none 0 0) (.slice none 0 0))
  go_enter Try.func21, Try.ntmps21
  go_wp2_with fail
  go_ret2
  exact ⟨⟨w.heap.size, 0, none⟩, fun k => k = w.heap.size, rfl, ⟨w.heap.size, none, 0, none, 0, rfl,
    { box := HX.out, rh := World.ownsRow_nil _ _ _ _, ra := World.ownsRow_nil _ _ _ _, ne := fun k e => (by cases e), nb := rfl, nh := fun k e => (by cases e), na := fun k e => (by cases e), lt := fun k e => (by rw [e, World.size_alloc]; exact Nat.lt_succ_self _), pos := h1 }⟩,
    fun k e => Nat.le_of_eq e.symm, (Below.refl _ w).alloc (Nat.le_refl _) _⟩
theorem own_new_no (room : Int) (w : World) (h : room < 1 ∨ 65536 < room) : Calls Try.prog 21 #[.int .i64 room] w fun e w' => e = .returned (.tuple #[.pointer none, .int .i64 2]) ∧ Below w.heap.size w w' := by
  by_cases h1 : room < 1
  · clear h
    go_enter Try.func21, Try.ntmps21
    go_wp2_with fail
    go_ret2
    exact ⟨rfl, Below.refl _ _⟩
  · have h2 : 65536 < room := by omega
    clear h
    go_enter Try.func21, Try.ntmps21
    go_wp2_with fail
    go_ret2
    exact ⟨rfl, Below.refl _ _⟩

end Go.Proofs.Ytmaofmbnlfggiab
