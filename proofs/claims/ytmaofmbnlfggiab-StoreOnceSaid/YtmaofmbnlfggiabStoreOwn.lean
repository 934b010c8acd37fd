/-
  The program's own store (package store): how it lies, and its small calls.
-/
import Derived.Test.YtmaofmbnlfggiabStoreGhost
import Derived.Test.YtmaofmbnlfggiabArenaProg
import Derived.Test.YtmaofmbnlfggiabBytes
import Derived.LaidEqlPtr
import Derived.StillTailTactics
namespace Go.Proofs.Ytmaofmbnlfggiab
open Go.RowKit
set_option linter.unusedVariables false
set_option linter.unusedSimpArgs false

def Pk.cells (p : Pk) : List Value := [.int .u64 (p.sock : Int), .int .u64 (p.cookie : Int), .int .i64 p.len, .int .u8 (p.prio : Int), .int .u64 (p.at_ : Int)]
def Hl.cells (x : Hl) : List Value := [.int .u64 (x.pk.sock : Int), .int .u64 (x.pk.cookie : Int), .int .i64 x.pk.len, .int .u8 (x.pk.prio : Int), .int .u64 (x.pk.at_ : Int), .int .u64 (x.seq : Int), .int .u64 (x.came : Int)]
def Pk.v (p : Pk) : Value := .agg p.cells.toArray
def Hl.v (x : Hl) : Value := .agg x.cells.toArray
def flatH (l : List Hl) : List Value := l.flatMap Hl.cells
theorem flatH_app (l l' : List Hl) : flatH (l ++ l') = flatH l ++ flatH l' := by simp [flatH]
theorem flatH_cons (x : Hl) (l : List Hl) : flatH (x :: l) = x.cells ++ flatH l := by simp [flatH]
theorem flatH_len : ∀ l : List Hl, (flatH l).length = l.length * 7
  | [] => rfl
  | x :: l => by rw [flatH_cons, List.length_append, flatH_len l, List.length_cons]; simp [Hl.cells]; omega
theorem flatH_get : ∀ {l : List Hl} {i j : Nat} {x : Hl}, l[i]? = some x → j < 7 → (flatH l)[i * 7 + j]? = x.cells[j]?
  | [], i, j, x, h, _ => by simp at h
  | y :: l, 0, j, x, h, hj => by
    obtain rfl : y = x := by simpa using h
    rw [flatH_cons, Nat.zero_mul, Nat.zero_add, List.getElem?_append_left (by simpa [Hl.cells] using hj)]
  | y :: l, i + 1, j, x, h, hj => by
    have e := flatH_get (l := l) (i := i) (j := j) (x := x) (by simpa using h) hj
    have hl : y.cells.length = 7 := rfl
    rw [flatH_cons, List.getElem?_append_right (by omega), hl, show (i + 1) * 7 + j - 7 = i * 7 + j by omega]
    exact e
def SBox (w : World) (b : Nat) (aa : Addr) (hv : Value) (bytes : Int) (next : Nat) : Prop := Box w b 66 #[.pointer (some aa), .pointer (some ⟨b, 0, none⟩), hv, .int .i64 bytes, .int .u64 (next : Int)]
section
variable {w w' : World} {b : Nat} {aa : Addr} {hv : Value} {bytes : Int} {next : Nat}
theorem SBox.cells (h : SBox w b aa hv bytes next) : w.cell? ⟨b, 0, none⟩ = some (.pointer (some aa)) ∧ w.cell? ⟨b, 1, none⟩ = some (.pointer (some ⟨b, 0, none⟩)) ∧ w.cell? ⟨b, 2, none⟩ = some hv ∧ w.cell? ⟨b, 3, none⟩ = some (.int .i64 bytes) ∧ w.cell? ⟨b, 4, none⟩ = some (.int .u64 (next : Int)) := by
  have h' : Box w b _ _ := h
  exact ⟨h'.cell 0, h'.cell 1, h'.cell 2, h'.cell 3, h'.cell 4⟩
theorem SBox.lt (h : SBox w b aa hv bytes next) : b < w.heap.size := Box.lt (show Box w b _ _ from h)
theorem SBox.frozen (h : SBox w b aa hv bytes next) (i : Nat) : w.frozen? ⟨b, i, none⟩ = false := Box.frozen (show Box w b _ _ from h) i
theorem s_made (h : SBox w b aa hv bytes next) :
    Calls Try.prog 23 #[.pointer (some ⟨b, 0, none⟩)] w fun e w' => e = .returned (.bool true) ∧ w' = w := by
  obtain ⟨c0, c1, c2, c3, c4⟩ := h.cells
  clear h
  obtain ⟨inf, hi1, _⟩ := info_parts (P := Try.prog) (e := 66) (z := .agg #[.pointer none, .pointer none, .slice none 0 0, .int .i64 0, .int .u64 0]) (size := 5) (bytes := 56) (by kernel_rfl)
  have hq := fun w : World => run_eql_ptr_same (P := Try.prog) (w := w) (tp := 23) (te := 66) ⟨b, 0, none⟩ (by kernel_rfl) hi1
  go_enter Try.func23, Try.ntmps23
  go_wp2_with fail
  go_ret
  exact ⟨rfl, rfl⟩
end
/-- mayBeHeld. -/
theorem s_may (p : Pk) (t : Bool) (ht : t = true ↔ p.may) (w : World) :
    Calls Try.prog 24 #[p.v] w fun e w' => e = .returned (.bool t) ∧ Below w.heap.size w w' := by
  obtain ⟨sock, cookie, len, prio, at_⟩ := p
  unfold Pk.v Pk.cells
  have HB := Lib.hid ((Below.refl _ w).alloc (Nat.le_refl _) (.cells #[.int .u64 (sock : Int), .int .u64 (cookie : Int), .int .i64 len, .int .u8 (prio : Int), .int .u64 (at_ : Int)] 40))
  have HT : Hid (t = true ↔ (1 ≤ len ∧ len ≤ 65536 ∧ prio ≤ 15)) := Lib.hid ht
  clear ht
  by_cases h1 : 1 ≤ len
  · by_cases h2 : len ≤ 65536
    · by_cases h3 : prio ≤ 15
      · obtain rfl : t = true := HT.out.2 ⟨h1, h2, h3⟩
        have h3z : (prio : Int) ≤ 15 := by omega
        go_enter Try.func24, Try.ntmps24
        go_wp2_with fail
        go_ret
        exact ⟨rfl, HB.out⟩
      · obtain rfl : t = false := by cases t; rfl; exact absurd (HT.out.1 rfl).2.2 h3
        have h3z : ¬ (prio : Int) ≤ 15 := by omega
        have h3y : decide ((prio : Int) ≤ 15) = false := by simpa using h3z
        go_enter Try.func24, Try.ntmps24
        go_wp2_with fail
        go_ret
        exact ⟨rfl, HB.out⟩
    · obtain rfl : t = false := by cases t; rfl; exact absurd (HT.out.1 rfl).2.1 h2
      have h2y : decide (len ≤ 65536) = false := by simpa using h2
      go_enter Try.func24, Try.ntmps24
      go_wp2_with fail
      go_ret
      exact ⟨rfl, HB.out⟩
  · obtain rfl : t = false := by cases t; rfl; exact absurd (HT.out.1 rfl).1 h1
    have h1y : decide (1 ≤ len) = false := by simpa using h1
    go_enter Try.func24, Try.ntmps24
    go_wp2_with fail
    go_ret
    exact ⟨rfl, HB.out⟩

/-- What lies by places, with a place filled. -/
def padL (hl : List Hl) (p : Nat) : List Hl := hl ++ List.replicate (p + 1 - hl.length) Hl.zero
def setL (hl : List Hl) (p : Nat) (x : Hl) : List Hl := (padL hl p).set p x
theorem padL_len (hl : List Hl) (p : Nat) : (padL hl p).length = max hl.length (p + 1) := by unfold padL; rw [List.length_append, List.length_replicate]; omega
theorem setL_len (hl : List Hl) (p : Nat) (x : Hl) : (setL hl p x).length = max hl.length (p + 1) := by unfold setL; rw [List.length_set, padL_len]
theorem padL_get (hl : List Hl) (p j : Nat) (hj : j < max hl.length (p + 1)) : (padL hl p)[j]? = some (hl[j]?.getD Hl.zero) := by
  unfold padL
  by_cases c : j < hl.length
  · rw [List.getElem?_append_left c, List.getElem?_eq_getElem c]; rfl
  · rw [List.getElem?_append_right (by omega), List.getElem?_replicate, if_pos (by omega), List.getElem?_eq_none (by omega)]; rfl
theorem setL_get (hl : List Hl) (p j : Nat) (x : Hl) (hj : j < max hl.length (p + 1)) : (setL hl p x)[j]? = some (if j = p then x else hl[j]?.getD Hl.zero) := by
  unfold setL
  by_cases c : j = p
  · subst c
    rw [if_pos rfl, List.getElem?_set_self (by rw [padL_len]; exact hj)]
  · rw [if_neg c, List.getElem?_set_ne (fun e => c e.symm), padL_get _ _ _ hj]
/-- The store's row in the midst of laying: so many noughts more. -/
structure LayM (w W : World) (b : Nat) (aa : Addr) (hv hv' : Value) (bytes : Int) (next : Nat) (hl : List Hl) : Prop where
  box : SBox W b aa hv' bytes next
  row : W.ownsRow 0 48 7 hv' hl.length (flatH hl)
  own : ∀ k, hv'.ownBlock = some k → hv.ownBlock = some k ∨ w.heap.size ≤ k
  lo : Turned (fun k => k = b ∨ hv.ownBlock = some k) w W
section
variable {w W W5 : World} {b : Nat} {aa : Addr} {hv hv' : Value} {bytes : Int} {next : Nat} {hl : List Hl}
theorem LayM.nb (h : LayM w W b aa hv hv' bytes next hl) : hv'.ownBlock ≠ some b := Box.not_row (show Box W b _ _ from h.box) h.row (by decide)
theorem LayM.below (h : LayM w W b aa hv hv' bytes next hl) (g : Below W.heap.size W W5) : LayM w W5 b aa hv hv' bytes next hl :=
  ⟨Box.below (show Box W b _ _ from h.box) g h.box.lt, owns_below h.row g, h.own, h.lo.trans (Turned.below g)⟩
theorem LayM.more (h : LayM w W b aa hv hv' bytes next hl) (hb : b < w.heap.size) {gg cap : Nat} (o5 : W5.ownsRow 0 48 7 (.slice (some ⟨gg, 0, none⟩) (hl.length + 1) cap) (hl.length + 1) (flatH hl ++ Hl.zero.cells)) (g5 : W.grownBy W5 hv'.ownBlock) (hat : hv'.ownBlock = some gg ∨ gg = W.heap.size) :
    LayM w (W5.setCell ⟨b, 2, none⟩ (.slice (some ⟨gg, 0, none⟩) (hl.length + 1) cap)) b aa hv (.slice (some ⟨gg, 0, none⟩) (hl.length + 1) cap) bytes next (hl ++ [Hl.zero]) := by
  have hbox5 : Box W5 b _ _ := Box.grown (show Box W b _ _ from h.box) g5 (fun e => h.nb e.symm)
  have hown : ∀ k, (Value.slice (some ⟨gg, 0, none⟩) (hl.length + 1) cap).ownBlock = some k → hv.ownBlock = some k ∨ w.heap.size ≤ k := fun k hk => by
    have e : gg = k := by simpa [Value.ownBlock] using hk
    rcases hat with h1 | h1
    · exact h.own k (by rw [h1, e])
    · have := h.lo.size; exact .inr (by omega)
  refine ⟨hbox5.set 2 _, ?_, hown, ?_⟩
  · have hl1 : (hl ++ [Hl.zero]).length = hl.length + 1 := by simp
    rw [hl1, flatH_app, show flatH [Hl.zero] = Hl.zero.cells by simp [flatH]]
    exact hbox5.row o5 (by decide)
  · refine ⟨(show _ from g5.os).trans h.lo.os, g5.tape.trans h.lo.tape, g5.output.trans h.lo.output, by rw [World.size_setCell]; exact Nat.le_trans h.lo.size g5.size, fun k hk hn => ?_⟩
    rw [Below.heap_setCell W5 ⟨b, 2, none⟩ _ k (fun e => hn (.inl e))]
    refine (g5.block k (Nat.lt_of_lt_of_le hk h.lo.size) (fun e => ?_)).trans (h.lo.block k hk hn)
    rcases h.own k e.symm with h1 | h1
    · exact hn (.inr h1)
    · omega
end
/-- A place's seven cells are stored. -/
def put7 (w : World) (g p : Nat) (x : Hl) : World := ((((((w.setCell ⟨g, p * 7, none⟩ (.int .u64 (x.pk.sock : Int))).setCell ⟨g, p * 7 + 1, none⟩ (.int .u64 (x.pk.cookie : Int))).setCell ⟨g, p * 7 + 2, none⟩ (.int .i64 x.pk.len)).setCell ⟨g, p * 7 + 3, none⟩ (.int .u8 (x.pk.prio : Int))).setCell ⟨g, p * 7 + 4, none⟩ (.int .u64 (x.pk.at_ : Int))).setCell ⟨g, p * 7 + 5, none⟩ (.int .u64 (x.seq : Int))).setCell ⟨g, p * 7 + 6, none⟩ (.int .u64 (x.came : Int))

end Go.Proofs.Ytmaofmbnlfggiab
