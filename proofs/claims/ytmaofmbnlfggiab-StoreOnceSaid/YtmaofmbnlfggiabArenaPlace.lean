/-
  What the document's own Place of layer 4 answers.
-/
import Derived.Test.YtmaofmbnlfggiabArenaRef
namespace Go.Proofs.Ytmaofmbnlfggiab
open Go.RowKit
set_option linter.unusedVariables false

/-- The handle that holds of a place; none, if it is not taken. -/
def hd (ts : List Nat) (l : List Bool) (p : Nat) : Option Nat := if l[p]? = some true then some ((ts[p]?.getD 0 - 1) * 4294967296 + p + 1) else none

/-- Each place that is taken was taken some times, not too often. -/
structure Fit (ts : List Nat) (l : List Bool) : Prop where
  len : ts.length = l.length
  small : l.length ≤ 65536
  pos : ∀ j : Nat, l[j]? = some true → ∃ n : Nat, ts[j]? = some (n + 1) ∧ n < 2147483648

theorem hd_none {ts : List Nat} {l : List Bool} {p : Nat} (h : l[p]? ≠ some true) : hd ts l p = none := if_neg h
theorem hd_some {ts : List Nat} {l : List Bool} {p n : Nat} (h : l[p]? = some true) (hn : ts[p]? = some (n + 1)) : hd ts l p = some (n * 4294967296 + p + 1) := by
  unfold hd
  rw [if_pos h, hn]
  rfl

/-- The place of a handle that holds. -/
def placeOf (ts : List Nat) (l : List Bool) (h : Nat) : Option Nat := (List.range l.length).find? fun p => hd ts l p = some h

theorem placeOf_some {ts : List Nat} {l : List Bool} {h j : Nat} (hj : j < l.length) (hh : hd ts l j = some h) (hn : ∀ i, i < j → hd ts l i ≠ some h) : placeOf ts l h = some j := by
  unfold placeOf
  rw [List.find?_range_eq_some]
  refine ⟨by simpa using hh, by simpa using hj, ?_⟩
  intro i hi
  simpa using hn i hi
theorem placeOf_none {ts : List Nat} {l : List Bool} {h : Nat} (hn : ∀ i, i < l.length → hd ts l i ≠ some h) : placeOf ts l h = none := by
  unfold placeOf
  rw [List.find?_range_eq_none]
  intro i hi
  simpa using hn i hi

def placeV (o : Option Nat) : Value := .tuple #[.int .i64 ((o.getD 0 : Nat) : Int), .bool o.isSome]

/-- The struct's cells lie in block b. -/
def Boxed4 (w : World) (b : Nat) (v0 v1 v2 v3 : Value) : Prop := w.heap[b]? = some (.cells #[v0, v1, v2, v3] 30 (0, 0))
theorem Boxed4.cells {w : World} {b : Nat} {v0 v1 v2 v3 : Value} (h : Boxed4 w b v0 v1 v2 v3) :
    w.cell? ⟨b, 0, none⟩ = some v0 ∧ w.cell? ⟨b, 1, none⟩ = some v1 ∧ w.cell? ⟨b, 2, none⟩ = some v2 ∧ w.cell? ⟨b, 3, none⟩ = some v3 := by
  unfold Boxed4 at h
  simp [World.cell?, h]
theorem Boxed4.below {w w' : World} {b : Nat} {v0 v1 v2 v3 : Value} (h : Boxed4 w b v0 v1 v2 v3) (g : Below w.heap.size w w') : Boxed4 w' b v0 v1 v2 v3 :=
  (g.block b (Array.getElem?_eq_some_iff.1 h).1).trans h
theorem Boxed4.new (w : World) (v0 v1 v2 v3 : Value) : Boxed4 (w.alloc (.cells #[v0, v1, v2, v3] 30)) w.heap.size v0 v1 v2 v3 := (MapKept.heap_alloc w _).1

/-- Handle, in one. -/
theorem ref_handle (pt pk pb : Option Addr) (nt ct nk ck nb cb : Nat) (room : Int) (ts : List Nat) (l : List Bool) (j : Nat) (w : World) (hF : Fit ts l)
    (ht : w.ownsRow 0 3 1 (.slice pt nt ct) ts.length (ts.map natV)) (hk : w.ownsRow 0 4 1 (.slice pk nk ck) l.length (l.map Value.bool)) :
    Calls Try.prog 38 #[.agg #[.slice pt nt ct, .slice pk nk ck, .slice pb nb cb, .int .i64 room], .int .i64 (j : Int)] w fun e w' => e = .returned (.tuple #[.int .u64 (((hd ts l j).getD 0 : Nat) : Int), .bool (hd ts l j).isSome]) ∧ Below w.heap.size w w' := by
  by_cases c : l[j]? = some true
  · obtain ⟨n, hn, hn1⟩ := hF.pos j c
    rw [hd_some c hn]
    exact ref_handle_some pt pk pb nt ct nk ck nb cb room ts l j n w hF.small hF.len ht hk c hn hn1
  · rw [hd_none c]
    refine ref_handle_none pt pk pb nt ct nk ck nb cb room j l w hF.small hk ?_
    by_cases d : l.length ≤ j
    · exact .inr (.inl (by omega))
    · refine .inr (.inr ⟨j, rfl, ?_⟩)
      have e : l[j]? = some l[j] := List.getElem?_eq_getElem (by omega)
      rw [e] at c ⊢
      cases h : l[j]
      · rfl
      · rw [h] at c; exact absurd rfl c

set_option maxHeartbeats 1000000 in
theorem ref_place (pt pk pb : Option Addr) (nt ct nk ck nb cb : Nat) (room : Int) (ts : List Nat) (l : List Bool) (h : Nat) (w : World) (hF : Fit ts l) (hh : h < 18446744073709551616)
    (ht : w.ownsRow 0 3 1 (.slice pt nt ct) ts.length (ts.map natV)) (hk : w.ownsRow 0 4 1 (.slice pk nk ck) l.length (l.map Value.bool)) :
    Calls Try.prog 39 #[.agg #[.slice pt nt ct, .slice pk nk ck, .slice pb nb cb, .int .i64 room], .int .u64 (h : Int)] w fun e w' => e = .returned (placeV (placeOf ts l h)) ∧ Below w.heap.size w w' := by
  obtain ⟨rfl, _⟩ := owns_bool hk
  have hl := hF.small
  have hB0 := (Below.refl _ w).alloc (Nat.le_refl _) (.cells #[.slice pt nt ct, .slice pk l.length ck, .slice pb nb cb, .int .i64 room] 30)
  have hX0 := Boxed4.new w (.slice pt nt ct) (.slice pk l.length ck) (.slice pb nb cb) (.int .i64 room)
  have HT := Lib.hid ht
  have HK := Lib.hid hk
  clear ht hk
  go_enter Try.func39, Try.ntmps39
  go_wp2_with fail
  go_loopg [6] l.length (fun g i wx => ∃ (j : Nat), l.length - j = g ∧ j ≤ l.length ∧ i = .int .i64 (j : Int) ∧ Hid (∀ i, i < j → hd ts l i ≠ some h) ∧ Hid (Boxed4 wx w.heap.size (.slice pt nt ct) (.slice pk l.length ck) (.slice pb nb cb) (.int .i64 room)) ∧ Hid (Below w.heap.size w wx))
  case atStart => exact ⟨0, rfl, by omega, rfl, fun i hi => absurd hi (by omega), hX0, hB0⟩
  case round =>
    clear hB0 hX0
    obtain ⟨j, rfl, hj, rfl, HA, HX, HB⟩ := hrel
    obtain ⟨c0, c1, c2, c3⟩ := HX.out.cells
    by_cases h0 : j = l.length
    · have h0z : ¬ (j : Int) < (l.length : Int) := by omega
      have HE := Lib.hid (placeOf_none (ts := ts) (l := l) (h := h) (by rw [← h0]; exact HA.out))
      clear h0
      go_wp2_with fail
      go_ret2
      exact ⟨by rw [HE.out]; rfl, HB.out⟩
    · have h0z : (j : Int) < (l.length : Int) := by omega
      have hjl : j < l.length := by omega
      clear h0
      have R := Lib.hid (fun wx (g : Below w.heap.size w wx) => ref_handle pt pk pb nt ct l.length ck nb cb room ts l j wx hF (owns_below HT.out g) (owns_below HK.out g))
      obtain ⟨o, Ho⟩ : ∃ o, Hid (hd ts l j = o) := ⟨_, Lib.hid rfl⟩
      rw [Ho.out] at R
      cases o with
      | none =>
        have HN : Hid (∀ i, i < j + 1 → hd ts l i ≠ some h) := by
          intro i hi
          by_cases e : i = j
          · rw [e, Ho.out]; simp
          · exact HA.out i (by omega)
        clear Ho HA
        go_wp2_with fail
        refine (R.out _ HB.out).mono ?_
        rintro e w1 ⟨rfl, g1⟩
        have HX1 := Lib.hid (HX.out.below g1)
        have HB1 := Lib.hid (HB.out.trans (g1.mono HB.out.size))
        clear g1 c0 c1 c2 c3
        simp only [Option.getD_none, Option.isSome_none]
        go_wp2_with fail
        go_roundg (l.length - (j + 1))
        case measure => omega
        case rel => exact ⟨j + 1, rfl, by omega, by go_num, HN, HX1, HB1⟩
      | some x =>
        simp only [Option.getD_some, Option.isSome_some] at R
        by_cases hx : x = h
        · subst hx
          have HE := Lib.hid (placeOf_some hjl Ho.out HA.out)
          clear Ho HA
          go_wp2_with fail
          refine (R.out _ HB.out).mono ?_
          rintro e w1 ⟨rfl, g1⟩
          have HB1 := Lib.hid (HB.out.trans (g1.mono HB.out.size))
          clear g1 c0 c1 c2 c3
          go_wp2_with fail
          go_ret2
          exact ⟨by rw [HE.out]; rfl, HB1.out⟩
        · have HN : Hid (∀ i, i < j + 1 → hd ts l i ≠ some h) := by
            intro i hi
            by_cases e : i = j
            · rw [e, Ho.out]; simpa using hx
            · exact HA.out i (by omega)
          have hxz : ((x : Int) == (h : Int)) = false := by simp; omega
          clear Ho HA hx
          go_wp2_with fail
          refine (R.out _ HB.out).mono ?_
          rintro e w1 ⟨rfl, g1⟩
          have HX1 := Lib.hid (HX.out.below g1)
          have HB1 := Lib.hid (HB.out.trans (g1.mono HB.out.size))
          clear g1 c0 c1 c2 c3
          go_wp2_with fail
          go_roundg (l.length - (j + 1))
          case measure => omega
          case rel => exact ⟨j + 1, rfl, by omega, by go_num, HN, HX1, HB1⟩

end Go.Proofs.Ytmaofmbnlfggiab
