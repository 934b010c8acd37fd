/-
  The program's own Handle and Place (package arena).
-/
import Derived.Test.YtacienpjoegclaaArenaOwn
namespace Go.Proofs.Ytacienpjoegclaa
open Go.RowKit
set_option linter.unusedVariables false

theorem own_handle_none {N w b ph ch pa ca g M} (h : Lies N w b ph ch pa ca g) (ok : g.Ok M) (j : Int) (hj : j < 0 ∨ (g.l.length : Int) ≤ j) :
    Calls Try.prog 16 #[.pointer (some ⟨b, 0, none⟩), .int .i64 j] w fun e w' => e = .returned (HdOut none) ∧ Below w.heap.size w w' := by
  have HM := Lib.hid (own_made h)
  obtain ⟨c0, c1, c2⟩ := h.box.cells
  have h1 := ok.fits
  have h2 := ok.small
  clear h
  by_cases h0 : j < 0
  · clear hj
    go_enter Try.func16, Try.ntmps16
    go_wp2_with fail
    refine HM.out.mono ?_
    rintro e w1 ⟨rfl, rfl⟩
    go_wp2_with fail
    go_ret2
    exact ⟨rfl, Below.refl _ _⟩
  · have h3 : (g.l.length : Int) ≤ j := by omega
    clear hj
    go_enter Try.func16, Try.ntmps16
    go_wp2_with fail
    refine HM.out.mono ?_
    rintro e w1 ⟨rfl, rfl⟩
    go_wp2_with fail
    go_ret2
    exact ⟨rfl, Below.refl _ _⟩

/-- Handle, of a place that was taken some time: what the row reads there. -/
theorem own_handle_at {N w b gh ch pa ca g M} (h : Lies N w b (some ⟨gh, 0, none⟩) ch pa ca g) (ok : g.Ok M) (j x : Nat) (hj : j < g.l.length) (cj : w.cell? ⟨gh, j, none⟩ = some (.int .u64 (x : Int))) (t : Bool) (hx : ((x : Int) != 0) = t) :
    Calls Try.prog 16 #[.pointer (some ⟨b, 0, none⟩), .int .i64 (j : Int)] w fun e w' => e = .returned (.tuple #[.int .u64 (x : Int), .bool t]) ∧ Below w.heap.size w w' := by
  have HM := Lib.hid (own_made h)
  obtain ⟨c0, c1, c2⟩ := h.box.cells
  have h1 := ok.fits
  have h2 := ok.small
  have h3 : ¬ (j : Int) < 0 := by omega
  have h4 : ¬ (g.l.length : Int) ≤ (j : Int) := by omega
  have h5 : (j : Int) < (g.l.length : Int) := by omega
  clear h ok
  go_enter Try.func16, Try.ntmps16
  go_wp2_with fail
  refine HM.out.mono ?_
  rintro e w1 ⟨rfl, rfl⟩
  go_wp2_with fail
  go_ret2
  exact ⟨rfl, Below.refl _ _⟩

theorem own_handle {N w b ph ch pa ca g M} (h : Lies N w b ph ch pa ca g) (ok : g.Ok M) (hM : M ≤ 2147483648) (j : Nat) :
    Calls Try.prog 16 #[.pointer (some ⟨b, 0, none⟩), .int .i64 (j : Int)] w fun e w' => e = .returned (HdOut (hd g.ts g.l j)) ∧ Below w.heap.size w w' := by
  by_cases hj : g.l.length ≤ j
  · rw [hd_none (by rw [List.getElem?_eq_none hj]; simp)]
    exact own_handle_none h ok j (.inr (by omega))
  have hjl : j < g.l.length := by omega
  obtain ⟨gh, rfl, cj⟩ := h.reads hjl
  cases e : hd g.ts g.l j with
  | none =>
    rw [e] at cj
    exact own_handle_at h ok j 0 hjl cj false rfl
  | some x =>
    have x0 := (spoken_hd (ok.fit hM) e).2.2.1
    rw [e] at cj
    exact own_handle_at h ok j x hjl cj true (by rw [bne_iff_ne]; omega)

theorem own_place_far {N w b ph ch pa ca g M} (h : Lies N w b ph ch pa ca g) (ok : g.Ok M) (x s : Nat) (hs : s < 18446744073709551616) (HP : Hid (Calls Try.prog 26 #[.int .u64 (x : Int)] w fun e w' => e = .returned (.int .u64 (s : Int)) ∧ w' = w)) (hj : g.l.length ≤ s) :
    Calls Try.prog 18 #[.pointer (some ⟨b, 0, none⟩), .int .u64 (x : Int)] w fun e w' => e = .returned (placeV none) ∧ w' = w := by
  have HM := Lib.hid (own_made h)
  obtain ⟨c0, c1, c2⟩ := h.box.cells
  have h1 := ok.fits
  have h2 := ok.small
  have h4 : (g.l.length : Int) ≤ (s : Int) := by omega
  clear h ok hj
  go_enter Try.func18, Try.ntmps18
  go_wp2_with fail
  refine HM.out.mono ?_
  rintro e w1 ⟨rfl, rfl⟩
  go_wp2_with fail
  refine HP.out.mono ?_
  rintro e w1 ⟨rfl, rfl⟩
  go_wp2_with fail
  go_ret2
  exact ⟨rfl, rfl⟩

theorem own_place_no {N w b gh ch pa ca g M} (h : Lies N w b (some ⟨gh, 0, none⟩) ch pa ca g) (ok : g.Ok M) (x s y : Nat) (HP : Hid (Calls Try.prog 26 #[.int .u64 (x : Int)] w fun e w' => e = .returned (.int .u64 (s : Int)) ∧ w' = w)) (hj : s < g.l.length)
    (cj : w.cell? ⟨gh, s, none⟩ = some (.int .u64 (y : Int))) (hne : ((y : Int) != (x : Int)) = true) :
    Calls Try.prog 18 #[.pointer (some ⟨b, 0, none⟩), .int .u64 (x : Int)] w fun e w' => e = .returned (placeV none) ∧ w' = w := by
  have HM := Lib.hid (own_made h)
  obtain ⟨c0, c1, c2⟩ := h.box.cells
  have h1 := ok.fits
  have h2 := ok.small
  have h4 : ¬ (g.l.length : Int) ≤ (s : Int) := by omega
  have h5 : (s : Int) < (g.l.length : Int) := by omega
  clear h ok
  go_enter Try.func18, Try.ntmps18
  go_wp2_with fail
  refine HM.out.mono ?_
  rintro e w1 ⟨rfl, rfl⟩
  go_wp2_with fail
  refine HP.out.mono ?_
  rintro e w1 ⟨rfl, rfl⟩
  go_wp2_with fail
  go_ret2
  exact ⟨rfl, rfl⟩

theorem own_place_yes {N w b gh ch pa ca g M} (h : Lies N w b (some ⟨gh, 0, none⟩) ch pa ca g) (ok : g.Ok M) (x s : Nat) (HP : Hid (Calls Try.prog 26 #[.int .u64 (x : Int)] w fun e w' => e = .returned (.int .u64 (s : Int)) ∧ w' = w)) (hj : s < g.l.length)
    (cj : w.cell? ⟨gh, s, none⟩ = some (.int .u64 (x : Int))) :
    Calls Try.prog 18 #[.pointer (some ⟨b, 0, none⟩), .int .u64 (x : Int)] w fun e w' => e = .returned (placeV (some s)) ∧ w' = w := by
  have HM := Lib.hid (own_made h)
  obtain ⟨c0, c1, c2⟩ := h.box.cells
  have h1 := ok.fits
  have h2 := ok.small
  have h4 : ¬ (g.l.length : Int) ≤ (s : Int) := by omega
  have h5 : (s : Int) < (g.l.length : Int) := by omega
  clear h ok
  go_enter Try.func18, Try.ntmps18
  go_wp2_with fail
  refine HM.out.mono ?_
  rintro e w1 ⟨rfl, rfl⟩
  go_wp2_with fail
  refine HP.out.mono ?_
  rintro e w1 ⟨rfl, rfl⟩
  go_wp2_with fail
  go_ret2
  exact ⟨rfl, rfl⟩

theorem own_place {N w b ph ch pa ca g M} (h : Lies N w b ph ch pa ca g) (ok : g.Ok M) (hM : M ≤ 2147483648) (x : Nat) (hx : x < 18446744073709551616) :
    Calls Try.prog 18 #[.pointer (some ⟨b, 0, none⟩), .int .u64 (x : Int)] w fun e w' => e = .returned (placeV (placeOf g.ts g.l x)) ∧ w' = w := by
  have HP := Lib.hid (own_placeOf x w hx)
  have F := ok.fit hM
  by_cases hj : g.l.length ≤ spoken x
  · rw [placeOf_not F (fun e => by have := (spoken_hd F e).1; omega)]
    exact own_place_far h ok x _ (spoken_lt x) HP hj
  have hjl : spoken x < g.l.length := by omega
  obtain ⟨gh, rfl, cj⟩ := h.reads hjl
  by_cases hh : hd g.ts g.l (spoken x) = some x
  · rw [hh] at cj
    rw [placeOf_spoken F hh]
    exact own_place_yes h ok x _ HP hjl cj
  · rw [placeOf_not F hh]
    refine own_place_no h ok x _ _ HP hjl cj ?_
    rw [bne_iff_ne]
    intro e
    cases e2 : hd g.ts g.l (spoken x) with
    | none =>
      rw [e2] at e
      have e3 : x = 0 := by
        have : ((0 : Nat) : Int) = (x : Int) := e
        omega
      have h2 := ok.fits
      have h3 := ok.small
      have h4 : spoken x = 18446744073709551615 := by unfold spoken; rw [e3]
      rw [h4] at hjl
      omega
    | some y =>
      rw [e2] at e hh
      have : (y : Int) = (x : Int) := e
      exact hh (by rw [show y = x by omega])

end Go.Proofs.Ytacienpjoegclaa
