/-
  The program's own Handle and Place (package arena).
-/
import Derived.Test.YtmaofmbnlfggiabArenaOwn
namespace Go.Proofs.Ytmaofmbnlfggiab
open Go.RowKit
set_option linter.unusedVariables false

theorem own_place_far {N w b ph ch pa ca g M} (h : Lies N w b ph ch pa ca g) (ok : g.Ok M) (x s : Nat) (hs : s < 18446744073709551616) (HP : Hid (Calls Try.prog 35 #[.int .u64 (x : Int)] w fun e w' => e = .returned (.int .u64 (s : Int)) ∧ w' = w)) (hj : g.l.length ≤ s) :
    Calls Try.prog 26 #[.pointer (some ⟨b, 0, none⟩), .int .u64 (x : Int)] w fun e w' => e = .returned (placeV none) ∧ w' = w := by
  have HM := Lib.hid (own_made h)
  obtain ⟨c0, c1, c2⟩ := h.box.cells
  have h1 := ok.fits
  have h2 := ok.small
  have h4 : (g.l.length : Int) ≤ (s : Int) := by omega
  clear h ok hj
  go_enter Try.func26, Try.ntmps26
  go_wp2_with fail
  refine HM.out.mono ?_
  rintro e w1 ⟨rfl, rfl⟩
  go_wp2_with fail
  refine HP.out.mono ?_
  rintro e w1 ⟨rfl, rfl⟩
  go_wp2_with fail
  go_ret2
  exact ⟨rfl, rfl⟩

theorem own_place_no {N w b gh ch pa ca g M} (h : Lies N w b (some ⟨gh, 0, none⟩) ch pa ca g) (ok : g.Ok M) (x s y : Nat) (HP : Hid (Calls Try.prog 35 #[.int .u64 (x : Int)] w fun e w' => e = .returned (.int .u64 (s : Int)) ∧ w' = w)) (hj : s < g.l.length)
    (cj : w.cell? ⟨gh, s, none⟩ = some (.int .u64 (y : Int))) (hne : ((y : Int) != (x : Int)) = true) :
    Calls Try.prog 26 #[.pointer (some ⟨b, 0, none⟩), .int .u64 (x : Int)] w fun e w' => e = .returned (placeV none) ∧ w' = w := by
  have HM := Lib.hid (own_made h)
  obtain ⟨c0, c1, c2⟩ := h.box.cells
  have h1 := ok.fits
  have h2 := ok.small
  have h4 : ¬ (g.l.length : Int) ≤ (s : Int) := by omega
  have h5 : (s : Int) < (g.l.length : Int) := by omega
  clear h ok
  go_enter Try.func26, Try.ntmps26
  go_wp2_with fail
  refine HM.out.mono ?_
  rintro e w1 ⟨rfl, rfl⟩
  go_wp2_with fail
  refine HP.out.mono ?_
  rintro e w1 ⟨rfl, rfl⟩
  go_wp2_with fail
  go_ret2
  exact ⟨rfl, rfl⟩

theorem own_place_yes {N w b gh ch pa ca g M} (h : Lies N w b (some ⟨gh, 0, none⟩) ch pa ca g) (ok : g.Ok M) (x s : Nat) (HP : Hid (Calls Try.prog 35 #[.int .u64 (x : Int)] w fun e w' => e = .returned (.int .u64 (s : Int)) ∧ w' = w)) (hj : s < g.l.length)
    (cj : w.cell? ⟨gh, s, none⟩ = some (.int .u64 (x : Int))) :
    Calls Try.prog 26 #[.pointer (some ⟨b, 0, none⟩), .int .u64 (x : Int)] w fun e w' => e = .returned (placeV (some s)) ∧ w' = w := by
  have HM := Lib.hid (own_made h)
  obtain ⟨c0, c1, c2⟩ := h.box.cells
  have h1 := ok.fits
  have h2 := ok.small
  have h4 : ¬ (g.l.length : Int) ≤ (s : Int) := by omega
  have h5 : (s : Int) < (g.l.length : Int) := by omega
  clear h ok
  go_enter Try.func26, Try.ntmps26
  go_wp2_with fail
  refine HM.out.mono ?_
  rintro e w1 ⟨rfl, rfl⟩
  go_wp2_with fail
  refine HP.out.mono ?_
  rintro e w1 ⟨rfl, rfl⟩
  go_wp2_with fail
  go_ret2
  exact ⟨rfl, rfl⟩

theorem own_place {N w b ph ch pa ca g M} (h : Lies N w b ph ch pa ca g) (ok : g.Ok M) (hM : M ≤ 2147483648) (x : Nat) (hx : x < 18446744073709551616) :
    Calls Try.prog 26 #[.pointer (some ⟨b, 0, none⟩), .int .u64 (x : Int)] w fun e w' => e = .returned (placeV (placeOf g.ts g.l x)) ∧ w' = w := by
  have HP := Lib.hid (own_placeOf x w hx)
  have F := ok.fit hM
  by_cases hj : g.l.length ≤ spoken x
  · rw [placeOf_not F (fun e => by have := (spoken_hd F e).1; omega)]
    exact own_place_far h ok x _ (spoken_lt x) HP hj
  have hjl : spoken x < g.l.length := by omega
  obtain ⟨gh, rfl, cj⟩ := h.reads hjl
  by_cases hh : hd g.ts g.l (spoken x) = some x
  · rw [hh] at cj
    rw [placeOf_spoken F hh]
    exact own_place_yes h ok x _ HP hjl cj
  · rw [placeOf_not F hh]
    refine own_place_no h ok x _ _ HP hjl cj ?_
    rw [bne_iff_ne]
    intro e
    cases e2 : hd g.ts g.l (spoken x) with
    | none =>
      rw [e2] at e
      have e3 : x = 0 := by
        have : ((0 : Nat) : Int) = (x : Int) := e
        omega
      have h2 := ok.fits
      have h3 := ok.small
      have h4 : spoken x = 18446744073709551615 := by unfold spoken; rw [e3]
      rw [h4] at hjl
      omega
    | some y =>
      rw [e2] at e hh
      have : (y : Int) = (x : Int) := e
      exact hh (by rw [show y = x by omega])

end Go.Proofs.Ytmaofmbnlfggiab
