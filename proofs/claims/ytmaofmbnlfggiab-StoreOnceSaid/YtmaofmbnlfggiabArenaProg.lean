/-
  The program's own arena keeps what layer 4's laws ask of one (ArenaK).
-/
import Derived.Test.YtmaofmbnlfggiabArenaOwnG
namespace Go.Proofs.Ytmaofmbnlfggiab
open Go.RowKit
set_option linter.unusedVariables false

theorem went_below {N w w' a g} (h : AtP N w a g) (b : Below w.heap.size w w') : Went AtP N w a g w' :=
  ⟨N, h.kept (fun i hi => b.block i (h.lt i hi)) b.size, Turned.below b, fun _ hk => .inl hk⟩

theorem prog_take_full {N w a g M} (h : AtP N w a g) (ok : g.Ok M) (hM : M ≤ 1000) (hf : g.full) : Calls Try.prog 25 #[.pointer (some a)] w (TookP AtP N w a g 0 4) := by
  have h0 := h
  obtain ⟨b, ph, ch, pa, ca, rfl, h⟩ := h
  refine (own_take_full h ok hf).mono ?_
  rintro e w' ⟨rfl, bl⟩
  exact ⟨rfl, went_below h0 bl⟩

theorem prog_take {N w a g M} (h : AtP N w a g) (ok : g.Ok M) (hM : M ≤ 1000) (hf : ¬ g.full) : Calls Try.prog 25 #[.pointer (some a)] w (TookP AtP N w a g.take g.handle 0) := by
  obtain ⟨b, ph, ch, pa, ca, rfl, h⟩ := h
  cases hb : g.bk.getLast? with
  | some p =>
    have hs := last_split hb
    have hpf := ok.free p (by rw [hs]; simp)
    have hpl := (List.getElem?_eq_some_iff.1 hpf).1
    have hl : 0 < g.bk.length := by rw [hs]; simp
    have hnx : g.next = p := by unfold Gh.next; rw [hb]; rfl
    have htm : g.ts[p]? = some g.times := by
      unfold Gh.times
      rw [hnx, List.getElem?_eq_getElem (by rw [ok.len]; exact hpl)]
      rfl
    obtain ⟨_, f1⟩ := own_form h.rh
    obtain ⟨gh, rfl⟩ := f1 (by omega)
    obtain ⟨_, f2⟩ := own_form h.ra
    obtain ⟨ga, rfl⟩ := f2 hl
    exact own_take_back h ok hM g.bk.dropLast p g.times g.handle hs htm (by unfold Gh.handle; rw [hnx])
  | none =>
    have hb0 : g.bk = [] := List.getLast?_eq_none_iff.1 hb
    have hnx : g.next = g.l.length := by unfold Gh.next; rw [hb]; rfl
    have hh : g.l.length + 1 = g.handle := by
      unfold Gh.handle Gh.times
      rw [hnx, List.getElem?_eq_none (by rw [ok.len]; exact Nat.le_refl _)]
      simp
    have hc := own_take_new h ok hb0 hf g.handle hh
    have eT : g.take = ⟨g.ts ++ [1], g.l ++ [true], g.bk, g.room⟩ := by unfold Gh.take; rw [hb, hb0]
    rw [eT]
    exact hc

theorem once_more {B n p x y : Nat} (e : n * B + p + 1 = x) (hy : x + B = y) : (n + 1) * B + p + 1 = y := by
  rw [Nat.add_mul, Nat.one_mul]
  omega
theorem prog_give {N w a g M} (x p : Nat) (h : AtP N w a g) (ok : g.Ok M) (hM : M ≤ 1000) (hx : x < 18446744073709551616) (hp : placeOf g.ts g.l x = some p) : Calls Try.prog 30 #[.pointer (some a), .int .u64 (x : Int)] w (GaveP AtP N w a (g.give p) 0) := by
  obtain ⟨b, ph, ch, pa, ca, rfl, h⟩ := h
  obtain ⟨h1, h2, h3⟩ := placeOf_is (ok.fit (by omega)) hp
  by_cases c : g.l[p]? = some true
  · obtain ⟨n, hn⟩ := ok.pos p c
    rw [hd_some c hn] at h1
    have e : n * 4294967296 + p + 1 = x := Option.some.inj h1
    obtain ⟨_, f1⟩ := own_form h.rh
    obtain ⟨gh, rfl⟩ := f1 (by omega)
    obtain ⟨y, hy⟩ : ∃ y, x + 4294967296 = y := ⟨_, Eq.refl _⟩
    have h4 := once_more e hy
    exact own_give h ok hM x p (n + 1) y hx hp h3 hn h4 hy
  · rw [hd_none c] at h1; cases h1

def arenaK : ArenaK where
  At := AtP
  lt := fun h => h.lt
  kept := fun h k s => h.kept k s
  new := own_new
  new_no := own_new_no
  take_full := prog_take_full
  take := prog_take
  give_no := fun x h ok hM hx hn => by
    have h0 := h
    obtain ⟨b, ph, ch, pa, ca, rfl, h⟩ := h
    refine (own_give_no h ok hM x hx hn).mono ?_
    rintro e w' ⟨rfl, rfl⟩
    exact ⟨rfl, went_below h0 (Below.refl _ _)⟩
  give := prog_give
  place := fun x h ok hM hx => by
    obtain ⟨b, ph, ch, pa, ca, rfl, h⟩ := h
    refine (own_place h ok (by omega) x hx).mono ?_
    rintro e w' ⟨rfl, rfl⟩
    exact ⟨rfl, Below.refl _ _⟩
  used := fun h ok => by
    obtain ⟨b, ph, ch, pa, ca, rfl, h⟩ := h
    exact own_used h ok

end Go.Proofs.Ytmaofmbnlfggiab
