/-
  The program's own wheel: first, the first slot in which one stands.
-/
import Derived.Test.YtkiibobpejoaeaaDoorWheelMem
namespace Go.Proofs.YtkiibobpejoaeaaDoor
open Go.RowKit
set_option linter.unusedVariables false
set_option linter.unusedSimpArgs false

theorem last_lt {S cur : Nat} : lastW S cur < 18446744073709551616 := by unfold lastW; omega
theorem round_first {S cur : Nat} {m : Nat → Bool} {R : Nat → List Tw} (hS : 2 ≤ S) (hm : ∀ p, m p = true ↔ p < S ∧ R p ≠ []) {o : Option Nat} (h : IsRound m ((cur % S : Nat) : Int) o) : IsFirst S cur R (o.map (slotAt S cur)) := by
  have hb : cur % S < S := Nat.mod_lt _ (by omega)
  cases o with
  | none =>
    rcases h with ⟨_, h⟩ | ⟨_, h⟩
    · exact absurd rfl h
    · intro p hp
      cases e : R p with
      | nil => rfl
      | cons x l => exact absurd (by omega) (h p ((hm p).2 ⟨hp, by rw [e]; simp⟩))
  | some p =>
    rcases h with ⟨h, _⟩ | ⟨h0, h⟩
    · have h1 := (hm p).1 h.1
      have h2 := h.2.1
      refine ⟨p, h1.1, h1.2, rfl, fun q hq hne => ?_⟩
      have h3 := h.2.2 q ((hm q).2 ⟨hq, hne⟩)
      unfold slotAt
      rw [if_neg (by omega)]
      split
      · omega
      · have := h3 (by omega); omega
    · have h1 := (hm p).1 h.1
      have h2 := h0 p h.1
      refine ⟨p, h1.1, h1.2, rfl, fun q hq hne => ?_⟩
      have hmq := (hm q).2 ⟨hq, hne⟩
      have h3 := h.2.2 q hmq (by omega)
      have h4 := h0 q hmq
      unfold slotAt
      rw [if_pos (by omega), if_pos (by omega)]
      omega
def FirstP (S cur : Nat) (R : Nat → List Tw) (w : World) (e : Ending) (w' : World) : Prop := (∃ o, IsFirst S cur R o ∧ e = .returned (.tuple #[.int .u64 ((o.getD 0 : Nat) : Int), .bool o.isSome])) ∧ Below w.heap.size w w'
theorem first_lt {S cur : Nat} {R : Nat → List Tw} (hS : 2 ≤ S) (hg : GoodR S cur R) {p : Nat} (hp : p < S) (hne : R p ≠ []) : slotAt S cur p < 18446744073709551616 := by
  obtain ⟨x, l, e⟩ := List.exists_cons_of_ne_nil hne
  have hx : x ∈ R p := by rw [e]; exact List.mem_cons_self
  have h1 := hg p hp x hx
  rw [← hg.at_ hS hp hx]
  have := last_lt (S := S) (cur := cur)
  omega
set_option maxHeartbeats 2000000 in
theorem w_first {N : Nat → Prop} {w : World} {a : Addr} {s : Ws} (h : WAt N w a s) (f : s.Fits) (hg : GoodR s.S s.cur s.R) (hT : Tab w) :
    Calls Tryd.prog 36 #[.pointer (some a)] w (FirstP s.S s.cur s.R w) := by
  obtain ⟨b, gs, fa, NB, sv, dv, m, rfl, h1, h2, h3⟩ := h
  obtain ⟨S, width, room, cur, waits, turns, R, due⟩ := s
  obtain ⟨s1, s2, w1, w2, hcur, hlen, hword⟩ := f
  simp only at *
  obtain ⟨bg, HBg⟩ : ∃ bg, Hid (cur % S = bg) := ⟨_, Lib.hid rfl⟩
  have hbg : bg < S := by rw [← HBg.out]; exact Nat.mod_lt _ (by omega)
  have HP := w_place h1.box s1 s2 cur hcur
  rw [HBg.out] at HP
  have HPH := Lib.hid HP
  have HR := Lib.hid (c_round h1.sl.bm hT (bg : Int) (by omega) (by omega))
  have HL := Lib.hid h1
  have HG := Lib.hid hg
  obtain ⟨c0, c1, c2, c3, c4, c5, c6, c7, c8⟩ := h1.box.cells
  clear h1 HP hg hT
  go_enter Tryd.func36, Tryd.ntmps36
  go_wp2_with fail
  refine HPH.out.mono ?_
  rintro e w0 ⟨rfl, rfl⟩
  go_wp2_with fail
  refine HR.out.mono ?_
  rintro e W2 ⟨⟨o, ho, rfl⟩, b2⟩
  have HO := Lib.hid ho
  have HB2 := Lib.hid b2
  obtain ⟨d0, d1, d2, d3, d4, d5, d6, d7, d8⟩ := (HL.out.below b2).box.cells
  clear ho b2 c0 c1 c2 c3 c4 c5 c6 c7 c8 HR HPH
  cases o with
  | none =>
    simp only [Option.getD_none, Option.isSome_none]
    go_wp2_with fail
    go_ret2
    refine ⟨⟨none, ?_, rfl⟩, HB2.out⟩
    have := HO.out
    rw [← HBg.out] at this
    exact round_first s1 h2 this
  | some p =>
    simp only [Option.getD_some, Option.isSome_some]
    have HF : Hid (IsFirst S cur R (some (slotAt S cur p))) := by
      have := HO.out
      rw [← HBg.out] at this
      exact Lib.hid (round_first s1 h2 this)
    obtain ⟨hp, hne⟩ : p < S ∧ R p ≠ [] := by
      rcases HO.out with ⟨h, _⟩ | ⟨_, h⟩
      · exact (h2 p).1 h.1
      · exact (h2 p).1 h.1
    have hlt := first_lt s1 HG.out hp hne
    obtain ⟨sl, HSl⟩ : ∃ sl, Hid (slotAt S cur p = sl) := ⟨_, Lib.hid rfl⟩
    have HSl2 := Lib.hid HSl.out
    unfold slotAt at HSl2
    rw [HBg.out] at HSl2
    rw [HSl.out] at hlt HF
    clear hne HO
    by_cases c : p < bg
    · have hq := HSl2.out
      rw [if_pos c] at hq
      have cz : (p : Int) < (bg : Int) := by omega
      have e4 : IntKind.u64.wrap ((cur : Int) + ((p : Int) + (S : Int) - (bg : Int))) = (sl : Int) := by rw [IntKind.wrap_u64]; omega
      clear hq
      go_wp2_with fail
      go_ret2
      exact ⟨⟨some sl, HF.out, rfl⟩, HB2.out⟩
    · have hq := HSl2.out
      rw [if_neg c] at hq
      have cz : ¬ (p : Int) < (bg : Int) := by omega
      have e4 : IntKind.u64.wrap ((cur : Int) + ((p : Int) - (bg : Int))) = (sl : Int) := by rw [IntKind.wrap_u64]; omega
      clear hq
      go_wp2_with fail
      go_ret2
      exact ⟨⟨some sl, HF.out, rfl⟩, HB2.out⟩

end Go.Proofs.YtkiibobpejoaeaaDoor
