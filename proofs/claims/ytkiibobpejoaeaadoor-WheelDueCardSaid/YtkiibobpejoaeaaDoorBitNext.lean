/-
  The program's own bitmap: Next, Round.
-/
import Derived.Test.YtkiibobpejoaeaaDoorBitHas
namespace Go.Proofs.YtkiibobpejoaeaaDoor
open Go.RowKit
set_option linter.unusedVariables false

/-- A number, if there is one, and whether there is. -/
abbrev outN (o : Option Nat) : Value := .tuple #[.int .i64 ((o.getD 0 : Nat) : Int), .bool o.isSome]
/-- The least one that is not below a number, or else the least one of all. -/
def IsRound (m : Nat → Bool) (fr : Int) (o : Option Nat) : Prop := (IsNext m fr o ∧ o ≠ none) ∨ (IsNext m fr none ∧ IsNext m 0 o)
theorem rest_val {x : Nat → Nat} {i : Nat} (hx : x (i / 64) < 18446744073709551616) : bits .andNot .u64 (x (i / 64) : Int) (IntKind.u64.wrap (((2 ^ (i % 64) : Nat) : Int) - 1)) = ((restW x i : Nat) : Int) := by
  have h := pow_lt64 i
  have h0 : 0 < 2 ^ (i % 64) := Nat.pow_pos (by decide)
  rw [restW]
  have e : IntKind.u64.wrap (((2 ^ (i % 64) : Nat) : Int) - 1) = ((2 ^ (i % 64) - 1 : Nat) : Int) := by
    generalize 2 ^ (i % 64) = y at *
    rw [IntKind.wrap_u64]
    omega
  rw [e]
  exact u64_andNot_nat _ _ hx (by omega)
section
variable {w w' : World} {b gf cf k n cnt : Nat} {fb : Nat → Nat} {X : Nat → Nat → Nat} {m : Nat → Bool}
theorem bit_next (h : BMem w b gf cf k n cnt fb X) (hG : ∀ f, f < k → GoodF n m f (X f)) (hm : ∀ q, m q = true → q < n) (hT : Tab w) (fr : Int) (hf1 : -9223372036854775808 ≤ fr) (hf2 : fr ≤ 9223372036854775807) :
    Calls Tryd.prog 71 #[.pointer (some ⟨b, 0, none⟩), .int .i64 fr] w fun e w' => (∃ o, IsNext m fr o ∧ e = .returned (.tuple #[.int .i64 ((o.getD 0 : Nat) : Int), .bool o.isSome])) ∧ Below w.heap.size w w' := by
  have HM := Lib.hid (bit_made h)
  have H := Lib.hid h
  have HG := Lib.hid hG
  have HTab := Lib.hid hT
  have hk3 := h.k3
  have hk1 := h.k1
  have hn2 := h.n2
  obtain ⟨c0, c1, c2, c3⟩ := h.cells
  obtain ⟨i0, hi0⟩ : ∃ i0 : Nat, max fr 0 = (i0 : Int) := ⟨(max fr 0).toNat, by omega⟩
  have A0 := Lib.hid (asks_zero (m := m) hi0.symm)
  have hi1 : i0 ≤ 9223372036854775807 := by omega
  clear h hG hT
  go_enter Tryd.func71, Tryd.ntmps71
  go_upto_region 3 with (go_at_call 74; refine HM.out.mono ?_; rintro e w1 ⟨rfl, rfl⟩)
  go_cut [6] (fun v6 wx => v6 = .int .i64 (i0 : Int) ∧ wx = w1)
  case first =>
    by_cases cf : 0 ≤ fr
    · obtain rfl : fr = (i0 : Int) := by omega
      go_wp2_with fail
      go_meet
      exact ⟨rfl, rfl⟩
    · obtain rfl : i0 = 0 := by omega
      go_wp2_with fail
      go_meet
      exact ⟨rfl, rfl⟩
  case rest =>
    obtain ⟨rfl, rfl⟩ := hcut
    go_upto_region 5 with fail
    go_loopg [6, 19] k (fun s v6 v19 wx => ∃ (f i : Nat), k - f = s ∧ f ≤ k ∧ v6 = .int .i64 (i : Int) ∧ v19 = .int .i64 (f : Int) ∧ i ≤ 9223372036854775807 ∧ (1 ≤ f → 1 ≤ i) ∧ Hid (Asks m fr f i) ∧ Hid (Below wc.heap.size wc wx))
    case atStart => exact ⟨0, i0, rfl, by omega, rfl, rfl, hi1, by omega, A0, Lib.hid (Below.refl _ _)⟩
    case round =>
      obtain ⟨f, i, rfl, hf, rfl, rfl, hi, hfi, HA, HB⟩ := hrel
      by_cases hfk : f = k
      · have hz : ¬ (f : Int) < (k : Int) := by omega
        have HN : Hid (IsNext m fr none) := by
          obtain ⟨f', rfl⟩ : ∃ f', f = f' + 1 := ⟨f - 1, by omega⟩
          refine Lib.hid (asks_end hm HA.out (n := n) ?_ (hfi (by omega)))
          have := H.out.last
          rw [show k - 1 = f' by omega] at this
          exact this
        clear HA HG H
        go_wp2_with fail
        go_ret2
        exact ⟨⟨none, HN.out, rfl⟩, HB.out⟩
      · have hz : (f : Int) < (k : Int) := by omega
        have hfk' : f < k := by omega
        have R := H.out.below HB.out
        obtain ⟨c0, c1, c2, c3⟩ := R.cells
        have d0 := R.fl.cell hfk'
        have hw1 := wn_le hn2 f
        by_cases ho : wn n f ≤ i / 64
        · have ho' : ((wn n f : Nat) : Int) ≤ (i : Int) / 64 := by omega
          have HN := Lib.hid (asks_none hm HA.out ho)
          clear HA HG H R ho
          generalize wn n f = wf at *
          generalize fb f = bf at *
          go_wp2_with fail
          go_ret2
          exact ⟨⟨none, HN.out, rfl⟩, HB.out⟩
        · have ho' : ¬ ((wn n f : Nat) : Int) ≤ (i : Int) / 64 := by omega
          have ho1 : i / 64 < wn n f := by omega
          have d1 := (R.row f hfk').cell ho1
          have hg := HG.out f hfk'
          have hx := (hg _ ho1).1
          have HV := Lib.hid (rest_val (x := X f) (i := i) hx)
          have HK := Lib.hid (fun d => bit_mark i (by omega) (wr.drewN d))
          have hrl := rest_lt hg ho1
          by_cases hr : restW (X f) i = 0
          · have HN := Lib.hid (asks_up hg HA.out ho1 hr)
            rw [hr] at HV
            have HV0 : bits .andNot .u64 (X f (i / 64) : Int) (IntKind.u64.wrap (((2 ^ (i % 64) : Nat) : Int) - 1)) = 0 := HV.out
            clear HA HG H R ho hg HV hr hx hrl
            generalize wn n f = wf at *
            generalize fb f = bf at *
            generalize X f (i / 64) = x at *
            generalize 2 ^ (i % 64) = mk at *
            go_upto_region 9 with fail
            go_quiet (first | (go_at_call 60; exact Calls.quiet_of_same (HK.out _)))
            go_wp2_with (simp only [HV0])
            go_roundg (k - (f + 1))
            case measure => omega
            case rel => exact ⟨f + 1, i / 64 + 1, rfl, by omega, by go_num, by go_num, by omega, by omega, HN, Lib.hid (below_drewN HB.out _)⟩
          · obtain ⟨q1, q2, q3⟩ := asks_here hg HA.out ho1 hr
            have hcz := (ctz_bit hr hrl).1
            have HZ := Lib.hid (fun d => tz64 (restW (X f) i) hr hrl (wr.drewN d) ((HTab.out.below HB.out).below (below_drewN (Below.refl _ _) d)))
            have HDn := Lib.hid (fun d => bit_down (R.drewN d) HG.out hm ((HTab.out.below HB.out).below (below_drewN (Below.refl _ _) d)) f _ hfk' q1)
            have HN : Hid (∀ cur, Down m f (64 * (i / 64) + Lib.ctz 64 (restW (X f) i)) 0 cur → IsNext m fr (some cur)) := Lib.hid fun cur d => down_end d HA.out q2 q3
            have HV0 : bits .andNot .u64 (X f (i / 64) : Int) (IntKind.u64.wrap (((2 ^ (i % 64) : Nat) : Int) - 1)) = ((restW (X f) i : Nat) : Int) := HV.out
            have hrz : (((restW (X f) i : Nat) : Int) != 0) = true := by
              simp only [bne_iff_ne, ne_eq]; omega
            clear HA HG H R ho hg HV hr hx hrl q1 q2 q3
            generalize wn n f = wf at *
            generalize fb f = bf at *
            generalize Lib.ctz 64 (restW (X f) i) = t at *
            generalize restW (X f) i = rest at *
            generalize X f (i / 64) = x at *
            generalize 2 ^ (i % 64) = mk at *
            have hnum : (i : Int) / 64 * 64 + (t : Int) = ((64 * (i / 64) + t : Nat) : Int) := by omega
            go_upto_region 9 with fail
            go_quiet (first | (go_at_call 60; exact Calls.quiet_of_same (HK.out _)))
            go_wp2_with (simp only [HV0])
            refine (HZ.out _).mono ?_
            rintro e w1 ⟨rfl, rfl⟩
            go_wp2_with fail
            refine (HDn.out _).mono ?_
            rintro e w1 ⟨cur, rfl, hD, rfl⟩
            go_wp2_with fail
            go_ret2
            exact ⟨⟨some cur, HN.out cur hD, rfl⟩, below_drewN HB.out _⟩
/-- Round: Next, or else the first one of all. -/
theorem bit_round (h : BMem w b gf cf k n cnt fb X) (hG : ∀ f, f < k → GoodF n m f (X f)) (hm : ∀ q, m q = true → q < n) (hT : Tab w) (fr : Int) (hf1 : -9223372036854775808 ≤ fr) (hf2 : fr ≤ 9223372036854775807) :
    Calls Tryd.prog 51 #[.pointer (some ⟨b, 0, none⟩), .int .i64 fr] w fun e w' => (∃ o, IsRound m fr o ∧ e = .returned (.tuple #[.int .i64 ((o.getD 0 : Nat) : Int), .bool o.isSome])) ∧ Below w.heap.size w w' := by
  have H1 := Lib.hid (bit_next h hG hm hT fr hf1 hf2)
  have H2 : Hid (∀ w', Below w.heap.size w w' → Calls Tryd.prog 71 #[.pointer (some ⟨b, 0, none⟩), .int .i64 0] w' fun e w'' => (∃ o, IsNext m 0 o ∧ e = .returned (.tuple #[.int .i64 ((o.getD 0 : Nat) : Int), .bool o.isSome])) ∧ Below w'.heap.size w' w'') := Lib.hid fun w' bl => bit_next (h.below bl) hG hm (hT.below bl) 0 (by decide) (by decide)
  clear h hG hT
  go_enter Tryd.func51, Tryd.ntmps51
  go_wp2_with fail
  refine H1.out.mono ?_
  rintro e w1 ⟨⟨o, ho, rfl⟩, b1⟩
  cases o with
  | none =>
    have HR := Lib.hid (fun o h => (Or.inr ⟨ho, h⟩ : IsRound m fr o))
    have H3 := Lib.hid (H2.out _ b1)
    clear ho H1 H2
    go_wp2_with fail
    refine H3.out.mono ?_
    rintro e w2 ⟨⟨o, ho, rfl⟩, b2⟩
    go_wp2_with fail
    go_ret2
    exact ⟨⟨o, HR.out o ho, rfl⟩, below_tr b1 b2⟩
  | some i =>
    have HR := Lib.hid (Or.inl ⟨ho, by simp⟩ : IsRound m fr (some i))
    clear ho H1 H2
    go_wp2_with fail
    go_ret2
    exact ⟨⟨some i, HR.out, rfl⟩, b1⟩
end

end Go.Proofs.YtkiibobpejoaeaaDoor
