/-
  What math/bits.LeadingZeros64 and Div64 answer; Div64: of a divisor above the upper half.
-/
import Derived.Test.YtmokkbhfhbgkmaaBits
import Derived.Test.YtmokkbhfhbgkmaaLen
import Derived.Deep.QuietTactic
import Derived.BigQuiet
import Derived.Deep.DeepCutAuto
import Derived.Deep.CutBlock
import Derived.Deep.LoopGhost
namespace Go.Proofs.Ytmokkbhfhbgkmaa
open Go.RowKit
set_option linter.unusedVariables false

/-- math/bits.LeadingZeros64. -/
theorem lz64 (x : Int) (w : World) (h0 : 0 ≤ x) (h1 : x < 18446744073709551616) :
    Calls Try.prog 88 #[.int .u64 x] w fun e w' => e = .returned (.int .i64 (64 - (Lib.bitLen x.toNat : Int))) ∧ w = w' := by
  have hb : Lib.bitLen x.toNat ≤ 64 := Lib.bitLen_le x.toNat 64 (by omega) (by omega)
  go_enter Try.func88, Try.ntmps88
  go_wp2_with (go_at_call 89; refine (len64 x w h0 h1).mono ?_; rintro e w' ⟨rfl, rfl⟩)
  go_ret
  exact ⟨rfl, rfl⟩

set_option maxHeartbeats 400000 in
set_option maxRecDepth 100000 in
/-- Div64, the upper half 0. -/
theorem div64_low (lo y : Int) (w : World) (hl0 : 0 ≤ lo) (hl : lo < 18446744073709551616) (hy0 : 0 < y) (hy : y < 18446744073709551616) :
    Calls Try.prog 85 #[.int .u64 0, .int .u64 lo, .int .u64 y] w fun e w' => e = .returned (.tuple #[.int .u64 (lo / y), .int .u64 (lo % y)]) ∧ ∃ n, w' = w.drewN n := by
  have hy1 : (y == 0) = false := by simp; omega
  have hy2 : ¬ y ≤ 0 := by omega
  go_enter Try.func85, Try.ntmps85
  go_wp2_with fail
  go_quiet (fail)
  go_wp2
  go_ret2
  exact ⟨rfl, _, rfl⟩

/-- LeadingZeros64, by a name for its answer. -/
theorem lz64s (s : Nat) (x : Int) (w : World) (h0 : 0 ≤ x) (h1 : x < 18446744073709551616) (hs : s + Lib.bitLen x.toNat = 64) :
    Calls Try.prog 88 #[.int .u64 x] w fun e w' => e = .returned (.int .i64 (s : Int)) ∧ w = w' := by
  refine (lz64 x w h0 h1).mono ?_
  rintro e w' ⟨rfl, rfl⟩
  refine ⟨?_, rfl⟩
  congr 2
  omega

/-- The digit's loop: the estimate, and its rest. -/
def Est (u n y1 y0 : Nat) (q r : Nat) : Prop := q * y1 + r = u ∧ (u * 4294967296 + n) / (y1 * 4294967296 + y0) ≤ q ∧ r < 4294967296 ∧ q < 18446744073709551616

theorem est_pos {u n y1 y0 q r : Nat} (hn : n < 4294967296) (hu : u < y1 * 4294967296 + y0) (h : Est u n y1 y0 q r) (ht : 4294967296 ≤ q ∨ r * 4294967296 + n < q * y0) : (u * 4294967296 + n) / (y1 * 4294967296 + y0) < q :=
  Ar.too_great 4294967296 u n y1 y0 q r hn hu h.1 ht

theorem down_one (q y1 r u : Nat) (h : q * y1 + r = u) (hq : 0 < q) : (q - 1) * y1 + (r + y1) = u := by
  obtain ⟨k, rfl⟩ : ∃ k, q = k + 1 := ⟨q - 1, by omega⟩
  rw [Nat.add_sub_cancel]
  rw [Nat.add_mul, Nat.one_mul] at h
  omega

theorem est_step {u n y1 y0 q r : Nat} (hn : n < 4294967296) (hu : u < y1 * 4294967296 + y0) (h : Est u n y1 y0 q r) (ht : 4294967296 ≤ q ∨ r * 4294967296 + n < q * y0) (hr : r + y1 < 4294967296) : Est u n y1 y0 (q - 1) (r + y1) := by
  have hp := est_pos hn hu h ht
  obtain ⟨h1, h2, h3, h4⟩ := h
  exact ⟨down_one q y1 r u h1 (Nat.lt_of_le_of_lt (Nat.zero_le _) hp), Nat.le_sub_one_of_lt hp, hr, Nat.lt_of_le_of_lt (Nat.sub_le _ _) h4⟩

theorem est_break {u n y1 y0 q r : Nat} (hn : n < 4294967296) (hy0 : y0 < 4294967296) (hu : u < y1 * 4294967296 + y0) (h : Est u n y1 y0 q r) (ht : 4294967296 ≤ q ∨ r * 4294967296 + n < q * y0) (hr : 4294967296 ≤ r + y1) : (u * 4294967296 + n) / (y1 * 4294967296 + y0) = q - 1 := by
  have hp := est_pos hn hu h ht
  obtain ⟨h1, h2, h3, h4⟩ := h
  exact Ar.just_far 4294967296 u n y1 y0 (q - 1) (r + y1) hy0 hu (down_one q y1 r u h1 (Nat.lt_of_le_of_lt (Nat.zero_le _) hp)) (Nat.le_sub_one_of_lt hp) hr

theorem est_end {u n y1 y0 q r : Nat} (hu : u < y1 * 4294967296 + y0) (h : Est u n y1 y0 q r) (ht : q * y0 ≤ r * 4294967296 + n) : (u * 4294967296 + n) / (y1 * 4294967296 + y0) = q := by
  obtain ⟨h1, h2, h3, h4⟩ := h
  exact Ar.just 4294967296 u n y1 y0 q r (Nat.lt_of_le_of_lt (Nat.zero_le _) hu) h1 h2 ht

theorem est_one {u n y1 y0 q r : Nat} (hn : n < 4294967296) (hu : u < y1 * 4294967296 + y0) (h : Est u n y1 y0 q r) (ht : 4294967296 ≤ q ∨ r * 4294967296 + n < q * y0) : 1 ≤ q :=
  Nat.lt_of_le_of_lt (Nat.zero_le _) (est_pos hn hu h ht)

theorem u64_pred (a b : Nat) (h : a - 1 = b) (h1 : 1 ≤ a) : Value.int .u64 ((a : Int) - 1) = .int .u64 (b : Int) := by
  subst h
  congr 1
  omega

theorem wrap_rest (u n Y q r : Nat) (br : r < 18446744073709551616) (hq : (u * 4294967296 + n) / Y = q) (hr : (u * 4294967296 + n) % Y = r) :
    IntKind.u64.wrap (IntKind.u64.wrap (IntKind.u64.wrap ((u : Int) * 4294967296) + (n : Int)) - IntKind.u64.wrap ((q : Int) * (Y : Int))) = (r : Int) := by
  have h := Nat.div_add_mod (u * 4294967296 + n) Y
  rw [hq, hr, Nat.mul_comm] at h
  rw [Bits.mulN q Y]
  simp only [IntKind.wrap_u64]
  generalize q * Y = P at *
  omega

theorem digit_start (R n0 y1 y0 : Nat) (bn0 : n0 < 4294967296) (by1 : 0 < y1) (by1' : y1 < 4294967296) (bR : R < 18446744073709551616) :
    ∃ q p r : Nat, q < 18446744073709551616 ∧ p ≤ R ∧ (R : Int) / (y1 : Int) = (q : Int) ∧ IntKind.u64.wrap ((q : Int) * (y1 : Int)) = (p : Int) ∧ (R : Int) - (p : Int) = (r : Int) ∧ Hid (Est R n0 y1 y0 q r) := by
  have h := Nat.div_add_mod R y1
  rw [Nat.mul_comm] at h
  have hm := Nat.mod_lt R by1
  refine ⟨R / y1, R / y1 * y1, R % y1, ?_, Nat.div_mul_le_self _ _, by omega, ?_, ?_, h, Ar.first_est 4294967296 R n0 y1 y0 bn0 by1, ?_, ?_⟩
  · exact Nat.lt_of_le_of_lt (Nat.div_le_self _ _) bR
  · rw [Bits.mulN, Bits.wrapN]
    exact Nat.lt_of_le_of_lt (Nat.div_mul_le_self _ _) bR
  · generalize R / y1 * y1 = P at *
    omega
  · exact Nat.lt_trans hm by1'
  · exact Nat.lt_of_le_of_lt (Nat.div_le_self _ _) bR

set_option maxHeartbeats 1000000 in
set_option maxRecDepth 100000 in
/-- Div64, the upper half above 0: over the digits, each by a name. -/
theorem div64_core (s Y y1 y0 u n n1 n0 Q1 R1 Q0 R0 : Nat) (hi lo y : Int) (w : World) (hh0 : 0 < hi) (hh : hi < y) (hl0 : 0 ≤ lo) (hl : lo < 18446744073709551616) (hy : y < 18446744073709551616) (HS : Hid (s + Lib.bitLen y.toNat = 64)) (hs : s ≤ 63)
    (bY : Y < 18446744073709551616) (by1 : 0 < y1) (by1' : y1 < 4294967296) (by0 : y0 < 4294967296) (bu : u < 18446744073709551616) (bn1 : n1 < 4294967296) (bn0 : n0 < 4294967296) (bn : n < 18446744073709551616)
    (bR1' : R1 < Y) (HYY : Hid (y1 * 4294967296 + y0 = Y)) (Hu : Hid (u < Y)) (bQ1 : Q1 < 4294967296) (bQ0 : Q0 < 4294967296) (bR1 : R1 < 18446744073709551616) (bR0 : R0 < 18446744073709551616)
    (hY : IntKind.u64.wrap (y * 2 ^ s) = (Y : Int)) (hY1 : (Y : Int) / 4294967296 = (y1 : Int)) (hY0 : bits .and .u64 (Y : Int) 4294967295 = (y0 : Int))
    (hu : bits .or .u64 (IntKind.u64.wrap (hi * 2 ^ s)) (lo / 2 ^ (64 - s)) = (u : Int))
    (hn : IntKind.u64.wrap (lo * 2 ^ s) = (n : Int)) (hn1 : (n : Int) / 4294967296 = (n1 : Int)) (hn0 : bits .and .u64 (n : Int) 4294967295 = (n0 : Int))
    (HQ1 : Hid ((u * 4294967296 + n1) / (y1 * 4294967296 + y0) = Q1)) (HR1 : Hid ((u * 4294967296 + n1) % (y1 * 4294967296 + y0) = R1))
    (HQ0 : Hid ((R1 * 4294967296 + n0) / (y1 * 4294967296 + y0) = Q0)) (HR0 : Hid ((R1 * 4294967296 + n0) % (y1 * 4294967296 + y0) = R0)) :
    Calls Try.prog 85 #[.int .u64 hi, .int .u64 lo, .int .u64 y] w fun e w' => e = .returned (.tuple #[.int .u64 ((Q1 : Int) * 4294967296 + (Q0 : Int)), .int .u64 ((R0 : Int) / 2 ^ s)]) ∧ w = w' := by
  have hy1 : (y == 0) = false := by simp; omega
  have hy2 : ¬ y ≤ hi := by omega
  have hh1 : (hi == 0) = false := by simp; omega
  have hy3 : ¬ (y1 : Int) = 0 := by omega
  obtain ⟨q, p, r, bq, hpu, hq, hp, hr, HE⟩ := digit_start u n1 y1 y0 bn1 by1 by1' bu
  go_enter Try.func85, Try.ntmps85
  go_upto_block 0 with (go_at_call 88; refine (lz64s s y _ (by omega) hy HS.out).mono ?_; rintro e w' ⟨rfl, rfl⟩)
  clear hY hY1 hY0 hu hn hn1 hn0 hq hp hr
  go_cut [15] (fun t wx => t = .int .u64 (Q1 : Int) ∧ w = wx)
  case first =>
    go_wp2_with fail
    go_loopg [15, 16] q (fun g t v wx => ∃ q r : Nat, q = g ∧ t = .int .u64 (q : Int) ∧ v = .int .u64 (r : Int) ∧ Hid (Est u n1 y1 y0 q r) ∧ w = wx)
    case atStart => exact ⟨q, r, rfl, rfl, rfl, HE, rfl⟩
    case round =>
      clear HE
      obtain ⟨q', r', rfl, rfl, rfl, HE', rfl⟩ := hrel
      obtain ⟨bq', br'⟩ : q' < 18446744073709551616 ∧ r' < 4294967296 := ⟨HE'.out.2.2.2, HE'.out.2.2.1⟩
      have Hu' : Hid (u < y1 * 4294967296 + y0) := by rw [HYY.out]; exact Hu
      by_cases hb : 4294967296 ≤ q' ∨ r' * 4294967296 + n1 < q' * y0
      · have h1 : 1 ≤ q' := est_one bn1 Hu'.out HE'.out hb
        have HB := Lib.hid hb
        have hz : (4294967296 : Int) ≤ (q' : Int) ∨ ¬ (4294967296 : Int) ≤ (q' : Int) ∧ ∃ m : Nat, IntKind.u64.wrap ((q' : Int) * (y0 : Int)) = (m : Int) ∧ (4294967296 : Int) * r' + n1 < m ∧ m < 18446744073709551616 := by
          by_cases hq' : 4294967296 ≤ q'
          · left; omega
          · right
            have hm : q' * y0 ≤ 4294967295 * 4294967295 := Nat.mul_le_mul (by omega) (by omega)
            refine ⟨by omega, q' * y0, ?_, ?_, by omega⟩
            · rw [Bits.mulN, Bits.wrapN _ (by omega)]
            · rcases hb with hb | hb
              · exact absurd hb hq'
              · omega
        clear hb
        by_cases hc : 4294967296 ≤ r' + y1
        · have hcz : (4294967296 : Int) ≤ (r' : Int) + (y1 : Int) := by omega
          have Hfin := Lib.hid ((est_break bn1 by0 Hu'.out HE'.out HB.out hc).symm.trans HQ1.out)
          rcases hz with hz | ⟨hz, m, hm, hm1, hm2⟩
          all_goals
            go_wp2_with fail
            go_meet
            exact ⟨u64_pred q' Q1 Hfin.out h1, rfl⟩
        · have hcz : ¬ (4294967296 : Int) ≤ (r' : Int) + (y1 : Int) := by omega
          have Hfin := Lib.hid (est_step bn1 Hu'.out HE'.out HB.out (by omega))
          rcases hz with hz | ⟨hz, m, hm, hm1, hm2⟩
          all_goals
            go_wp2_with fail
            go_roundg (q' - 1)
            case measure => omega
            case rel => exact ⟨q' - 1, r' + y1, rfl, u64_pred q' _ rfl h1, by go_num, Hfin, rfl⟩
      · have hb1 : ¬ (4294967296 : Int) ≤ (q' : Int) := by omega
        obtain ⟨m, hm, hm1, hm2⟩ : ∃ m : Nat, IntKind.u64.wrap ((q' : Int) * (y0 : Int)) = (m : Int) ∧ ¬ (4294967296 : Int) * r' + n1 < m ∧ m < 18446744073709551616 := by
          have hm : q' * y0 ≤ 4294967295 * 4294967295 := Nat.mul_le_mul (by omega) (by omega)
          refine ⟨q' * y0, ?_, by omega, by omega⟩
          rw [Bits.mulN, Bits.wrapN _ (by omega)]
        have Hfin := Lib.hid ((est_end Hu'.out HE'.out (by omega)).symm.trans HQ1.out)
        clear hb
        go_wp2_with fail
        go_meet
        exact ⟨by rw [Hfin.out], rfl⟩
  case rest =>
    obtain ⟨rfl, rfl⟩ := hcut
    clear HE
    have h21 := wrap_rest u n1 Y Q1 R1 bR1 (by rw [← HYY.out]; exact HQ1.out) (by rw [← HYY.out]; exact HR1.out)
    obtain ⟨q0, p0, r0, bq0, bp0, hq0, hp0, hr0, HE⟩ := digit_start R1 n0 y1 y0 bn0 by1 by1' bR1
    go_upto_block 2 with fail
    clear h21 hq0 hp0 hr0
    go_cut [18] (fun t wx => t = .int .u64 (Q0 : Int) ∧ w = wx)
    case first =>
      go_wp2_with fail
      go_loopg [18, 16] q0 (fun g t v wx => ∃ q r : Nat, q = g ∧ t = .int .u64 (q : Int) ∧ v = .int .u64 (r : Int) ∧ Hid (Est R1 n0 y1 y0 q r) ∧ w = wx)
      case atStart => exact ⟨q0, r0, rfl, rfl, rfl, HE, rfl⟩
      case round =>
        clear HE
        obtain ⟨q', r', rfl, rfl, rfl, HE', rfl⟩ := hrel
        obtain ⟨bq', br'⟩ : q' < 18446744073709551616 ∧ r' < 4294967296 := ⟨HE'.out.2.2.2, HE'.out.2.2.1⟩
        have Hu' : Hid (R1 < y1 * 4294967296 + y0) := by rw [HYY.out]; exact bR1'
        by_cases hb : 4294967296 ≤ q' ∨ r' * 4294967296 + n0 < q' * y0
        · have h1 : 1 ≤ q' := est_one bn0 Hu'.out HE'.out hb
          have HB := Lib.hid hb
          have hz : (4294967296 : Int) ≤ (q' : Int) ∨ ¬ (4294967296 : Int) ≤ (q' : Int) ∧ ∃ m : Nat, IntKind.u64.wrap ((q' : Int) * (y0 : Int)) = (m : Int) ∧ (4294967296 : Int) * r' + n0 < m ∧ m < 18446744073709551616 := by
            by_cases hq' : 4294967296 ≤ q'
            · left; omega
            · right
              have hm : q' * y0 ≤ 4294967295 * 4294967295 := Nat.mul_le_mul (by omega) (by omega)
              refine ⟨by omega, q' * y0, ?_, ?_, by omega⟩
              · rw [Bits.mulN, Bits.wrapN _ (by omega)]
              · rcases hb with hb | hb
                · exact absurd hb hq'
                · omega
          clear hb
          by_cases hc : 4294967296 ≤ r' + y1
          · have hcz : (4294967296 : Int) ≤ (r' : Int) + (y1 : Int) := by omega
            have Hfin := Lib.hid ((est_break bn0 by0 Hu'.out HE'.out HB.out hc).symm.trans HQ0.out)
            rcases hz with hz | ⟨hz, m, hm, hm1, hm2⟩
            all_goals
              go_wp2_with fail
              go_meet
              exact ⟨u64_pred q' Q0 Hfin.out h1, rfl⟩
          · have hcz : ¬ (4294967296 : Int) ≤ (r' : Int) + (y1 : Int) := by omega
            have Hfin := Lib.hid (est_step bn0 Hu'.out HE'.out HB.out (by omega))
            rcases hz with hz | ⟨hz, m, hm, hm1, hm2⟩
            all_goals
              go_wp2_with fail
              go_roundg (q' - 1)
              case measure => omega
              case rel => exact ⟨q' - 1, r' + y1, rfl, u64_pred q' _ rfl h1, by go_num, Hfin, rfl⟩
        · have hb1 : ¬ (4294967296 : Int) ≤ (q' : Int) := by omega
          obtain ⟨m, hm, hm1, hm2⟩ : ∃ m : Nat, IntKind.u64.wrap ((q' : Int) * (y0 : Int)) = (m : Int) ∧ ¬ (4294967296 : Int) * r' + n0 < m ∧ m < 18446744073709551616 := by
            have hm : q' * y0 ≤ 4294967295 * 4294967295 := Nat.mul_le_mul (by omega) (by omega)
            refine ⟨q' * y0, ?_, by omega, by omega⟩
            rw [Bits.mulN, Bits.wrapN _ (by omega)]
          have Hfin := Lib.hid ((est_end Hu'.out HE'.out (by omega)).symm.trans HQ0.out)
          clear hb
          go_wp2_with fail
          go_meet
          exact ⟨by rw [Hfin.out], rfl⟩
    case rest =>
      obtain ⟨rfl, rfl⟩ := hcut
      clear HE
      have h22 := wrap_rest R1 n0 Y Q0 R0 bR0 (by rw [← HYY.out]; exact HQ0.out) (by rw [← HYY.out]; exact HR0.out)
      go_wp2_with fail
      go_ret2
      exact ⟨rfl, rfl⟩

/-- What shifting makes of the numerator and the divisor. -/
theorem shifted (s hi lo y : Nat) (hs : s ≤ 63) (hh : hi < y) (hl : lo < 18446744073709551616) (hY : y * 2 ^ s < 18446744073709551616) :
    ∃ u n : Nat, u = hi * 2 ^ s + lo / 2 ^ (64 - s) ∧ n = lo * 2 ^ s % 18446744073709551616 ∧ lo / 2 ^ (64 - s) < 2 ^ s ∧ u < y * 2 ^ s ∧ u * 18446744073709551616 + n = (hi * 18446744073709551616 + lo) * 2 ^ s := by
  have e : (2 : Nat) ^ s * 2 ^ (64 - s) = 18446744073709551616 := by
    rw [← Nat.pow_add, show s + (64 - s) = 64 by omega]
  have d : lo * 2 ^ s / 18446744073709551616 = lo / 2 ^ (64 - s) := by
    rw [← e, Nat.mul_comm lo, Nat.mul_div_mul_left _ _ (Nat.two_pow_pos s)]
  have l : lo / 2 ^ (64 - s) < 2 ^ s := by
    rw [Nat.div_lt_iff_lt_mul (Nat.two_pow_pos _), e]
    exact hl
  have m := Nat.div_add_mod (lo * 2 ^ s) 18446744073709551616
  rw [d] at m
  refine ⟨_, _, rfl, rfl, l, ?_, ?_⟩
  · have h1 : (hi + 1) * 2 ^ s ≤ y * 2 ^ s := Nat.mul_le_mul_right _ hh
    rw [Nat.add_mul, Nat.one_mul] at h1
    omega
  · rw [Nat.add_mul, Nat.add_mul, Nat.mul_right_comm hi]
    omega

/-- The divisor's shift. -/
theorem shift_of (y : Nat) (h0 : 0 < y) (h1 : y < 18446744073709551616) : ∃ s, s + Lib.bitLen y = 64 ∧ s ≤ 63 ∧ y * 2 ^ s < 18446744073709551616 ∧ 9223372036854775808 ≤ y * 2 ^ s := by
  obtain ⟨a, b, c⟩ := Lib.bitLenAux_bounds 64 y h1 (by omega)
  have hL : Lib.bitLenAux 64 y ≤ 64 := Lib.bitLen_le y 64 (Nat.le_refl _) h1
  have hb : Lib.bitLen y = Lib.bitLenAux 64 y := rfl
  rw [hb]
  generalize Lib.bitLenAux 64 y = L at *
  refine ⟨64 - L, by omega, by omega, ?_, ?_⟩
  · have h := Nat.mul_lt_mul_of_pos_right c (Nat.two_pow_pos (64 - L))
    rw [← Nat.pow_add, show L + (64 - L) = 64 by omega] at h
    exact h
  · have h := Nat.mul_le_mul_right (2 ^ (64 - L)) b
    rw [← Nat.pow_add, show L - 1 + (64 - L) = 63 by omega] at h
    exact h

theorem or_add (a b s : Nat) (h : b < 2 ^ s) : a * 2 ^ s ||| b = a * 2 ^ s + b := by
  rw [Nat.mul_comm, Nat.two_pow_add_eq_or_of_lt h]

theorem tuple_eq {a b c d : Int} (h1 : a = b) (h2 : c = d) : Ending.returned (.tuple #[.int .u64 a, .int .u64 c]) = .returned (.tuple #[.int .u64 b, .int .u64 d]) := by rw [h1, h2]

/-- Div64, the upper half above 0. -/
theorem div64_high (hi lo y : Nat) (w : World) (hh0 : 0 < hi) (hh : hi < y) (hl : lo < 18446744073709551616) (hy : y < 18446744073709551616) :
    Calls Try.prog 85 #[.int .u64 (hi : Int), .int .u64 (lo : Int), .int .u64 (y : Int)] w fun e w' => e = .returned (.tuple #[.int .u64 (((hi * 18446744073709551616 + lo) / y : Nat) : Int), .int .u64 (((hi * 18446744073709551616 + lo) % y : Nat) : Int)]) ∧ w = w' := by
  obtain ⟨s, HS, hs, hY, hY2⟩ := shift_of y (by omega) hy
  obtain ⟨u, n, eu, en, hb, hu, hun⟩ := shifted s hi lo y hs hh hl hY
  have p2 : (2 : Int) ^ s = ((2 ^ s : Nat) : Int) := by simp
  have p3 : (2 : Int) ^ (64 - s) = ((2 ^ (64 - s) : Nat) : Int) := by simp
  have hhs : hi * 2 ^ s < 18446744073709551616 := Nat.lt_of_le_of_lt (Nat.mul_le_mul_right _ (Nat.le_of_lt hh)) hY
  have hn : n < 18446744073709551616 := by rw [en]; exact Nat.mod_lt _ (by omega)
  have hYe : y * 2 ^ s / 4294967296 * 4294967296 + y * 2 ^ s % 4294967296 = y * 2 ^ s := Nat.div_add_mod' _ _
  have hYp : 0 < y * 2 ^ s := by omega
  have hr1 := Nat.mod_lt (u * 4294967296 + n / 4294967296) hYp
  have hr0 := Nat.mod_lt ((u * 4294967296 + n / 4294967296) % (y * 2 ^ s) * 4294967296 + n % 4294967296) hYp
  have hq1 := Ar.digit_lt 4294967296 u (n / 4294967296) (y * 2 ^ s) (by omega) hu
  have hq0 := Ar.digit_lt 4294967296 ((u * 4294967296 + n / 4294967296) % (y * 2 ^ s)) (n % 4294967296) (y * 2 ^ s) (by omega) hr1
  have hnn : (u * 4294967296 + n / 4294967296) * 4294967296 + n % 4294967296 = (hi * 18446744073709551616 + lo) * 2 ^ s := by rw [← hun, Ar.three]
  have d1 := Ar.two_digits 4294967296 (u * 4294967296 + n / 4294967296) (n % 4294967296) (y * 2 ^ s) hYp
  have d2 := Ar.two_digits_mod 4294967296 (u * 4294967296 + n / 4294967296) (n % 4294967296) (y * 2 ^ s)
  rw [hnn, Nat.mul_div_mul_right _ _ (Nat.two_pow_pos s)] at d1
  rw [hnn, Nat.mul_mod_mul_right] at d2
  refine (div64_core s (y * 2 ^ s) (y * 2 ^ s / 4294967296) (y * 2 ^ s % 4294967296) u n (n / 4294967296) (n % 4294967296) ((u * 4294967296 + n / 4294967296) / (y * 2 ^ s)) ((u * 4294967296 + n / 4294967296) % (y * 2 ^ s))
    (((u * 4294967296 + n / 4294967296) % (y * 2 ^ s) * 4294967296 + n % 4294967296) / (y * 2 ^ s)) (((u * 4294967296 + n / 4294967296) % (y * 2 ^ s) * 4294967296 + n % 4294967296) % (y * 2 ^ s))
    hi lo y w (by omega) (by omega) (by omega) (by omega) (by omega) HS hs hY (by omega) (by omega) (by omega) (by omega) (by omega) (by omega) hn hr1 hYe hu hq1 hq0 (Nat.lt_trans hr1 hY) (Nat.lt_trans hr0 hY)
    ?_ (by omega) ?_ ?_ ?_ (by omega) ?_ ?_ ?_ ?_ ?_).mono ?_
  · rw [p2, Bits.mulN, Bits.wrapN _ hY]
  · exact Bits.maskN _ hY
  · rw [p2, Bits.mulN, Bits.wrapN _ hhs, p3, ← Int.natCast_ediv, bits_or_u64_nat _ _ hhs (by omega), or_add _ _ _ hb, ← eu]
  · rw [p2, Bits.mulN, Bits.wrapM, ← en]
  · exact Bits.maskN _ hn
  · show _ / _ = _; rw [hYe]
  · show _ % _ = _; rw [hYe]
  · show _ / _ = _; rw [hYe]
  · show _ % _ = _; rw [hYe]
  · rintro e w' ⟨rfl, rfl⟩
    refine ⟨tuple_eq ?_ ?_, rfl⟩
    · rw [← d1]
      omega
    · rw [p2, ← Int.natCast_ediv, d2, Nat.mul_div_cancel _ (Nat.two_pow_pos s)]

/-- math/bits.Div64, of a divisor above the upper half. -/
theorem div64 (hi lo y : Int) (w : World) (hh0 : 0 ≤ hi) (hh : hi < y) (hl0 : 0 ≤ lo) (hl : lo < 18446744073709551616) (hy : y < 18446744073709551616) :
    Calls Try.prog 85 #[.int .u64 hi, .int .u64 lo, .int .u64 y] w fun e w' => e = .returned (.tuple #[.int .u64 ((hi * 18446744073709551616 + lo) / y), .int .u64 ((hi * 18446744073709551616 + lo) % y)]) ∧ ∃ n, w' = w.drewN n := by
  by_cases h0 : hi = 0
  · subst h0
    refine (div64_low lo y w hl0 hl hh hy).mono ?_
    rintro e w' ⟨rfl, h⟩
    exact ⟨by rw [Int.zero_mul, Int.zero_add], h⟩
  · obtain ⟨hi, rfl⟩ := Int.eq_ofNat_of_zero_le hh0
    obtain ⟨lo, rfl⟩ := Int.eq_ofNat_of_zero_le hl0
    obtain ⟨y, rfl⟩ := Int.eq_ofNat_of_zero_le (show 0 ≤ y by omega)
    refine (div64_high hi lo y w (by omega) (by omega) (by omega) (by omega)).mono ?_
    rintro e w' ⟨rfl, rfl⟩
    exact ⟨tuple_eq (by simp) (by simp), 0, rfl⟩

end Go.Proofs.Ytmokkbhfhbgkmaa
