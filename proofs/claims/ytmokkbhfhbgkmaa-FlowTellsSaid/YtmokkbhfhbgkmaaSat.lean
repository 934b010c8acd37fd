/-
  What sandglass/sat's functions answer, for all numbers of 64 bits. Add, Sub, Mul, Clamp leave the world; Down and Up make one block.
-/
import Derived.Test.YtmokkbhfhbgkmaaDiv
import Derived.Test.YtmokkbhfhbgkmaaNum
namespace Go.Proofs.Ytmokkbhfhbgkmaa
open Go.RowKit
set_option linter.unusedVariables false

theorem add64_small (x y : Int) (hx : 0 ≤ x) (hy : 0 ≤ y) (h : x + y < 18446744073709551616) (w : World) :
    (callFunc 69 #[.int .u64 x, .int .u64 y, .int .u64 0]).run Try.prog w = .ok (.value (.tuple #[.int .u64 (x + y), .int .u64 0])) w := by
  rw [add64_0 x y hx hy w, show (x + y) % 18446744073709551616 = x + y by omega, show (x + y) / 18446744073709551616 = 0 by omega]

theorem add64_big (x y z : Int) (hx : 0 ≤ x) (hy : 0 ≤ y) (h : z + 18446744073709551616 = x + y) (hz : 0 ≤ z) (hz' : z < 18446744073709551616) (w : World) :
    (callFunc 69 #[.int .u64 x, .int .u64 y, .int .u64 0]).run Try.prog w = .ok (.value (.tuple #[.int .u64 z, .int .u64 1])) w := by
  rw [add64_0 x y hx hy w, show (x + y) % 18446744073709551616 = z by omega, show (x + y) / 18446744073709551616 = 1 by omega]

theorem mul64n (x y h l : Int) (w : World) (hx : Num.Word x) (hy : Num.Word y) (hl : Num.Word l) (H : Hid (x * y = h * 18446744073709551616 + l)) :
    Calls Try.prog 82 #[.int .u64 x, .int .u64 y] w fun e w' => e = .returned (.tuple #[.int .u64 h, .int .u64 l]) ∧ w = w' := by
  refine (mul64 x y w hx.1 hx.2 hy.1 hy.2).mono ?_
  rintro e w' ⟨rfl, rfl⟩
  obtain ⟨h1, h2⟩ := hl
  have H' := H.out
  exact ⟨tuple_eq (by omega) (by omega), rfl⟩

theorem ret_u64 {a b : Int} (h : a = b) : Ending.returned (.int .u64 a) = .returned (.int .u64 b) := by rw [h]

/-- sat.Add. -/
theorem sat_add (a b : Int) (w : World) (ha : Num.Word a) (hb : Num.Word b) :
    Calls Try.prog 39 #[.int .u64 a, .int .u64 b] w fun e w' => e = .returned (.int .u64 (Num.add a b)) ∧ w = w' := by
  obtain ⟨ha0, ha1⟩ := ha
  obtain ⟨hb0, hb1⟩ := hb
  by_cases h : a + b < 18446744073709551616
  · have H : Hid (Num.add a b = a + b) := by show Num.kept _ = _; unfold Num.kept; rw [if_pos h]
    have hs := add64_small a b ha0 hb0 h
    go_enter Try.func39, Try.ntmps39
    go_wp2_with (simp only [hs])
    go_ret
    exact ⟨ret_u64 H.out.symm, rfl⟩
  · have H : Hid (Num.add a b = 18446744073709551615) := by show Num.kept _ = _; unfold Num.kept; rw [if_neg h]
    obtain ⟨z, hz⟩ : ∃ z, z + 18446744073709551616 = a + b := ⟨a + b - 18446744073709551616, by omega⟩
    have hs := add64_big a b z ha0 hb0 hz (by omega) (by omega)
    clear hz
    go_enter Try.func39, Try.ntmps39
    go_wp2_with (simp only [hs])
    go_ret
    exact ⟨ret_u64 H.out.symm, rfl⟩


theorem halves (n : Int) : ∃ h l, n = h * 18446744073709551616 + l ∧ Num.Word l :=
  ⟨n / 18446744073709551616, n % 18446744073709551616, by omega, ⟨by omega, by omega⟩⟩

/-- The product's upper half has room for one more. -/
theorem upper (a b h l : Int) (ha : Num.Word a) (hb : Num.Word b) (hl : Num.Word l) (e : a * b = h * 18446744073709551616 + l) : 0 ≤ h ∧ h ≤ 18446744073709551614 := by
  obtain ⟨l0, l1⟩ := hl
  have h0 := Num.mul_nn ha hb
  have h1 : a * b ≤ 18446744073709551615 * 18446744073709551615 := Int.mul_le_mul (by have := ha.2; omega) (by have := hb.2; omega) hb.1 (by omega)
  omega



/-- The closure that rounds down, its divisor in a cell. -/
theorem down_by_far (high low c : Int) (k : Addr) (w : World) (hc : w.cell? k = some (.int .u64 c)) (hch : c ≤ high) :
    Calls Try.prog 84 #[.int .u64 high, .int .u64 low, .pointer (some k)] w fun e w' => e = .returned (.int .u64 18446744073709551615) ∧ w = w' := by
  go_enter Try.func84, Try.ntmps84
  go_wp2_with fail
  go_ret
  exact ⟨rfl, rfl⟩

theorem down_by_near (high low c : Int) (k : Addr) (w : World) (hc : w.cell? k = some (.int .u64 c)) (hh0 : 0 ≤ high) (hch : high < c) (hc1 : c < 18446744073709551616) (hl : Num.Word low) :
    Calls Try.prog 84 #[.int .u64 high, .int .u64 low, .pointer (some k)] w fun e w' => e = .returned (.int .u64 ((high * 18446744073709551616 + low) / c)) ∧ ∃ n, w' = w.drewN n := by
  have hcn : ¬ c ≤ high := by omega
  go_enter Try.func84, Try.ntmps84
  go_wp2_with fail
  refine (div64 high low c _ hh0 hch hl.1 hl.2 hc1).mono ?_
  rintro e w' ⟨rfl, n, rfl⟩
  go_wp2_with fail
  go_ret
  exact ⟨rfl, n, rfl⟩

/-- The closure that rounds down. -/
theorem down_by (high low c : Int) (k : Addr) (w : World) (hc : w.cell? k = some (.int .u64 c)) (hh0 : 0 ≤ high) (hc0 : Num.Word c) (hl : Num.Word low) :
    Calls Try.prog 84 #[.int .u64 high, .int .u64 low, .pointer (some k)] w fun e w' => e = .returned (.int .u64 (Num.byc (high * 18446744073709551616 + low) c)) ∧ ∃ n, w' = w.drewN n := by
  obtain ⟨c0, c1⟩ := hc0
  unfold Num.byc
  by_cases h : c ≤ high
  · refine (down_by_far high low c k w hc h).mono ?_
    rintro e w' ⟨rfl, rfl⟩
    refine ⟨ret_u64 ?_, 0, rfl⟩
    split
    · rfl
    · exact (Num.quot_far (by omega) hl.1 h).symm
  · rw [if_neg (by omega)]
    refine (down_by_near high low c k w hc hh0 (by omega) c1 hl).mono ?_
    rintro e w' ⟨rfl, n, rfl⟩
    exact ⟨ret_u64 (Num.quot_near (by omega) hl.2 (by omega)).symm, n, rfl⟩

/-- sat.Down. -/
theorem sat_down (a b c : Int) (w : World) (ha : Num.Word a) (hb : Num.Word b) (hc : Num.Word c) :
    Calls Try.prog 70 #[.int .u64 a, .int .u64 b, .int .u64 c] w fun e w' => e = .returned (.int .u64 (Num.down a b c)) ∧ ∃ n, w' = (w.alloc (.cells #[.int .u64 c] 32)).drewN n := by
  obtain ⟨h, l, e, hl⟩ := halves (a * b)
  obtain ⟨h0, h1⟩ := upper a b h l ha hb hl e
  have HE := Lib.hid e
  have HL := Lib.hid hl
  clear e hl
  go_enter Try.func70, Try.ntmps70
  go_wp2_with (first | (go_at_call 82; refine (mul64n a b h l _ ha hb HL.out HE).mono ?_; rintro e w' ⟨rfl, rfl⟩) | (go_at_call 81; go_in))
  refine (down_by h l c _ _ ?_ h0 hc HL.out).mono ?_
  · simp [go_sem]
  rintro e w' ⟨rfl, n, rfl⟩
  have H : Hid (Num.byc (h * 18446744073709551616 + l) c = Num.down a b c) := by show _ = Num.byc _ _; rw [HE.out]
  go_wp2_with fail
  go_ret
  exact ⟨ret_u64 H.out, n, rfl⟩

/-- sat.Up. -/
theorem sat_up (a b c : Int) (w : World) (ha : Num.Word a) (hb : Num.Word b) (hc : Num.Word c) :
    Calls Try.prog 71 #[.int .u64 a, .int .u64 b, .int .u64 c] w fun e w' => e = .returned (.int .u64 (Num.up a b c)) ∧ ∃ n, w' = (w.alloc (.cells #[.int .u64 c] 32)).drewN n := by
  obtain ⟨h, l, e, hl⟩ := halves (a * b)
  obtain ⟨h0, h1⟩ := upper a b h l ha hb hl e
  have HE := Lib.hid e
  have HL := Lib.hid hl
  obtain ⟨l0, l1⟩ := hl
  clear e
  obtain ⟨c0, c1⟩ := hc
  -- what is added on top, and where it carries
  obtain ⟨d, hd, d0, d1, Hd⟩ : ∃ d : Int, IntKind.u64.wrap (c - 1) = d ∧ 0 ≤ d ∧ d < 18446744073709551616 ∧ Hid (c = 0 ∨ d = c - 1) := by
    by_cases hz : c = 0
    · exact ⟨18446744073709551615, by subst hz; rfl, by omega, by omega, Or.inl hz⟩
    · exact ⟨c - 1, by rw [IntKind.wrap_u64]; omega, by omega, by omega, Or.inr rfl⟩
  by_cases hs : l + d < 18446744073709551616
  · have H : Hid (Num.byc (h * 18446744073709551616 + (l + d)) c = Num.up a b c) := by
      show _ = Num.byc _ _
      rcases Hd.out with hz | hz
      · rw [hz]; rfl
      · rw [HE.out, hz, Int.add_assoc]
    have hadd := add64_small l d l0 d0 hs
    go_enter Try.func71, Try.ntmps71
    go_wp2_with (first | (go_at_call 82; refine (mul64n a b h l _ ha hb HL.out HE).mono ?_; rintro e w' ⟨rfl, rfl⟩) | (go_at_call 81; go_in))
    refine (down_by h (l + d) c _ _ ?_ h0 ⟨c0, c1⟩ ⟨by omega, hs⟩).mono ?_
    · simp [go_sem]
    rintro e w' ⟨rfl, n, rfl⟩
    go_wp2_with fail
    go_ret
    exact ⟨ret_u64 H.out, n, rfl⟩
  · obtain ⟨z, hz⟩ : ∃ z, z + 18446744073709551616 = l + d := ⟨l + d - 18446744073709551616, by omega⟩
    have H : Hid (Num.byc ((h + 1) * 18446744073709551616 + z) c = Num.up a b c) := by
      show _ = Num.byc _ _
      rcases Hd.out with hz' | hz'
      · rw [hz']; rfl
      · rw [HE.out, show (h + 1) * 18446744073709551616 + z = h * 18446744073709551616 + l + (c - 1) by omega]
    have z0 : 0 ≤ z := by omega
    have z1 : z < 18446744073709551616 := by omega
    have hadd := add64_big l d z l0 d0 hz z0 z1
    clear hz
    go_enter Try.func71, Try.ntmps71
    go_wp2_with (first | (go_at_call 82; refine (mul64n a b h l _ ha hb HL.out HE).mono ?_; rintro e w' ⟨rfl, rfl⟩) | (go_at_call 81; go_in))
    refine (down_by (h + 1) z c _ _ ?_ (by omega) ⟨c0, c1⟩ ⟨z0, z1⟩).mono ?_
    · simp [go_sem]
    rintro e w' ⟨rfl, n, rfl⟩
    go_wp2_with fail
    go_ret
    exact ⟨ret_u64 H.out, n, rfl⟩

end Go.Proofs.Ytmokkbhfhbgkmaa
