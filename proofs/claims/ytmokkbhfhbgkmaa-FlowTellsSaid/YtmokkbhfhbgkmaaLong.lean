/-
  A product in two halves, as the laws and the document's own answers work it out by halves of each number.
-/
import Derived.Test.YtmokkbhfhbgkmaaKept
import Derived.Test.YtmokkbhfhbgkmaaSatFacts
namespace Go.Proofs.Ytmokkbhfhbgkmaa
open Go.RowKit
set_option linter.unusedVariables false

/-- A number in two halves of 32 bits, and four products of such. -/
structure Quarters (a b a1 a0 b1 b0 p11 p10 p01 p00 : Nat) : Prop where
  ha1 : (a : Int) / 4294967296 = (a1 : Int)
  ha0 : (a : Int) % 4294967296 = (a0 : Int)
  hb1 : (b : Int) / 4294967296 = (b1 : Int)
  hb0 : (b : Int) % 4294967296 = (b0 : Int)
  w11 : IntKind.u64.wrap ((a1 : Int) * (b1 : Int)) = (p11 : Int)
  w10 : IntKind.u64.wrap ((a1 : Int) * (b0 : Int)) = (p10 : Int)
  w01 : IntKind.u64.wrap ((a0 : Int) * (b1 : Int)) = (p01 : Int)
  w00 : IntKind.u64.wrap ((a0 : Int) * (b0 : Int)) = (p00 : Int)
  m11 : p11 ≤ 18446744065119617025
  m10 : p10 ≤ 18446744065119617025
  m01 : p01 ≤ 18446744065119617025
  m00 : p00 ≤ 18446744065119617025
  la1 : a1 < 4294967296
  la0 : a0 < 4294967296
  lb1 : b1 < 4294967296
  lb0 : b0 < 4294967296
  all : a * b = p11 * 18446744073709551616 + (p10 + p01) * 4294967296 + p00

theorem quarters (a b : Nat) (ha : a < 18446744073709551616) (hb : b < 18446744073709551616) : ∃ a1 a0 b1 b0 p11 p10 p01 p00, Quarters a b a1 a0 b1 b0 p11 p10 p01 p00 := by
  have h11 := Lib.half_mul_le (a := a / 4294967296) (b := b / 4294967296) (by omega) (by omega)
  have h10 := Lib.half_mul_le (a := a / 4294967296) (b := b % 4294967296) (by omega) (by omega)
  have h01 := Lib.half_mul_le (a := a % 4294967296) (b := b / 4294967296) (by omega) (by omega)
  have h00 := Lib.half_mul_le (a := a % 4294967296) (b := b % 4294967296) (by omega) (by omega)
  refine ⟨a / 4294967296, a % 4294967296, b / 4294967296, b % 4294967296, _, _, _, _, ⟨by omega, by omega, by omega, by omega, ?_, ?_, ?_, ?_, h11, h10, h01, h00, by omega, by omega, by omega, by omega, ?_⟩⟩
  · rw [Bits.mulN, Bits.wrapN _ (by omega)]
  · rw [Bits.mulN, Bits.wrapN _ (by omega)]
  · rw [Bits.mulN, Bits.wrapN _ (by omega)]
  · rw [Bits.mulN, Bits.wrapN _ (by omega)]
  · have e := Lib.split_mul (a / 4294967296) (a % 4294967296) (b / 4294967296) (b % 4294967296) 4294967296
    rw [Nat.div_add_mod' a 4294967296, Nat.div_add_mod' b 4294967296] at e
    exact e


/-- The document's own product in two halves. -/
theorem long_ref (a b : Int) (w : World) (ha : Num.Word a) (hb : Num.Word b) :
    Calls Try.prog 86 #[.int .u64 a, .int .u64 b] w fun e w' => e = .returned (.tuple #[.int .u64 (a * b / 18446744073709551616), .int .u64 (a * b % 18446744073709551616)]) ∧ w = w' := by
  obtain ⟨a, rfl⟩ := Int.eq_ofNat_of_zero_le ha.1
  obtain ⟨b, rfl⟩ := Int.eq_ofNat_of_zero_le hb.1
  obtain ⟨a1, a0, b1, b0, p11, p10, p01, p00, q⟩ := quarters a b (by have := ha.2; omega) (by have := hb.2; omega)
  have Q := Lib.hid q
  obtain ⟨ha1, ha0, hb1, hb0, w11, w10, w01, w00, m11, m10, m01, m00, la1, la0, lb1, lb0, all⟩ := q
  clear all ha hb
  go_enter Try.func86, Try.ntmps86
  go_wp2_with fail
  go_ret2
  refine ⟨tuple_eq ?_ ?_, rfl⟩
  all_goals
    rw [Bits.mulN a b, Q.out.all]
    try simp only [IntKind.wrap_u64]
    omega

end Go.Proofs.Ytmokkbhfhbgkmaa
