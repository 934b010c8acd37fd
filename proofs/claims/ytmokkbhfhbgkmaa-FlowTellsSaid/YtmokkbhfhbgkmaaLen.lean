/-
  What math/bits.Len64 answers, for all arguments of its kind; the world stays. (A text of its own: with more laws in sight the walk spells the table's index otherwise.)
-/
import Derived.Test.YtmokkbhfhbgkmaaRows
import Derived.Lib.Strings
import Derived.Lib.Slices
import Derived.Lib.Small
import Derived.Lib.Walk
import Derived.Lib.BitFns
namespace Go.Proofs.Ytmokkbhfhbgkmaa

theorem len_close (k : Nat) (K E x : Int) (hK : K = k) (hk : k ≤ 56) (h0 : 0 ≤ E) (h1 : E ≤ 255) (he : E.toNat = x.toNat / 2 ^ k) (hx : 2 ^ k ≤ x.toNat) (hx2 : x.toNat < 2 ^ 64) :
    (K + ((Lib.len8 E + 9223372036854775808) % 18446744073709551616 - 9223372036854775808) + 9223372036854775808) % 18446744073709551616 - 9223372036854775808 = (Lib.bitLen x.toNat : Int) := by
  have s := Lib.bitLen_shift k x.toNat hx hx2
  have l := Lib.bitLen_le8' E h0 h1
  rw [Lib.len8_int E h0 h1]
  rw [← he] at s
  omega

set_option maxHeartbeats 4000000 in
set_option maxRecDepth 100000 in
/-- math/bits.Len64. -/
theorem len64 (x : Int) (w : World) (h0 : 0 ≤ x) (h1 : x < 18446744073709551616) :
    Calls Try.prog 89 #[.int .u64 x] w fun e w' => e = .returned (.int .i64 (Lib.bitLen x.toNat)) ∧ w = w' := by
  go_enter Try.func89, Try.ntmps89
  go_wp2
  all_goals (go_ret; refine ⟨congrArg Ending.returned (congrArg (Value.int IntKind.i64) ?_), rfl⟩)
  all_goals first
    | ((with_reducible refine len_close 56 56 _ x ?_ ?_ ?_ ?_ ?_ ?_ ?_) <;> omega)
    | ((with_reducible refine len_close 48 48 _ x ?_ ?_ ?_ ?_ ?_ ?_ ?_) <;> omega)
    | ((with_reducible refine len_close 40 40 _ x ?_ ?_ ?_ ?_ ?_ ?_ ?_) <;> omega)
    | ((with_reducible refine len_close 32 32 _ x ?_ ?_ ?_ ?_ ?_ ?_ ?_) <;> omega)
    | ((with_reducible refine len_close 24 24 _ x ?_ ?_ ?_ ?_ ?_ ?_ ?_) <;> omega)
    | ((with_reducible refine len_close 16 16 _ x ?_ ?_ ?_ ?_ ?_ ?_ ?_) <;> omega)
    | ((with_reducible refine len_close 8 8 _ x ?_ ?_ ?_ ?_ ?_ ?_ ?_) <;> omega)
    | (rw [Lib.len8_int _ (by omega) (by omega)]; congr 2; omega)

end Go.Proofs.Ytmokkbhfhbgkmaa
