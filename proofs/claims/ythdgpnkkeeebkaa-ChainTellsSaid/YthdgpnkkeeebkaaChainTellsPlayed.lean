/-
  ChainTells' walk, over whatever the program's chains are (ChainK).
-/
import Derived.Test.YthdgpnkkeeebkaaChainTellsFacts
import Derived.LoopN
namespace Go.Proofs.Ythdgpnkkeeebkaa
open Go.RowKit
set_option linter.unusedVariables false

set_option maxHeartbeats 8000000 in
set_option maxRecDepth 100000 in
theorem chainTells_no (K : ChainK) (HA : Hid Awake) (a0 a1 : Int) (hno : a0 < 1 ∨ 64 < a0 ∨ a1 < 1 ∨ 65536 < a1) (A : Option Addr) (len cap : Nat) (w : World) :
    Calls Try.prog 3 #[.int .i64 a0, .int .i64 a1, .slice A len cap] w fun e w' => e = .returned (.bool true) ∧ Below w.heap.size w w' := by
  have R1 := Lib.hid (K.new_no a0 a1 w hno)
  have HNO := Lib.hid hno
  clear hno
  rcases Int.lt_or_le 65 a0 with c1 | c1 <;> rcases Int.lt_or_le 65537 a1 with c2 | c2
  all_goals
    go_enter Try.func3, Try.ntmps3
    go_wp2_with fail
    refine R1.out.mono ?_
    rintro e w1 ⟨rfl, b1⟩
    have B1 := Lib.hid b1
    clear b1 R1
    go_wp2_with fail
    refine (ref_new_no _ _ _ (by have := HNO.out; omega)).mono ?_
    rintro e w2 ⟨rfl, b2⟩
    have B2 := Lib.hid (below_tr (below_tr B1.out b2) ((Below.refl _ w2).alloc (Nat.le_refl _) (.cells #[.int .i64 0, .slice none 0 0] 29)))
    clear b2 B1
    go_wp2_with fail
    refine (HA.out _).mono ?_
    rintro e w3 ⟨rfl, b3⟩
    go_wp2_with fail
    go_ret
    exact ⟨rfl, below_tr B2.out b3⟩

end Go.Proofs.Ythdgpnkkeeebkaa
