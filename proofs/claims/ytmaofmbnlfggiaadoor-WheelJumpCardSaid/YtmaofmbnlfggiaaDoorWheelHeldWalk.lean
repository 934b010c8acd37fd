/-
  WheelHeld, of the program's own wheel.
-/
import Derived.Test.YtmaofmbnlfggiaaDoorWheelHeldW
import Derived.Test.YtmaofmbnlfggiaaDoorWheelAwakeCore
namespace Go.Proofs.YtmaofmbnlfggiaaDoor
open Go.RowKit
set_option linter.unusedVariables false

theorem nat_16 {x : Int} (h : (Lit.int .u16 x).wf = true) : ∃ n : Nat, x = (n : Int) ∧ n < 65536 := by
  simp [Lit.wf, IntKind.min, IntKind.max, IntKind.signed, IntKind.bits] at h
  exact ⟨x.toNat, by omega, by omega⟩
theorem awake9 : Awake9 := awake9_of wheelK
/-- Below w.heap.size w w' -/
theorem wheelHeld_walk (a0 : Int) (a1 : Int) (a2 : Option Addr) (len2 cap2 : Nat) (z2 : List (List Value)) (w : World) (w0 : (Lit.int .u8 a0).wf = true) (w1 : (Lit.int .u16 a1).wf = true) (w2 : RowOf [some .u8, some .u64, some .u64] w a2 len2 cap2 z2) (hT : Tab w) :
    Calls Tryd.prog 6 #[.int .u8 a0, .int .u16 a1, .slice a2 len2 cap2] w fun e w' => e = .returned (.bool true) ∧ Below w.heap.size w w' := by
  obtain ⟨sl, rfl, hsl⟩ := nat_u8 w0
  obtain ⟨wd, rfl, hwd⟩ := nat_16 w1
  exact wheelHeld_of wheelK sl wd hsl hwd w (ops_of w2) hT (Lib.hid awake9)

end Go.Proofs.YtmaofmbnlfggiaaDoor
