/-
  The program's own tree: Next, New.
-/
import Derived.Test.YtkiibobpejoaeaaTreeFirst
namespace Go.Proofs.Ytkiibobpejoaeaa
open Go.RowKit
set_option linter.unusedVariables false

section
variable {w w' : World} {b B c room n : Nat} {G : Gr} {z : List Fr} {t : T}
end

theorem raw_new_no (room : Int) (w : World) (h : room < 1 ∨ 65536 < room) : Calls Try.prog 47 #[.int .i64 room] w fun e w' => e = .returned (.tuple #[.pointer none, .int .i64 2]) ∧ Below w.heap.size w w' := by
  by_cases h1 : room < 1
  · clear h
    go_enter Try.func47, Try.ntmps47
    go_wp2_with fail
    go_ret2
    exact ⟨rfl, Below.refl _ _⟩
  · have h2 : 65536 < room := by omega
    clear h
    go_enter Try.func47, Try.ntmps47
    go_wp2_with fail
    go_ret2
    exact ⟨rfl, Below.refl _ _⟩

end Go.Proofs.Ytkiibobpejoaeaa
