/-
  What sandglass/span's functions answer, for all numbers of 64 bits.
-/
import Derived.Test.YtkiibobpejoaeaaDoorKept
import Derived.Test.YtkiibobpejoaeaaDoorSatFacts
namespace Go.Proofs.YtkiibobpejoaeaaDoor
open Go.RowKit
set_option linter.unusedVariables false

namespace Num
/-- How long n bytes take. -/
def time (n rate : Int) : Int := if rate = 0 then 0 else up n 1000000000 rate
/-- How many bytes a time is worth. -/
def bytes (span rate : Int) : Int := if rate = 0 then 18446744073709551615 else down span rate 1000000000
def lesser (a b : Int) : Int := if a = 0 then b else if b = 0 then a else min a b
def slot (at' width : Int) : Int := up at' 1 (max width 1)
def begin' (slot width : Int) : Int := mul slot (max width 1)

theorem sec_word : Word 1000000000 := by unfold Word; omega
theorem one_word : Word 1 := by unfold Word; omega
theorem zero_word : Word 0 := by unfold Word; omega
theorem time_word {n r : Int} (hn : Word n) (hr : Word r) : Word (time n r) := by
  unfold time; split
  · exact zero_word
  · exact up_word hn sec_word hr
theorem bytes_word {n r : Int} (hn : Word n) (hr : Word r) : Word (bytes n r) := by
  unfold bytes; split
  · exact never_word
  · exact down_word hn hr sec_word
theorem max_word {a b : Int} (ha : Word a) (hb : Word b) : Word (max a b) := by unfold Word at *; omega
theorem min_word {a b : Int} (ha : Word a) (hb : Word b) : Word (min a b) := by unfold Word at *; omega
theorem lesser_word {a b : Int} (ha : Word a) (hb : Word b) : Word (lesser a b) := by
  unfold lesser; split
  · exact hb
  · split
    · exact ha
    · exact min_word ha hb
theorem slot_word {a w : Int} (ha : Word a) (hw : Word w) : Word (slot a w) := up_word ha one_word (max_word hw one_word)
theorem begin_word {a w : Int} (ha : Word a) (hw : Word w) : Word (begin' a w) := mul_word ha (max_word hw one_word)
end Num




/-- span.Slot. -/
theorem span_slot (a b : Int) (w : World) (ha : Num.Word a) (hb : Num.Word b) :
    Calls Tryd.prog 23 #[.int .u64 a, .int .u64 b] w fun e w' => e = .returned (.int .u64 (Num.slot a b)) ∧ Grown w w' := by
  have hm := Num.max_word hb Num.one_word
  go_enter Tryd.func23, Tryd.ntmps23
  go_wp2_with (go_at_call 41; go_in)
  refine (upv a 1 (max b 1) (Num.slot a b) _ ha Num.one_word hm rfl).mono ?_
  rintro e w1 ⟨rfl, g⟩
  go_wp2_with fail
  go_ret
  exact ⟨rfl, g⟩

/-- span.Begin. -/
theorem span_begin (a b : Int) (w : World) (ha : Num.Word a) (hb : Num.Word b) :
    Calls Tryd.prog 37 #[.int .u64 a, .int .u64 b] w fun e w' => e = .returned (.int .u64 (Num.begin' a b)) ∧ w = w' := by
  have hm := Num.max_word hb Num.one_word
  go_enter Tryd.func37, Tryd.ntmps37
  go_wp2_with (go_at_call 41; go_in)
  refine (mulv a (max b 1) (Num.begin' a b) _ ha hm rfl).mono ?_
  rintro e w1 ⟨rfl, rfl⟩
  go_wp2_with fail
  go_ret
  exact ⟨rfl, rfl⟩

end Go.Proofs.YtkiibobpejoaeaaDoor
