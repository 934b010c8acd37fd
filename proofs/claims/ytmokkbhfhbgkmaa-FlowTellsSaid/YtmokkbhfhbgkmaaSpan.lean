/-
  What sandglass/span's functions answer, for all numbers of 64 bits.
-/
import Derived.Test.YtmokkbhfhbgkmaaKept
import Derived.Test.YtmokkbhfhbgkmaaSatFacts
namespace Go.Proofs.Ytmokkbhfhbgkmaa
open Go.RowKit
set_option linter.unusedVariables false

namespace Num
/-- How long n bytes take. -/
def time (n rate : Int) : Int := if rate = 0 then 0 else up n 1000000000 rate
/-- How many bytes a time is worth. -/
def bytes (span rate : Int) : Int := if rate = 0 then 18446744073709551615 else down span rate 1000000000
def lesser (a b : Int) : Int := if a = 0 then b else if b = 0 then a else min a b
def slot (at' width : Int) : Int := up at' 1 (max width 1)
def begin' (slot width : Int) : Int := mul slot (max width 1)

theorem sec_word : Word 1000000000 := by unfold Word; omega
theorem one_word : Word 1 := by unfold Word; omega
theorem zero_word : Word 0 := by unfold Word; omega
theorem time_word {n r : Int} (hn : Word n) (hr : Word r) : Word (time n r) := by
  unfold time; split
  · exact zero_word
  · exact up_word hn sec_word hr
theorem bytes_word {n r : Int} (hn : Word n) (hr : Word r) : Word (bytes n r) := by
  unfold bytes; split
  · exact never_word
  · exact down_word hn hr sec_word
theorem max_word {a b : Int} (ha : Word a) (hb : Word b) : Word (max a b) := by unfold Word at *; omega
theorem min_word {a b : Int} (ha : Word a) (hb : Word b) : Word (min a b) := by unfold Word at *; omega
theorem lesser_word {a b : Int} (ha : Word a) (hb : Word b) : Word (lesser a b) := by
  unfold lesser; split
  · exact hb
  · split
    · exact ha
    · exact min_word ha hb
theorem slot_word {a w : Int} (ha : Word a) (hw : Word w) : Word (slot a w) := up_word ha one_word (max_word hw one_word)
theorem begin_word {a w : Int} (ha : Word a) (hw : Word w) : Word (begin' a w) := mul_word ha (max_word hw one_word)
end Num

/-- span.Time. -/
theorem span_time (n rate : Int) (w : World) (hn : Num.Word n) (hr : Num.Word rate) :
    Calls Try.prog 41 #[.int .u64 n, .int .u64 rate] w fun e w' => e = .returned (.int .u64 (Num.time n rate)) ∧ Grown w w' := by
  by_cases c : rate = 0
  · subst c
    have H : Hid (Num.time n 0 = 0) := by show Num.time n 0 = 0; unfold Num.time; rw [if_pos rfl]
    go_enter Try.func41, Try.ntmps41
    go_wp2_with fail
    go_ret
    exact ⟨ret_u64 H.out.symm, Grown.refl _⟩
  · have H : Hid (Num.time n rate = Num.up n 1000000000 rate) := by show Num.time n rate = _; unfold Num.time; rw [if_neg c]
    have c1 : (rate == 0) = false := by simpa using c
    go_enter Try.func41, Try.ntmps41
    go_wp2_with fail
    refine (upv n 1000000000 rate _ _ hn Num.sec_word hr H.out.symm).mono ?_
    rintro e w1 ⟨rfl, g⟩
    go_wp2_with fail
    go_ret
    exact ⟨rfl, g⟩

/-- span.Bytes. -/
theorem span_bytes (n rate : Int) (w : World) (hn : Num.Word n) (hr : Num.Word rate) :
    Calls Try.prog 40 #[.int .u64 n, .int .u64 rate] w fun e w' => e = .returned (.int .u64 (Num.bytes n rate)) ∧ Grown w w' := by
  by_cases c : rate = 0
  · subst c
    have H : Hid (Num.bytes n 0 = 18446744073709551615) := by show Num.bytes n 0 = _; unfold Num.bytes; rw [if_pos rfl]
    go_enter Try.func40, Try.ntmps40
    go_wp2_with fail
    go_ret
    exact ⟨ret_u64 H.out.symm, Grown.refl _⟩
  · have H : Hid (Num.bytes n rate = Num.down n rate 1000000000) := by show Num.bytes n rate = _; unfold Num.bytes; rw [if_neg c]
    have c1 : (rate == 0) = false := by simpa using c
    go_enter Try.func40, Try.ntmps40
    go_wp2_with fail
    refine (downv n rate 1000000000 _ _ hn hr Num.sec_word H.out.symm).mono ?_
    rintro e w1 ⟨rfl, g⟩
    go_wp2_with fail
    go_ret
    exact ⟨rfl, g⟩

/-- span.Lesser. -/
theorem span_lesser (a b : Int) (w : World) (ha : Num.Word a) (hb : Num.Word b) :
    Calls Try.prog 67 #[.int .u64 a, .int .u64 b] w fun e w' => e = .returned (.int .u64 (Num.lesser a b)) ∧ w = w' := by
  have H : Hid (Num.lesser a b = if a = 0 then b else if b = 0 then a else min a b) := rfl
  by_cases c : a = 0
  · have H2 := Lib.hid (H.out.trans (if_pos c))
    subst c
    go_enter Try.func67, Try.ntmps67
    go_wp2_with (go_at_call 80; go_in)
    go_ret
    exact ⟨ret_u64 H2.out.symm, rfl⟩
  have H3 := Lib.hid (H.out.trans (if_neg c))
  have c1 : (a == 0) = false := by simpa using c
  by_cases d : b = 0
  · have H2 := Lib.hid (H3.out.trans (if_pos d))
    subst d
    go_enter Try.func67, Try.ntmps67
    go_wp2_with (go_at_call 80; go_in)
    go_ret
    exact ⟨ret_u64 H2.out.symm, rfl⟩
  have H4 := Lib.hid (H3.out.trans (if_neg d))
  have d1 : (b == 0) = false := by simpa using d
  go_enter Try.func67, Try.ntmps67
  go_wp2_with (go_at_call 80; go_in)
  go_ret
  exact ⟨ret_u64 H4.out.symm, rfl⟩



end Go.Proofs.Ytmokkbhfhbgkmaa
