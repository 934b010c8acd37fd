/-
  SpanSlots' walk: for all numbers the law's text answers true.
-/
import Derived.Test.YtfbbphjffhkobaaSpanFacts
import Derived.Test.YtfbbphjffhkobaaSpanAwake
namespace Go.Proofs.Ytfbbphjffhkobaa
open Go.RowKit
set_option linter.unusedVariables false

set_option maxHeartbeats 4000000 in
theorem spanSlots_way (a x v s b : Int) (w : World) (ha : Num.Word a) (hv : Num.Word v) (x0 : 0 ≤ x) (ev : x % 9223372036854775809 = v) (hs : Num.Word s) (hb : Num.Word b) (es : Hid (Num.slot a v = s)) (eb : Hid (Num.begin' s (max v 1) = b)) 
    (f1 : ¬ b < a) (f2 : b < 18446744073709551615 → ¬ max v 1 ≤ b - a) (f3 : 0 < s → ¬ a ≤ Num.begin' (s - 1) (max v 1)) (f4 : b ≠ 18446744073709551615 → Num.slot b (max v 1) = s) :
    Calls Try.prog 7 #[.int .u64 a, .int .u64 x] w fun e w' => e = .returned (.bool true) ∧ Grown w w' := by
  have hm := Num.max_word hv Num.one_word
  have b0 := hb.1
  have b1 := hb.2
  have s0 := hs.1
  have s1 := hs.2
  by_cases c : b = 18446744073709551615
  · subst c
    clear f4 f2
    by_cases d : 0 < s
    · have hs1 : Num.Word (s - 1) := ⟨by omega, by omega⟩
      have f3' := f3 d
      clear f3
      go_enter Try.func7, Try.ntmps7
      go_wp2_with fail
      refine (slotv a v s _ ha hv es.out).mono ?_
      rintro e w1 ⟨rfl, g1⟩
      go_wp2_with fail
      refine (beginv s (max v 1) 18446744073709551615 _ hs hm eb.out).mono ?_
      rintro e w' ⟨rfl, rfl⟩
      go_wp2_with fail
      refine (span_begin (s - 1) (max v 1) _ hs1 hm).mono ?_
      rintro e w' ⟨rfl, rfl⟩
      go_wp2_with fail
      refine (awake2 _).mono ?_
      rintro e w2 ⟨rfl, g2⟩
      go_wp2_with fail
      go_ret
      exact ⟨rfl, grown_trans g1 g2⟩
    · clear f3
      go_enter Try.func7, Try.ntmps7
      go_wp2_with fail
      refine (slotv a v s _ ha hv es.out).mono ?_
      rintro e w1 ⟨rfl, g1⟩
      go_wp2_with fail
      refine (beginv s (max v 1) 18446744073709551615 _ hs hm eb.out).mono ?_
      rintro e w' ⟨rfl, rfl⟩
      go_wp2_with fail
      refine (awake2 _).mono ?_
      rintro e w2 ⟨rfl, g2⟩
      go_wp2_with fail
      go_ret
      exact ⟨rfl, grown_trans g1 g2⟩
  · have f2' := f2 (by omega)
    have f4' := f4 c
    have F4 := Lib.hid f4'
    have c1 : (b == 18446744073709551615) = false := by simpa using c
    have c2 : b < 18446744073709551615 := by omega
    have hba : IntKind.u64.wrap (b - a) = b - a := by rw [IntKind.wrap_u64]; have := ha.1; omega
    clear f4 f2 f4'
    by_cases d : 0 < s
    · have hs1 : Num.Word (s - 1) := ⟨by omega, by omega⟩
      have f3' := f3 d
      clear f3
      go_enter Try.func7, Try.ntmps7
      go_wp2_with fail
      refine (slotv a v s _ ha hv es.out).mono ?_
      rintro e w1 ⟨rfl, g1⟩
      go_wp2_with fail
      refine (beginv s (max v 1) b _ hs hm eb.out).mono ?_
      rintro e w' ⟨rfl, rfl⟩
      go_wp2_with fail
      refine (span_begin (s - 1) (max v 1) _ hs1 hm).mono ?_
      rintro e w' ⟨rfl, rfl⟩
      go_wp2_with fail
      refine (slotv b (max v 1) s _ hb hm F4.out).mono ?_
      rintro e w2 ⟨rfl, g2⟩
      go_wp2_with fail
      refine (awake2 _).mono ?_
      rintro e w3 ⟨rfl, g3⟩
      go_wp2_with fail
      go_ret
      exact ⟨rfl, grown_trans (grown_trans g1 g2) g3⟩
    · clear f3
      go_enter Try.func7, Try.ntmps7
      go_wp2_with fail
      refine (slotv a v s _ ha hv es.out).mono ?_
      rintro e w1 ⟨rfl, g1⟩
      go_wp2_with fail
      refine (beginv s (max v 1) b _ hs hm eb.out).mono ?_
      rintro e w' ⟨rfl, rfl⟩
      go_wp2_with fail
      refine (slotv b (max v 1) s _ hb hm F4.out).mono ?_
      rintro e w2 ⟨rfl, g2⟩
      go_wp2_with fail
      refine (awake2 _).mono ?_
      rintro e w3 ⟨rfl, g3⟩
      go_wp2_with fail
      go_ret
      exact ⟨rfl, grown_trans (grown_trans g1 g2) g3⟩
theorem Num.max_idem (v : Int) : max (max v 1) 1 = max v 1 := by omega
theorem spanSlots_walk (a x : Int) (w : World) (ha : Num.Word a) (hx : Num.Word x) :
    Calls Try.prog 7 #[.int .u64 a, .int .u64 x] w fun e w' => e = .returned (.bool true) ∧ Grown w w' := by
  have hv : Num.Word (x % 9223372036854775809) := ⟨by omega, by omega⟩
  generalize e : x % 9223372036854775809 = v at hv
  have E1 : ∀ s, Num.begin' s (max v 1) = Num.begin' s v := fun s => by unfold Num.begin'; rw [Num.max_idem]
  have E2 : ∀ s, Num.slot s (max v 1) = Num.slot s v := fun s => by unfold Num.slot; rw [Num.max_idem]
  refine spanSlots_way a x v (Num.slot a v) (Num.begin' (Num.slot a v) v) w ha hv hx.1 e (Num.slot_word ha hv) (Num.begin_word (Num.slot_word ha hv) hv) rfl (E1 _) ?_ ?_ ?_ ?_
  · have := Num.begin_ge ha hv; omega
  · intro h; have := Num.begin_near ha hv h; omega
  · intro h; rw [E1]; have := Num.begin_ahead ha hv; omega
  · intro h; rw [E2]; exact Num.slot_begin ha hv h

end Go.Proofs.Ytfbbphjffhkobaa
