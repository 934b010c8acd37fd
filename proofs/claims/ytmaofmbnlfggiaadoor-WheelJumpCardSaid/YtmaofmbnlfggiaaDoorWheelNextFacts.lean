/-
  When the next slot begins: ahead of it nothing is due; at it all that stands in it is due, or stands further on. Of no program.
-/
import Derived.Test.YtmaofmbnlfggiaaDoorWheelGhost
namespace Go.Proofs.YtmaofmbnlfggiaaDoor
set_option linter.unusedVariables false

theorem next_none {g : Wg} : g.next = none ↔ g.l = [] := by
  unfold Wg.next
  rw [List.min?_eq_none_iff, List.map_eq_nil_iff]
theorem next_of {g : Wg} {s : Nat} (h : g.next = some s) : (∃ x, x ∈ g.l ∧ x.at_ = s) ∧ ∀ x, x ∈ g.l → s ≤ x.at_ := by
  unfold Wg.next at h
  obtain ⟨h1, h2⟩ := List.min?_eq_some_iff.1 h
  obtain ⟨x, hx, e⟩ := List.mem_map.1 h1
  exact ⟨⟨x, hx, e⟩, fun y hy => h2 _ (List.mem_map_of_mem hy)⟩
/-- Ahead of the slot nothing is due, and all stands as it stood. -/
theorem quiet_adv {g : Wg} (ok : g.Ok) {s t : Nat} (h : g.next = some s) (hc : g.cur < s) (ht : t / g.width < s) : g.ripe t = [] ∧ g.adv t = { g with cur := g.to t } := by
  have hto : g.to t < s := by unfold Wg.to; omega
  have key : ∀ x, x ∈ g.l → g.to t < x.at_ ∧ g.to t < x.slot := fun x hx => by
    have h1 := (next_of h).2 x hx
    refine ⟨by omega, ?_⟩
    have h2 := ok.near x hx
    by_cases c : x.slot < x.at_
    · have := h2 c; omega
    · omega
  have hr : g.ripe t = [] := List.filter_eq_nil_iff.2 fun x hx => by
    have := (key x hx).2
    simp only [decide_eq_true_eq]
    omega
  have hs : g.rest t = g.l := by
    unfold Wg.rest
    rw [List.filter_eq_self.2 (fun x hx => by have := (key x hx).2; simp only [Bool.not_eq_true', decide_eq_false_iff_not]; omega)]
    refine (List.map_congr_left fun x hx => if_neg (by have := (key x hx).1; omega)).trans (List.map_id' _)
  refine ⟨hr, ?_⟩
  unfold Wg.adv
  rw [hr, hs]
  simp [sortT]
/-- At the slot what waits on stands further on. -/
theorem last_adv {g : Wg} (ok : g.Ok) {s s' t : Nat} (h : g.next = some s) (hs : s < 18446744073709551615) (ht : g.to t = s) (h' : (g.adv t).next = some s') : s < s' := by
  obtain ⟨⟨x, hx, rfl⟩, _⟩ := next_of h'
  obtain ⟨y, hy, rfl⟩ := List.mem_map.1 (show x ∈ g.rest t from hx)
  obtain ⟨hy1, hy2⟩ := List.mem_filter.1 hy
  rw [ht] at hy2 ⊢
  have hy3 : ¬ y.slot ≤ s := by simpa using hy2
  have h2 := ok.s1
  by_cases c : y.at_ ≤ s
  · rw [if_pos c]
    show s < standW g.slots s y.slot
    unfold standW lastW
    split
    · omega
    · split <;> omega
  · rw [if_neg c]
    omega
/-- The instants. -/
theorem begin_is {s width : Nat} (h : beginW s width ≠ 18446744073709551615) : beginW s width = s * width ∧ s * width < 18446744073709551615 := by
  unfold beginW at h ⊢
  omega
theorem begin_div {s width : Nat} (hw : 1 ≤ width) : s * width / width = s := Nat.mul_div_cancel _ hw
theorem begin_lt {s s' width : Nat} (hw : 1 ≤ width) (h : s < s') (hn : beginW s width ≠ 18446744073709551615) : beginW s width < beginW s' width := by
  obtain ⟨h1, h2⟩ := begin_is hn
  have h3 : (s + 1) * width ≤ s' * width := Nat.mul_le_mul_right _ h
  rw [Nat.add_mul] at h3
  unfold beginW at h1 ⊢
  omega
theorem begin_cur {s c width : Nat} (hn : beginW s width ≠ 18446744073709551615) (h : beginW c width < beginW s width) : c < s := by
  obtain ⟨h1, h2⟩ := begin_is hn
  by_cases k : c < s
  · exact k
  · have h3 : s * width ≤ c * width := Nat.mul_le_mul_right _ (by omega)
    unfold beginW at h1 h
    omega
theorem begin_cur' {s c width : Nat} (hw : 1 ≤ width) (hn : beginW s width ≠ 18446744073709551615) (h : ¬ beginW c width < beginW s width) : s ≤ c := by
  by_cases k : s ≤ c
  · exact k
  · exfalso
    refine h ?_
    obtain ⟨h1, h2⟩ := begin_is hn
    have h3 : (c + 1) * width ≤ s * width := Nat.mul_le_mul_right _ (by omega)
    rw [Nat.add_mul] at h3
    unfold beginW at h1 ⊢
    omega

end Go.Proofs.YtmaofmbnlfggiaaDoor
