/-
  What is taken, call by call: pure facts, and rows that grow.
-/
import Derived.Test.YtfedjeojanpnpabWalkSt
namespace Go.Proofs.Ytfedjeojanpnpab
open Go.RowKit
set_option linter.unusedVariables false

/-- got is taken of l0, and l left. -/
structure Taken (t : Nat) (l0 got l : List En) : Prop where
  all : got ++ l = l0
  upto : got ++ uptoL t l = uptoL t l0
theorem Taken.start (t : Nat) (l : List En) : Taken t l [] l := ⟨rfl, rfl⟩
theorem upto_app (t : Nat) (a b : List En) : uptoL t (a ++ b) = uptoL t a ++ uptoL t b := List.filter_append ..
theorem upto_self {t : Nat} {l : List En} : uptoL t (uptoL t l) = uptoL t l := by
  unfold uptoL
  rw [List.filter_filter]
  simp
theorem Taken.step {t : Nat} {l0 got l : List En} (h : Taken t l0 got l) (hr : Rises l) (n : Nat) : Taken t l0 (got ++ (uptoL t l).take n) (l.drop ((uptoL t l).take n).length) := by
  have hp : (uptoL t l).take n <+: l := (List.take_prefix _ _).trans (upto_pre hr)
  obtain ⟨r, hrr⟩ := hp
  have hd : l.drop ((uptoL t l).take n).length = r := by
    have h2 := congrArg (List.drop ((uptoL t l).take n).length) hrr
    rw [List.drop_left] at h2
    exact h2.symm
  rw [hd]
  refine ⟨by rw [List.append_assoc, hrr]; exact h.all, ?_⟩
  have hX : uptoL t ((uptoL t l).take n) = (uptoL t l).take n := by
    unfold uptoL
    rw [List.filter_eq_self]
    intro e he
    exact (List.mem_filter.1 (List.mem_of_mem_take he)).2
  rw [List.append_assoc]
  have h3 : (uptoL t l).take n ++ uptoL t r = uptoL t l := by
    have h4 := congrArg (uptoL t) hrr
    rw [upto_app, hX] at h4
    exact h4
  rw [h3]
  exact h.upto
theorem Taken.last {t : Nat} {l0 got l : List En} (h : Taken t l0 (got ++ (uptoL t l).take 60) (l.drop ((uptoL t l).take 60).length)) (hl : l.length ≤ 60) (h0 : got ++ uptoL t l = uptoL t l0) : got ++ (uptoL t l).take 60 = uptoL t l0 ∧ ∀ e, e ∈ l.drop ((uptoL t l).take 60).length → ¬ e.key.at_ ≤ t := by
  have h1 : (uptoL t l).take 60 = uptoL t l := List.take_of_length_le (Nat.le_trans (List.length_filter_le _ _) hl)
  rw [h1] at h ⊢
  refine ⟨h0, fun e he hc => ?_⟩
  have h2 := h.upto
  rw [h0] at h2
  have h3 : uptoL t (l.drop (uptoL t l).length) = [] := by
    have := congrArg List.length h2
    rw [List.length_append] at this
    exact List.length_eq_zero_iff.1 (by omega)
  have h4 : e ∈ uptoL t (l.drop (uptoL t l).length) := List.mem_filter.2 ⟨he, by simpa using hc⟩
  rw [h3] at h4
  cases h4


end Go.Proofs.Ytfedjeojanpnpab
