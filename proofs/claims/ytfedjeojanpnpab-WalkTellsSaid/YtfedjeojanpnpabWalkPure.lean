/-
  Walks along a row of entries that rise: above a key, from one on, up to one, and once round.
-/
import Derived.Test.YtfedjeojanpnpabTreeK
namespace Go.Proofs.Ytfedjeojanpnpab
set_option linter.unusedVariables false

def aboveL (k : Ky) (l : List En) : List En := l.filter fun e => decide (k.lt e.key)
def fromL (k : Ky) (l : List En) : List En := l.filter fun e => !decide (e.key.lt k)
def belowL (k : Ky) (l : List En) : List En := l.filter fun e => !decide (k.lt e.key)
def uptoL (at_ : Nat) (l : List En) : List En := l.filter fun e => decide (e.key.at_ ≤ at_)
def roundL (k : Ky) (l : List En) : List En := aboveL k l ++ belowL k l

theorem above_nil {k : Ky} {l : List En} (h : nextL k l = none) : aboveL k l = [] := by
  unfold aboveL
  rw [List.filter_eq_nil_iff]
  exact List.find?_eq_none.1 h
theorem above_all {k : Ky} {l : List En} (h : ∀ e, e ∈ l → k.lt e.key) : aboveL k l = l := List.filter_eq_self.2 fun e he => by simpa using h e he
theorem above_cons {k : Ky} {e : En} : ∀ {l : List En}, Rises l → nextL k l = some e → aboveL k l = e :: aboveL e.key l
  | [], _, h => by cases h
  | a :: t, hr, h => by
    have h1 := List.pairwise_cons.1 hr
    by_cases c : k.lt a.key
    · have e1 : nextL k (a :: t) = some a := by unfold nextL; rw [List.find?_cons_of_pos (by simpa using c)]
      rw [e1] at h
      have h' : a = e := Option.some.inj h
      subst h'
      have e2 : aboveL k t = t := above_all fun x hx => Ky.lt_trans c (h1.1 x hx)
      have e3 : aboveL a.key t = t := above_all fun x hx => h1.1 x hx
      unfold aboveL at e2 e3 ⊢
      rw [List.filter_cons_of_pos (by simpa using c), List.filter_cons_of_neg (by simpa using Ky.lt_irrefl a.key), e2, e3]
    · have e1 : nextL k (a :: t) = nextL k t := by unfold nextL; rw [List.find?_cons_of_neg (by simpa using c)]
      rw [e1] at h
      have he : e ∈ t := List.mem_of_find?_eq_some h
      have ih := above_cons h1.2 h
      unfold aboveL at ih ⊢
      rw [List.filter_cons_of_neg (by simpa using c), ih, List.filter_cons_of_neg (by simpa using Ky.lt_asymm (h1.1 e he))]
theorem from_eq {k : Ky} : ∀ {l : List En}, Rises l → fromL k l = (getL k l).toList.map (fun v => ⟨k, v⟩) ++ aboveL k l
  | [], _ => rfl
  | a :: t, hr => by
    have h1 := List.pairwise_cons.1 hr
    rcases Ky.cases a.key k with c | c | c
    · have ih := from_eq (k := k) h1.2
      have e1 : getL k (a :: t) = getL k t := by
        unfold getL
        rw [List.find?_cons_of_neg (by
          simp
          intro e
          rw [e] at c
          exact Ky.lt_irrefl _ c)]
      unfold fromL aboveL at ih ⊢
      rw [e1, List.filter_cons_of_neg (by simpa using c), List.filter_cons_of_neg (by simpa using Ky.lt_asymm c), ih]
    · subst c
      have e1 : getL a.key (a :: t) = some a.val := by
        unfold getL
        rw [List.find?_cons_of_pos (by simp)]
        rfl
      have e2 : aboveL a.key t = t := above_all fun x hx => h1.1 x hx
      have e3 : fromL a.key t = t := List.filter_eq_self.2 fun x hx => by simpa using Ky.lt_asymm (h1.1 x hx)
      unfold fromL aboveL at *
      rw [e1, List.filter_cons_of_pos (by simpa using Ky.lt_irrefl a.key), List.filter_cons_of_neg (by simpa using Ky.lt_irrefl a.key), e2, e3]
      rfl
    · have hall : ∀ x, x ∈ a :: t → k.lt x.key := by
        intro x hx
        rcases List.mem_cons.1 hx with rfl | hx
        · exact c
        · exact Ky.lt_trans c (h1.1 x hx)
      have e1 : getL k (a :: t) = none := by
        unfold getL
        rw [List.find?_eq_none.2 (fun x hx => by
          simp
          intro e
          have := hall x hx
          rw [e] at this
          exact Ky.lt_irrefl _ this)]
        rfl
      rw [e1, above_all hall]
      exact List.filter_eq_self.2 fun x hx => by simpa using Ky.lt_asymm (hall x hx)
theorem from_zero (l : List En) : fromL ⟨0, 0⟩ l = l := List.filter_eq_self.2 fun x hx => by simp [Ky.lt]
theorem upto_eq {at_ : Nat} {l : List En} (h : ∀ e, e ∈ l → e.Fits) : belowL ⟨at_, 18446744073709551615⟩ l = uptoL at_ l := by
  unfold belowL uptoL
  refine List.filter_congr fun e he => ?_
  have h1 := (h e he).1.2
  by_cases c : e.key.at_ ≤ at_
  · have h2 : ¬ Ky.lt ⟨at_, 18446744073709551615⟩ e.key := by unfold Ky.lt; simp only; omega
    rw [decide_eq_true c, decide_eq_false h2]
    rfl
  · have h2 : Ky.lt ⟨at_, 18446744073709551615⟩ e.key := by unfold Ky.lt; simp only; omega
    rw [decide_eq_false c, decide_eq_true h2]
    rfl
/-- A beginning of which all keep to p is a beginning of those that do. -/
theorem pre_filter {α : Type} {p : α → Bool} {q l : List α} (h : q <+: l) (hq : ∀ e, e ∈ q → p e = true) : q <+: l.filter p := by
  obtain ⟨r, rfl⟩ := h
  rw [List.filter_append, List.filter_eq_self.2 hq]
  exact ⟨_, rfl⟩
/-- Where one is beyond k, all that come are those ahead of it. -/
theorem below_stop {k : Ky} {q : List En} {x : En} {l : List En} (hr : Rises l) (h : q ++ [x] <+: l) (hq : ∀ e, e ∈ q → ¬ k.lt e.key) (hx : k.lt x.key) : belowL k l = q := by
  obtain ⟨r, rfl⟩ := h
  unfold belowL
  rw [List.append_assoc, List.filter_append, List.filter_eq_self.2 (fun e he => by simpa using hq e he), List.filter_eq_nil_iff.2, List.append_nil]
  intro e he
  have h2 : Rises ([x] ++ r) := by
    unfold Rises at hr ⊢
    rw [List.append_assoc] at hr
    exact (List.pairwise_append.1 hr).2.1
  rcases List.mem_cons.1 he with rfl | he
  · simpa using hx
  · simpa using Ky.lt_trans hx ((List.pairwise_cons.1 h2).1 e he)
theorem below_all {k : Ky} {l : List En} (h : ∀ e, e ∈ l → ¬ k.lt e.key) : belowL k l = l := List.filter_eq_self.2 fun e he => by simpa using h e he

end Go.Proofs.Ytfedjeojanpnpab
