/-
  Walks once round, one behind the other: each turns the row; how many are ahead of a key.
-/
import Derived.Test.YtfedjeojanpnpabWalkPure
import Derived.Test.YtfedjeojanpnpabWalkCalls
namespace Go.Proofs.Ytfedjeojanpnpab
set_option linter.unusedVariables false

theorem below_above {k : Ky} : ∀ {l : List En}, Rises l → belowL k l ++ aboveL k l = l
  | [], _ => rfl
  | a :: l, h => by
    have h1 := List.pairwise_cons.1 h
    by_cases c : k.lt a.key
    · have hall : ∀ e, e ∈ a :: l → k.lt e.key := by
        intro e he
        rcases List.mem_cons.1 he with rfl | he
        · exact c
        · exact Ky.lt_trans c (h1.1 e he)
      have e1 : belowL k (a :: l) = [] := List.filter_eq_nil_iff.2 fun e he => by simpa using hall e he
      rw [e1, above_all hall]
      rfl
    · have ih := below_above (k := k) h1.2
      unfold belowL aboveL at ih ⊢
      rw [List.filter_cons_of_pos (by simpa using c), List.filter_cons_of_neg (by simpa using c), List.cons_append, ih]
/-- Where an entry stands, all ahead of it are below, all behind it above. -/
theorem split_at {P S : List En} {e : En} (h : Rises (P ++ e :: S)) : aboveL e.key (P ++ e :: S) = S ∧ belowL e.key (P ++ e :: S) = P ++ [e] := by
  obtain ⟨_, h2, h3⟩ := List.pairwise_append.1 h
  have h4 := List.pairwise_cons.1 h2
  have hP : ∀ x, x ∈ P → x.key.lt e.key := fun x hx => h3 x hx e List.mem_cons_self
  unfold aboveL belowL
  rw [List.filter_append, List.filter_append]
  constructor
  · rw [List.filter_eq_nil_iff.2 (fun x hx => by simpa using Ky.lt_asymm (hP x hx)), List.filter_cons_of_neg (by simpa using Ky.lt_irrefl e.key), List.filter_eq_self.2 (fun x hx => by simpa using h4.1 x hx)]
    rfl
  · rw [List.filter_eq_self.2 (fun x hx => by simpa using Ky.lt_asymm (hP x hx)), List.filter_cons_of_pos (by simpa using Ky.lt_irrefl e.key), List.filter_eq_nil_iff.2 (fun x hx => by simpa using h4.1 x hx)]
/-- From one that is told the walk goes on behind it, and ends with it. -/
theorem round_turn {k : Ky} {l A B : List En} {e : En} (h : Rises l) (hr : roundL k l = A ++ e :: B) : roundL e.key l = B ++ (A ++ [e]) := by
  have hl := below_above (k := k) h
  unfold roundL at hr
  obtain ⟨Q, hQ⟩ : ∃ Q, aboveL k l = Q := ⟨_, rfl⟩
  obtain ⟨P, hP⟩ : ∃ P, belowL k l = P := ⟨_, rfl⟩
  rw [hQ, hP] at hr hl
  clear hQ hP
  subst hl
  rcases List.append_eq_append_iff.1 hr with ⟨P1, h1, h2⟩ | ⟨Q', h1, h2⟩
  · subst h1 h2
    rw [List.append_assoc, List.cons_append] at h ⊢
    obtain ⟨k1, k2⟩ := split_at h
    unfold roundL
    rw [k1, k2]
    simp
  · cases Q' with
    | nil =>
      rw [List.append_nil] at h1
      rw [List.nil_append] at h2
      subst h1
      rw [← h2] at h ⊢
      have h' : Rises ([] ++ e :: (B ++ Q)) := h
      obtain ⟨k1, k2⟩ := split_at h'
      rw [List.nil_append] at k1 k2
      unfold roundL
      rw [List.cons_append, k1, k2]
      simp
    | cons x Q' =>
      rw [List.cons_append] at h2
      obtain ⟨h3, h4⟩ := List.cons.inj h2
      subst h1 h3 h4
      rw [← List.append_assoc] at h ⊢
      obtain ⟨k1, k2⟩ := split_at h
      unfold roundL
      rw [k1, k2]
      simp
theorem round_mem {k : Ky} {l : List En} {e : En} : e ∈ roundL k l ↔ e ∈ l := by
  unfold roundL aboveL belowL
  rw [List.mem_append, List.mem_filter, List.mem_filter]
  by_cases c : k.lt e.key <;> simp [c]
theorem round_del (k x : Ky) (l : List En) : roundL k (delL x l) = delL x (roundL k l) := by
  unfold roundL aboveL belowL delL
  rw [List.filter_append, List.filter_filter, List.filter_filter, List.filter_filter, List.filter_filter]
  congr 1
  · exact List.filter_congr fun e _ => Bool.and_comm _ _
  · exact List.filter_congr fun e _ => Bool.and_comm _ _

/-- How many are told ahead of a key. -/
def ahead (m : Ky) (l : List En) : Nat := (l.takeWhile fun e => decide (e.key ≠ m)).length
theorem ahead_app {m : Ky} {A B : List En} (h : ∀ e, e ∈ A → e.key ≠ m) : ahead m (A ++ B) = A.length + ahead m B := by
  unfold ahead
  rw [List.takeWhile_append_of_pos (fun e he => by simpa using h e he), List.length_append]
theorem ahead_stop {m : Ky} {A B : List En} {e : En} (h : ∀ e, e ∈ A → e.key ≠ m) (he : e.key = m) : ahead m (A ++ e :: B) = A.length := by
  rw [ahead_app h]
  unfold ahead
  rw [List.takeWhile_cons_of_neg (by simp [he])]
  rfl
theorem ahead_del {m x : Ky} (hx : x ≠ m) : ∀ (l : List En), ahead m (delL x l) ≤ ahead m l
  | [] => Nat.le_refl _
  | e :: l => by
    have ih := ahead_del hx l
    unfold delL ahead at ih ⊢
    by_cases c : e.key = x
    · rw [List.filter_cons_of_neg (by simp [c]), List.takeWhile_cons_of_pos (by simp [c, hx])]
      exact Nat.le_succ_of_le ih
    · rw [List.filter_cons_of_pos (by simp [c])]
      by_cases d : e.key = m
      · rw [List.takeWhile_cons_of_neg (by simp [d])]
        exact Nat.zero_le _
      · rw [List.takeWhile_cons_of_pos (by simp [d]), List.takeWhile_cons_of_pos (by simp [d])]
        exact Nat.succ_le_succ ih
theorem first_at (m : Ky) : ∀ (l : List En), (∃ e, e ∈ l ∧ e.key = m) → ∃ C d D, l = C ++ d :: D ∧ (∀ y, y ∈ C → y.key ≠ m) ∧ d.key = m
  | [], h => by
    obtain ⟨e, he, _⟩ := h
    cases he
  | a :: l, h => by
    by_cases c : a.key = m
    · exact ⟨[], a, l, rfl, fun y hy => (by cases hy), c⟩
    · obtain ⟨e, he, hm⟩ := h
      rcases List.mem_cons.1 he with rfl | he
      · exact absurd hm c
      · obtain ⟨C, d, D, h1, h2, h3⟩ := first_at m l ⟨e, he, hm⟩
        refine ⟨a :: C, d, D, by rw [h1]; rfl, fun y hy => ?_, h3⟩
        rcases List.mem_cons.1 hy with rfl | hy
        · exact c
        · exact h2 y hy
/-- A sweep that did not come to m has come nearer: by each that it told, but x. -/
theorem ahead_sweep {m x k : Ky} {l : List En} {n : Nat} (h : Rises l) (hx : x ≠ m) (hm : ∃ e, e ∈ l ∧ e.key = m) (hn : 0 < n) (hno : ∀ e, e ∈ (roundL k l).take n → e.key ≠ m) :
    ahead m (roundL (lastK ((roundL k l).take n) k) (delL x l)) + (delL x ((roundL k l).take n)).length ≤ ahead m (roundL k (delL x l)) := by
  obtain ⟨e0, he0, hem⟩ := hm
  have hmr : e0 ∈ roundL k l := round_mem.2 he0
  -- what is told: A ++ [e]
  obtain ⟨A, e, B, hX, hL⟩ : ∃ A e B, (roundL k l).take n = A ++ [e] ∧ roundL k l = A ++ e :: B := by
    have hne : (roundL k l).take n ≠ [] := by
      intro h0
      rw [List.take_eq_nil_iff] at h0
      rcases h0 with h0 | h0
      · omega
      · rw [h0] at hmr
        cases hmr
    refine ⟨((roundL k l).take n).dropLast, ((roundL k l).take n).getLast hne, (roundL k l).drop n, (List.dropLast_concat_getLast hne).symm, ?_⟩
    have h1 := List.take_append_drop n (roundL k l)
    conv => lhs; rw [← h1, ← List.dropLast_concat_getLast hne]
    simp
  have hlast : lastK ((roundL k l).take n) k = e.key := by
    rw [hX]
    unfold lastK
    simp
  rw [hlast, round_del, round_del, round_turn h hL, hX]
  rw [hX] at hno
  have hA : ∀ y, y ∈ delL x (A ++ [e]) → y.key ≠ m := fun y hy => hno y (List.mem_filter.1 hy).1
  rw [hL, show A ++ e :: B = (A ++ [e]) ++ B by simp]
  unfold delL at hA ⊢
  rw [List.filter_append, List.filter_append (l₁ := A ++ [e]) (l₂ := B), ahead_app hA]
  -- m is in B
  have hB : e0 ∈ B := by
    rw [hL, show A ++ e :: B = (A ++ [e]) ++ B by simp] at hmr
    rcases List.mem_append.1 hmr with h1 | h1
    · exact absurd hem (hno e0 h1)
    · exact h1
  have hB' : e0 ∈ B.filter fun e => decide (e.key ≠ x) := List.mem_filter.2 ⟨hB, by simp [hem]; exact fun h => hx h.symm⟩
  obtain ⟨C, d, D', hC, hCm, hd⟩ := first_at m _ ⟨e0, hB', hem⟩
  rw [hC, List.append_assoc, List.cons_append, ahead_stop hCm hd, ahead_stop hCm hd]
  omega

end Go.Proofs.Ytfedjeojanpnpab
