/-
  TreeOrder: two rows that rise and hold the same entries are the same row.
-/
import Derived.Test.YtkiibobpejoaeaaTreeGhost
namespace Go.Proofs.Ytkiibobpejoaeaa
set_option linter.unusedVariables false

theorem rises_same : ∀ {l m : List En}, Rises l → Rises m → (∀ e, e ∈ l ↔ e ∈ m) → l = m
  | [], [], _, _, _ => rfl
  | [], b :: m, _, _, h => absurd ((h b).2 (by simp)) (by simp)
  | a :: l, [], _, _, h => absurd ((h a).1 (by simp)) (by simp)
  | a :: l, b :: m, h1, h2, h => by
    obtain ⟨a1, l1⟩ := List.pairwise_cons.1 h1
    obtain ⟨b1, m1⟩ := List.pairwise_cons.1 h2
    have e : a = b := by
      rcases List.mem_cons.1 ((h a).1 (by simp)) with e | ha
      · exact e
      · rcases List.mem_cons.1 ((h b).2 (by simp)) with e | hb
        · exact e.symm
        · exact absurd (b1 a ha) (Ky.lt_asymm (a1 b hb))
    subst e
    have hm : ∀ e, e ∈ l ↔ e ∈ m := fun e => by
      constructor
      · intro he
        rcases List.mem_cons.1 ((h e).1 (List.mem_cons_of_mem _ he)) with e1 | he2
        · subst e1
          exact absurd (a1 e he) (Ky.lt_irrefl _)
        · exact he2
      · intro he
        rcases List.mem_cons.1 ((h e).2 (List.mem_cons_of_mem _ he)) with e1 | he2
        · subst e1
          exact absurd (b1 e he) (Ky.lt_irrefl _)
        · exact he2
    rw [rises_same l1 m1 hm]
/-- Keys come in, one behind the other. -/
def insAll (ks : List En) : List En := ks.foldl (fun l e => insL e.key e.val l) []
theorem insAll_mem (ks : List En) : ∀ (l : List En) (e : En), e ∈ ks.foldl (fun l e => insL e.key e.val l) l ↔ e ∈ ks ∨ e ∈ l := by
  induction ks with
  | nil => intro l e; simp
  | cons a t ih =>
    intro l e
    rw [List.foldl_cons, ih, insL_mem, List.mem_cons]
    constructor
    · rintro (h | h | h)
      · exact .inl (.inr h)
      · exact .inl (.inl h)
      · exact .inr h
    · rintro ((h | h) | h)
      · exact .inr (.inl h)
      · exact .inl h
      · exact .inr (.inr h)

end Go.Proofs.Ytkiibobpejoaeaa
