/-
  What sweeps tell, and how often: pure facts.
-/
import Derived.Test.YtfedjeojanpnpabKeyMap
namespace Go.Proofs.Ytfedjeojanpnpab
open Go.RowKit Go.Maps
set_option linter.unusedVariables false

/-- From k on the walk round tells what R tells from its T-th on. -/
structure Turn7 (L R : List En) (n : Nat) (k : Ky) (T : Nat) : Prop where
  len : (roundL k L).length = n
  lenR : R.length = n
  at_ : ∀ i, i < n → (roundL k L)[i]? = R[(T + i) % n]?
theorem turn_start (L : List En) (k : Ky) : Turn7 L (roundL k L) L.length k 0 :=
  ⟨round_len k L, round_len k L, fun i hi => by rw [Nat.zero_add, Nat.mod_eq_of_lt hi]⟩
theorem turn_step {L R : List En} {n : Nat} {k : Ky} {T s : Nat} (h : Turn7 L R n k T) (hr : Rises L) (h0 : 0 < s) (hs : s ≤ n) : Turn7 L R n (lastK ((roundL k L).take s) k) (T + s) := by
  have hl := h.len
  have hlt : s - 1 < (roundL k L).length := by omega
  have hsp : roundL k L = (roundL k L).take (s - 1) ++ (roundL k L)[s - 1] :: (roundL k L).drop s := by
    have h1 := List.drop_eq_getElem_cons hlt
    rw [show s - 1 + 1 = s by omega] at h1
    rw [← h1, List.take_append_drop]
  have hlast : lastK ((roundL k L).take s) k = (roundL k L)[s - 1].key := by
    unfold lastK
    rw [List.getLast?_eq_getElem?, List.length_take, hl, Nat.min_eq_left hs, List.getElem?_take, if_pos (by omega), List.getElem?_eq_getElem hlt]
    rfl
  rw [hlast]
  have ht := round_turn hr hsp
  refine ⟨round_len _ L ▸ (h.len ▸ (round_len k L).symm) ▸ rfl, h.lenR, fun i hi => ?_⟩
  rw [ht]
  have hd : ((roundL k L).drop s).length = n - s := by rw [List.length_drop, hl]
  by_cases c : i < n - s
  · rw [List.getElem?_append_left (by omega), List.getElem?_drop, h.at_ (s + i) (by omega), show T + (s + i) = T + s + i by omega]
  · rw [List.getElem?_append_right (by omega), hd]
    have he : (roundL k L).take (s - 1) ++ [(roundL k L)[s - 1]] = (roundL k L).take s := by
      have h2 := List.take_append_getElem hlt
      rw [show s - 1 + 1 = s by omega] at h2
      exact h2
    rw [he, List.getElem?_take, if_pos (by omega), h.at_ (i - (n - s)) (by omega), show T + s + i = (T + (i - (n - s))) + n by omega, Nat.add_mod_right]
theorem turn_told {L R : List En} {n : Nat} {k : Ky} {T s i a q : Nat} (h : Turn7 L R n k T) (hs : s ≤ n) (hi : i < s) (hq : q < n) (e : T + i = n * a + q) : ((roundL k L).take s)[i]? = R[q]? := by
  rw [List.getElem?_take, if_pos hi, h.at_ i (by omega), e, Nat.mul_add_mod, Nat.mod_eq_of_lt hq]
theorem round_apart {L : List En} (hr : Rises L) (k : Ky) : (roundL k L).Pairwise (fun x y => x.key ≠ y.key) := by
  have hne : ∀ {l : List En}, l.Pairwise (fun a b => a.key.lt b.key) → l.Pairwise (fun x y => x.key ≠ y.key) := fun h => h.imp (fun {a b} c e => by rw [e] at c; exact Ky.lt_irrefl _ c)
  unfold roundL
  refine List.pairwise_append.2 ⟨(hne hr).sublist List.filter_sublist, (hne hr).sublist List.filter_sublist, fun x hx y hy e => ?_⟩
  have h1 := (List.mem_filter.1 hx).2
  have h2 := (List.mem_filter.1 hy).2
  rw [e] at h1
  simp at h1 h2
  exact h2 h1
def cntK (a q i : Nat) : Nat := a + (if i < q then 1 else 0)
/-- The map says how often each was told: a times, those ahead of q once more. -/
structure ReadsK (D : DataW Unit) (R : List En) (n a q : Nat) : Prop where
  tidy : Tidy D
  size : Maps.size D = if a = 0 then q else n
  has : ∀ i (h : i < R.length), Maps.has D (klit R[i].key) = decide (1 ≤ a ∨ i < q)
  at_ : ∀ i (h : i < R.length), D.atKey (klit R[i].key) (.lit (.int .i64 0)) = .lit (.int .i64 (cntK a q i : Nat))
theorem readsK_start (R : List En) (n : Nat) : ReadsK (.map []) R n 0 0 :=
  ⟨tidy_empty, by simp [Maps.size], fun i h => by simp [Maps.has], fun i h => by simp [DataW.atKey, cntK]⟩
def nextA (n a q : Nat) : Nat := if q + 1 = n then a + 1 else a
def nextQ (n q : Nat) : Nat := if q + 1 = n then 0 else q + 1
theorem next_num {n a q T : Nat} (hq : q < n) (e : T = n * a + q) : nextQ n q < n ∧ T + 1 = n * nextA n a q + nextQ n q := by
  unfold nextA nextQ
  split
  · rw [Nat.mul_succ]; omega
  · omega
theorem readsK_put {D : DataW Unit} {R : List En} {n a q : Nat} (h : ReadsK D R n a q) (hR : R.Pairwise (fun x y => x.key ≠ y.key)) (hF : ∀ e, e ∈ R → e.Fits) (hn : R.length = n) (hq : q < R.length) :
    ReadsK (D.put (klit R[q].key) (.lit (.int .i64 ((a : Int) + 1)))) R n (nextA n a q) (nextQ n q) := by
  have hk : WideAt.IsKeyLit (klit R[q].key) := trivial
  have hne : ∀ i (hi : i < R.length), i ≠ q → klit R[i].key ≠ klit R[q].key := fun i hi c => by
    refine klit_ne (hF _ (List.getElem_mem hi)).1 (hF _ (List.getElem_mem hq)).1 ?_
    rcases Nat.lt_or_gt_of_ne c with d | d
    · exact List.pairwise_iff_getElem.1 hR i q hi hq d
    · exact fun e => List.pairwise_iff_getElem.1 hR q i hq hi d e.symm
  refine ⟨h.tidy.put hk _, ?_, fun i hi => ?_, fun i hi => ?_⟩
  · rw [size_put h.tidy, h.has q hq, h.size]
    unfold nextA nextQ
    by_cases ha : a = 0
    · subst ha
      by_cases c : q + 1 = n
      · simp [c]
      · simp [c]
    · have : 1 ≤ a := by omega
      by_cases c : q + 1 = n
      · simp [c, ha, this]
      · simp [c, ha, this]
  · by_cases c : i = q
    · subst c
      rw [has_put_same h.tidy.isMap hk]
      unfold nextA nextQ
      split <;> simp
    · rw [has_put_other (hne i hi c), h.has i hi]
      unfold nextA nextQ
      congr 1
      apply propext
      split <;> omega
  · by_cases c : i = q
    · subst c
      rw [atKey_put_same h.tidy.isMap hk]
      unfold nextA nextQ cntK
      split <;> simp
    · rw [atKey_put_other (hne i hi c), h.at_ i hi]
      unfold nextA nextQ cntK
      congr 3
      split <;> split <;> split <;> omega
theorem readsK_run {D : DataW Unit} {R : List En} {n a q : Nat} (h : ReadsK D R n a q) (hq : q < R.length) (hF : R[q].key.Fits) {W : World} {mb m : Nat} (hm : MapAt W mb m D) :
    (Instr.lookup 24 (.map (some mb)) (.agg #[.int .u64 (R[q].key.at_ : Int), .int .u64 (R[q].key.seq : Int)]) false).run Try.prog W = .ok (.int .i64 (a : Int)) W := by
  obtain ⟨c1, hrun1, hat1, _⟩ := hm.lookup_int lawK Try.underlying24 Try.underlying3 (zeroI _) (ky_key hF)
  have := hat1.symm.trans (h.at_ q hq)
  simp [cntK] at this
  rw [hrun1, this]

end Go.Proofs.Ytfedjeojanpnpab
