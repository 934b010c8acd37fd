/-
  A bitmap, as its places and which are marked: what each call answers.
-/
import Derived.Test.YtkiibobpejoaeaaDoorBitNext
import Derived.Test.YtkiibobpejoaeaaDoorBitSet
import Derived.Test.YtkiibobpejoaeaaDoorBitNew
namespace Go.Proofs.YtkiibobpejoaeaaDoor
open Go.RowKit
set_option linter.unusedVariables false

/-- Places, and which are marked. -/
structure Bg where
  n : Nat
  m : Nat → Bool
/-- The marked places, rising. -/
def markL (n : Nat) (m : Nat → Bool) : List Nat := (List.range n).filter m
def Bg.l (g : Bg) : List Nat := markL g.n g.m
theorem mem_markL {n i : Nat} {m : Nat → Bool} : i ∈ markL n m ↔ i < n ∧ m i = true := by simp [markL]
theorem markL_le (n : Nat) (m : Nat → Bool) : (markL n m).length ≤ n := by
  have := List.length_filter_le m (List.range n)
  simpa [markL] using this
theorem markL_succ (n : Nat) (m : Nat → Bool) : markL (n + 1) m = markL n m ++ (if m n then [n] else []) := by
  unfold markL
  rw [List.range_succ, List.filter_append]
  congr 1
  cases e : m n <;> simp [e]
theorem markL_congr {m m' : Nat → Bool} : ∀ {n : Nat}, (∀ i, i < n → m i = m' i) → markL n m = markL n m'
  | 0, _ => rfl
  | n + 1, h => by rw [markL_succ, markL_succ, markL_congr (fun i hi => h i (by omega)), h n (by omega)]
theorem count_set {p : Nat} {m : Nat → Bool} (hm : m p = false) : ∀ {n : Nat}, p < n → (markL n (setB m p true)).length = (markL n m).length + 1
  | 0, h => absurd h (by omega)
  | n + 1, h => by
    rw [markL_succ, markL_succ, List.length_append, List.length_append]
    by_cases c : p = n
    · subst c
      rw [markL_congr (m := setB m p true) (m' := m) (fun i hi => by rw [setB, if_neg (by omega)]), hm]
      simp [setB]
    · rw [count_set hm (by omega), show setB m p true n = m n by rw [setB, if_neg (by omega)]]
      omega
theorem count_clear {p : Nat} {m : Nat → Bool} {n : Nat} (hm : m p = true) (h : p < n) : (markL n (setB m p false)).length + 1 = (markL n m).length := by
  have h1 := count_set (m := setB m p false) (p := p) (by simp [setB]) h
  rw [← h1]
  congr 2
  funext i
  unfold setB
  by_cases c : i = p
  · subst c; simp [hm]
  · simp [c]
theorem markL_none (n : Nat) : markL n (fun _ => false) = [] := by simp [markL]

def BmAt (N : Nat → Prop) (w : World) (a : Addr) (g : Bg) : Prop := ∃ b gf cf k fb X, a = ⟨b, 0, none⟩ ∧ BMem w b gf cf k g.n g.l.length fb X ∧ (∀ f, f < k → GoodF g.n g.m f (X f)) ∧ (∀ q, g.m q = true → q < g.n) ∧ ∀ j, N j ↔ OwnB b gf k fb j
section
variable {N : Nat → Prop} {w w' : World} {a : Addr} {g : Bg}
theorem BmAt.lt (h : BmAt N w a g) : ∀ j, N j → j < w.heap.size := by
  obtain ⟨b, gf, cf, k, fb, X, rfl, h1, h2, h3, h4⟩ := h
  exact fun j hj => h1.lt j ((h4 j).1 hj)
theorem BmAt.kept (h : BmAt N w a g) (e : ∀ j, N j → w'.heap[j]? = w.heap[j]?) : BmAt N w' a g := by
  obtain ⟨b, gf, cf, k, fb, X, rfl, h1, h2, h3, h4⟩ := h
  exact ⟨b, gf, cf, k, fb, X, rfl, h1.same (fun j hj => e j ((h4 j).2 hj)), h2, h3, h4⟩
theorem BmAt.below (h : BmAt N w a g) (b : Below w.heap.size w w') : BmAt N w' a g := h.kept fun j hj => b.block j (h.lt j hj)
theorem BmAt.in_ (h : BmAt N w a g) : ∀ q, g.m q = true → q < g.n := by
  obtain ⟨b, gf, cf, k, fb, X, rfl, h1, h2, h3, h4⟩ := h
  exact h3
theorem BmAt.n1 (h : BmAt N w a g) : 1 ≤ g.n ∧ g.n ≤ 65536 := by
  obtain ⟨b, gf, cf, k, fb, X, rfl, h1, h2, h3, h4⟩ := h
  exact ⟨h1.n1, h1.n2⟩
/-- Behind a call that may turn it. -/
def WentB (N : Nat → Prop) (w : World) (a : Addr) (g : Bg) (w' : World) : Prop := BmAt N w' a g ∧ Turned N w w'
def newB (g : Bg) (i : Int) : Bool := decide (0 ≤ i) && decide (i < g.n) && !g.m i.toNat
def hasB (g : Bg) (i : Int) : Bool := decide (0 ≤ i) && decide (i < g.n) && g.m i.toNat
def setG (g : Bg) (i : Int) : Bg := if newB g i then ⟨g.n, setB g.m i.toNat true⟩ else g
def clearG (g : Bg) (i : Int) : Bg := if hasB g i then ⟨g.n, setB g.m i.toNat false⟩ else g
theorem c_new (n : Nat) (hn1 : 1 ≤ n) (hn : n ≤ 65536) (w : World) : Calls Tryd.prog 24 #[.int .i64 (n : Int)] w fun e w' => ∃ a N, e = .returned (.tuple #[.pointer (some a), .int .i64 0]) ∧ BmAt N w' a ⟨n, fun _ => false⟩ ∧ (∀ j, N j → w.heap.size ≤ j) ∧ Below w.heap.size w w' := by
  refine (bit_new n hn1 hn w).mono ?_
  rintro e w' ⟨b, gf, cf, k, fb, rfl, h1, h2, h3⟩
  refine ⟨_, OwnB b gf k fb, rfl, ⟨b, gf, cf, k, fb, fun _ _ => 0, rfl, ?_, fun f hf j hj => ⟨by show (0 : Nat) < 18446744073709551616; decide, fun b hb => ?_⟩, fun q hq => (by cases hq), fun j => Iff.rfl⟩, h2, h3⟩
  · have : (Bg.l ⟨n, fun _ => false⟩).length = 0 := by simp [Bg.l, markL_none]
    rw [this]
    exact h1
  · rw [Nat.zero_testBit]
    exact ⟨fun h => (by cases h), fun ⟨q, hq, _⟩ => (by cases hq)⟩
theorem c_set (h : BmAt N w a g) (i : Int) : Calls Tryd.prog 45 #[.pointer (some a), .int .i64 i] w fun e w' => e = .returned (.bool (newB g i)) ∧ WentB N w a (setG g i) w' := by
  have h' := h
  obtain ⟨b, gf, cf, k, fb, X, rfl, h1, h2, h3, h4⟩ := h
  have hle := markL_le g.n g.m
  have hn2 := h1.n2
  by_cases c : 0 ≤ i ∧ i < g.n ∧ g.m i.toNat = false
  · have hr : newB g i = true := by simp [newB, c]
    obtain ⟨p, rfl⟩ : ∃ p : Nat, i = (p : Int) := ⟨i.toNat, by omega⟩
    have hp : p < g.n := by omega
    have hmp : g.m p = false := by simpa using c.2.2
    refine (bit_set h1 h2 (by unfold Bg.l; omega) p hp hmp).mono ?_
    rintro e w' ⟨rfl, q1, q2⟩
    rw [hr]
    refine ⟨rfl, ?_, ?_⟩
    · rw [setG, hr, if_pos rfl]
      refine ⟨b, gf, cf, k, fb, setX X p k, rfl, ?_, fun f hf => ?_, fun q hq => ?_, h4⟩
      · have e : (Bg.l ⟨g.n, setB g.m (p : Int).toNat true⟩).length = g.l.length + 1 := count_set hmp hp
        rw [e]
        exact q1
      · have h5 := good_set (p := p) (h2 f hf)
        unfold setX
        rw [if_pos hf]
        exact h5
      · by_cases c2 : q = p
        · exact c2 ▸ hp
        · have : setB g.m p true q = true := hq
          rw [setB, if_neg c2] at this
          exact h3 q this
    · exact ⟨q2.os, q2.tape, q2.output, q2.size, fun j hj hn => q2.block j hj (fun ho => hn ((h4 j).2 ho))⟩
  · have hr : newB g i = false := by
      simp only [newB, Bool.and_eq_false_iff, decide_eq_false_iff_not, Bool.not_eq_false']
      by_cases c1 : 0 ≤ i
      · by_cases c2 : i < g.n
        · refine .inr ?_
          cases e : g.m i.toNat
          · exact absurd ⟨c1, c2, e⟩ c
          · rfl
        · exact .inl (.inr c2)
      · exact .inl (.inl c1)
    refine (bit_set_no h1 h2 i c).mono ?_
    rintro e w' ⟨rfl, b1⟩
    rw [setG, hr]
    exact ⟨rfl, h'.below b1, Turned.below b1⟩
theorem hasB_iff {i : Int} : hasB g i = true ↔ 0 ≤ i ∧ i < g.n ∧ g.m i.toNat = true := by
  simp [hasB, and_assoc]
theorem c_clear (h : BmAt N w a g) (i : Int) : Calls Tryd.prog 47 #[.pointer (some a), .int .i64 i] w fun e w' => e = .returned (.bool (hasB g i)) ∧ WentB N w a (clearG g i) w' := by
  have h' := h
  obtain ⟨b, gf, cf, k, fb, X, rfl, h1, h2, h3, h4⟩ := h
  have hle := markL_le g.n g.m
  have hn2 := h1.n2
  by_cases c : 0 ≤ i ∧ i < g.n ∧ g.m i.toNat = true
  · have hr : hasB g i = true := hasB_iff.2 c
    obtain ⟨p, rfl⟩ : ∃ p : Nat, i = (p : Int) := ⟨i.toNat, by omega⟩
    have hp : p < g.n := by omega
    have hmp : g.m p = true := by simpa using c.2.2
    have hcc : (markL g.n (setB g.m p false)).length + 1 = g.l.length := count_clear hmp hp
    refine (bit_clear h1 h2 (by unfold Bg.l; omega) (by omega) p hp hmp).mono ?_
    rintro e w' ⟨rfl, Y, q1, q3, q2⟩
    rw [hr]
    refine ⟨rfl, ?_, ?_⟩
    · rw [clearG, hr, if_pos rfl]
      refine ⟨b, gf, cf, k, fb, Y, rfl, ?_, q3, fun q hq => ?_, h4⟩
      · have e : (Bg.l ⟨g.n, setB g.m (p : Int).toNat false⟩).length = g.l.length - 1 := by
          show (markL g.n (setB g.m p false)).length = _
          omega
        rw [e]
        exact q1
      · have : setB g.m p false q = true := hq
        by_cases c2 : q = p
        · exact c2 ▸ hp
        · rw [setB, if_neg c2] at this
          exact h3 q this
    · exact ⟨q2.os, q2.tape, q2.output, q2.size, fun j hj hn => q2.block j hj (fun ho => hn ((h4 j).2 ho))⟩
  · have hr : hasB g i = false := by
      cases e : hasB g i
      · rfl
      · exact absurd (hasB_iff.1 e) c
    refine (bit_clear_no h1 h2 i c).mono ?_
    rintro e w' ⟨rfl, b1⟩
    rw [clearG, hr]
    exact ⟨rfl, h'.below b1, Turned.below b1⟩
theorem c_has (h : BmAt N w a g) (i : Int) : Calls Tryd.prog 59 #[.pointer (some a), .int .i64 i] w fun e w' => e = .returned (.bool (hasB g i)) ∧ Below w.heap.size w w' := by
  obtain ⟨b, gf, cf, k, fb, X, rfl, h1, h2, h3, h4⟩ := h
  exact bit_has h1 h2 i _ hasB_iff
theorem c_next (h : BmAt N w a g) (hT : Tab w) (fr : Int) (hf1 : -9223372036854775808 ≤ fr) (hf2 : fr ≤ 9223372036854775807) : Calls Tryd.prog 71 #[.pointer (some a), .int .i64 fr] w fun e w' => (∃ o, IsNext g.m fr o ∧ e = .returned (.tuple #[.int .i64 ((o.getD 0 : Nat) : Int), .bool o.isSome])) ∧ Below w.heap.size w w' := by
  obtain ⟨b, gf, cf, k, fb, X, rfl, h1, h2, h3, h4⟩ := h
  exact bit_next h1 h2 h3 hT fr hf1 hf2
theorem c_round (h : BmAt N w a g) (hT : Tab w) (fr : Int) (hf1 : -9223372036854775808 ≤ fr) (hf2 : fr ≤ 9223372036854775807) : Calls Tryd.prog 51 #[.pointer (some a), .int .i64 fr] w fun e w' => (∃ o, IsRound g.m fr o ∧ e = .returned (.tuple #[.int .i64 ((o.getD 0 : Nat) : Int), .bool o.isSome])) ∧ Below w.heap.size w w' := by
  obtain ⟨b, gf, cf, k, fb, X, rfl, h1, h2, h3, h4⟩ := h
  exact bit_round h1 h2 h3 hT fr hf1 hf2
/-- The marks below a number. -/
def upB (n : Nat) (m : Nat → Bool) (t : Nat) : List Nat := markL n (fun q => m q && decide (q < t))
theorem upB_zero (n : Nat) (m : Nat → Bool) : upB n m 0 = [] := by
  have := markL_congr (n := n) (m := fun q => m q && decide (q < 0)) (m' := fun _ => false) (fun i _ => by simp)
  rw [upB, this, markL_none]
theorem upB_end {n t : Nat} {m : Nat → Bool} (hm : ∀ q, m q = true → q < n) (h : IsNext m (t : Int) none) : upB n m t = markL n m := by
  refine markL_congr fun i _ => ?_
  cases c : m i
  · rfl
  · have := h i c
    simp
    omega
theorem upB_step {t i : Nat} {m : Nat → Bool} (h : IsNext m (t : Int) (some i)) : ∀ {n : Nat}, i < n → upB n m (i + 1) = upB n m t ++ [i]
  | 0, h => absurd h (by omega)
  | n + 1, hi => by
    have h1 := h.1
    have h2 : t ≤ i := by have := h.2.1; omega
    have h3 : ∀ j, m j = true → t ≤ j → i ≤ j := fun j hj hf => h.2.2 j hj (by omega)
    unfold upB
    rw [markL_succ, markL_succ]
    by_cases c : i = n
    · subst c
      have e : markL i (fun q => m q && decide (q < i + 1)) = markL i (fun q => m q && decide (q < t)) := by
        refine markL_congr fun j hj => ?_
        cases cj : m j
        · rfl
        · have := h3 j cj
          simp
          omega
      rw [e, h1]
      have e2 : decide (i < t) = false := by simp; omega
      simp [e2]
    · have e := upB_step h (n := n) (by omega)
      unfold upB at e
      rw [e]
      have e1 : decide (n < i + 1) = false := by simp; omega
      have e2 : decide (n < t) = false := by simp; omega
      simp [e1, e2]
end

end Go.Proofs.YtkiibobpejoaeaaDoor
