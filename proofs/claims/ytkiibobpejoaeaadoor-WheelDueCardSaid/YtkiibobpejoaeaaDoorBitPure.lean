/-
  Marks upon marks: what floors of words say of the marked places. Of no program.
-/
import Derived.Test.YtkiibobpejoaeaaDoorBase
import Derived.Lib.TrailingZeros
import Derived.Laws.BitsAllLaws
namespace Go.Proofs.YtkiibobpejoaeaaDoor
set_option linter.unusedVariables false

/-- A floor's mark: some marked place lies below it. -/
def Fl (m : Nat → Bool) (f i : Nat) : Prop := ∃ q, m q = true ∧ q / 64 ^ f = i
theorem div_up (q f : Nat) : q / 64 ^ (f + 1) = q / 64 ^ f / 64 := by rw [Nat.pow_succ, Nat.div_div_eq_div_mul]
theorem fl_zero {m : Nat → Bool} {i : Nat} : Fl m 0 i ↔ m i = true := by
  constructor
  · rintro ⟨q, h, e⟩
    rw [Nat.pow_zero, Nat.div_one] at e
    rw [← e]; exact h
  · intro h
    exact ⟨i, h, by simp⟩
/-- How many words a floor has. -/
def wn (n : Nat) : Nat → Nat
  | 0 => (n + 63) / 64
  | f + 1 => (wn n f + 63) / 64
theorem wn_lt {n q : Nat} (h : q < n) : ∀ f, q / 64 ^ (f + 1) < wn n f
  | 0 => by simp [wn]; omega
  | f + 1 => by
    have := wn_lt h f
    rw [div_up q (f + 1)]
    simp only [wn]
    omega
theorem wn_le {n : Nat} (h : n ≤ 65536) : ∀ f, wn n f ≤ 1024
  | 0 => by simp only [wn]; omega
  | f + 1 => by
    have := wn_le h f
    simp only [wn]; omega
theorem wn_pos {n : Nat} (h : 1 ≤ n) : ∀ f, 1 ≤ wn n f
  | 0 => by simp only [wn]; omega
  | f + 1 => by
    have := wn_pos h f
    simp only [wn]; omega
theorem wn_three {n : Nat} (h : n ≤ 65536) : wn n 2 ≤ 1 := by simp only [wn]; omega
def GoodF (n : Nat) (m : Nat → Bool) (f : Nat) (x : Nat → Nat) : Prop := ∀ j, j < wn n f → x j < 18446744073709551616 ∧ ∀ b, b < 64 → ((x j).testBit b = true ↔ Fl m f (64 * j + b))
def setB (m : Nat → Bool) (p : Nat) (t : Bool) : Nat → Bool := fun i => if i = p then t else m i
def updN (f : Nat → Nat) (i v : Nat) : Nat → Nat := fun j => if j = i then v else f j
theorem big_bit {x b : Nat} (hx : x < 18446744073709551616) (hb : x.testBit b = true) : b < 64 := by
  apply Nat.lt_of_not_le
  intro h
  have : x < 2 ^ b := Nat.lt_of_lt_of_le hx (by
    have : (2 : Nat) ^ 64 ≤ 2 ^ b := Nat.pow_le_pow_right (by decide) h
    exact this)
  rw [Nat.testBit_lt_two_pow this] at hb
  cases hb
theorem zero_of_bits {x : Nat} (hx : x < 18446744073709551616) (h : ∀ b, b < 64 → x.testBit b = false) : x = 0 := by
  apply Nat.eq_of_testBit_eq
  intro i
  rw [Nat.zero_testBit]
  cases c : x.testBit i
  · rfl
  · rw [h i (big_bit hx c)] at c; cases c
theorem bit_of_pos {x : Nat} (hx : x < 18446744073709551616) (h : x ≠ 0) : ∃ b, b < 64 ∧ x.testBit b = true := by
  apply Classical.byContradiction
  intro c
  apply h
  refine zero_of_bits hx fun b hb => ?_
  cases e : x.testBit b
  · rfl
  · exact absurd ⟨b, hb, e⟩ c
/-- The lowest mark of a word. -/
theorem ctz_bit {x : Nat} (h0 : x ≠ 0) (hx : x < 18446744073709551616) : Lib.ctz 64 x < 64 ∧ x.testBit (Lib.ctz 64 x) = true ∧ ∀ b, b < Lib.ctz 64 x → x.testBit b = false := by
  unfold Lib.ctz
  rw [if_neg h0]
  obtain ⟨m, h1, h2⟩ := Lib.ctzFrom_spec 64 x (by omega) hx
  generalize Lib.ctzFrom 64 x = c at *
  subst h1
  refine ⟨h2, ?_, fun b hb => ?_⟩
  · rw [Nat.mul_comm, Nat.testBit_mul_two_pow]
    simp [Nat.testBit_zero]
  · rw [Nat.mul_comm, Nat.testBit_mul_two_pow]
    simp
    omega

section
variable {n f p : Nat} {m : Nat → Bool} {x : Nat → Nat}
theorem cell_split {p f j b : Nat} (hb : b < 64) : 64 * j + b = p / 64 ^ f ↔ j = p / 64 ^ (f + 1) ∧ b = p / 64 ^ f % 64 := by
  rw [div_up]
  generalize p / 64 ^ f = t
  omega
theorem fl_set {i : Nat} : Fl (setB m p true) f i ↔ Fl m f i ∨ i = p / 64 ^ f := by
  constructor
  · rintro ⟨q, h, rfl⟩
    by_cases c : q = p
    · exact .inr (by rw [c])
    · rw [setB, if_neg c] at h
      exact .inl ⟨q, h, rfl⟩
  · rintro (⟨q, h, rfl⟩ | rfl)
    · refine ⟨q, ?_, rfl⟩
      by_cases c : q = p
      · rw [setB, if_pos c]
      · rw [setB, if_neg c]; exact h
    · exact ⟨p, by rw [setB, if_pos rfl], rfl⟩
theorem good_set (h : GoodF n m f x) : GoodF n (setB m p true) f (updN x (p / 64 ^ (f + 1)) (x (p / 64 ^ (f + 1)) ||| 2 ^ (p / 64 ^ f % 64))) := by
  intro j hj
  obtain ⟨h1, h2⟩ := h j hj
  by_cases c : j = p / 64 ^ (f + 1)
  · subst c
    rw [updN, if_pos rfl]
    refine ⟨Nat.or_lt_two_pow (n := 64) h1 (Nat.pow_lt_pow_right (by decide) (Nat.mod_lt _ (by decide))), fun b hb => ?_⟩
    rw [Nat.testBit_or, Nat.testBit_two_pow, fl_set, cell_split hb, ← h2 b hb]
    simp
    exact or_congr Iff.rfl ⟨fun h => h.symm, fun h => h.symm⟩
  · rw [updN, if_neg c]
    refine ⟨h1, fun b hb => ?_⟩
    rw [fl_set, cell_split hb, h2 b hb]
    exact ⟨.inl, fun h => h.elim id (fun h => absurd h.1 c)⟩
/-- No other mark lies in the same cell. -/
def Alone (m : Nat → Bool) (p f : Nat) : Prop := ∀ q, setB m p false q = true → q / 64 ^ f ≠ p / 64 ^ f
theorem alone_zero : Alone m p 0 := by
  intro q h e
  simp at e
  rw [setB, if_pos e] at h
  cases h
theorem fl_clear {i : Nat} (ha : Alone m p f) : Fl (setB m p false) f i ↔ Fl m f i ∧ i ≠ p / 64 ^ f := by
  constructor
  · rintro ⟨q, h, rfl⟩
    refine ⟨⟨q, ?_, rfl⟩, ha q h⟩
    by_cases c : q = p
    · rw [setB, if_pos c] at h; cases h
    · rw [setB, if_neg c] at h; exact h
  · rintro ⟨⟨q, h, rfl⟩, h2⟩
    refine ⟨q, ?_, rfl⟩
    rw [setB, if_neg (fun e => h2 (by rw [e]))]
    exact h
theorem not_bit {y k b : Nat} (hb : b < 64) (hy : y < 18446744073709551616) : (18446744073709551615 - y).testBit b = !y.testBit b := by
  have := Nat.testBit_two_pow_sub_succ (n := 64) hy b
  rw [show (2 : Nat) ^ 64 - (y + 1) = 18446744073709551615 - y by omega] at this
  rw [this]
  simp [hb]
theorem pow_lt64 (t : Nat) : 2 ^ (t % 64) < 18446744073709551616 := Nat.pow_lt_pow_right (n := 64) (by decide) (Nat.mod_lt _ (by decide))
theorem good_clear (h : GoodF n m f x) (ha : Alone m p f) : GoodF n (setB m p false) f (updN x (p / 64 ^ (f + 1)) (x (p / 64 ^ (f + 1)) &&& (18446744073709551615 - 2 ^ (p / 64 ^ f % 64)))) := by
  intro j hj
  obtain ⟨h1, h2⟩ := h j hj
  by_cases c : j = p / 64 ^ (f + 1)
  · subst c
    rw [updN, if_pos rfl]
    refine ⟨Nat.lt_of_le_of_lt Nat.and_le_left h1, fun b hb => ?_⟩
    rw [Nat.testBit_and, not_bit (k := 0) hb (pow_lt64 _), Nat.testBit_two_pow, fl_clear ha, ne_eq, cell_split hb, ← h2 b hb]
    simp
    exact fun _ => ⟨fun h e => h e.symm, fun h e => h e.symm⟩
  · rw [updN, if_neg c]
    refine ⟨h1, fun b hb => ?_⟩
    rw [fl_clear ha, ne_eq, cell_split hb, h2 b hb]
    exact ⟨fun h => ⟨h, fun h => c h.1⟩, fun h => h.1⟩
/-- Another mark is left in the word: the floors above are right as they are. -/
theorem clear_stop {y : Nat → Nat} (h : GoodF n (setB m p false) f y) (hp : p < n) (hw : y (p / 64 ^ (f + 1)) ≠ 0) : ∀ d x, GoodF n m (f + 1 + d) x → GoodF n (setB m p false) (f + 1 + d) x := by
  obtain ⟨h1, h2⟩ := h _ (wn_lt hp f)
  obtain ⟨b, hb, hbit⟩ := bit_of_pos h1 hw
  obtain ⟨q, hq, e⟩ := (h2 b hb).1 hbit
  have e1 : q / 64 ^ (f + 1) = p / 64 ^ (f + 1) := by
    rw [div_up q, e]; omega
  intro d x hx j hj
  obtain ⟨h3, h4⟩ := hx j hj
  refine ⟨h3, fun b hb => (h4 b hb).trans ⟨?_, ?_⟩⟩
  · rintro ⟨r, hr, er⟩
    by_cases c : r = p
    · refine ⟨q, hq, ?_⟩
      rw [← er, c, Nat.pow_add, ← Nat.div_div_eq_div_mul, ← Nat.div_div_eq_div_mul, e1]
    · exact ⟨r, by rw [setB, if_neg c]; exact hr, er⟩
  · rintro ⟨r, hr, er⟩
    refine ⟨r, ?_, er⟩
    by_cases c : r = p
    · rw [setB, if_pos c] at hr; cases hr
    · rw [setB, if_neg c] at hr; exact hr
/-- None is left in the word: the mark above goes, too. -/
theorem clear_on {y : Nat → Nat} (h : GoodF n (setB m p false) f y) (hp : p < n) (hw : y (p / 64 ^ (f + 1)) = 0) : Alone m p (f + 1) := by
  intro q hq e
  obtain ⟨h1, h2⟩ := h _ (wn_lt hp f)
  have h3 := (h2 (q / 64 ^ f % 64) (Nat.mod_lt _ (by decide))).2 ⟨q, hq, by
    rw [← e, div_up]; omega⟩
  rw [hw, Nat.zero_testBit] at h3
  cases h3

/-- From where one asks, told by a floor. -/
def Asks (m : Nat → Bool) (fr : Int) (f i : Nat) : Prop := ∀ q, m q = true → (fr ≤ (q : Int) ↔ i ≤ q / 64 ^ f)
theorem asks_zero {fr : Int} {i : Nat} (h : (i : Int) = max fr 0) : Asks m fr 0 i := by
  intro q _
  rw [Nat.pow_zero, Nat.div_one]
  omega
/-- The least marked place that is not below a number. -/
def IsNext (m : Nat → Bool) (fr : Int) : Option Nat → Prop
  | some i => m i = true ∧ fr ≤ (i : Int) ∧ ∀ j, m j = true → fr ≤ (j : Int) → i ≤ j
  | none => ∀ j, m j = true → ¬ fr ≤ (j : Int)
theorem next_one {fr : Int} {a b : Option Nat} (h : IsNext m fr a) (k : IsNext m fr b) : a = b := by
  match a, b, h, k with
  | none, none, _, _ => rfl
  | none, some j, h, k => exact absurd k.2.1 (h j k.1)
  | some i, none, h, k => exact absurd h.2.1 (k i h.1)
  | some i, some j, h, k =>
    have h1 := h.2.2 j k.1 k.2.1
    have h2 := k.2.2 i h.1 h.2.1
    rw [show i = j by omega]
def restW (x : Nat → Nat) (i : Nat) : Nat := x (i / 64) &&& (18446744073709551615 - (2 ^ (i % 64) - 1))
theorem rest_lt (h : GoodF n m f x) {i : Nat} (hi : i / 64 < wn n f) : restW x i < 18446744073709551616 := Nat.lt_of_le_of_lt Nat.and_le_left (h _ hi).1
theorem rest_bit (h : GoodF n m f x) {i : Nat} (hi : i / 64 < wn n f) {b : Nat} (hb : b < 64) : (restW x i).testBit b = true ↔ Fl m f (64 * (i / 64) + b) ∧ i % 64 ≤ b := by
  have h1 : 2 ^ (i % 64) - 1 < 18446744073709551616 := Nat.lt_of_le_of_lt (Nat.sub_le _ _) (pow_lt64 i)
  rw [restW, Nat.testBit_and, not_bit (k := 0) hb h1, Nat.testBit_two_pow_sub_one, ← (h _ hi).2 b hb]
  simp
theorem asks_none {fr : Int} {i : Nat} (hm : ∀ q, m q = true → q < n) (ha : Asks m fr f i) (hi : wn n f ≤ i / 64) : IsNext m fr none := by
  intro q hq c
  have h1 := (ha q hq).1 c
  have h2 := wn_lt (hm q hq) f
  rw [div_up] at h2
  omega
theorem asks_up {fr : Int} {i : Nat} (h : GoodF n m f x) (ha : Asks m fr f i) (hi : i / 64 < wn n f) (hr : restW x i = 0) : Asks m fr (f + 1) (i / 64 + 1) := by
  intro q hq
  rw [ha q hq, div_up]
  constructor
  · intro h1
    apply Classical.byContradiction
    intro c
    have e : q / 64 ^ f / 64 = i / 64 := by omega
    have h2 := (rest_bit h hi (b := q / 64 ^ f % 64) (Nat.mod_lt _ (by decide))).2 ⟨⟨q, hq, by omega⟩, by omega⟩
    rw [hr, Nat.zero_testBit] at h2
    cases h2
  · intro h1
    omega
theorem asks_end {fr : Int} {i : Nat} (hm : ∀ q, m q = true → q < n) (ha : Asks m fr (f + 1) i) (h1 : wn n f ≤ 1) (hi : 1 ≤ i) : IsNext m fr none := by
  intro q hq c
  have h2 := (ha q hq).1 c
  have h3 := wn_lt (hm q hq) f
  omega
/-- The cell that is told: marked, not below i, none between. -/
theorem asks_here {fr : Int} {i : Nat} (h : GoodF n m f x) (ha : Asks m fr f i) (hi : i / 64 < wn n f) (hr : restW x i ≠ 0) :
    Fl m f (64 * (i / 64) + Lib.ctz 64 (restW x i)) ∧ i ≤ 64 * (i / 64) + Lib.ctz 64 (restW x i) ∧ ∀ q, m q = true → fr ≤ (q : Int) → 64 * (i / 64) + Lib.ctz 64 (restW x i) ≤ q / 64 ^ f := by
  obtain ⟨c1, c2, c3⟩ := ctz_bit hr (rest_lt h hi)
  generalize Lib.ctz 64 (restW x i) = t at *
  obtain ⟨h1, h2⟩ := (rest_bit h hi c1).1 c2
  refine ⟨h1, by omega, fun q hq hf => ?_⟩
  have h3 := (ha q hq).1 hf
  apply Classical.byContradiction
  intro c
  have e : q / 64 ^ f / 64 = i / 64 := by omega
  have h4 := (rest_bit h hi (b := q / 64 ^ f % 64) (Nat.mod_lt _ (by decide))).2 ⟨⟨q, hq, by omega⟩, by omega⟩
  rw [c3 _ (by omega)] at h4
  cases h4
/-- On the way down: c is the floor's cell, cur the lowest one below it. -/
structure Down (m : Nat → Bool) (top c f cur : Nat) : Prop where
  fl : Fl m f cur
  low : ∀ q, m q = true → q / 64 ^ top = c → cur ≤ q / 64 ^ f
  up : f ≤ top
  in_ : cur / 64 ^ (top - f) = c
theorem down_init {c : Nat} (h : Fl m f c) : Down m f c f c := ⟨h, fun q _ e => by rw [e]; exact Nat.le_refl _, Nat.le_refl _, by simp⟩
theorem down_step {top c cur : Nat} (h : GoodF n m f x) (hm : ∀ q, m q = true → q < n) (d : Down m top c (f + 1) cur) : cur < wn n f ∧ x cur ≠ 0 ∧ x cur < 18446744073709551616 ∧ Down m top c f (cur * 64 + Lib.ctz 64 (x cur)) := by
  obtain ⟨q, hq, e⟩ := d.fl
  have hc : cur < wn n f := e ▸ wn_lt (hm q hq) f
  obtain ⟨h1, h2⟩ := h cur hc
  have h3 := (h2 (q / 64 ^ f % 64) (Nat.mod_lt _ (by decide))).2 ⟨q, hq, by rw [← e, div_up]; omega⟩
  have h0 : x cur ≠ 0 := by
    intro z
    rw [z, Nat.zero_testBit] at h3
    cases h3
  obtain ⟨c1, c2, c3⟩ := ctz_bit h0 h1
  generalize Lib.ctz 64 (x cur) = t at *
  have h4 := (h2 t c1).1 c2
  refine ⟨hc, h0, h1, ?_, fun r hr er => ?_, Nat.le_of_succ_le d.up, ?_⟩
  · rw [Nat.mul_comm]; exact h4
  · have h5 := d.low r hr er
    rw [div_up] at h5
    apply Classical.byContradiction
    intro cc
    have e2 : r / 64 ^ f / 64 = cur := by omega
    have h6 := (h2 (r / 64 ^ f % 64) (Nat.mod_lt _ (by decide))).2 ⟨r, hr, by omega⟩
    rw [c3 _ (by omega)] at h6
    cases h6
  · have e3 : top - f = top - (f + 1) + 1 := by have := d.up; omega
    have := d.in_
    rw [e3, Nat.pow_succ, Nat.mul_comm (64 ^ _) 64, ← Nat.div_div_eq_div_mul, show (cur * 64 + t) / 64 = cur by omega]
    exact this
theorem down_end {top c cur : Nat} {fr : Int} {i : Nat} (d : Down m top c 0 cur) (ha : Asks m fr top i) (hi : i ≤ c) (hl : ∀ q, m q = true → fr ≤ (q : Int) → c ≤ q / 64 ^ top) : IsNext m fr (some cur) := by
  have h1 := fl_zero.1 d.fl
  have h2 := d.in_
  rw [Nat.sub_zero] at h2
  refine ⟨h1, (ha cur h1).2 (by omega), fun j hj hf => ?_⟩
  have h3 := hl j hj hf
  by_cases e : j / 64 ^ top = c
  · have := d.low j hj e
    simpa using this
  · apply Classical.byContradiction
    intro cc
    have : j / 64 ^ top ≤ cur / 64 ^ top := Nat.div_le_div_right (by omega)
    omega
theorem good_has (h : GoodF n m 0 x) (hp : p < n) : (x (p / 64)).testBit (p % 64) = m p := by
  have h1 := (h (p / 64) (by simpa using wn_lt hp 0)).2 (p % 64) (Nat.mod_lt _ (by decide))
  rw [fl_zero, show 64 * (p / 64) + p % 64 = p by omega] at h1
  cases c : m p
  · rw [c] at h1
    cases c2 : (x (p / 64)).testBit (p % 64)
    · rfl
    · rw [c2] at h1; exact absurd (h1.1 rfl) (by simp)
  · exact h1.2 c
end
theorem and_pow_ne {x t : Nat} : (x &&& 2 ^ t ≠ 0) ↔ x.testBit t = true := by
  constructor
  · intro h
    apply Classical.byContradiction
    intro c
    apply h
    apply Nat.eq_of_testBit_eq
    intro i
    rw [Nat.testBit_and, Nat.testBit_two_pow, Nat.zero_testBit]
    by_cases e : t = i
    · subst e
      simp at c
      simp [c]
    · simp [e]
  · intro h e
    have h1 : (x &&& 2 ^ t).testBit t = true := by
      rw [Nat.testBit_and, Nat.testBit_two_pow, h]; simp
    rw [e, Nat.zero_testBit] at h1
    cases h1

end Go.Proofs.YtkiibobpejoaeaaDoor
