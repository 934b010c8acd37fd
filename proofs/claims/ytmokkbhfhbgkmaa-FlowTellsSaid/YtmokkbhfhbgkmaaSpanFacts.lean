/-
  Plain numbers, no program in sight: what follows for times, bytes, rates and slots.
-/
import Derived.Test.YtmokkbhfhbgkmaaSpan
namespace Go.Proofs.Ytmokkbhfhbgkmaa.Num
set_option linter.unusedVariables false

theorem time_pos {n r : Int} (h : r ≠ 0) : time n r = up n 1000000000 r := by unfold time; rw [if_neg h]
theorem bytes_pos {n r : Int} (h : r ≠ 0) : bytes n r = down n r 1000000000 := by unfold bytes; rw [if_neg h]

/-! ### SpanFaster -/
theorem time_mono {n m r : Int} (hn : Word n) (hr : Word r) (h : n ≤ m) : time n r ≤ time m r := by
  unfold time; split
  · omega
  · exact up_mono hn sec_word hr h (Int.le_refl _)
theorem bytes_mono {n m r : Int} (hn : Word n) (hr : Word r) (h : n ≤ m) : bytes n r ≤ bytes m r := by
  unfold bytes; split
  · omega
  · exact down_mono hn hr sec_word h (Int.le_refl _)
theorem time_anti {n a f : Int} (hn : Word n) (ha : 0 < a) (h : a ≤ f) : time n f ≤ time n a := by
  rw [time_pos (by omega), time_pos (by omega)]
  exact up_anti hn sec_word ha h
theorem bytes_rate {n a f : Int} (hn : Word n) (hf : Word f) (ha : 0 < a) (h : a ≤ f) : bytes n a ≤ bytes n f := by
  rw [bytes_pos (by omega), bytes_pos (by omega)]
  exact down_mono hn hf sec_word (Int.le_refl _) h
theorem time_none (n : Int) : time n 0 = 0 := by unfold time; rw [if_pos rfl]
theorem bytes_none (n : Int) : bytes n 0 = 18446744073709551615 := by unfold bytes; rw [if_pos rfl]
theorem lesser_comm (a b : Int) : lesser a b = lesser b a := by
  unfold lesser
  repeat' split
  all_goals omega
theorem time_lesser {n a b : Int} (hn : Word n) (ha : Word a) (hb : Word b) : time n (lesser a b) = max (time n a) (time n b) := by
  have h1 := (time_word hn ha).1
  have h2 := (time_word hn hb).1
  have h3 := ha.1
  have h4 := hb.1
  unfold lesser
  split
  · rename_i h; subst h; rw [time_none]; omega
  · split
    · rename_i h; subst h; rw [time_none]; omega
    · by_cases h : a ≤ b
      · have := time_anti hn (a := a) (f := b) (by omega) h
        rw [show min a b = a by omega]; omega
      · have := time_anti hn (a := b) (f := a) (by omega) (by omega)
        rw [show min a b = b by omega]; omega
theorem bytes_lesser {n a b : Int} (hn : Word n) (ha : Word a) (hb : Word b) : bytes n (lesser a b) = min (bytes n a) (bytes n b) := by
  have h1 := (bytes_word hn ha).2
  have h2 := (bytes_word hn hb).2
  have h3 := ha.1
  have h4 := hb.1
  unfold lesser
  split
  · rename_i h; subst h; rw [bytes_none]; omega
  · split
    · rename_i h; subst h; rw [bytes_none]; omega
    · by_cases h : a ≤ b
      · have := bytes_rate hn hb (a := a) (f := b) (by omega) h
        rw [show min a b = a by omega]; omega
      · have := bytes_rate hn ha (a := b) (f := a) (by omega) (by omega)
        rw [show min a b = b by omega]; omega

/-! ### SpanParts -/
theorem floor_parts {x y s : Int} (hs : 0 < s) : x / s + y / s ≤ (x + y) / s ∧ (x + y) / s ≤ x / s + y / s + 1 := by
  have a1 := (down_iff (n := x) hs).1 (Int.le_refl _)
  have a2 := (down_iff (n := y) hs).1 (Int.le_refl _)
  have b1 : ¬ x / s + 1 ≤ x / s := by omega
  rw [down_iff hs] at b1
  have b2 : ¬ y / s + 1 ≤ y / s := by omega
  rw [down_iff hs] at b2
  constructor
  · rw [down_iff hs, Int.add_mul]; omega
  · have h : ¬ x / s + y / s + 2 ≤ (x + y) / s := by
      rw [down_iff hs]
      rw [Int.add_mul] at *
      rw [Int.add_mul] at *
      omega
    omega
theorem ceil_parts {x y s : Int} (hs : 0 < s) : (x + y + (s - 1)) / s ≤ (x + (s - 1)) / s + (y + (s - 1)) / s ∧ (x + (s - 1)) / s + (y + (s - 1)) / s ≤ (x + y + (s - 1)) / s + 1 := by
  have a1 := (up_iff (n := x) hs).1 (Int.le_refl _)
  have a2 := (up_iff (n := y) hs).1 (Int.le_refl _)
  have a3 := (up_iff (n := x + y) hs).1 (Int.le_refl _)
  have b1 : ¬ (x + (s - 1)) / s ≤ (x + (s - 1)) / s - 1 := by omega
  rw [up_iff hs] at b1
  have b2 : ¬ (y + (s - 1)) / s ≤ (y + (s - 1)) / s - 1 := by omega
  rw [up_iff hs] at b2
  constructor
  · rw [up_iff hs, Int.add_mul]; omega
  · generalize (x + (s - 1)) / s = p at *
    generalize (y + (s - 1)) / s = q at *
    generalize (x + y + (s - 1)) / s = r at *
    apply Classical.byContradiction
    intro hh
    have h1 : (r + 2) * s ≤ (p + q) * s := Int.mul_le_mul_of_nonneg_right (by omega) (by omega)
    rw [Int.sub_mul] at b1 b2
    rw [Int.add_mul, Int.add_mul] at h1
    omega
theorem bytes_parts {a b r : Int} (ha : Word a) (hb : Word b) (hr : 0 < r) :
    add (bytes a r) (bytes b r) ≤ bytes (a + b) r ∧ bytes (a + b) r ≤ add (add (bytes a r) (bytes b r)) 1 := by
  have h0 : 0 ≤ a * r := Int.mul_nonneg ha.1 (by omega)
  have h1 : 0 ≤ b * r := Int.mul_nonneg hb.1 (by omega)
  obtain ⟨f1, f2⟩ := floor_parts (x := a * r) (y := b * r) (s := 1000000000) (by omega)
  rw [bytes_pos (by omega), bytes_pos (by omega), bytes_pos (by omega)]
  unfold down byc
  rw [if_neg (by omega), if_neg (by omega), if_neg (by omega), Int.add_mul]
  unfold add
  have g0 : 0 ≤ a * r / 1000000000 := by omega
  have g1 : 0 ≤ b * r / 1000000000 := by omega
  generalize a * r / 1000000000 = p at *
  generalize b * r / 1000000000 = q at *
  rw [kept_add g0 (kept_word g1).1, Int.add_comm p, kept_add g1 g0, kept_add (by omega) (by omega)]
  exact ⟨kept_mono (by omega), kept_mono (by omega)⟩
theorem time_parts {a b r : Int} (ha : Word a) (hb : Word b) (hr : 0 < r) :
    time (a + b) r ≤ add (time a r) (time b r) ∧ add (time a r) (time b r) ≤ add (time (a + b) r) 1 := by
  have h0 : 0 ≤ a * 1000000000 := Int.mul_nonneg ha.1 (by omega)
  have h1 : 0 ≤ b * 1000000000 := Int.mul_nonneg hb.1 (by omega)
  obtain ⟨f1, f2⟩ := ceil_parts (x := a * 1000000000) (y := b * 1000000000) (s := r) hr
  rw [time_pos (by omega), time_pos (by omega), time_pos (by omega)]
  unfold up byc
  rw [if_neg (by omega), if_neg (by omega), if_neg (by omega), Int.add_mul]
  unfold add
  have g0 : 0 ≤ (a * 1000000000 + (r - 1)) / r := Int.ediv_nonneg (by omega) (by omega)
  have g1 : 0 ≤ (b * 1000000000 + (r - 1)) / r := Int.ediv_nonneg (by omega) (by omega)
  have g2 : 0 ≤ (a * 1000000000 + b * 1000000000 + (r - 1)) / r := Int.ediv_nonneg (by omega) (by omega)
  generalize (a * 1000000000 + b * 1000000000 + (r - 1)) / r = u at *
  generalize (a * 1000000000 + (r - 1)) / r = p at *
  generalize (b * 1000000000 + (r - 1)) / r = q at *
  rw [kept_add g0 (kept_word g1).1, Int.add_comm p, kept_add g1 g0, kept_add g2 (by omega)]
  exact ⟨kept_mono (by omega), kept_mono (by omega)⟩

/-! ### Slots -/
theorem slot_eq {a w : Int} (ha : Word a) (hw : Word w) : slot a w = (a + (max w 1 - 1)) / max w 1 := by
  obtain ⟨h1, h2⟩ := ha
  obtain ⟨h3, h4⟩ := hw
  unfold slot up byc
  rw [if_neg (by omega), Int.mul_one]
  unfold kept
  rw [if_pos]
  by_cases h : max w 1 = 1
  · rw [h]; omega
  · rw [Int.ediv_lt_iff_lt_mul (by omega)]
    omega
theorem slot_mono {a b w : Int} (ha : Word a) (hw : Word w) (h : a ≤ b) : slot a w ≤ slot b w := up_mono ha one_word (max_word hw one_word) h (Int.le_refl _)
theorem slot_wider {a w v : Int} (ha : Word a) (hw : Word w) (h : max w 1 ≤ v) : slot a v ≤ slot a w := by
  have := hw.1
  unfold slot
  rw [show max v 1 = v by omega]
  exact up_anti ha one_word (by omega) h
theorem begin_mono {a b w : Int} (ha : Word a) (hw : Word w) (h : a ≤ b) : begin' a w ≤ begin' b w := mul_mono ha (max_word hw one_word) h (Int.le_refl _)
theorem begin_wider {a w v : Int} (ha : Word a) (hw : Word w) (hv : Word v) (h : max w 1 ≤ v) : begin' a w ≤ begin' a v := by
  unfold begin'
  rw [show max v 1 = v by omega]
  exact mul_mono ha hv (Int.le_refl _) h
theorem begin_ge {a w : Int} (ha : Word a) (hw : Word w) : a ≤ begin' (slot a w) w := by
  have h0 := hw.1
  rw [slot_eq ha hw]
  have h1 : a ≤ (a + (max w 1 - 1)) / max w 1 * max w 1 := (up_iff (by omega)).1 (Int.le_refl _)
  unfold begin' mul
  have h2 := kept_mono h1
  have h3 : kept a = a := by unfold kept; rw [if_pos ha.2]
  omega
theorem begin_near {a w : Int} (ha : Word a) (hw : Word w) (h : begin' (slot a w) w < 18446744073709551615) : begin' (slot a w) w - a < max w 1 := by
  have h0 := hw.1
  rw [slot_eq ha hw] at *
  have h1 : ¬ a ≤ ((a + (max w 1 - 1)) / max w 1 - 1) * max w 1 := by rw [← up_iff (by omega)]; omega
  rw [Int.sub_mul] at h1
  unfold begin' mul at *
  have := kept_le ((a + (max w 1 - 1)) / max w 1 * max w 1)
  omega
theorem begin_ahead {a w : Int} (ha : Word a) (hw : Word w) : begin' (slot a w - 1) w < a ∨ slot a w ≤ 0 := by
  have h0 := hw.1
  rw [slot_eq ha hw]
  have h1 : ¬ a ≤ ((a + (max w 1 - 1)) / max w 1 - 1) * max w 1 := by rw [← up_iff (by omega)]; omega
  left
  unfold begin' mul
  have := ha.2
  unfold kept
  split <;> omega
theorem slot_begin {a w : Int} (ha : Word a) (hw : Word w) (h : begin' (slot a w) w ≠ 18446744073709551615) : slot (begin' (slot a w) w) w = slot a w := by
  have h0 := hw.1
  have hs := slot_word ha hw
  have hb := begin_word hs hw
  rw [slot_eq hb hw]
  generalize slot a w = s at *
  have h1 : begin' s w = s * max w 1 := by
    unfold begin' mul at *
    have := kept_le (s * max w 1)
    unfold kept at *
    split
    · rfl
    · rename_i hh; rw [if_neg hh] at h; omega
  rw [h1, Int.add_comm, Int.add_mul_ediv_right _ _ (by omega), Int.ediv_eq_zero_of_lt (by omega) (by omega)]
  omega

end Go.Proofs.Ytmokkbhfhbgkmaa.Num
