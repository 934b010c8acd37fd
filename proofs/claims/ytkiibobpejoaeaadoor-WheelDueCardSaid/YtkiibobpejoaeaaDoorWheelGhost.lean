/-
  A wheel, of no program: what waits, in the order in which it was put, where it stands; what is due.
-/
import Derived.Test.YtkiibobpejoaeaaDoorBase
namespace Go.Proofs.YtkiibobpejoaeaaDoor
set_option linter.unusedVariables false

/-- A thing that waits: its number, the slot of its instant, where it stands. -/
structure Th where
  v : Nat
  slot : Nat
  at_ : Nat
structure Wg where
  slots : Nat
  width : Nat
  room : Nat
  cur : Nat
  l : List Th
  due : List Nat
  /-- How many were ever put. -/
  n : Nat
/-- The last slot that there is, from a cursor on. -/
def lastW (slots cur : Nat) : Nat := min (cur + (slots - 1)) 18446744073709551615
def standW (slots cur s : Nat) : Nat := if s < cur then cur else if lastW slots cur < s then lastW slots cur else s
def slotW (at_ width : Nat) : Nat := (at_ + (width - 1)) / width
def beginW (s width : Nat) : Nat := min (s * width) 18446744073709551615
/-- In among those that came later: ahead of the first one of no earlier slot. -/
def insT (x : Th) : List Th → List Th
  | [] => [x]
  | y :: l => if x.slot ≤ y.slot then x :: y :: l else y :: insT x l
/-- By their slots; of the same slot as they came. -/
def sortT : List Th → List Th
  | [] => []
  | x :: l => insT x (sortT l)
theorem insT_len (x : Th) : ∀ l : List Th, (insT x l).length = l.length + 1
  | [] => rfl
  | y :: l => by
    unfold insT
    split
    · rfl
    · simp [insT_len x l]
theorem sortT_len : ∀ l : List Th, (sortT l).length = l.length
  | [] => rfl
  | x :: l => by rw [sortT, insT_len, sortT_len l]; rfl
theorem insT_mem {x z : Th} : ∀ {l : List Th}, z ∈ insT x l ↔ z = x ∨ z ∈ l
  | [] => by simp [insT]
  | y :: l => by
    unfold insT
    split
    · simp
    · simp only [List.mem_cons, insT_mem (l := l)]
      constructor
      · rintro (h | h | h)
        · exact .inr (.inl h)
        · exact .inl h
        · exact .inr (.inr h)
      · rintro (h | h | h)
        · exact .inr (.inl h)
        · exact .inl h
        · exact .inr (.inr h)
theorem sortT_mem {z : Th} : ∀ {l : List Th}, z ∈ sortT l ↔ z ∈ l
  | [] => by simp [sortT]
  | x :: l => by rw [sortT, insT_mem, sortT_mem (l := l), List.mem_cons]
theorem insT_sorted {x : Th} : ∀ {l : List Th}, l.Pairwise (fun a b => a.slot ≤ b.slot) → (insT x l).Pairwise (fun a b => a.slot ≤ b.slot)
  | [], _ => by simp [insT]
  | y :: l, h => by
    have h1 := List.pairwise_cons.1 h
    unfold insT
    split
    · rename_i c
      exact List.pairwise_cons.2 ⟨fun z hz => by
        rcases List.mem_cons.1 hz with rfl | hz
        · exact c
        · exact Nat.le_trans c (h1.1 z hz), h⟩
    · rename_i c
      exact List.pairwise_cons.2 ⟨fun z hz => by
        rcases insT_mem.1 hz with rfl | hz
        · omega
        · exact h1.1 z hz, insT_sorted h1.2⟩
theorem sortT_sorted : ∀ (l : List Th), (sortT l).Pairwise (fun a b => a.slot ≤ b.slot)
  | [] => List.Pairwise.nil
  | x :: l => insT_sorted (sortT_sorted l)
namespace Wg
def put (g : Wg) (v s : Nat) : Wg := if g.l.length + g.due.length < g.room then { g with l := g.l ++ [⟨v, s, standW g.slots g.cur s⟩], n := g.n + 1 } else g
def putE (g : Wg) : Nat := if g.l.length + g.due.length < g.room then 0 else 4
def to (g : Wg) (now : Nat) : Nat := max g.cur (now / g.width)
def ripe (g : Wg) (now : Nat) : List Th := g.l.filter fun x => decide (x.slot ≤ g.to now)
def rest (g : Wg) (now : Nat) : List Th := (g.l.filter fun x => !decide (x.slot ≤ g.to now)).map fun x => if x.at_ ≤ g.to now then { x with at_ := standW g.slots (g.to now) x.slot } else x
def adv (g : Wg) (now : Nat) : Wg := { g with cur := g.to now, l := g.rest now, due := g.due ++ (sortT (g.ripe now)).map Th.v }
def took (g : Wg) : Wg := { g with due := g.due.tail }
/-- How many stand in each slot, from the cursor on. -/
def held (g : Wg) : List Nat := (List.range g.slots).map fun i => g.l.countP fun x => decide (x.at_ = g.cur + i)
def next (g : Wg) : Option Nat := (g.l.map Th.at_).min?
structure Ok (g : Wg) : Prop where
  s1 : 2 ≤ g.slots
  s2 : g.slots ≤ 4096
  w1 : 1 ≤ g.width
  w2 : g.width ≤ 1099511627776
  r1 : 1 ≤ g.room
  r2 : g.room ≤ 65536
  cur : g.cur < 18446744073709551616
  full : g.l.length + g.due.length ≤ g.room
  word : ∀ x, x ∈ g.l → x.v < 18446744073709551616 ∧ x.slot < 18446744073709551616
  dueW : ∀ v, v ∈ g.due → v < 18446744073709551616
  low : ∀ x, x ∈ g.l → g.cur ≤ x.at_ ∧ x.at_ ≤ lastW g.slots g.cur
  near : ∀ x, x ∈ g.l → x.slot < x.at_ → x.at_ = g.cur
end Wg
theorem stand_in {slots cur s : Nat} (hc : cur < 18446744073709551616) : cur ≤ standW slots cur s ∧ standW slots cur s ≤ lastW slots cur := by
  unfold standW lastW
  split
  · omega
  · split <;> omega
theorem stand_near {slots cur s : Nat} : s < standW slots cur s → standW slots cur s = cur := by
  unfold standW
  split
  · intro _; rfl
  · split <;> omega
theorem ripe_rest (g : Wg) (now : Nat) : (g.ripe now).length + (g.rest now).length = g.l.length := by
  unfold Wg.ripe Wg.rest
  rw [List.length_map]
  induction g.l with
  | nil => rfl
  | cons x l ih =>
    by_cases c : x.slot ≤ g.to now
    · rw [List.filter_cons_of_pos (by simpa using c), List.filter_cons_of_neg (by simpa using c)]
      simp only [List.length_cons]
      omega
    · rw [List.filter_cons_of_neg (by simpa using c), List.filter_cons_of_pos (by simpa using c)]
      simp only [List.length_cons]
      omega
theorem Wg.Ok.put {g : Wg} (h : g.Ok) {v s : Nat} (hv : v < 18446744073709551616) (hs : s < 18446744073709551616) : (g.put v s).Ok := by
  unfold Wg.put
  split
  · rename_i c
    refine ⟨h.s1, h.s2, h.w1, h.w2, h.r1, h.r2, h.cur, by simp only [List.length_append, List.length_cons, List.length_nil]; omega, fun x hx => ?_, h.dueW, fun x hx => ?_, fun x hx hlt => ?_⟩
    · rcases List.mem_append.1 hx with hx | hx
      · exact h.word x hx
      · rw [List.mem_singleton.1 hx]; exact ⟨hv, hs⟩
    · rcases List.mem_append.1 hx with hx | hx
      · exact h.low x hx
      · rw [List.mem_singleton.1 hx]; exact stand_in h.cur
    · rcases List.mem_append.1 hx with hx | hx
      · exact h.near x hx hlt
      · rw [List.mem_singleton.1 hx] at hlt ⊢; exact stand_near hlt
  · exact h
theorem Wg.Ok.took {g : Wg} (h : g.Ok) : g.took.Ok :=
  ⟨h.s1, h.s2, h.w1, h.w2, h.r1, h.r2, h.cur, by have := h.full; simp only [Wg.took, List.length_tail]; omega, h.word, fun v hv => h.dueW v (List.mem_of_mem_tail hv), h.low, h.near⟩
theorem lastW_mono {slots a b : Nat} (h : a ≤ b) : lastW slots a ≤ lastW slots b := by unfold lastW; omega
theorem Wg.Ok.adv {g : Wg} (h : g.Ok) {now : Nat} (hn : now < 18446744073709551616) : (g.adv now).Ok := by
  have ht : g.to now < 18446744073709551616 := by
    have h1 := h.cur
    have h2 := Nat.div_le_self now g.width
    unfold Wg.to
    omega
  have hle : g.cur ≤ g.to now := Nat.le_max_left _ _
  have hr := ripe_rest g now
  have key : ∀ x, x ∈ g.rest now → ∃ y, y ∈ g.l ∧ ¬ y.slot ≤ g.to now ∧ x = if y.at_ ≤ g.to now then { y with at_ := standW g.slots (g.to now) y.slot } else y := fun x hx => by
    obtain ⟨y, hy, rfl⟩ := List.mem_map.1 hx
    obtain ⟨h1, h2⟩ := List.mem_filter.1 hy
    exact ⟨y, h1, by simpa using h2, rfl⟩
  refine ⟨h.s1, h.s2, h.w1, h.w2, h.r1, h.r2, ht, ?_, fun x hx => ?_, fun v hv => ?_, fun x hx => ?_, fun x hx hlt => ?_⟩
  · show (g.rest now).length + (g.due ++ (sortT (g.ripe now)).map Th.v).length ≤ g.room
    rw [List.length_append, List.length_map, sortT_len]
    have := h.full
    omega
  · obtain ⟨y, hy, hs, rfl⟩ := key x hx
    have := h.word y hy
    split <;> exact this
  · rcases List.mem_append.1 hv with hv | hv
    · exact h.dueW v hv
    · obtain ⟨y, hy, rfl⟩ := List.mem_map.1 hv
      exact (h.word y (List.mem_filter.1 (sortT_mem.1 hy)).1).1
  · obtain ⟨y, hy, hs, rfl⟩ := key x hx
    have := h.low y hy
    split
    · exact stand_in ht
    · rename_i c
      exact ⟨by show g.to now ≤ y.at_; omega, Nat.le_trans this.2 (lastW_mono hle)⟩
  · obtain ⟨y, hy, hs, rfl⟩ := key x hx
    split at hlt
    · rename_i c
      simp only [if_pos c] at hlt ⊢
      exact stand_near hlt
    · rename_i c
      simp only [if_neg c] at hlt ⊢
      have h1 := h.near y hy hlt
      have h2 : g.cur ≤ g.to now := hle
      omega

end Go.Proofs.YtkiibobpejoaeaaDoor
