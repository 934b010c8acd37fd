/-
  Things in slots that a cursor goes along, of no program: where each stands, how lifting, putting anew and sorting make of the one wheel the next one.
-/
import Derived.Test.YtkiibobpejoaeaaDoorWheelGhost
namespace Go.Proofs.YtkiibobpejoaeaaDoor
set_option linter.unusedVariables false

/-- A thing as the program keeps it: its number, the slot of its instant, its turn; and where it stands. -/
structure Tw where
  v : Nat
  slot : Nat
  turn : Nat
  at_ : Nat
instance : Inhabited Tw := ⟨⟨0, 0, 0, 0⟩⟩
def Tw.th (x : Tw) : Th := ⟨x.v, x.slot, x.at_⟩
/-- The slot, from a cursor on, whose things are at a place. -/
def slotAt (S cur p : Nat) : Nat := if p < cur % S then cur + (p + S - cur % S) else cur + (p - cur % S)
theorem add_mod_two {S cur d : Nat} (hd : d < S) : (cur + d) % S = if cur % S + d < S then cur % S + d else cur % S + d - S := by
  have h := Nat.div_add_mod cur S
  have h0 : cur % S < S := Nat.mod_lt _ (by omega)
  have e : cur + d = S * (cur / S) + (cur % S + d) := by omega
  rw [e, Nat.mul_add_mod]
  split
  · rename_i c
    exact Nat.mod_eq_of_lt c
  · rename_i c
    rw [Nat.mod_eq_sub_mod (by omega)]
    exact Nat.mod_eq_of_lt (by omega)
theorem slot_of {S cur a : Nat} (h1 : cur ≤ a) (h2 : a < cur + S) : a = slotAt S cur (a % S) := by
  have h := add_mod_two (S := S) (cur := cur) (d := a - cur) (by omega)
  rw [show cur + (a - cur) = a by omega] at h
  have h0 : cur % S < S := Nat.mod_lt _ (by omega)
  unfold slotAt
  by_cases c : cur % S + (a - cur) < S
  · rw [if_pos c] at h
    rw [h, if_neg (by omega)]
    omega
  · rw [if_neg c] at h
    rw [h, if_pos (by omega)]
    omega
theorem slotAt_in {S cur p : Nat} (hp : p < S) : cur ≤ slotAt S cur p ∧ slotAt S cur p < cur + S := by
  have h0 : cur % S < S := Nat.mod_lt _ (by omega)
  unfold slotAt
  split <;> omega
theorem slotAt_mod {S cur p : Nat} (hp : p < S) : slotAt S cur p % S = p := by
  have h0 : cur % S < S := Nat.mod_lt _ (by omega)
  unfold slotAt
  split
  · rw [add_mod_two (by omega), if_neg (by omega)]; omega
  · rw [add_mod_two (by omega), if_pos (by omega)]; omega

def updR (R : Nat → List Tw) (p : Nat) (l : List Tw) : Nat → List Tw := fun q => if q = p then l else R q
theorem updR_at (R : Nat → List Tw) (p : Nat) (l : List Tw) : updR R p l p = l := if_pos rfl
theorem updR_ne {R : Nat → List Tw} {p q : Nat} {l : List Tw} (h : q ≠ p) : updR R p l q = R q := if_neg h
/-- All things, place by place. -/
def flatAll (S : Nat) (R : Nat → List Tw) : List Tw := (List.range S).flatMap R
theorem flat_succ (S : Nat) (R : Nat → List Tw) : flatAll (S + 1) R = flatAll S R ++ R S := by
  unfold flatAll
  rw [List.range_succ, List.flatMap_append]
  simp
theorem flat_congr {R R' : Nat → List Tw} : ∀ {S : Nat}, (∀ p, p < S → R p = R' p) → flatAll S R = flatAll S R'
  | 0, _ => rfl
  | S + 1, h => by rw [flat_succ, flat_succ, flat_congr (fun p hp => h p (by omega)), h S (by omega)]
theorem flat_split {R : Nat → List Tw} {p : Nat} : ∀ {S : Nat}, p < S → ∃ A B, flatAll S R = A ++ R p ++ B ∧ ∀ l, flatAll S (updR R p l) = A ++ l ++ B
  | 0, h => absurd h (by omega)
  | S + 1, h => by
    by_cases c : p = S
    · subst c
      refine ⟨flatAll p R, [], by rw [flat_succ]; simp, fun l => ?_⟩
      rw [flat_succ, updR_at, flat_congr (fun q hq => updR_ne (show q ≠ p by omega))]
      simp
    · obtain ⟨A, B, e1, e2⟩ := flat_split (R := R) (p := p) (S := S) (by omega)
      refine ⟨A, B ++ R S, by rw [flat_succ, e1]; simp, fun l => ?_⟩
      rw [flat_succ, e2, updR_ne (fun e => c e.symm)]
      simp
theorem flat_mem {R : Nat → List Tw} {S : Nat} {x : Tw} : x ∈ flatAll S R ↔ ∃ p, p < S ∧ x ∈ R p := by
  simp [flatAll]
theorem flat_add {R : Nat → List Tw} {S p : Nat} (hp : p < S) (x : Tw) : (flatAll S (updR R p (R p ++ [x]))).Perm (flatAll S R ++ [x]) := by
  obtain ⟨A, B, e1, e2⟩ := flat_split (R := R) hp
  rw [e1, e2]
  have h : (A ++ (R p ++ [x]) ++ B).Perm (A ++ R p ++ B ++ [x]) := by
    have : A ++ (R p ++ [x]) ++ B = (A ++ R p) ++ ([x] ++ B) := by simp
    rw [this, List.append_assoc (A ++ R p) B [x]]
    exact List.Perm.append_left _ List.perm_append_comm
  exact h
theorem flat_out {R : Nat → List Tw} {S p : Nat} (hp : p < S) : (R p ++ flatAll S (updR R p [])).Perm (flatAll S R) := by
  obtain ⟨A, B, e1, e2⟩ := flat_split (R := R) hp
  rw [e1, e2, List.append_nil]
  have : R p ++ (A ++ B) = (R p ++ A) ++ B := by simp
  rw [this]
  exact List.Perm.append_right _ List.perm_append_comm
/-- Each thing stands at the place of its slot, from the cursor on. -/
def GoodR (S cur : Nat) (R : Nat → List Tw) : Prop := ∀ p, p < S → ∀ x, x ∈ R p → cur ≤ x.at_ ∧ x.at_ ≤ lastW S cur ∧ x.at_ % S = p
theorem GoodR.at_ {S cur : Nat} {R : Nat → List Tw} (h : GoodR S cur R) (hS : 2 ≤ S) {p : Nat} (hp : p < S) {x : Tw} (hx : x ∈ R p) : x.at_ = slotAt S cur p := by
  obtain ⟨h1, h2, h3⟩ := h p hp x hx
  have := slot_of (S := S) h1 (by unfold lastW at h2; omega)
  rwa [h3] at this
theorem GoodR.upd {S cur : Nat} {R : Nat → List Tw} (h : GoodR S cur R) {p : Nat} {l : List Tw} (hl : ∀ x, x ∈ l → cur ≤ x.at_ ∧ x.at_ ≤ lastW S cur ∧ x.at_ % S = p) : GoodR S cur (updR R p l) := by
  intro q hq x hx
  by_cases c : q = p
  · subst c
    rw [updR_at] at hx
    exact hl x hx
  · rw [updR_ne c] at hx
    exact h q hq x hx
/-- The first slot in which one stands. -/
def IsFirst (S cur : Nat) (R : Nat → List Tw) : Option Nat → Prop
  | some s => ∃ p, p < S ∧ R p ≠ [] ∧ s = slotAt S cur p ∧ ∀ q, q < S → R q ≠ [] → s ≤ slotAt S cur q
  | none => ∀ p, p < S → R p = []

/-- Where a thing would stand, if it were put at a cursor. -/
def Tw.stand (x : Tw) (S cur : Nat) : Tw := { x with at_ := standW S cur x.slot }
def lexT (a b : Tw) : Prop := a.slot < b.slot ∨ a.slot = b.slot ∧ a.turn < b.turn
def insW (x : Tw) : List Tw → List Tw
  | [] => [x]
  | y :: l => if x.slot ≤ y.slot then x :: y :: l else y :: insW x l
def sortW : List Tw → List Tw
  | [] => []
  | x :: l => insW x (sortW l)
theorem insW_map (x : Tw) : ∀ l : List Tw, (insW x l).map Tw.th = insT x.th (l.map Tw.th)
  | [] => rfl
  | y :: l => by
    have e := insW_map x l
    unfold insW
    rw [List.map_cons]
    unfold insT
    by_cases c : x.slot ≤ y.slot
    · rw [if_pos c, if_pos (show x.th.slot ≤ y.th.slot from c)]; rfl
    · rw [if_neg c, if_neg (show ¬ x.th.slot ≤ y.th.slot from c), List.map_cons, e]
theorem sortW_map : ∀ l : List Tw, (sortW l).map Tw.th = sortT (l.map Tw.th)
  | [] => rfl
  | x :: l => by rw [sortW, insW_map, sortW_map l]; rfl
theorem insW_perm (x : Tw) : ∀ l : List Tw, (insW x l).Perm (x :: l)
  | [] => .refl _
  | y :: l => by
    unfold insW
    split
    · exact .refl _
    · exact ((insW_perm x l).cons y).trans (.swap x y l)
theorem sortW_perm : ∀ l : List Tw, (sortW l).Perm l
  | [] => .refl _
  | x :: l => (insW_perm x _).trans ((sortW_perm l).cons x)
theorem lex_trans {a b c : Tw} (h : lexT a b) (k : lexT b c) : lexT a c := by
  unfold lexT at *
  omega
theorem insW_lex {x : Tw} : ∀ {l : List Tw}, l.Pairwise lexT → (∀ y, y ∈ l → x.turn < y.turn) → (insW x l).Pairwise lexT
  | [], _, _ => by simp [insW]
  | y :: l, h, hx => by
    have h1 := List.pairwise_cons.1 h
    unfold insW
    split
    · rename_i c
      have hy := hx y List.mem_cons_self
      have h2 : lexT x y := by unfold lexT; omega
      exact List.pairwise_cons.2 ⟨fun z hz => by
        rcases List.mem_cons.1 hz with rfl | hz
        · exact h2
        · exact lex_trans h2 (h1.1 z hz), h⟩
    · rename_i c
      have h2 : lexT y x := by unfold lexT; omega
      refine List.pairwise_cons.2 ⟨fun z hz => ?_, insW_lex h1.2 (fun z hz => hx z (List.mem_cons_of_mem _ hz))⟩
      rcases List.mem_cons.1 ((insW_perm x l).mem_iff.1 hz) with rfl | hz
      · exact h2
      · exact h1.1 z hz
theorem sortW_lex : ∀ {l : List Tw}, l.Pairwise (fun a b => a.turn < b.turn) → (sortW l).Pairwise lexT
  | [], _ => List.Pairwise.nil
  | x :: l, h => by
    have h1 := List.pairwise_cons.1 h
    exact insW_lex (sortW_lex h1.2) (fun y hy => h1.1 y ((sortW_perm l).mem_iff.1 hy))
theorem lex_one : ∀ {l l' : List Tw}, l.Pairwise lexT → l'.Pairwise lexT → l.Perm l' → l = l'
  | [], l', _, _, h => (List.nil_perm.1 h).symm
  | x :: l, l', h, k, hp => by
    match l', k, hp with
    | [], _, hp => exact absurd (List.perm_nil.1 hp) (by simp)
    | y :: l', k, hp =>
      have h1 := List.pairwise_cons.1 h
      have k1 := List.pairwise_cons.1 k
      have e : x = y := by
        rcases List.mem_cons.1 (hp.mem_iff.1 List.mem_cons_self) with e | hx
        · exact e
        · rcases List.mem_cons.1 (hp.mem_iff.2 List.mem_cons_self) with e | hy
          · exact e.symm
          · have a := h1.1 y hy
            have b := k1.1 x hx
            unfold lexT at a b
            omega
      subst e
      rw [lex_one h1.2 k1.2 (List.perm_cons _ |>.1 hp)]

/-- The document's wheel, and the program's things: what waits, with turns that rise; and at each place those that stand there. -/
structure RelW (g : Wg) (R : Nat → List Tw) (lt : List Tw) : Prop where
  map : lt.map Tw.th = g.l
  turns : lt.Pairwise fun a b => a.turn < b.turn
  below : ∀ x, x ∈ lt → x.turn < g.n
  perm : (flatAll g.slots R).Perm lt
  mod : ∀ p, p < g.slots → ∀ x, x ∈ R p → x.at_ % g.slots = p
theorem RelW.mem {g : Wg} {R : Nat → List Tw} {lt : List Tw} (h : RelW g R lt) {p : Nat} (hp : p < g.slots) {x : Tw} (hx : x ∈ R p) : x ∈ lt ∧ x.th ∈ g.l := by
  have h1 : x ∈ lt := h.perm.mem_iff.1 (flat_mem.2 ⟨p, hp, hx⟩)
  exact ⟨h1, by rw [← h.map]; exact List.mem_map_of_mem h1⟩
theorem RelW.good {g : Wg} {R : Nat → List Tw} {lt : List Tw} (h : RelW g R lt) (ok : g.Ok) : GoodR g.slots g.cur R := by
  intro p hp x hx
  have h1 := ok.low _ (h.mem hp hx).2
  exact ⟨h1.1, h1.2, h.mod p hp x hx⟩
theorem RelW.len {g : Wg} {R : Nat → List Tw} {lt : List Tw} (h : RelW g R lt) : (flatAll g.slots R).length = g.l.length := by
  rw [h.perm.length_eq, ← h.map, List.length_map]
theorem rel_new (slots width room : Nat) : RelW ⟨slots, width, room, 0, [], [], 0⟩ (fun _ => []) [] :=
  ⟨rfl, .nil, fun x hx => (by cases hx), by simp [flatAll], fun p _ x hx => (by cases hx)⟩
theorem rel_put {g : Wg} {R : Nat → List Tw} {lt : List Tw} (h : RelW g R lt) (ok : g.Ok) (v s : Nat) (hr : g.l.length + g.due.length < g.room) :
    RelW (g.put v s) (updR R (standW g.slots g.cur s % g.slots) (R (standW g.slots g.cur s % g.slots) ++ [⟨v, s, g.n, standW g.slots g.cur s⟩])) (lt ++ [⟨v, s, g.n, standW g.slots g.cur s⟩]) := by
  have hS : 0 < g.slots := by have := ok.s1; omega
  have hm : standW g.slots g.cur s % g.slots < g.slots := Nat.mod_lt _ hS
  unfold Wg.put
  rw [if_pos hr]
  refine ⟨by rw [List.map_append, h.map]; rfl, List.pairwise_append.2 ⟨h.turns, by simp, fun a ha b hb => ?_⟩, fun x hx => ?_, (flat_add hm _).trans (h.perm.append_right _), fun p hp x hx => ?_⟩
  · rw [List.mem_singleton.1 hb]; exact h.below a ha
  · rcases List.mem_append.1 hx with hx | hx
    · have := h.below x hx; show x.turn < g.n + 1; omega
    · rw [List.mem_singleton.1 hx]; show g.n < g.n + 1; omega
  · by_cases c : p = standW g.slots g.cur s % g.slots
    · subst c
      rw [updR_at] at hx
      rcases List.mem_append.1 hx with hx | hx
      · exact h.mod _ hp x hx
      · rw [List.mem_singleton.1 hx]
    · rw [updR_ne c] at hx
      exact h.mod p hp x hx
/-- Behind an Advance. -/
theorem rel_adv {g : Wg} {R R1 R2 : Nat → List Tw} {lt lifted due : List Tw} (h : RelW g R lt) (ok : g.Ok) {now : Nat}
    (h1 : (lifted ++ flatAll g.slots R1).Perm (flatAll g.slots R)) (h2 : ∀ x, x ∈ lifted → x.at_ ≤ g.to now) (h3 : ∀ x, x ∈ flatAll g.slots R1 → g.to now < x.at_)
    (h4 : (flatAll g.slots R2).Perm (flatAll g.slots R1 ++ (lifted.filter fun x => !decide (x.slot ≤ g.to now)).map fun x => x.stand g.slots (g.to now)))
    (h5 : ∀ p, p < g.slots → ∀ x, x ∈ R2 p → x.at_ % g.slots = p)
    (h6 : due.Perm (lifted.filter fun x => decide (x.slot ≤ g.to now))) (h7 : due.Pairwise fun a b => ¬ lexT b a) :
    due.map Tw.v = (sortT (g.ripe now)).map Th.v ∧ ∃ lt', RelW (g.adv now) R2 lt' := by
  have hp := h1.trans h.perm
  have hin : ∀ x, x ∈ lt → x.th ∈ g.l := fun x hx => by rw [← h.map]; exact List.mem_map_of_mem hx
  have hcur : g.cur ≤ g.to now := Nat.le_max_left _ _
  have hfar : ∀ x, x ∈ flatAll g.slots R1 → ¬ x.slot ≤ g.to now := fun x hx hs => by
    have k1 := h3 x hx
    have k2 : x ∈ lt := hp.mem_iff.1 (List.mem_append.2 (.inr hx))
    have k3 := ok.near _ (hin x k2) (show x.slot < x.at_ by omega)
    have k4 : x.at_ = g.cur := k3
    omega
  have e1 : (flatAll g.slots R1).filter (fun x => decide (x.slot ≤ g.to now)) = [] := List.filter_eq_nil_iff.2 fun x hx => by simpa using hfar x hx
  have e2 : (flatAll g.slots R1).filter (fun x => !decide (x.slot ≤ g.to now)) = flatAll g.slots R1 := List.filter_eq_self.2 fun x hx => by simpa using hfar x hx
  have hd : due.Perm (lt.filter fun x => decide (x.slot ≤ g.to now)) := by
    refine h6.trans ?_
    have := hp.filter (fun x => decide (x.slot ≤ g.to now))
    rw [List.filter_append, e1, List.append_nil] at this
    exact this
  have hripe : g.ripe now = (lt.filter fun x => decide (x.slot ≤ g.to now)).map Tw.th := by
    unfold Wg.ripe
    rw [← h.map, List.filter_map]
    rfl
  have htl : (lt.filter fun x => decide (x.slot ≤ g.to now)).Pairwise fun a b => a.turn < b.turn := h.turns.filter _
  have hne : ∀ a b : Tw, a ∈ lt → b ∈ lt → a.turn = b.turn → a = b := by
    have : ∀ l : List Tw, l.Pairwise (fun a b => a.turn < b.turn) → ∀ a b : Tw, a ∈ l → b ∈ l → a.turn = b.turn → a = b := by
      intro l
      induction l with
      | nil => intro _ a b ha; cases ha
      | cons x l ih =>
        intro hl a b ha hb e
        have k := List.pairwise_cons.1 hl
        rcases List.mem_cons.1 ha with ea | ha
        · rcases List.mem_cons.1 hb with eb | hb
          · rw [ea, eb]
          · have := k.1 b hb; rw [ea] at e; omega
        · rcases List.mem_cons.1 hb with eb | hb
          · have := k.1 a ha; rw [eb] at e; omega
          · exact ih k.2 a b ha hb e
    exact this lt h.turns
  have hnd : (lt.filter fun x => decide (x.slot ≤ g.to now)).Nodup := htl.imp fun {a b} hab e => by subst e; omega
  have hdn : due.Nodup := hd.nodup_iff.2 hnd
  have hdl : due.Pairwise lexT := by
    refine (h7.and hdn).imp_of_mem fun {a b} ha hb hab => ?_
    have ka : a ∈ lt := (List.mem_filter.1 (hd.mem_iff.1 ha)).1
    have kb : b ∈ lt := (List.mem_filter.1 (hd.mem_iff.1 hb)).1
    have k : ¬ a.turn = b.turn := fun e => hab.2 (hne a b ka kb e)
    have k2 := hab.1
    unfold lexT at *
    omega
  have hsame : due = sortW (lt.filter fun x => decide (x.slot ≤ g.to now)) := lex_one hdl (sortW_lex htl) (hd.trans (sortW_perm _).symm)
  refine ⟨?_, (lt.filter fun x => !decide (x.slot ≤ g.to now)).map (fun x => if x.at_ ≤ g.to now then x.stand g.slots (g.to now) else x), ?_, ?_, ?_, ?_, h5⟩
  · rw [hsame, hripe, ← sortW_map, List.map_map]
    rfl
  · show _ = g.rest now
    unfold Wg.rest
    rw [← h.map, List.filter_map, List.map_map, List.map_map]
    refine List.map_congr_left fun x hx => ?_
    show (if x.at_ ≤ g.to now then x.stand g.slots (g.to now) else x).th = if x.th.at_ ≤ g.to now then _ else _
    show (if x.at_ ≤ g.to now then x.stand g.slots (g.to now) else x).th = if x.at_ ≤ g.to now then _ else _
    split <;> rfl
  · refine List.pairwise_map.2 ((h.turns.filter _).imp fun {a b} hab => ?_)
    have e : ∀ x : Tw, (if x.at_ ≤ g.to now then x.stand g.slots (g.to now) else x).turn = x.turn := fun x => by split <;> rfl
    rw [e, e]
    exact hab
  · intro x hx
    obtain ⟨y, hy, rfl⟩ := List.mem_map.1 hx
    have e : (if y.at_ ≤ g.to now then y.stand g.slots (g.to now) else y).turn = y.turn := by split <;> rfl
    rw [e]
    exact h.below y (List.mem_filter.1 hy).1
  · show (flatAll g.slots R2).Perm _
    refine h4.trans ?_
    have k1 := (hp.filter (fun x => !decide (x.slot ≤ g.to now))).map (fun x => if x.at_ ≤ g.to now then x.stand g.slots (g.to now) else x)
    rw [List.filter_append, e2, List.map_append] at k1
    have k2 : (flatAll g.slots R1).map (fun x => if x.at_ ≤ g.to now then x.stand g.slots (g.to now) else x) = flatAll g.slots R1 := by
      have : (flatAll g.slots R1).map (fun x => if x.at_ ≤ g.to now then x.stand g.slots (g.to now) else x) = (flatAll g.slots R1).map id := List.map_congr_left fun x hx => if_neg (by have := h3 x hx; omega)
      rw [this, List.map_id]
    have k3 : (lifted.filter fun x => !decide (x.slot ≤ g.to now)).map (fun x => if x.at_ ≤ g.to now then x.stand g.slots (g.to now) else x) = (lifted.filter fun x => !decide (x.slot ≤ g.to now)).map fun x => x.stand g.slots (g.to now) :=
      List.map_congr_left fun x hx => if_pos (h2 x (List.mem_filter.1 hx).1)
    rw [k2, k3] at k1
    exact List.perm_append_comm.trans k1
/-- How many stand at a place. -/
theorem rel_held {g : Wg} {R : Nat → List Tw} {lt : List Tw} (h : RelW g R lt) (ok : g.Ok) {p : Nat} (hp : p < g.slots) : (R p).length = g.l.countP fun x => decide (x.at_ = slotAt g.slots g.cur p) := by
  have hg := h.good ok
  rw [← h.map, List.countP_map, ← h.perm.countP_eq]
  have key : ∀ n, n ≤ g.slots → (flatAll n R).countP (fun x => decide (x.at_ = slotAt g.slots g.cur p)) = if p < n then (R p).length else 0 := by
    intro n
    induction n with
    | zero => intro _; rfl
    | succ n ih =>
      intro hn
      rw [flat_succ, List.countP_append, ih (by omega)]
      by_cases c : n = p
      · subst c
        rw [if_neg (by omega), if_pos (by omega), Nat.zero_add]
        exact List.countP_eq_length.2 fun x hx => by simpa using hg.at_ ok.s1 hp hx
      · have z : (R n).countP (fun x => decide (x.at_ = slotAt g.slots g.cur p)) = 0 := List.countP_eq_zero.2 fun x hx => by
          have e1 := hg.at_ ok.s1 (p := n) (by omega) hx
          have e2 : ¬ slotAt g.slots g.cur n = slotAt g.slots g.cur p := fun e => by
            have := congrArg (· % g.slots) e
            simp only [slotAt_mod (show n < g.slots by omega), slotAt_mod hp] at this
            omega
          simp only [decide_eq_true_eq]
          omega
        rw [z]
        split <;> split <;> omega
  have := key g.slots (Nat.le_refl _)
  rw [if_pos hp] at this
  exact this.symm
/-- The first slot is the least one in which one stands. -/
theorem rel_next {g : Wg} {R : Nat → List Tw} {lt : List Tw} (h : RelW g R lt) (ok : g.Ok) {o : Option Nat} (ho : IsFirst g.slots g.cur R o) : g.next = o := by
  have hg := h.good ok
  unfold Wg.next
  match o, ho with
  | none, ho =>
    have e : flatAll g.slots R = [] := by
      apply List.eq_nil_iff_forall_not_mem.2
      intro x hx
      obtain ⟨p, hp, hx⟩ := flat_mem.1 hx
      rw [ho p hp] at hx
      cases hx
    have e2 : lt = [] := by have := h.perm.length_eq; rw [e] at this; exact List.length_eq_zero_iff.1 this.symm
    rw [← h.map, e2]
    rfl
  | some s, ⟨p, hp, hne, hs, hmin⟩ =>
    have hmem : ∀ a, a ∈ g.l.map Th.at_ ↔ ∃ q, q < g.slots ∧ ∃ x, x ∈ R q ∧ x.at_ = a := by
      intro a
      rw [← h.map, List.map_map, List.mem_map]
      constructor
      · rintro ⟨x, hx, rfl⟩
        obtain ⟨q, hq, hx⟩ := flat_mem.1 (h.perm.mem_iff.2 hx)
        exact ⟨q, hq, x, hx, rfl⟩
      · rintro ⟨q, hq, x, hx, rfl⟩
        exact ⟨x, (h.mem hq hx).1, rfl⟩
    refine List.min?_eq_some_iff.2 ⟨?_, fun b hb => ?_⟩
    · obtain ⟨x, l, e⟩ := List.exists_cons_of_ne_nil hne
      have hx : x ∈ R p := by rw [e]; exact List.mem_cons_self
      exact (hmem s).2 ⟨p, hp, x, hx, by rw [hs]; exact hg.at_ ok.s1 hp hx⟩
    · obtain ⟨q, hq, x, hx, rfl⟩ := (hmem b).1 hb
      rw [hg.at_ ok.s1 hq hx]
      exact hmin q hq (fun e => by rw [e] at hx; cases hx)

end Go.Proofs.YtkiibobpejoaeaaDoor
