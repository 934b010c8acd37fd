/-
  A store, in lists: what is held by the handles of an arena, in the order in which it was put.
-/
import Derived.Test.YtmaofmbnlfggiabArenaFacts
namespace Go.Proofs.Ytmaofmbnlfggiab
set_option linter.unusedVariables false

/-- A packet. -/
structure Pk where
  sock : Nat
  cookie : Nat
  len : Int
  prio : Nat
  at_ : Nat
def Pk.zero : Pk := ⟨0, 0, 0, 0, 0⟩
def Pk.may (p : Pk) : Prop := 1 ≤ p.len ∧ p.len ≤ 65536 ∧ p.prio ≤ 15
instance (p : Pk) : Decidable p.may := by unfold Pk.may; infer_instance
structure Pk.Fits (p : Pk) : Prop where
  sock : p.sock < 18446744073709551616
  cookie : p.cookie < 18446744073709551616
  len1 : -9223372036854775808 ≤ p.len
  len2 : p.len ≤ 9223372036854775807
  prio : p.prio < 256
  at_ : p.at_ < 18446744073709551616
/-- What is held. -/
structure Hl where
  pk : Pk
  seq : Nat
  came : Nat
def Hl.zero : Hl := ⟨Pk.zero, 0, 0⟩
/-- A store: its arena, what is held by handles, in the order in which it was put, and the next number. -/
structure Sg where
  a : Gh
  l : List (Nat × Hl)
  next : Nat
def look (l : List (Nat × Hl)) (h : Nat) : Option Hl := (l.find? fun e => decide (e.1 = h)).map Prod.snd
def bytesL (l : List (Nat × Hl)) : Int := (l.map fun e => e.2.pk.len).sum
namespace Sg
def new (room : Nat) : Sg := ⟨Gh.new room, [], 1⟩
def bytes (g : Sg) : Int := bytesL g.l
def put (g : Sg) (p : Pk) (now : Nat) : Sg := ⟨g.a.take, g.l ++ [(g.a.handle, ⟨p, g.next, now⟩)], g.next + 1⟩
def free (g : Sg) (h q : Nat) : Sg := ⟨g.a.give q, g.l.filter fun e => decide (e.1 ≠ h), g.next⟩
/-- What lies at a place. -/
def slot (g : Sg) (j : Nat) : Hl := match hd g.a.ts g.a.l j with
  | some h => (look g.l h).getD Hl.zero
  | none => Hl.zero
structure Ok (g : Sg) (M : Nat) : Prop where
  a : g.a.Ok M
  keys : ∀ h, (∃ p, g.a.at h = some p) ↔ h ∈ g.l.map Prod.fst
  nodup : (g.l.map Prod.fst).Nodup
  fits : ∀ e, e ∈ g.l → e.2.pk.Fits ∧ e.2.pk.may ∧ e.2.came < 18446744073709551616
  seq : ∀ e, e ∈ g.l → 1 ≤ e.2.seq ∧ e.2.seq < g.next
  next1 : 1 ≤ g.next
  next : g.next ≤ M + 1
  cnt : g.l.length = g.a.l.count true
end Sg
theorem look_mem {l : List (Nat × Hl)} {h : Nat} {x : Hl} (e : look l h = some x) : (h, x) ∈ l := by
  unfold look at e
  obtain ⟨⟨k, y⟩, h1, rfl⟩ := Option.map_eq_some_iff.1 e
  have h2 := List.mem_of_find?_eq_some h1
  have h3 : k = h := by simpa using List.find?_some h1
  rw [← h3]
  exact h2
theorem look_none {l : List (Nat × Hl)} {h : Nat} (e : h ∉ l.map Prod.fst) : look l h = none := by
  cases c : look l h with
  | none => rfl
  | some x => exact absurd (List.mem_map.2 ⟨_, look_mem c, rfl⟩) e
theorem look_some {l : List (Nat × Hl)} {h : Nat} (e : h ∈ l.map Prod.fst) : ∃ x, look l h = some x := by
  cases c : look l h with
  | some x => exact ⟨x, rfl⟩
  | none =>
    obtain ⟨⟨k, y⟩, h1, rfl⟩ := List.mem_map.1 e
    unfold look at c
    have := List.find?_eq_none.1 (Option.map_eq_none_iff.1 c) _ h1
    simp at this
theorem look_is {l : List (Nat × Hl)} (hn : (l.map Prod.fst).Nodup) {h : Nat} {x : Hl} (e : (h, x) ∈ l) : look l h = some x := by
  induction l with
  | nil => cases e
  | cons y l ih =>
    rw [List.map_cons, List.nodup_cons] at hn
    unfold look
    rw [List.find?_cons]
    by_cases c : y.1 = h
    · rw [show decide (y.1 = h) = true by simpa using c]
      rcases List.mem_cons.1 e with e | e
      · rw [← e]; rfl
      · exact absurd (List.mem_map.2 ⟨_, e, c.symm⟩) hn.1
    · rw [show decide (y.1 = h) = false by simpa using c]
      rcases List.mem_cons.1 e with e | e
      · exact absurd (by rw [← e]) c
      · exact ih hn.2 e
theorem look_app {l : List (Nat × Hl)} {k : Nat} {x : Hl} {h : Nat} (hk : k ∉ l.map Prod.fst) : look (l ++ [(k, x)]) h = if h = k then some x else look l h := by
  unfold look
  rw [List.find?_append]
  by_cases c : h = k
  · rw [if_pos c]
    have : l.find? (fun e => decide (e.1 = h)) = none := List.find?_eq_none.2 fun e he => by
      have : e.1 ≠ h := fun e' => hk (by rw [← c, ← e']; exact List.mem_map_of_mem he)
      simpa using this
    rw [this, List.find?_cons, show decide ((k, x).1 = h) = true by simpa using c.symm]
    rfl
  · rw [if_neg c, List.find?_cons, show decide ((k, x).1 = h) = false by simpa using fun e => c e.symm]
    cases l.find? (fun e => decide (e.1 = h)) <;> rfl
theorem look_less {l : List (Nat × Hl)} {k h : Nat} : look (l.filter fun e => decide (e.1 ≠ k)) h = if h = k then none else look l h := by
  unfold look
  rw [List.find?_filter]
  by_cases c : h = k
  · rw [if_pos c]
    have : l.find? (fun e => decide (decide (e.1 ≠ k) = true ∧ decide (e.1 = h) = true)) = none := List.find?_eq_none.2 fun e _ => by
      simp only [decide_eq_true_eq]
      intro h2
      exact h2.1 (h2.2.trans c)
    rw [this]
    rfl
  · rw [if_neg c]
    congr 1
    congr 1
    funext e
    by_cases c2 : e.1 = h
    · have : e.1 ≠ k := fun e' => c (c2.symm.trans e')
      simp [c2]
      omega
    · simp [c2]
theorem sg_new_ok {room : Nat} (h : room ≤ 65536) : (Sg.new room).Ok 0 := by
  refine ⟨Gh.new_ok h, fun x => ⟨fun ⟨p, hp⟩ => ?_, fun hx => ?_⟩, ?_, fun e he => ?_, fun e he => ?_, Nat.le_refl _, Nat.le_refl _, rfl⟩
  · have := (told_new room).all x p hp
    cases this
  · cases hx
  · exact List.nodup_nil
  · cases he
  · cases he
section
variable {g : Sg} {M : Nat}
theorem sg_more (h : g.Ok M) : g.Ok (M + 1) := ⟨h.a.more, h.keys, h.nodup, h.fits, h.seq, h.next1, by have := h.next; omega, h.cnt⟩
theorem fresh_key (h : g.Ok M) : g.a.handle ∉ g.l.map Prod.fst := fun hk => by
  obtain ⟨p, hp⟩ := (h.keys _).2 hk
  exact handle_new h.a (old_of_at h.a hp)
theorem sg_put (h : g.Ok M) (hr : ¬ g.a.full) {p : Pk} {now : Nat} (hp : p.Fits) (hm : p.may) (hn : now < 18446744073709551616) : (g.put p now).Ok (M + 1) := by
  have hf := fresh_key h
  refine ⟨h.a.take hr, fun x => ?_, ?_, fun e he => ?_, fun e he => ?_, by show 1 ≤ g.next + 1; omega, by show g.next + 1 ≤ M + 1 + 1; have := h.next; omega, ?_⟩
  · show (∃ p, g.a.take.at x = some p) ↔ x ∈ (g.l ++ [(g.a.handle, _)]).map Prod.fst
    rw [List.map_append, List.mem_append, ← h.keys x]
    constructor
    · rintro ⟨q, hq⟩
      by_cases c : x = g.a.handle
      · exact .inr (by simp [c])
      · refine .inl ⟨q, ?_⟩
        have h1 := old_of_at (h.a.take hr) hq
        obtain ⟨p0, n, m, e1, e2, e3⟩ := h1
        rw [take_ts h.a] at e1
        by_cases c2 : p0 = g.a.next
        · rw [if_pos c2] at e1
          have e1' : g.a.times + 1 = m := by simpa using e1
          have h2 : g.a.Old x := by
            have : n ≠ g.a.times := fun e => c (by rw [e3, e, c2]; rfl)
            cases e4 : g.a.ts[g.a.next]? with
            | none =>
              have : g.a.times = 0 := by unfold Gh.times; rw [e4]; rfl
              omega
            | some m' =>
              have := times_ts e4
              exact ⟨p0, n, m', by rw [c2]; exact e4, by omega, e3⟩
          rw [at_take_old h.a hr h2] at hq
          exact hq
        · rw [if_neg c2] at e1
          rw [at_take_old h.a hr ⟨p0, n, m, e1, e2, e3⟩] at hq
          exact hq
    · rintro (⟨q, hq⟩ | hx)
      · exact ⟨q, by rw [at_take_old h.a hr (old_of_at h.a hq)]; exact hq⟩
      · have hx : x = g.a.handle := by simpa using hx
        exact ⟨_, by rw [hx]; exact at_take_new h.a hr⟩
  · show ((g.l ++ [(g.a.handle, _)]).map Prod.fst).Nodup
    rw [List.map_append, List.nodup_append]
    refine ⟨h.nodup, by simp, fun a ha b hb e => hf ?_⟩
    have hb' : b = g.a.handle := by simpa using hb
    rw [← hb', ← e]
    exact ha
  · rcases List.mem_append.1 he with he | he
    · exact h.fits e he
    · rw [List.mem_singleton.1 he]; exact ⟨hp, hm, hn⟩
  · rcases List.mem_append.1 he with he | he
    · have := h.seq e he; show 1 ≤ e.2.seq ∧ e.2.seq < g.next + 1; omega
    · rw [List.mem_singleton.1 he]; show 1 ≤ g.next ∧ g.next < g.next + 1; have := h.next1; omega
  · show (g.l ++ [(g.a.handle, _)]).length = g.a.take.l.count true
    rw [take_count h.a hr, List.length_append, h.cnt]
    rfl
theorem filter_one {l : List (Nat × Hl)} {k : Nat} : (l.map Prod.fst).Nodup → k ∈ l.map Prod.fst → (l.filter fun e => decide (e.1 ≠ k)).length + 1 = l.length := by
  induction l with
  | nil => intro _ h; cases h
  | cons y l ih =>
    intro hn hk
    rw [List.map_cons, List.nodup_cons] at hn
    by_cases c : y.1 = k
    · rw [List.filter_cons_of_neg (by simpa using c), List.length_cons]
      congr 2
      have : l.filter (fun e => decide (e.1 ≠ k)) = l := List.filter_eq_self.2 fun e he => by
        have : e.1 ≠ k := fun e' => hn.1 (by rw [c, ← e']; exact List.mem_map_of_mem he)
        simpa using this
      rw [this]
    · rw [List.filter_cons_of_pos (by simpa using c), List.length_cons, List.length_cons, ih hn.2 (by
        rw [List.map_cons] at hk
        rcases List.mem_cons.1 hk with e | e
        · exact absurd e.symm c
        · exact e)]
theorem bytes_one {l : List (Nat × Hl)} {k : Nat} {x : Hl} : (l.map Prod.fst).Nodup → look l k = some x → bytesL (l.filter fun e => decide (e.1 ≠ k)) = bytesL l - x.pk.len := by
  induction l with
  | nil => intro _ h; cases h
  | cons y l ih =>
    intro hn hk
    rw [List.map_cons, List.nodup_cons] at hn
    unfold look at hk
    rw [List.find?_cons] at hk
    by_cases c : y.1 = k
    · rw [show decide (y.1 = k) = true by simpa using c] at hk
      have hy : y.2 = x := by simpa using hk
      rw [List.filter_cons_of_neg (by simpa using c)]
      have : l.filter (fun e => decide (e.1 ≠ k)) = l := List.filter_eq_self.2 fun e he => by
        have : e.1 ≠ k := fun e' => hn.1 (by rw [c, ← e']; exact List.mem_map_of_mem he)
        simpa using this
      rw [this]
      unfold bytesL
      rw [List.map_cons, List.sum_cons, hy]
      omega
    · rw [show decide (y.1 = k) = false by simpa using c] at hk
      rw [List.filter_cons_of_pos (by simpa using c)]
      have e := ih hn.2 hk
      unfold bytesL at e ⊢
      rw [List.map_cons, List.sum_cons, e, List.map_cons, List.sum_cons]
      omega
theorem sg_free (h : g.Ok M) {k q : Nat} (hq : g.a.at k = some q) : (g.free k q).Ok M := by
  have hk : k ∈ g.l.map Prod.fst := (h.keys k).1 ⟨q, hq⟩
  have hl := ((hd_iff h.a).1 ((at_iff h.a).1 hq)).1
  refine ⟨h.a.give hl, fun x => ?_, ?_, fun e he => h.fits e (List.mem_filter.1 he).1, fun e he => h.seq e (List.mem_filter.1 he).1, h.next1, h.next, ?_⟩
  · show (∃ p, (g.a.give q).at x = some p) ↔ x ∈ (g.l.filter fun e => decide (e.1 ≠ k)).map Prod.fst
    rw [at_give h.a hq]
    by_cases c : x = k
    · rw [if_pos c]
      constructor
      · rintro ⟨_, e⟩; cases e
      · intro hx
        obtain ⟨e, he, hxe⟩ := List.mem_map.1 hx
        have := (List.mem_filter.1 he).2
        simp only [ne_eq, decide_eq_true_eq] at this
        exact absurd (hxe.trans c) this
    · rw [if_neg c, h.keys x]
      constructor
      · intro hx
        obtain ⟨e, he, hxe⟩ := List.mem_map.1 hx
        exact List.mem_map.2 ⟨e, List.mem_filter.2 ⟨he, by simp; omega⟩, hxe⟩
      · intro hx
        obtain ⟨e, he, hxe⟩ := List.mem_map.1 hx
        exact List.mem_map.2 ⟨e, (List.mem_filter.1 he).1, hxe⟩
  · exact h.nodup.sublist (List.filter_sublist.map _)
  · have h1 := filter_one h.nodup hk
    have h2 := give_count h.a hl
    have h3 := h.cnt
    show (g.l.filter fun e => decide (e.1 ≠ k)).length = (g.a.give q).l.count true
    omega
/-- What is told by a handle. -/
theorem look_at (h : g.Ok M) (k : Nat) : (look g.l k = none ↔ g.a.at k = none) := by
  constructor
  · intro e
    cases c : g.a.at k with
    | none => rfl
    | some p =>
      obtain ⟨x, hx⟩ := look_some ((h.keys k).1 ⟨p, c⟩)
      rw [hx] at e; cases e
  · intro e
    exact look_none fun hk => by
      obtain ⟨p, hp⟩ := (h.keys k).2 hk
      rw [hp] at e; cases e
theorem slot_at (h : g.Ok M) {k p : Nat} (hp : g.a.at k = some p) : ∃ x, look g.l k = some x ∧ g.slot p = x ∧ 1 ≤ x.seq := by
  obtain ⟨x, hx⟩ := look_some ((h.keys k).1 ⟨p, hp⟩)
  refine ⟨x, hx, ?_, (h.seq _ (look_mem hx)).1⟩
  unfold Sg.slot
  rw [(at_iff h.a).1 hp]
  show (look g.l k).getD Hl.zero = x
  rw [hx]
  rfl
theorem hd_take (h : g.Ok M) (hr : ¬ g.a.full) (j : Nat) : hd g.a.take.ts g.a.take.l j = if j = g.a.next then some g.a.handle else hd g.a.ts g.a.l j := by
  by_cases c : j = g.a.next
  · rw [if_pos c, c]
    exact (at_iff (h.a.take hr)).1 (at_take_new h.a hr)
  · rw [if_neg c]
    unfold hd
    rw [take_l h.a, take_ts h.a, if_neg c, if_neg c]
theorem slot_put (h : g.Ok M) (hr : ¬ g.a.full) (p : Pk) (now j : Nat) : (g.put p now).slot j = if j = g.a.next then ⟨p, g.next, now⟩ else g.slot j := by
  have hf := fresh_key h
  unfold Sg.slot
  show (match hd g.a.take.ts g.a.take.l j with | some k => (look (g.l ++ [(g.a.handle, (⟨p, g.next, now⟩ : Hl))]) k).getD Hl.zero | none => Hl.zero) = _
  rw [hd_take h hr]
  by_cases c : j = g.a.next
  · rw [if_pos c, if_pos c]
    show (look _ g.a.handle).getD _ = _
    rw [look_app hf, if_pos rfl]
    rfl
  · rw [if_neg c, if_neg c]
    cases e : hd g.a.ts g.a.l j with
    | none => rfl
    | some k =>
      show (look _ k).getD _ = (look g.l k).getD _
      have hk : k ∈ g.l.map Prod.fst := (h.keys k).1 ⟨j, (at_iff h.a).2 e⟩
      rw [look_app hf, if_neg]
      intro e'
      rw [e'] at hk
      exact hf hk
theorem slot_free (h : g.Ok M) {k q : Nat} (hq : g.a.at k = some q) (j : Nat) : (g.free k q).slot j = if j = q then Hl.zero else g.slot j := by
  have hl := (hd_iff h.a).1 ((at_iff h.a).1 hq)
  unfold Sg.slot
  show (match hd (g.a.give q).ts (g.a.give q).l j with | some k' => (look (g.l.filter fun e => decide (e.1 ≠ k)) k').getD Hl.zero | none => Hl.zero) = _
  by_cases c : j = q
  · have e : hd (g.a.give q).ts (g.a.give q).l j = none := by
      refine hd_none ?_
      subst c
      show (g.a.l.set j false)[j]? ≠ some true
      have := (List.getElem?_eq_some_iff.1 hl.1).1
      rw [List.getElem?_set_self this]
      simp
    rw [e, if_pos c]
  · have e : hd (g.a.give q).ts (g.a.give q).l j = hd g.a.ts g.a.l j := by
      unfold hd
      show (if (g.a.l.set q false)[j]? = some true then _ else _) = _
      rw [List.getElem?_set_ne (fun e => c e.symm)]
      rfl
    rw [e, if_neg c]
    cases e2 : hd g.a.ts g.a.l j with
    | none => rfl
    | some k' =>
      show (look _ k').getD _ = (look g.l k').getD _
      rw [look_less, if_neg]
      intro e'
      rw [e'] at e2
      have := (at_iff h.a).2 e2
      rw [hq] at this
      exact c (Option.some.inj this).symm
theorem hd_give {q j : Nat} (hj : hd g.a.ts g.a.l j = none) : hd (g.a.give q).ts (g.a.give q).l j = none := by
  unfold hd at hj ⊢
  show (if (g.a.l.set q false)[j]? = some true then _ else _) = none
  by_cases c : j = q
  · subst c
    rw [if_neg]
    by_cases hl : j < g.a.l.length
    · rw [List.getElem?_set_self hl]; simp
    · rw [List.getElem?_eq_none (by simpa using hl)]; simp
  · rw [List.getElem?_set_ne (fun e => c e.symm)]
    exact hj
/-- As many bytes as can be. -/
theorem bytes_le (h : g.Ok M) : 0 ≤ g.bytes ∧ g.bytes ≤ 65536 * (g.l.length : Int) := by
  have key : ∀ l : List (Nat × Hl), (∀ e, e ∈ l → e.2.pk.may) → 0 ≤ bytesL l ∧ bytesL l ≤ 65536 * (l.length : Int) := by
    intro l
    induction l with
    | nil => intro _; simp [bytesL]
    | cons e l ih =>
      intro hl
      have h1 := hl e List.mem_cons_self
      have h2 := ih (fun x hx => hl x (List.mem_cons_of_mem _ hx))
      unfold bytesL at h2 ⊢
      rw [List.map_cons, List.sum_cons, List.length_cons]
      unfold Pk.may at h1
      omega
  exact key g.l fun e he => (h.fits e he).2.1
theorem bytes_put (p : Pk) (now : Nat) : (g.put p now).bytes = g.bytes + p.len := by
  show bytesL (g.l ++ [_]) = bytesL g.l + _
  unfold bytesL
  rw [List.map_append, List.sum_append]
  simp
end

end Go.Proofs.Ytmaofmbnlfggiab
