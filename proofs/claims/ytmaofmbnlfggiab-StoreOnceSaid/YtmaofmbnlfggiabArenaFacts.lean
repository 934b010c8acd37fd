/-
  Which handles hold, in lists: behind a taking, behind a giving back; old ones are never given out again; all that were given out.
-/
import Derived.Test.YtmaofmbnlfggiabArenaGhost
namespace Go.Proofs.Ytmaofmbnlfggiab
set_option linter.unusedVariables false

theorem Gh.take_room (g : Gh) : g.take.room = g.room := by
  unfold Gh.take
  split <;> rfl
theorem Gh.give_room (g : Gh) (p : Nat) : (g.give p).room = g.room := rfl
theorem Gh.Ok.more {g : Gh} {M : Nat} (h : g.Ok M) : g.Ok (M + 1) :=
  ⟨h.len, h.fits, h.small, h.pos, fun j n hn => Nat.le_succ_of_le (h.le j n hn), h.free, h.nodup, h.cnt⟩
theorem Gh.Ok.handle_small {g : Gh} {M : Nat} (h : g.Ok M) (hM : M ≤ 1000) : g.handle < 18446744073709551616 := by
  have h1 : g.times ≤ M := by
    unfold Gh.times
    cases e : g.ts[g.next]? with
    | none => exact Nat.zero_le _
    | some n => exact h.le _ n e
  have h2 : g.next ≤ 65536 := by
    unfold Gh.next
    cases e : g.bk.getLast? with
    | none => exact Nat.le_trans h.fits h.small
    | some p =>
      have hp : p ∈ g.bk := by rw [last_split e]; simp
      have := (List.getElem?_eq_some_iff.1 (h.free p hp)).1
      have := h.fits
      have := h.small
      show p ≤ 65536
      omega
  unfold Gh.handle
  omega
theorem place_taken {ts : List Nat} {l : List Bool} {x p : Nat} (h : placeOf ts l x = some p) : p < l.length ∧ l[p]? = some true := by
  unfold placeOf at h
  rw [List.find?_range_eq_some] at h
  obtain ⟨h1, h2, _⟩ := h
  refine ⟨by simpa using h2, ?_⟩
  have h3 : hd ts l p = some x := by simpa using h1
  unfold hd at h3
  split at h3
  · assumption
  · cases h3

/-- Where a handle holds. -/
def Gh.at (g : Gh) (x : Nat) : Option Nat := placeOf g.ts g.l x
/-- A handle that was given out. -/
def Gh.Old (g : Gh) (x : Nat) : Prop := ∃ p n m, g.ts[p]? = some m ∧ n < m ∧ x = n * 4294967296 + p + 1

theorem hd_iff {g : Gh} {M p x : Nat} (ok : g.Ok M) : hd g.ts g.l p = some x ↔ g.l[p]? = some true ∧ ∃ n, g.ts[p]? = some (n + 1) ∧ x = n * 4294967296 + p + 1 := by
  constructor
  · intro h
    unfold hd at h
    split at h
    · rename_i hl
      obtain ⟨n, hn⟩ := ok.pos p hl
      rw [hn] at h
      exact ⟨hl, n, hn, by simpa using h.symm⟩
    · cases h
  · rintro ⟨hl, n, hn, rfl⟩
    exact hd_some hl hn
theorem hd_lt {g : Gh} {M p x : Nat} (ok : g.Ok M) (h : hd g.ts g.l p = some x) : p < 65536 ∧ p < g.l.length := by
  have h1 := (List.getElem?_eq_some_iff.1 ((hd_iff ok).1 h).1).1
  have := ok.fits
  have := ok.small
  omega
theorem at_iff {g : Gh} {M p x : Nat} (ok : g.Ok M) : g.at x = some p ↔ hd g.ts g.l p = some x := by
  constructor
  · intro h
    unfold Gh.at placeOf at h
    rw [List.find?_range_eq_some] at h
    simpa using h.1
  · intro h
    refine placeOf_some (hd_lt ok h).2 h (fun i hi hx => ?_)
    have h1 := hd_lt ok h
    have h2 := hd_lt ok hx
    obtain ⟨_, n, _, e1⟩ := (hd_iff ok).1 h
    obtain ⟨_, m, _, e2⟩ := (hd_iff ok).1 hx
    omega
theorem at_none {g : Gh} {M x : Nat} (ok : g.Ok M) : g.at x = none ↔ ∀ p, hd g.ts g.l p ≠ some x := by
  constructor
  · intro h p hp
    rw [(at_iff ok).2 hp] at h
    cases h
  · intro h
    cases e : g.at x with
    | none => rfl
    | some p => exact absurd ((at_iff ok).1 e) (h p)
theorem old_of_at {g : Gh} {M p x : Nat} (ok : g.Ok M) (h : g.at x = some p) : g.Old x := by
  obtain ⟨_, n, hn, e⟩ := (hd_iff ok).1 ((at_iff ok).1 h)
  exact ⟨p, n, n + 1, hn, by omega, e⟩
theorem old_pos {g : Gh} {x : Nat} (h : g.Old x) : x ≠ 0 := by
  obtain ⟨p, n, m, _, _, rfl⟩ := h
  omega

/-- What a place's count is behind a taking. -/
theorem take_ts {g : Gh} {M : Nat} (ok : g.Ok M) (p : Nat) : g.take.ts[p]? = if p = g.next then some (g.times + 1) else g.ts[p]? := by
  unfold Gh.take Gh.times Gh.next
  cases hb : g.bk.getLast? with
  | some q =>
    have hq := ok.free q (by rw [last_split hb]; simp)
    have hql := (List.getElem?_eq_some_iff.1 hq).1
    simp only [Option.getD_some]
    by_cases c : p = q
    · subst c
      rw [if_pos rfl]
      simp [ok.len, hql]
    · rw [if_neg c, List.getElem?_set_ne (fun e => c e.symm)]
  | none =>
    simp only [Option.getD_none]
    by_cases c : p = g.l.length
    · rw [if_pos c, c, ← ok.len]
      simp
    · rw [if_neg c]
      by_cases d : p < g.ts.length
      · rw [List.getElem?_append_left d]
      · rw [List.getElem?_eq_none (by simp; have := ok.len; omega), List.getElem?_eq_none (by omega)]
theorem take_l {g : Gh} {M : Nat} (ok : g.Ok M) (p : Nat) : g.take.l[p]? = if p = g.next then some true else g.l[p]? := by
  unfold Gh.take Gh.next
  cases hb : g.bk.getLast? with
  | some q =>
    have hq := ok.free q (by rw [last_split hb]; simp)
    have hql := (List.getElem?_eq_some_iff.1 hq).1
    simp only [Option.getD_some]
    by_cases c : p = q
    · subst c
      rw [if_pos rfl]
      simp [hql]
    · rw [if_neg c, List.getElem?_set_ne (fun e => c e.symm)]
  | none =>
    simp only [Option.getD_none]
    by_cases c : p = g.l.length
    · rw [if_pos c, c]
      simp
    · rw [if_neg c]
      by_cases d : p < g.l.length
      · rw [List.getElem?_append_left d]
      · rw [List.getElem?_eq_none (by simp; omega), List.getElem?_eq_none (by omega)]
theorem next_free {g : Gh} {M : Nat} (ok : g.Ok M) : g.l[g.next]? ≠ some true := by
  unfold Gh.next
  cases hb : g.bk.getLast? with
  | some q =>
    rw [Option.getD_some, ok.free q (by rw [last_split hb]; simp)]
    simp
  | none =>
    rw [Option.getD_none, List.getElem?_eq_none (Nat.le_refl _)]
    simp
theorem next_lt {g : Gh} {M : Nat} (ok : g.Ok M) : g.next ≤ 65536 := by
  unfold Gh.next
  have h1 := ok.fits
  have h2 := ok.small
  cases hb : g.bk.getLast? with
  | some q =>
    have := (List.getElem?_eq_some_iff.1 (ok.free q (by rw [last_split hb]; simp))).1
    show q ≤ 65536
    omega
  | none => show g.l.length ≤ 65536; omega
theorem times_ts {g : Gh} {m : Nat} (h : g.ts[g.next]? = some m) : g.times = m := by
  unfold Gh.times
  rw [h]
  rfl
theorem ts_lt {g : Gh} {M p m : Nat} (ok : g.Ok M) (h : g.ts[p]? = some m) : p < 65536 := by
  have := (List.getElem?_eq_some_iff.1 h).1
  have := ok.len
  have := ok.fits
  have := ok.small
  omega

/-- A new handle was never given out. -/
theorem handle_new {g : Gh} {M : Nat} (ok : g.Ok M) : ¬ g.Old g.handle := by
  rintro ⟨p, n, m, hm, hn, e⟩
  have h1 := ts_lt ok hm
  have h2 := next_lt ok
  unfold Gh.handle at e
  obtain rfl : g.next = p := by omega
  have := times_ts hm
  omega
theorem old_take {g : Gh} {M x : Nat} (ok : g.Ok M) (h : g.Old x) : g.take.Old x := by
  obtain ⟨p, n, m, hm, hn, e⟩ := h
  by_cases c : p = g.next
  · have := times_ts (c ▸ hm)
    exact ⟨p, n, g.times + 1, by rw [take_ts ok, if_pos c], by omega, e⟩
  · exact ⟨p, n, m, by rw [take_ts ok, if_neg c]; exact hm, hn, e⟩
theorem handle_old {g : Gh} {M : Nat} (ok : g.Ok M) : g.take.Old g.handle :=
  ⟨g.next, g.times, g.times + 1, by rw [take_ts ok, if_pos rfl], by omega, rfl⟩
/-- The new handle holds, for the place that was next. -/
theorem at_take_new {g : Gh} {M : Nat} (ok : g.Ok M) (hr : ¬ g.full) : g.take.at g.handle = some g.next := by
  refine (at_iff (ok.take hr)).2 ((hd_iff (ok.take hr)).2 ⟨?_, g.times, ?_, rfl⟩)
  · rw [take_l ok, if_pos rfl]
  · rw [take_ts ok, if_pos rfl]
/-- The others hold as they did. -/
theorem at_take_old {g : Gh} {M x : Nat} (ok : g.Ok M) (hr : ¬ g.full) (hx : g.Old x) : g.take.at x = g.at x := by
  have ok' := ok.take hr
  have key : ∀ p, hd g.take.ts g.take.l p = some x ↔ hd g.ts g.l p = some x := by
    intro p
    rw [hd_iff ok', hd_iff ok, take_l ok, take_ts ok]
    by_cases c : p = g.next
    · rw [if_pos c, if_pos c]
      constructor
      · rintro ⟨_, n, hn, e⟩
        exfalso
        have hn' : g.times = n := by simpa using hn
        apply handle_new ok
        have : x = g.handle := by unfold Gh.handle; rw [e, hn', c]
        exact this ▸ hx
      · rintro ⟨hl, _⟩
        exact absurd (c ▸ hl) (next_free ok)
    · rw [if_neg c, if_neg c]
  cases e : g.at x with
  | none => exact (at_none ok').2 fun p hp => (at_none ok).1 e p ((key p).1 hp)
  | some p => exact (at_iff ok').2 ((key p).2 ((at_iff ok).1 e))
theorem old_give {g : Gh} {x p : Nat} (h : g.Old x) : (g.give p).Old x := h
theorem give_old {g : Gh} {x p : Nat} (h : (g.give p).Old x) : g.Old x := h
/-- Behind a giving back: that one does not hold, the others hold as they did. -/
theorem at_give {g : Gh} {M x p : Nat} (ok : g.Ok M) (h : g.at x = some p) (y : Nat) : (g.give p).at y = if y = x then none else g.at y := by
  have hx := (at_iff ok).1 h
  obtain ⟨hl, n, hn, e⟩ := (hd_iff ok).1 hx
  have hpl := (List.getElem?_eq_some_iff.1 hl).1
  have ok' := ok.give hl
  have key : ∀ q, hd (g.give p).ts (g.give p).l q = some y ↔ q ≠ p ∧ hd g.ts g.l q = some y := by
    intro q
    rw [hd_iff ok', hd_iff ok]
    by_cases c : q = p
    · subst c
      constructor
      · rintro ⟨hf, _⟩
        simp [Gh.give, hpl] at hf
      · rintro ⟨hf, _⟩
        exact absurd rfl hf
    · have hl' : (g.give p).l[q]? = g.l[q]? := by simp [Gh.give, List.getElem?_set_ne (fun e => c e.symm)]
      rw [hl']
      exact ⟨fun hh => ⟨c, hh⟩, fun hh => hh.2⟩
  by_cases c : y = x
  · rw [if_pos c]
    subst c
    refine (at_none ok').2 fun q hq => ?_
    obtain ⟨h1, h2⟩ := (key q).1 hq
    have h3 := (at_iff ok).2 h2
    rw [h] at h3
    cases h3
    exact h1 rfl
  · rw [if_neg c]
    cases e2 : g.at y with
    | none => exact (at_none ok').2 fun q hq => (at_none ok).1 e2 q ((key q).1 hq).2
    | some q =>
      refine (at_iff ok').2 ((key q).2 ⟨fun hqp => ?_, (at_iff ok).1 e2⟩)
      subst hqp
      have := (at_iff ok).1 e2
      rw [hx] at this
      cases this
      exact c rfl

theorem countP_less {f : Nat → Bool} {x : Nat} : ∀ {H : List Nat}, H.Nodup → x ∈ H → f x = true → H.countP (fun y => f y && decide (y ≠ x)) + 1 = H.countP f
  | [], _, h, _ => (List.not_mem_nil h).elim
  | y :: t, hn, h, hf => by
    obtain ⟨h1, h2⟩ := List.nodup_cons.1 hn
    rw [List.countP_cons, List.countP_cons]
    by_cases c : y = x
    · subst c
      have e : t.countP (fun z => f z && decide (z ≠ y)) = t.countP f := by
        refine List.countP_congr fun z hz => ?_
        have : z ≠ y := fun e => h1 (e ▸ hz)
        simp [this]
      rw [e]
      simp [hf]
    · have hx : x ∈ t := by
        rcases List.mem_cons.1 h with h | h
        · exact absurd h.symm c
        · exact h
      have := countP_less h2 hx hf
      simp only [c, ne_eq, not_false_eq_true, decide_true, Bool.and_true] at this ⊢
      omega
/-- As many as hold. -/
def Gh.holds (g : Gh) (x : Nat) : Bool := (g.at x).isSome

/-- All that were given out, once each. -/
structure Told (g : Gh) (H : List Nat) : Prop where
  old : ∀ x, x ∈ H → g.Old x
  nodup : H.Nodup
  all : ∀ x p, g.at x = some p → x ∈ H
  cnt : H.countP g.holds = g.l.count true

theorem told_new (room : Nat) : Told (Gh.new room) [] :=
  ⟨fun x hx => (List.not_mem_nil hx).elim, List.nodup_nil, fun x p h => by
    unfold Gh.at placeOf Gh.new at h
    simp at h, rfl⟩
theorem take_count {g : Gh} {M : Nat} (ok : g.Ok M) (hr : ¬ g.full) : g.take.l.count true = g.l.count true + 1 := by
  have h1 := ok.cnt
  have h2 := (ok.take hr).cnt
  cases e : g.bk.getLast? with
  | some p =>
    have e2 : g.take = ⟨g.ts.set p (g.times + 1), g.l.set p true, g.bk.dropLast, g.room⟩ := by unfold Gh.take; rw [e]
    have e3 : g.bk.length = g.bk.dropLast.length + 1 := by
      have := congrArg List.length (last_split e)
      simpa using this
    rw [e2] at h2 ⊢
    simp only [List.length_set] at h2 ⊢
    omega
  | none =>
    have e2 : g.take = ⟨g.ts ++ [1], g.l ++ [true], [], g.room⟩ := by unfold Gh.take; rw [e]
    rw [e2]
    simp
theorem give_count {g : Gh} {M p : Nat} (ok : g.Ok M) (h : g.l[p]? = some true) : (g.give p).l.count true + 1 = g.l.count true := by
  have h1 := ok.cnt
  have h2 := (ok.give h).cnt
  unfold Gh.give at h2 ⊢
  simp only [List.length_set, List.length_append, List.length_singleton] at h2 ⊢
  omega
theorem Told.take {g : Gh} {M : Nat} {H : List Nat} (t : Told g H) (ok : g.Ok M) (hr : ¬ g.full) : Told g.take (H ++ [g.handle]) := by
  refine ⟨fun x hx => ?_, ?_, fun x p h => ?_, ?_⟩
  · rcases List.mem_append.1 hx with hx | hx
    · exact old_take ok (t.old x hx)
    · rw [List.mem_singleton.1 hx]
      exact handle_old ok
  · refine List.nodup_append.2 ⟨t.nodup, by simp, fun x hx y hy e => ?_⟩
    rw [List.mem_singleton.1 hy] at e
    exact handle_new ok (e ▸ t.old x hx)
  · by_cases hx : x = g.handle
    · rw [hx]; simp
    · refine List.mem_append_left _ ?_
      have ok' := ok.take hr
      obtain ⟨h1, n, h2, e⟩ := (hd_iff ok').1 ((at_iff ok').1 h)
      rw [take_l ok] at h1
      rw [take_ts ok] at h2
      by_cases c : p = g.next
      · rw [if_pos c] at h2
        have h3 : g.times = n := by simpa using h2
        refine absurd ?_ hx
        rw [e, c, ← h3]
        rfl
      · rw [if_neg c] at h1 h2
        exact t.all x p ((at_iff ok).2 ((hd_iff ok).2 ⟨h1, n, h2, e⟩))
  · rw [List.countP_append, take_count ok hr, ← t.cnt]
    have e1 : H.countP g.take.holds = H.countP g.holds := by
      refine List.countP_congr fun x hx => ?_
      unfold Gh.holds
      rw [at_take_old ok hr (t.old x hx)]
    have e2 : g.take.holds g.handle = true := by
      unfold Gh.holds
      rw [at_take_new ok hr]
      rfl
    rw [e1, List.countP_cons, e2]
    rfl
theorem Told.give {g : Gh} {M : Nat} {H : List Nat} {x p : Nat} (t : Told g H) (ok : g.Ok M) (h : g.at x = some p) : Told (g.give p) H :=
  ⟨fun y hy => old_give (t.old y hy), t.nodup, fun y q hq => by
    rw [at_give ok h] at hq
    split at hq
    · cases hq
    · exact t.all y q hq, by
    have h1 := give_count ok ((hd_iff ok).1 ((at_iff ok).1 h)).1
    have h2 := countP_less (f := g.holds) t.nodup (t.all x p h) (by unfold Gh.holds; rw [h]; rfl)
    have h3 : H.countP (g.give p).holds = H.countP (fun y => g.holds y && decide (y ≠ x)) := by
      refine List.countP_congr fun y _ => ?_
      unfold Gh.holds
      rw [at_give ok h]
      by_cases c : y = x
      · simp [c]
      · simp [c]
    have h4 := t.cnt
    omega⟩
end Go.Proofs.Ytmaofmbnlfggiab
