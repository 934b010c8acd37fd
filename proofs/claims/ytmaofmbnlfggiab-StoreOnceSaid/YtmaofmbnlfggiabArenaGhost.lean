/-
  An arena as the document has it, in lists: how often each place was taken, whether it is, the places that were given back; what taking and giving back make of it.
-/
import Derived.Test.YtmaofmbnlfggiabArenaGive
namespace Go.Proofs.Ytmaofmbnlfggiab
open Go.RowKit
set_option linter.unusedVariables false

structure Gh where
  ts : List Nat
  l : List Bool
  bk : List Nat
  room : Nat

theorem trues_count (l : List Bool) : trues l l.length = l.count true := by
  unfold trues
  rw [List.take_length, List.count]
  congr 1

/-- After at most M takings. -/
structure Gh.Ok (g : Gh) (M : Nat) : Prop where
  len : g.ts.length = g.l.length
  fits : g.l.length ≤ g.room
  small : g.room ≤ 65536
  pos : ∀ j : Nat, g.l[j]? = some true → ∃ n : Nat, g.ts[j]? = some (n + 1)
  le : ∀ j n : Nat, g.ts[j]? = some n → n ≤ M
  free : ∀ p, p ∈ g.bk → g.l[p]? = some false
  nodup : g.bk.Nodup
  cnt : g.l.count true + g.bk.length = g.l.length

theorem Gh.Ok.fit {g : Gh} {M : Nat} (h : g.Ok M) (hM : M ≤ 2147483648) : Fit g.ts g.l :=
  ⟨h.len, Nat.le_trans h.fits h.small, fun j hj => by
    obtain ⟨n, hn⟩ := h.pos j hj
    have := h.le j _ hn
    exact ⟨n, hn, by omega⟩⟩

def Gh.new (room : Nat) : Gh := ⟨[], [], [], room⟩
theorem Gh.new_ok {room : Nat} (h : room ≤ 65536) : (Gh.new room).Ok 0 :=
  ⟨rfl, Nat.zero_le _, h, fun j hj => by simp [Gh.new] at hj, fun j n hn => by simp [Gh.new] at hn, fun p hp => by simp [Gh.new] at hp, List.nodup_nil, rfl⟩

/-- All places are taken. -/
def Gh.full (g : Gh) : Prop := g.l.count true = g.room
/-- The place that is taken next. -/
def Gh.next (g : Gh) : Nat := g.bk.getLast?.getD g.l.length
/-- How often it was taken ahead. -/
def Gh.times (g : Gh) : Nat := g.ts[g.next]?.getD 0
/-- Behind a taking, if there is room. -/
def Gh.take (g : Gh) : Gh := match g.bk.getLast? with
  | some p => ⟨g.ts.set p (g.times + 1), g.l.set p true, g.bk.dropLast, g.room⟩
  | none => ⟨g.ts ++ [1], g.l ++ [true], [], g.room⟩
def Gh.handle (g : Gh) : Nat := g.times * 4294967296 + g.next + 1
/-- Behind a giving back of a place. -/
def Gh.give (g : Gh) (p : Nat) : Gh := ⟨g.ts, g.l.set p false, g.bk ++ [p], g.room⟩

theorem last_split {bk : List Nat} {p : Nat} (h : bk.getLast? = some p) : bk = bk.dropLast ++ [p] := by
  have hne : bk ≠ [] := by intro e; rw [e] at h; cases h
  have h2 : bk.getLast hne = p := by rw [List.getLast?_eq_some_getLast hne] at h; exact Option.some.inj h
  rw [← h2]
  exact (List.dropLast_concat_getLast hne).symm

theorem Gh.Ok.take {g : Gh} {M : Nat} (h : g.Ok M) (hr : ¬ g.full) : g.take.Ok (M + 1) := by
  unfold Gh.take
  cases hb : g.bk.getLast? with
  | some p =>
    have hs := last_split hb
    have hp : p ∈ g.bk := by rw [hs]; simp
    have hf := h.free p hp
    obtain ⟨hpl, hpf⟩ := List.getElem?_eq_some_iff.1 hf
    have hnd := h.nodup
    rw [hs, List.nodup_append] at hnd
    have hnx : g.next = p := by unfold Gh.next; rw [hb]; rfl
    have htm : g.ts[p]? = some g.times := by
      unfold Gh.times
      rw [hnx, List.getElem?_eq_getElem (by rw [h.len]; exact hpl)]
      rfl
    refine ⟨by simpa using h.len, by simpa using h.fits, h.small, ?_, ?_, ?_, hnd.1, ?_⟩
    · intro j hj
      by_cases c : p = j
      · subst c
        exact ⟨g.times, by simp [h.len, hpl]⟩
      · simp only [List.getElem?_set_ne c] at hj ⊢
        exact h.pos j hj
    · intro j n hn
      by_cases c : p = j
      · subst c
        simp [h.len, hpl] at hn
        have := h.le p _ htm
        omega
      · simp only [List.getElem?_set_ne c] at hn
        have := h.le j n hn
        omega
    · intro q hq
      have hqb : q ∈ g.bk := by rw [hs]; exact List.mem_append_left _ hq
      have hne : p ≠ q := fun e => hnd.2.2 q hq p (by simp) e.symm
      simp only [List.getElem?_set_ne hne]
      exact h.free q hqb
    · have hc := h.cnt
      have hl : g.bk.length = g.bk.dropLast.length + 1 := by
        have := congrArg List.length hs
        simpa using this
      show (g.l.set p true).count true + g.bk.dropLast.length = (g.l.set p true).length
      rw [List.count_set hpl, hpf, List.length_set]
      simp
      omega
  | none =>
    have hb0 : g.bk = [] := List.getLast?_eq_none_iff.1 hb
    have hc := h.cnt
    rw [hb0] at hc
    have hlt : g.l.length < g.room := by
      have h1 := h.fits
      have h2 : g.l.count true ≠ g.room := hr
      simp at hc
      omega
    refine ⟨by simp [h.len], by simp; omega, h.small, ?_, ?_, ?_, List.nodup_nil, ?_⟩
    · intro j hj
      simp only at hj ⊢
      by_cases c : j < g.l.length
      · rw [List.getElem?_append_left c] at hj
        rw [List.getElem?_append_left (by rw [h.len]; exact c)]
        exact h.pos j hj
      · have hj2 := (List.getElem?_eq_some_iff.1 hj).1
        simp at hj2
        have e : j = g.ts.length := by rw [h.len]; omega
        exact ⟨0, by rw [e]; simp⟩
    · intro j n hn
      simp only at hn
      by_cases c : j < g.ts.length
      · rw [List.getElem?_append_left c] at hn
        have := h.le j n hn
        omega
      · have hj2 := (List.getElem?_eq_some_iff.1 hn).1
        simp at hj2
        have e : j = g.ts.length := by omega
        rw [e] at hn
        simp at hn
        omega
    · intro p hp
      simp at hp
    · simp only [List.count_append, List.length_append, List.length_nil]
      simp at hc
      simp
      omega

theorem Gh.Ok.give {g : Gh} {M p : Nat} (h : g.Ok M) (hp : g.l[p]? = some true) : (g.give p).Ok M := by
  obtain ⟨hpl, hpf⟩ := List.getElem?_eq_some_iff.1 hp
  have hnp : p ∉ g.bk := fun hm => by rw [h.free p hm] at hp; cases hp
  refine ⟨by simpa [Gh.give] using h.len, by simpa [Gh.give] using h.fits, h.small, ?_, h.le, ?_, ?_, ?_⟩
  · intro j hj
    by_cases c : p = j
    · subst c
      simp [Gh.give, hpl] at hj
    · simp only [Gh.give, List.getElem?_set_ne c] at hj
      exact h.pos j hj
  · intro q hq
    rcases List.mem_append.1 hq with hq | hq
    · have hne : p ≠ q := fun e => hnp (e ▸ hq)
      simp only [Gh.give, List.getElem?_set_ne hne]
      exact h.free q hq
    · simp at hq
      subst hq
      simp [Gh.give, hpl]
  · simp only [Gh.give]
    rw [List.nodup_append]
    exact ⟨h.nodup, by simp, fun a ha b hb => by simp at hb; subst hb; exact fun e => hnp (e ▸ ha)⟩
  · have hc := h.cnt
    have hpos : 0 < g.l.count true := List.count_pos_iff.2 (by rw [← hpf]; exact List.getElem_mem hpl)
    show (g.l.set p false).count true + (g.bk ++ [p]).length = (g.l.set p false).length
    rw [List.count_set hpl, hpf, List.length_set, List.length_append]
    simp
    omega

/-- The value holds the arena, in blocks that N does not name. -/
def RAt (N : Nat → Prop) (w : World) (v : Value) (g : Gh) : Prop :=
  ∃ (pt : Option Addr) (ct : Nat) (pk : Option Addr) (ck : Nat) (pb : Option Addr) (cb : Nat), v = .agg #[.slice pt g.ts.length ct, .slice pk g.l.length ck, .slice pb g.bk.length cb, .int .i64 (g.room : Int)] ∧
    w.ownsRow 0 3 1 (.slice pt g.ts.length ct) g.ts.length (g.ts.map natV) ∧ w.ownsRow 0 4 1 (.slice pk g.l.length ck) g.l.length (g.l.map Value.bool) ∧ w.ownsRow 0 3 1 (.slice pb g.bk.length cb) g.bk.length (g.bk.map natV) ∧
    Off N pt g.ts.length ct ∧ Off N pk g.l.length ck ∧ Off N pb g.bk.length cb

theorem RAt.below {N : Nat → Prop} {w w' : World} {v : Value} {g : Gh} (h : RAt N w v g) (b : Below w.heap.size w w') : RAt N w' v g := by
  obtain ⟨pt, ct, pk, ck, pb, cb, e, h1, h2, h3, o⟩ := h
  exact ⟨pt, ct, pk, ck, pb, cb, e, owns_below h1 b, owns_below h2 b, owns_below h3 b, o⟩
theorem RAt.turned {N : Nat → Prop} {w w' : World} {v : Value} {g : Gh} (h : RAt N w v g) (t : Turned N w w') : RAt N w' v g := by
  obtain ⟨pt, ct, pk, ck, pb, cb, e, h1, h2, h3, o1, o2, o3⟩ := h
  exact ⟨pt, ct, pk, ck, pb, cb, e, own_turned h1 o1 t, own_turned h2 o2 t, own_turned h3 o3 t, o1, o2, o3⟩
theorem RAt.less {N N' : Nat → Prop} {w : World} {v : Value} {g : Gh} (h : RAt N w v g) (hn : ∀ k, N' k → k < w.heap.size → N k) : RAt N' w v g := by
  obtain ⟨pt, ct, pk, ck, pb, cb, e, h1, h2, h3, o1, o2, o3⟩ := h
  exact ⟨pt, ct, pk, ck, pb, cb, e, h1, h2, h3, fun k hk he => o1 k (hn k hk (h1.lt k he).2) he, fun k hk he => o2 k (hn k hk (h2.lt k he).2) he, fun k hk he => o3 k (hn k hk (h3.lt k he).2) he⟩

def HdOut (o : Option Nat) : Value := .tuple #[.int .u64 ((o.getD 0 : Nat) : Int), .bool o.isSome]

/-- What the document's own answers are, over the arena in lists. -/
theorem rg_used {N : Nat → Prop} {w : World} {v : Value} {g : Gh} {M : Nat} (h : RAt N w v g) (ok : g.Ok M) :
    Calls Try.prog 36 #[v] w fun e w' => e = .returned (.int .i64 (g.l.count true : Nat)) ∧ Below w.heap.size w w' := by
  obtain ⟨pt, ct, pk, ck, pb, cb, rfl, h1, h2, h3, o⟩ := h
  have := ref_used pt pk pb g.ts.length ct g.l.length ck g.bk.length cb g.room g.l w (Nat.le_trans ok.fits ok.small) h2
  rw [trues_count] at this
  exact this
theorem rg_handle {N : Nat → Prop} {w : World} {v : Value} {g : Gh} {M : Nat} (h : RAt N w v g) (ok : g.Ok M) (hM : M ≤ 2147483648) (j : Nat) :
    Calls Try.prog 38 #[v, .int .i64 (j : Int)] w fun e w' => e = .returned (HdOut (hd g.ts g.l j)) ∧ Below w.heap.size w w' := by
  obtain ⟨pt, ct, pk, ck, pb, cb, rfl, h1, h2, h3, o⟩ := h
  exact ref_handle pt pk pb g.ts.length ct g.l.length ck g.bk.length cb g.room g.ts g.l j w (ok.fit hM) h1 h2
theorem rg_handle_neg {N : Nat → Prop} {w : World} {v : Value} {g : Gh} {M : Nat} (h : RAt N w v g) (ok : g.Ok M) (p : Int) (hp : p < 0) :
    Calls Try.prog 38 #[v, .int .i64 p] w fun e w' => e = .returned (HdOut none) ∧ Below w.heap.size w w' := by
  obtain ⟨pt, ct, pk, ck, pb, cb, rfl, h1, h2, h3, o⟩ := h
  exact ref_handle_none pt pk pb g.ts.length ct g.l.length ck g.bk.length cb g.room p g.l w (Nat.le_trans ok.fits ok.small) h2 (.inl hp)
theorem rg_place {N : Nat → Prop} {w : World} {v : Value} {g : Gh} {M : Nat} (h : RAt N w v g) (ok : g.Ok M) (hM : M ≤ 2147483648) (x : Nat) (hx : x < 18446744073709551616) :
    Calls Try.prog 39 #[v, .int .u64 (x : Int)] w fun e w' => e = .returned (placeV (placeOf g.ts g.l x)) ∧ Below w.heap.size w w' := by
  obtain ⟨pt, ct, pk, ck, pb, cb, rfl, h1, h2, h3, o⟩ := h
  exact ref_place pt pk pb g.ts.length ct g.l.length ck g.bk.length cb g.room g.ts g.l x w (ok.fit hM) hx h1 h2

def TakeR (N : Nat → Prop) (w : World) (g : Gh) (h e : Nat) (en : Ending) (w' : World) : Prop := ∃ v, en = .returned (.tuple #[v, .int .u64 (h : Int), .int .i64 (e : Int)]) ∧ RAt N w' v g ∧ Below w.heap.size w w'
def GiveR (N : Nat → Prop) (w : World) (g : Gh) (e : Nat) (en : Ending) (w' : World) : Prop := ∃ v, en = .returned (.tuple #[v, .int .i64 (e : Int)]) ∧ RAt N w' v g ∧ Below w.heap.size w w'

theorem rg_take_full {N : Nat → Prop} {w : World} {v : Value} {g : Gh} {M : Nat} (h : RAt N w v g) (ok : g.Ok M) (hf : g.full) :
    Calls Try.prog 29 #[v] w (TakeR N w g 0 4) := by
  have hR := h
  obtain ⟨pt, ct, pk, ck, pb, cb, rfl, h1, h2, h3, o⟩ := h
  refine (ref_take_full pt pk pb g.ts.length ct g.l.length ck g.bk.length cb g.room g.l w (Nat.le_trans ok.fits ok.small) h2 (by rw [trues_count]; exact hf)).mono ?_
  rintro e w' ⟨rfl, b⟩
  exact ⟨_, rfl, hR.below b, b⟩
theorem rg_take {N : Nat → Prop} {w : World} {v : Value} {g : Gh} {M : Nat} (hN : ∀ k, N k → k < w.heap.size) (h : RAt N w v g) (ok : g.Ok M) (hM : M < 2147483648) (hf : ¬ g.full) :
    Calls Try.prog 29 #[v] w (TakeR N w g.take g.handle 0) := by
  obtain ⟨pt, ct, pk, ck, pb, cb, rfl, h1, h2, h3, o1, o2, o3⟩ := h
  have hr : trues g.l g.l.length ≠ g.room := by rw [trues_count]; exact hf
  have hFit := ok.fit (by omega)
  cases hb : g.bk.getLast? with
  | some p =>
    have hs := last_split hb
    have hl : g.bk.length = g.bk.dropLast.length + 1 := by
      have := congrArg List.length hs
      simpa using this
    have hpf := ok.free p (by rw [hs]; simp)
    obtain ⟨hpl, _⟩ := List.getElem?_eq_some_iff.1 hpf
    have hnx : g.next = p := by unfold Gh.next; rw [hb]; rfl
    have htm : g.ts[p]? = some g.times := by
      unfold Gh.times
      rw [hnx, List.getElem?_eq_getElem (by rw [ok.len]; exact hpl)]
      rfl
    obtain ⟨_, hform⟩ := own_form h3
    obtain ⟨gb, rfl⟩ := hform (by omega)
    have h3' := h3
    rw [hs, List.length_append, List.length_singleton] at h3'
    have hc := ok.cnt
    have hsm := Nat.le_trans ok.fits ok.small
    have hk := ok.le p _ htm
    rw [hl]
    refine (ref_take_back pt pk gb g.ts.length ct g.l.length ck cb g.room g.ts g.l g.bk.dropLast p g.times w hFit (by omega) h1 h2 h3' hr hpf htm (by omega)).mono ?_
    rintro e w' ⟨pt', ct', pk', ck', rfl, r1, r2, r3, b⟩
    have eT : g.take = ⟨g.ts.set p (g.times + 1), g.l.set p true, g.bk.dropLast, g.room⟩ := by unfold Gh.take; rw [hb]
    have eH : g.handle = g.times * 4294967296 + p + 1 := by unfold Gh.handle; rw [hnx]
    rw [eT, eH]
    exact ⟨_, rfl, ⟨pt', ct', pk', ck', some ⟨gb, 0, none⟩, cb, rfl, own_zero r1, own_zero r2, r3, off_fresh hN r1, off_fresh hN r2, fun k hk he => o3 k hk he⟩, b⟩
  | none =>
    have hb0 : g.bk = [] := List.getLast?_eq_none_iff.1 hb
    have hc := ok.cnt
    rw [hb0] at hc h3
    have hlt : g.l.length < 65536 := by
      have h4 := ok.fits
      have h5 := ok.small
      have h6 : g.l.count true ≠ g.room := hf
      simp at hc
      omega
    have eT : g.take = ⟨g.ts ++ [1], g.l ++ [true], [], g.room⟩ := by unfold Gh.take; rw [hb]
    have eH : g.handle = g.l.length + 1 := by
      have hnx : g.next = g.l.length := by unfold Gh.next; rw [hb]; rfl
      unfold Gh.handle Gh.times
      rw [hnx, ← ok.len]
      simp
    rw [hb0]
    refine (ref_take_new pt pk pb g.ts.length ct g.l.length ck cb g.room g.ts g.l w hFit hlt h1 h2 (by simpa using h3) hr).mono ?_
    rintro e w' ⟨pt', ct', pk', ck', rfl, r1, r2, r3, b⟩
    rw [eT, eH]
    exact ⟨_, rfl, ⟨pt', ct', pk', ck', pb, cb, rfl, own_zero r1, own_zero r2, r3, off_fresh hN r1, off_fresh hN r2, fun k hk he => o3 k hk (by rw [hb0]; exact he)⟩, b⟩
theorem rg_give_none {N : Nat → Prop} {w : World} {v : Value} {g : Gh} {M : Nat} (h : RAt N w v g) (ok : g.Ok M) (hM : M ≤ 2147483648) (x : Nat) (hx : x < 18446744073709551616) (hn : placeOf g.ts g.l x = none) :
    Calls Try.prog 31 #[v, .int .u64 (x : Int)] w (GiveR N w g 40) := by
  have hR := h
  obtain ⟨pt, ct, pk, ck, pb, cb, rfl, h1, h2, h3, o⟩ := h
  refine (ref_give_none pt pk pb g.ts.length ct g.l.length ck g.bk.length cb g.room g.ts g.l x w (ok.fit hM) hx h1 h2 hn).mono ?_
  rintro e w' ⟨rfl, b⟩
  exact ⟨_, rfl, hR.below b, b⟩
theorem rg_give {N : Nat → Prop} {w : World} {v : Value} {g : Gh} {M : Nat} (hN : ∀ k, N k → k < w.heap.size) (h : RAt N w v g) (ok : g.Ok M) (hM : M ≤ 2147483648) (x p : Nat) (hx : x < 18446744073709551616) (hp : p < g.l.length) (hpt : g.l[p]? = some true) (hs : placeOf g.ts g.l x = some p) :
    Calls Try.prog 31 #[v, .int .u64 (x : Int)] w (GiveR N w (g.give p) 0) := by
  obtain ⟨pt, ct, pk, ck, pb, cb, rfl, h1, h2, h3, o⟩ := h
  have hc := ok.cnt
  have h4 := ok.fits
  have h5 := ok.small
  have hpos : 0 < g.l.count true := List.count_pos_iff.2 (by
    obtain ⟨a, b⟩ := List.getElem?_eq_some_iff.1 hpt
    rw [← b]; exact List.getElem_mem a)
  refine (ref_give_some pt pk pb g.ts.length ct g.l.length ck g.bk.length cb g.room g.ts g.l g.bk x p w (ok.fit hM) hx (by omega) h1 h2 h3 hp hs).mono ?_
  rintro e w' ⟨pt', ct', pk', ck', pb', cb', rfl, r1, r2, r3, b⟩
  exact ⟨_, rfl, ⟨pt', ct', pk', ck', pb', cb', rfl, own_zero r1, own_zero r2, own_zero r3, off_fresh hN r1, off_fresh hN r2, off_fresh hN r3⟩, b⟩

end Go.Proofs.Ytmaofmbnlfggiab
