/-
  What is held between two calls of the laws' own play: the program's arena, the handles that were taken, and which of them were given back.
-/
import Derived.Test.YtacienpjoegclaaArenaHolds
namespace Go.Proofs.Ytacienpjoegclaa
open Go.RowKit
set_option linter.unusedVariables false

/-- A handle's mark: it does not hold. -/
def goneV (g : Gh) (x : Nat) : Value := .bool (g.at x).isNone

theorem countP_less {f : Nat → Bool} {x : Nat} : ∀ {H : List Nat}, H.Nodup → x ∈ H → f x = true → H.countP (fun y => f y && decide (y ≠ x)) + 1 = H.countP f
  | [], _, h, _ => (List.not_mem_nil h).elim
  | y :: t, hn, h, hf => by
    obtain ⟨h1, h2⟩ := List.nodup_cons.1 hn
    rw [List.countP_cons, List.countP_cons]
    by_cases c : y = x
    · subst c
      have e : t.countP (fun z => f z && decide (z ≠ y)) = t.countP f := by
        refine List.countP_congr fun z hz => ?_
        have : z ≠ y := fun e => h1 (e ▸ hz)
        simp [this]
      rw [e]
      simp [hf]
    · have hx : x ∈ t := by
        rcases List.mem_cons.1 h with h | h
        · exact absurd h.symm c
        · exact h
      have := countP_less h2 hx hf
      simp only [c, ne_eq, not_false_eq_true, decide_true, Bool.and_true] at this ⊢
      omega
/-- As many as hold. -/
def Gh.holds (g : Gh) (x : Nat) : Bool := (g.at x).isSome

/-- All that were given out, once each. -/
structure Told (g : Gh) (H : List Nat) : Prop where
  old : ∀ x, x ∈ H → g.Old x
  nodup : H.Nodup
  all : ∀ x p, g.at x = some p → x ∈ H
  cnt : H.countP g.holds = g.l.count true

theorem told_new (room : Nat) : Told (Gh.new room) [] :=
  ⟨fun x hx => (List.not_mem_nil hx).elim, List.nodup_nil, fun x p h => by
    unfold Gh.at placeOf Gh.new at h
    simp at h, rfl⟩
theorem take_count {g : Gh} {M : Nat} (ok : g.Ok M) (hr : ¬ g.full) : g.take.l.count true = g.l.count true + 1 := by
  have h1 := ok.cnt
  have h2 := (ok.take hr).cnt
  cases e : g.bk.getLast? with
  | some p =>
    have e2 : g.take = ⟨g.ts.set p (g.times + 1), g.l.set p true, g.bk.dropLast, g.room⟩ := by unfold Gh.take; rw [e]
    have e3 : g.bk.length = g.bk.dropLast.length + 1 := by
      have := congrArg List.length (last_split e)
      simpa using this
    rw [e2] at h2 ⊢
    simp only [List.length_set] at h2 ⊢
    omega
  | none =>
    have e2 : g.take = ⟨g.ts ++ [1], g.l ++ [true], [], g.room⟩ := by unfold Gh.take; rw [e]
    rw [e2]
    simp
theorem give_count {g : Gh} {M p : Nat} (ok : g.Ok M) (h : g.l[p]? = some true) : (g.give p).l.count true + 1 = g.l.count true := by
  have h1 := ok.cnt
  have h2 := (ok.give h).cnt
  unfold Gh.give at h2 ⊢
  simp only [List.length_set, List.length_append, List.length_singleton] at h2 ⊢
  omega
theorem Told.take {g : Gh} {M : Nat} {H : List Nat} (t : Told g H) (ok : g.Ok M) (hr : ¬ g.full) : Told g.take (H ++ [g.handle]) := by
  refine ⟨fun x hx => ?_, ?_, fun x p h => ?_, ?_⟩
  · rcases List.mem_append.1 hx with hx | hx
    · exact old_take ok (t.old x hx)
    · rw [List.mem_singleton.1 hx]
      exact handle_old ok
  · refine List.nodup_append.2 ⟨t.nodup, by simp, fun x hx y hy e => ?_⟩
    rw [List.mem_singleton.1 hy] at e
    exact handle_new ok (e ▸ t.old x hx)
  · by_cases hx : x = g.handle
    · rw [hx]; simp
    · refine List.mem_append_left _ ?_
      have ok' := ok.take hr
      obtain ⟨h1, n, h2, e⟩ := (hd_iff ok').1 ((at_iff ok').1 h)
      rw [take_l ok] at h1
      rw [take_ts ok] at h2
      by_cases c : p = g.next
      · rw [if_pos c] at h2
        have h3 : g.times = n := by simpa using h2
        refine absurd ?_ hx
        rw [e, c, ← h3]
        rfl
      · rw [if_neg c] at h1 h2
        exact t.all x p ((at_iff ok).2 ((hd_iff ok).2 ⟨h1, n, h2, e⟩))
  · rw [List.countP_append, take_count ok hr, ← t.cnt]
    have e1 : H.countP g.take.holds = H.countP g.holds := by
      refine List.countP_congr fun x hx => ?_
      unfold Gh.holds
      rw [at_take_old ok hr (t.old x hx)]
    have e2 : g.take.holds g.handle = true := by
      unfold Gh.holds
      rw [at_take_new ok hr]
      rfl
    rw [e1, List.countP_cons, e2]
    rfl
theorem Told.give {g : Gh} {M : Nat} {H : List Nat} {x p : Nat} (t : Told g H) (ok : g.Ok M) (h : g.at x = some p) : Told (g.give p) H :=
  ⟨fun y hy => old_give (t.old y hy), t.nodup, fun y q hq => by
    rw [at_give ok h] at hq
    split at hq
    · cases hq
    · exact t.all y q hq, by
    have h1 := give_count ok ((hd_iff ok).1 ((at_iff ok).1 h)).1
    have h2 := countP_less (f := g.holds) t.nodup (t.all x p h) (by unfold Gh.holds; rw [h]; rfl)
    have h3 : H.countP (g.give p).holds = H.countP (fun y => g.holds y && decide (y ≠ x)) := by
      refine List.countP_congr fun y _ => ?_
      unfold Gh.holds
      rw [at_give ok h]
      by_cases c : y = x
      · simp [c]
      · simp [c]
    have h4 := t.cnt
    omega⟩
theorem gone_take {g : Gh} {M : Nat} {H : List Nat} (t : Told g H) (ok : g.Ok M) (hr : ¬ g.full) : (H ++ [g.handle]).map (goneV g.take) = H.map (goneV g) ++ [.bool false] := by
  rw [List.map_append]
  congr 1
  · refine List.map_congr_left fun x hx => ?_
    unfold goneV
    rw [at_take_old ok hr (t.old x hx)]
  · simp only [List.map_cons, List.map_nil, goneV]
    rw [at_take_new ok hr]
    rfl
theorem gone_give {g : Gh} {M x p : Nat} (ok : g.Ok M) (h : g.at x = some p) (y : Nat) : goneV (g.give p) y = .bool ((g.at y).isNone || decide (y = x)) := by
  unfold goneV
  rw [at_give ok h]
  by_cases c : y = x
  · rw [if_pos c]
    simp [c]
  · rw [if_neg c]
    simp [c]
/-- As far as the marks are made anew. -/
def partG (g g' : Gh) (H : List Nat) (j : Nat) : List Value := (H.take j).map (goneV g') ++ (H.drop j).map (goneV g)
theorem partG_zero (g g' : Gh) (H : List Nat) : partG g g' H 0 = H.map (goneV g) := by unfold partG; simp
theorem partG_all (g g' : Gh) (H : List Nat) : partG g g' H H.length = H.map (goneV g') := by unfold partG; simp
theorem partG_get (g g' : Gh) (H : List Nat) {j : Nat} (hj : j < H.length) : (partG g g' H j)[j]? = some (goneV g H[j]) := by
  unfold partG
  rw [List.getElem?_append_right (by simp; omega)]
  simp [Nat.min_eq_left (Nat.le_of_lt hj), hj]
theorem partG_set (g g' : Gh) (H : List Nat) {j : Nat} (hj : j < H.length) : (partG g g' H j).set j (goneV g' H[j]) = partG g g' H (j + 1) := by
  unfold partG
  rw [List.set_append_right _ _ (by simp; omega)]
  have e1 : H.drop j = H[j] :: H.drop (j + 1) := (List.getElem_cons_drop hj).symm
  have e2 : H.take (j + 1) = H.take j ++ [H[j]] := (List.take_append_getElem hj).symm
  have e3 : j - ((H.take j).map (goneV g')).length = 0 := by simp [Nat.min_eq_left (Nat.le_of_lt hj)]
  rw [e3, e1, e2, List.map_cons, List.map_append, List.append_assoc]
  rfl

structure Held (K : ArenaK) (w W : World) (a : Addr) (N : Nat → Prop) (g : Gh) (M : Nat) (p : Option Addr) (c : Nat) (q : Option Addr) (d : Nat) (H : List Nat) (G : List Value) : Prop where
  at_ : K.At N W a g
  ok : g.Ok M
  new : ∀ k, N k → w.heap.size ≤ k
  row : W.ownsRow w.heap.size 35 1 (.slice p H.length c) H.length (H.map u64V)
  off : Off N p H.length c
  rowG : W.ownsRow w.heap.size 4 1 (.slice q H.length d) H.length G
  offG : Off N q H.length d
  small : ∀ h, h ∈ H → h < 18446744073709551616
  lo : Below w.heap.size w W

section
variable {K : ArenaK} {w W W' : World} {a : Addr} {N : Nat → Prop} {g : Gh} {M : Nat} {p : Option Addr} {c : Nat} {q : Option Addr} {d : Nat} {H : List Nat} {G : List Value}
theorem Held.below (h : Held K w W a N g M p c q d H G) (b : Below W.heap.size W W') : Held K w W' a N g M p c q d H G :=
  ⟨K.below h.at_ b, h.ok, h.new, owns_below h.row b, h.off, owns_below h.rowG b, h.offG, h.small, h.lo.trans (b.mono h.lo.size)⟩
theorem Held.more (h : Held K w W a N g M p c q d H G) : Held K w W a N g (M + 1) p c q d H G := { h with ok := h.ok.more }
theorem off_went {N N' : Nat → Prop} {n m base e s : Nat} {xs : List Value} (h : Off N p n c) (r : W.ownsRow base e s (.slice p n c) m xs) (h3 : ∀ k, N' k → N k ∨ W.heap.size ≤ k) : Off N' p n c := by
  intro k hk he
  rcases h3 k hk with h4 | h4
  · exact h k h4 he
  · have := (r.lt k he).2; omega
/-- Behind a step of the program's own. -/
theorem Held.went (h : Held K w W a N g M p c q d H G) {g' : Gh} {M' : Nat} (ok : g'.Ok M') (t : Went K.At N W a g' W') : ∃ N', Held K w W' a N' g' M' p c q d H G := by
  obtain ⟨N', h1, h2, h3⟩ := t
  have hs := h.lo.size
  refine ⟨N', h1, ok, fun k hk => ?_, own_turned h.row h.off h2, off_went h.off h.row h3, own_turned h.rowG h.offG h2, off_went h.offG h.rowG h3, h.small, below_turned h2 hs h.new h.lo⟩
  rcases h3 k hk with h4 | h4
  · exact h.new k h4
  · omega
/-- A mark is made. -/
theorem Held.mark {gq : Nat} (h : Held K w W a N g M p c (some ⟨gq, 0, none⟩) d H G) (j : Nat) (u : Value) : Held K w (W.setCell ⟨gq, j, none⟩ u) a N g M p c (some ⟨gq, 0, none⟩) d H (G.set j u) := by
  have hK := (h.rowG.lt gq rfl).1
  refine ⟨K.kept h.at_ (fun k hk => Below.heap_setCell _ _ _ k (fun e => h.offG k hk (by rw [e]; rfl))) (by simp), h.ok, h.new, own_set h.row (own_ne h.row h.rowG (by decide)), h.off, (h.rowG.stored j u).1, h.offG, h.small, h.lo.setCell (p := ⟨gq, j, none⟩) hK u⟩
/-- A handle more. -/
theorem Held.took (h : Held K w W a N g M p c q d H G) {x : Nat} (hx : x < 18446744073709551616) {w1 w2 : World} {p' : Option Addr} {c' : Nat} (o : w1.ownsRow w.heap.size 35 1 (.slice p' (H.length + 1) c') (H.length + 1) (H.map u64V ++ [.int .u64 (x : Int)])) (t : W.grownBy w1 (Value.slice p H.length c).ownBlock)
    (hat : (Value.slice p' (H.length + 1) c').ownBlock = (Value.slice p H.length c).ownBlock ∨ (Value.slice p' (H.length + 1) c').ownBlock = some W.heap.size)
    {w1' : World} (b : Below w1.heap.size w1 w1') {q' : Option Addr} {d' : Nat} {v : Value} (o2 : w2.ownsRow w.heap.size 4 1 (.slice q' (H.length + 1) d') (H.length + 1) (G ++ [v])) (t2 : w1'.grownBy w2 (Value.slice q H.length d).ownBlock)
    (hat2 : (Value.slice q' (H.length + 1) d').ownBlock = (Value.slice q H.length d).ownBlock ∨ (Value.slice q' (H.length + 1) d').ownBlock = some w1'.heap.size) :
    Held K w w2 a N g M p' c' q' d' (H ++ [x]) (G ++ [v]) := by
  have hne : ∀ k, N k → some k ≠ (Value.slice p H.length c).ownBlock := fun k hk e => h.off k hk e.symm
  have hneG : ∀ k, N k → some k ≠ (Value.slice q H.length d).ownBlock := fun k hk e => h.offG k hk e.symm
  have hlt := fun k hk => K.lt h.at_ k hk
  have at1 := K.kept h.at_ (fun k hk => t.block k (hlt k hk) (hne k hk)) t.size
  have rg1 := h.rowG.kept t (own_ne2 h.rowG h.row (by decide))
  have lo1 := h.lo.grown t h.lo.size (fun k e => (h.row.lt k e).1)
  have at2 := K.below at1 b
  have rg2 := owns_below rg1 b
  have ro2 := owns_below o b
  have lo2 := lo1.trans (b.mono lo1.size)
  have hlt2 := fun k hk => K.lt at2 k hk
  refine ⟨K.kept at2 (fun k hk => t2.block k (hlt2 k hk) (hneG k hk)) t2.size, h.ok, h.new, ?_, fun k hk e => ?_, ?_, fun k hk e => ?_, fun y hy => ?_, lo2.grown t2 lo2.size (fun k e => (rg2.lt k e).1)⟩
  · rw [List.length_append, List.map_append]
    exact ro2.kept t2 (own_ne2 ro2 rg2 (by decide))
  · rw [List.length_append] at e
    rcases hat with h4 | h4
    · exact h.off k hk (h4.symm.trans e)
    · have h5 : some W.heap.size = some k := h4.symm.trans e
      have := hlt k hk
      cases h5
      omega
  · rw [List.length_append]
    exact o2
  · rw [List.length_append] at e
    rcases hat2 with h4 | h4
    · exact h.offG k hk (h4.symm.trans e)
    · have h5 : some w1'.heap.size = some k := h4.symm.trans e
      have := hlt2 k hk
      cases h5
      omega
  · rcases List.mem_append.1 hy with hy | hy
    · exact h.small y hy
    · simp at hy; subst hy; exact hx
end

end Go.Proofs.Ytacienpjoegclaa
