/-
  ArenaTurn's steps: the arena and the handles that were taken, and beside them the places that were given back.
-/
import Derived.Test.YtacienpjoegclaaArenaPlayed
namespace Go.Proofs.Ytacienpjoegclaa
open Go.RowKit
set_option linter.unusedVariables false

structure Turn (K : ArenaK) (w W : World) (a : Addr) (N : Nat → Prop) (g : Gh) (M : Nat) (p : Option Addr) (c : Nat) (q : Option Addr) (d : Nat) (H : List Nat) (G : List Value) (s : Option Addr) (f : Nat) (L : List Nat) : Prop where
  held : Held K w W a N g M p c q d H G
  rowP : W.ownsRow w.heap.size 3 1 (.slice s L.length f) L.length (L.map natV)
  offP : Off N s L.length f

section
variable {K : ArenaK} {w W W' : World} {a : Addr} {N : Nat → Prop} {g : Gh} {M : Nat} {p : Option Addr} {c : Nat} {q : Option Addr} {d : Nat} {H : List Nat} {G : List Value} {s : Option Addr} {f : Nat} {L : List Nat}
theorem Turn.below (h : Turn K w W a N g M p c q d H G s f L) (b : Below W.heap.size W W') : Turn K w W' a N g M p c q d H G s f L :=
  ⟨h.held.below b, owns_below h.rowP b, h.offP⟩
theorem Turn.went (h : Turn K w W a N g M p c q d H G s f L) {g' : Gh} {M' : Nat} (ok : g'.Ok M') (t : Went K.At N W a g' W') : ∃ N', Turn K w W' a N' g' M' p c q d H G s f L := by
  obtain ⟨N', h1, h2, h3⟩ := t
  have hs := h.held.lo.size
  refine ⟨N', ⟨h1, ok, fun k hk => ?_, own_turned h.held.row h.held.off h2, off_went h.held.off h.held.row h3, own_turned h.held.rowG h.held.offG h2, off_went h.held.offG h.held.rowG h3, h.held.small, below_turned h2 hs h.held.new h.held.lo⟩, own_turned h.rowP h.offP h2, off_went h.offP h.rowP h3⟩
  rcases h3 k hk with h4 | h4
  · exact h.held.new k h4
  · omega
theorem Turn.mark {gq : Nat} (h : Turn K w W a N g M p c (some ⟨gq, 0, none⟩) d H G s f L) (j : Nat) (u : Value) : Turn K w (W.setCell ⟨gq, j, none⟩ u) a N g M p c (some ⟨gq, 0, none⟩) d H (G.set j u) s f L :=
  ⟨h.held.mark j u, own_set h.rowP (own_ne h.rowP h.held.rowG (by decide)), h.offP⟩
/-- A place more. -/
theorem Turn.put (h : Turn K w W a N g M p c q d H G s f L) {x : Nat} {w1 : World} {s' : Option Addr} {f' : Nat} (o : w1.ownsRow w.heap.size 3 1 (.slice s' (L.length + 1) f') (L.length + 1) (L.map natV ++ [.int .i64 (x : Int)])) (t : W.grownBy w1 (Value.slice s L.length f).ownBlock)
    (hat : (Value.slice s' (L.length + 1) f').ownBlock = (Value.slice s L.length f).ownBlock ∨ (Value.slice s' (L.length + 1) f').ownBlock = some W.heap.size) : Turn K w w1 a N g M p c q d H G s' f' (L ++ [x]) := by
  have hne : ∀ k, N k → some k ≠ (Value.slice s L.length f).ownBlock := fun k hk e => h.offP k hk e.symm
  have hlt := fun k hk => K.lt h.held.at_ k hk
  refine ⟨⟨K.kept h.held.at_ (fun k hk => t.block k (hlt k hk) (hne k hk)) t.size, h.held.ok, h.held.new, h.held.row.kept t (own_ne2 h.held.row h.rowP (by decide)), h.held.off, h.held.rowG.kept t (own_ne2 h.held.rowG h.rowP (by decide)), h.held.offG, h.held.small, h.held.lo.grown t h.held.lo.size (fun k e => (h.rowP.lt k e).1)⟩, ?_, fun k hk e => ?_⟩
  · rw [List.length_append, List.map_append]
    exact o
  · rw [List.length_append] at e
    rcases hat with h4 | h4
    · exact h.offP k hk (h4.symm.trans e)
    · have h5 : some W.heap.size = some k := h4.symm.trans e
      have := hlt k hk
      cases h5
      omega
end

/-- The mark of a handle that is given back. -/
theorem gone_set {g : Gh} {M x pp k : Nat} {H : List Nat} (ok : g.Ok M) (t : Told g H) (h : g.at x = some pp) (hk : H[k]? = some x) : (H.map (goneV g)).set k (.bool true) = H.map (goneV (g.give pp)) := by
  apply List.ext_getElem?
  intro i
  rw [List.getElem?_set, List.getElem?_map, List.getElem?_map]
  obtain ⟨hkl, hkx⟩ := List.getElem?_eq_some_iff.1 hk
  by_cases c : k = i
  · subst c
    rw [if_pos rfl, if_pos (by simpa using hkl), hk]
    simp [gone_give ok h]
  · rw [if_neg c]
    cases e : H[i]? with
    | none => rfl
    | some y =>
      obtain ⟨hil, hiy⟩ := List.getElem?_eq_some_iff.1 e
      have hne : y ≠ x := by
        intro hyx
        have := List.pairwise_iff_getElem.1 t.nodup
        rcases Nat.lt_or_gt_of_ne c with h1 | h1
        · exact this k i hkl hil h1 (by rw [hkx, hiy, hyx])
        · exact this i k hil hkl h1 (by rw [hkx, hiy, hyx])
      simp only [Option.map_some, gone_give ok h]
      simp [hne, goneV]

/-- A place that was given back is taken next. -/
theorem take_back {g : Gh} {M x : Nat} {pre L : List Nat} (ok : g.Ok M) (h : g.bk = pre ++ (L ++ [x])) : ¬ g.full ∧ g.next = x ∧ g.take.bk = pre ++ L := by
  have hl : g.bk.getLast? = some x := by rw [h, ← List.append_assoc]; simp
  refine ⟨fun hf => ?_, by unfold Gh.next; rw [hl]; rfl, ?_⟩
  · have h1 := ok.cnt
    have h2 := ok.fits
    have h3 : g.bk.length = pre.length + L.length + 1 := by rw [h]; simp; omega
    unfold Gh.full at hf
    omega
  · unfold Gh.take
    rw [hl]
    show g.bk.dropLast = _
    rw [h, ← List.append_assoc]
    simp
theorem give_bk {g : Gh} {pp : Nat} {pre L : List Nat} (h : g.bk = pre ++ L) : (g.give pp).bk = pre ++ (L ++ [pp]) := by
  unfold Gh.give
  show g.bk ++ [pp] = _
  rw [h, List.append_assoc]

/-- Nothing was given back. -/
structure Fresh (g : Gh) (i room : Nat) : Prop where
  bk : g.bk = []
  len : g.l.length = i
  room : g.room = room
theorem fresh_new (room : Nat) : Fresh (Gh.new room) 0 room := ⟨rfl, rfl, rfl⟩
theorem Fresh.count {g : Gh} {i room M : Nat} (h : Fresh g i room) (ok : g.Ok M) : g.l.count true = i := by
  have h1 := ok.cnt
  rw [h.bk, h.len] at h1
  simpa using h1
theorem Fresh.full {g : Gh} {i room M : Nat} (h : Fresh g i room) (ok : g.Ok M) : g.full ↔ i = room := by
  unfold Gh.full
  rw [h.count ok, h.room]
theorem Fresh.handle {g : Gh} {i room M : Nat} (h : Fresh g i room) (ok : g.Ok M) : g.handle = i + 1 := by
  have e : g.next = i := by unfold Gh.next; rw [h.bk]; exact h.len
  have e2 : g.times = 0 := by
    unfold Gh.times
    rw [e, List.getElem?_eq_none (by rw [ok.len, h.len]; exact Nat.le_refl _)]
    rfl
  unfold Gh.handle
  rw [e, e2]
  omega
theorem Fresh.take {g : Gh} {i room : Nat} (h : Fresh g i room) : Fresh g.take (i + 1) room := by
  have e : g.take = ⟨g.ts ++ [1], g.l ++ [true], [], g.room⟩ := by unfold Gh.take; rw [h.bk]; rfl
  rw [e]
  exact ⟨rfl, by simp [h.len], h.room⟩

theorem u8_cell {w : World} {A : Option Addr} {len cap : Nat} {rows : List (List Value)} (h : RowOf [some .u8] w A len cap rows) {j : Nat} (hj : j < len) :
    ∃ (a : Addr) (x : Nat), A = some a ∧ x < 256 ∧ ∀ W, Below w.heap.size w W → W.cell? (a.add j) = some (.int .u8 (x : Int)) := by
  obtain ⟨h1, _, h3⟩ := h
  obtain ⟨hf, a, rfl, hc⟩ := h3 j (by omega)
  obtain ⟨v, e⟩ : ∃ v, rows[j] = [v] := by
    have := hf.length
    match hr : rows[j], this with
    | [v], _ => exact ⟨v, rfl⟩
  rw [e] at hf hc
  obtain ⟨⟨n0, rfl, w0⟩, _⟩ := hf
  obtain ⟨x, rfl, hx⟩ := nat_u8 w0
  have c0 := hc 0 _ rfl
  refine ⟨a, x, rfl, hx, fun W b => ?_⟩
  have c1 : w.cell? (a.add j) = some (.int .u8 (x : Int)) := by simpa using c0
  exact (b.cell (World.block_lt_of_cell? w _ c1)).trans c1

end Go.Proofs.Ytacienpjoegclaa
