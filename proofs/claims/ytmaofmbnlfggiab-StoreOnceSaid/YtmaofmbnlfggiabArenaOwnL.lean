/-
  The program's own arena (package arena): what a taking and a giving back make of its rows.
-/
import Derived.Test.YtmaofmbnlfggiabArenaOwn
namespace Go.Proofs.Ytmaofmbnlfggiab
open Go.RowKit
set_option linter.unusedVariables false

theorem hd_taken {ts : List Nat} {l : List Bool} {p n : Nat} (hl : ts.length = l.length) (hp : p < l.length) (j : Nat) : hd (ts.set p (n + 1)) (l.set p true) j = if j = p then some (n * 4294967296 + p + 1) else hd ts l j := by
  by_cases c : j = p
  · subst c
    rw [if_pos rfl]
    exact hd_some (by simp [hp]) (by simp [hl, hp])
  · rw [if_neg c]
    unfold hd
    rw [List.getElem?_set_ne (Ne.symm c), List.getElem?_set_ne (Ne.symm c)]
theorem hd_given {ts : List Nat} {l : List Bool} {p : Nat} (j : Nat) : hd ts (l.set p false) j = if j = p then none else hd ts l j := by
  by_cases c : j = p
  · subst c
    rw [if_pos rfl]
    refine hd_none fun h => ?_
    by_cases d : j < l.length
    · simp [d] at h
    · rw [List.getElem?_eq_none (by simp; omega)] at h; cases h
  · rw [if_neg c]
    unfold hd
    rw [List.getElem?_set_ne (Ne.symm c)]
theorem hd_newly {ts : List Nat} {l : List Bool} (hl : ts.length = l.length) (j : Nat) : hd (ts ++ [1]) (l ++ [true]) j = if j = l.length then some (l.length + 1) else hd ts l j := by
  by_cases c : j = l.length
  · subst c
    rw [if_pos rfl]
    have h := hd_some (ts := ts ++ [1]) (l := l ++ [true]) (p := l.length) (n := 0) (by simp) (by rw [← hl]; simp)
    rw [h]
    simp
  · rw [if_neg c]
    by_cases d : j < l.length
    · unfold hd
      rw [List.getElem?_append_left d, List.getElem?_append_left (by omega)]
    · rw [hd_none, hd_none]
      · rw [List.getElem?_eq_none (by omega)]; simp
      · rw [List.getElem?_eq_none (by simp; omega)]; simp

theorem heldRow_taken {g : Gh} {p n x : Nat} {bk : List Nat} (hl : g.ts.length = g.l.length) (hp : p < g.l.length) (hx : n * 4294967296 + p + 1 = x) :
    heldRow ⟨g.ts.set p (n + 1), g.l.set p true, bk, g.room⟩ = (heldRow g).set p x := by
  apply List.ext_getElem?
  intro j
  by_cases c : j < g.l.length
  · rw [heldRow_get (by simpa using c), List.getElem?_set, heldRow_length]
    show some ((hd (g.ts.set p (n + 1)) (g.l.set p true) j).getD 0) = _
    rw [hd_taken hl hp]
    by_cases d : p = j
    · subst d
      simp [c, hx]
    · rw [if_neg (Ne.symm d), if_neg d, heldRow_get c]
  · rw [List.getElem?_eq_none (by rw [heldRow_length]; simp; omega), List.getElem?_eq_none (by rw [List.length_set, heldRow_length]; omega)]
theorem heldRow_given {g : Gh} {p : Nat} {bk : List Nat} (hp : p < g.l.length) :
    heldRow ⟨g.ts, g.l.set p false, bk, g.room⟩ = (heldRow g).set p 0 := by
  apply List.ext_getElem?
  intro j
  by_cases c : j < g.l.length
  · rw [heldRow_get (by simpa using c), List.getElem?_set, heldRow_length]
    show some ((hd g.ts (g.l.set p false) j).getD 0) = _
    rw [hd_given]
    by_cases d : p = j
    · subst d
      simp [c]
    · rw [if_neg (Ne.symm d), if_neg d, heldRow_get c]
  · rw [List.getElem?_eq_none (by rw [heldRow_length]; simp; omega), List.getElem?_eq_none (by rw [List.length_set, heldRow_length]; omega)]
theorem heldRow_newly {g : Gh} {bk : List Nat} (hl : g.ts.length = g.l.length) :
    heldRow ⟨g.ts ++ [1], g.l ++ [true], bk, g.room⟩ = heldRow g ++ [g.l.length + 1] := by
  apply List.ext_getElem?
  intro j
  by_cases c : j < g.l.length
  · rw [heldRow_get (by simp; omega), List.getElem?_append_left (by rw [heldRow_length]; exact c), heldRow_get c]
    show some ((hd (g.ts ++ [1]) (g.l ++ [true]) j).getD 0) = _
    rw [hd_newly hl, if_neg (by omega)]
  · by_cases d : j = g.l.length
    · subst d
      rw [heldRow_get (by simp), List.getElem?_append_right (by rw [heldRow_length]; exact Nat.le_refl _), heldRow_length]
      show some ((hd (g.ts ++ [1]) (g.l ++ [true]) g.l.length).getD 0) = _
      rw [hd_newly hl, if_pos rfl]
      simp
    · rw [List.getElem?_eq_none (by rw [heldRow_length]; simp; omega), List.getElem?_eq_none (by simp [heldRow_length]; omega)]
theorem againRow_taken {ts : List Nat} {l : List Bool} {bk : List Nat} {p n room : Nat} (h : p ∉ bk) : againRow ⟨ts.set p n, l, bk, room⟩ = bk.map fun q => (ts[q]?.getD 0) * 4294967296 + q + 1 := by
  unfold againRow
  apply List.map_congr_left
  intro q hq
  have hne : p ≠ q := fun e => h (by rw [e]; exact hq)
  show ((ts.set p n)[q]?.getD 0) * 4294967296 + q + 1 = _
  rw [List.getElem?_set_ne hne]

theorem Went.after {N : Nat → Prop} {w w1 w2 : World} {a : Addr} {g : Gh} (b : Below w.heap.size w w1) (h : Went AtP N w1 a g w2) : Went AtP N w a g w2 := by
  obtain ⟨N', h1, h2, h3⟩ := h
  exact ⟨N', h1, (Turned.below b).trans h2, fun k hk => (h3 k hk).imp id (fun h => Nat.le_trans b.size h)⟩
theorem AtP.drew {N : Nat → Prop} {w : World} {a : Addr} {g : Gh} (h : AtP N w a g) : AtP N w.drew a g := h.kept (fun _ _ => rfl) (Nat.le_refl _)

/-- The place that was given back last is taken. -/
theorem Lies.took {N w b gh ch ga ca g M} (h : Lies N w b (some ⟨gh, 0, none⟩) ch (some ⟨ga, 0, none⟩) ca g) (ok : g.Ok M) {bk : List Nat} {p n x : Nat} (hbk : g.bk = bk ++ [p]) (hn : g.ts[p]? = some n) (hx : n * 4294967296 + p + 1 = x) :
    Went AtP N w ⟨b, 0, none⟩ g.take ((w.setCell ⟨b, 2, none⟩ (.slice (some ⟨ga, 0, none⟩) bk.length ca)).setCell ⟨gh, p, none⟩ (.int .u64 (x : Int))).drew := by
  have hbl : g.bk.length = bk.length + 1 := by rw [hbk]; simp
  have hlast : g.bk.getLast? = some p := by rw [hbk]; simp
  have hpf := ok.free p (by rw [hbk]; simp)
  have hpl := (List.getElem?_eq_some_iff.1 hpf).1
  have hnd := ok.nodup
  rw [hbk, List.nodup_append] at hnd
  have hpn : p ∉ bk := fun hm => hnd.2.2 p hm p (by simp) rfl
  have hnx : g.next = p := by unfold Gh.next; rw [hlast]; rfl
  have htm : g.times = n := by unfold Gh.times; rw [hnx, hn]; rfl
  have eT : g.take = ⟨g.ts.set p (n + 1), g.l.set p true, bk, g.room⟩ := by
    unfold Gh.take
    rw [hlast, htm, hbk]
    simp
  have hgb : b ≠ gh := fun e => h.box.not_row h.rh (by decide) (by rw [e]; rfl)
  have hne : gh ≠ ga := fun e => h.ne ga rfl (by rw [e]; rfl)
  have ra := h.ra
  rw [hbl] at ra
  have e1 : (againRow g).map u64V = (bk.map fun q => (g.ts[q]?.getD 0) * 4294967296 + q + 1).map u64V ++ [u64V x] := by
    unfold againRow
    rw [hbk]
    simp [hn, hx]
  rw [e1] at ra
  have ra1 := own_init (m := bk.length) ra (by simp) (by omega)
  have ra2 := h.box.row (i := 2) (u := .slice (some ⟨ga, 0, none⟩) bk.length ca) ra1 (by decide)
  have rh2 := h.box.row (i := 2) (u := .slice (some ⟨ga, 0, none⟩) bk.length ca) h.rh (by decide)
  have X2 := h.box.set2 (.slice (some ⟨ga, 0, none⟩) bk.length ca)
  have rh3 := (rh2.stored p (.int .u64 (x : Int))).1
  have X3 := X2.other (c := gh) (i := p) hgb (.int .u64 (x : Int))
  have ra3 := ra2.kept (grownBy_set _ gh p (.int .u64 (x : Int))) (.inr (by show some ga ≠ some gh; exact fun e => hne (Option.some.inj e).symm))
  refine ⟨N, ⟨b, some ⟨gh, 0, none⟩, ch, some ⟨ga, 0, none⟩, ca, rfl, ?_⟩, (((Turned.refl N w).set h.nb _).set (h.nh gh rfl) _).drew, fun k hk => .inl hk⟩
  rw [eT]
  refine { box := ?_, rh := ?_, ra := ?_, ne := h.ne, nb := h.nb, nh := h.nh, na := h.na, lt := ?_, pos := h.pos }
  · show Boxed3 _ b _ (.slice (some ⟨gh, 0, none⟩) (g.l.set p true).length ch) _
    rw [List.length_set]
    exact X3
  · show World.ownsRow _ 0 _ 1 (.slice (some ⟨gh, 0, none⟩) (g.l.set p true).length ch) (g.l.set p true).length _
    rw [List.length_set, heldRow_taken ok.len hpl hx, List.map_set]
    exact rh3
  · rw [againRow_taken hpn]
    exact ra3
  · intro k hk
    have := h.lt k hk
    show k < (World.setCell _ _ _).heap.size
    simpa using this

end Go.Proofs.Ytmaofmbnlfggiab
