/-
  The steps of a play: what a round of ArenaTells makes of what is held between two calls.
-/
import Derived.Test.YtacienpjoegclaaArenaTellsOut
import Derived.Maps.AppendAt
namespace Go.Proofs.Ytacienpjoegclaa
open Go.RowKit
set_option linter.unusedVariables false

theorem Gh.take_room (g : Gh) : g.take.room = g.room := by
  unfold Gh.take
  split <;> rfl
theorem Gh.give_room (g : Gh) (p : Nat) : (g.give p).room = g.room := rfl
theorem Gh.Ok.more {g : Gh} {M : Nat} (h : g.Ok M) : g.Ok (M + 1) :=
  ⟨h.len, h.fits, h.small, h.pos, fun j n hn => Nat.le_succ_of_le (h.le j n hn), h.free, h.nodup, h.cnt⟩
theorem Gh.Ok.handle_small {g : Gh} {M : Nat} (h : g.Ok M) (hM : M ≤ 1000) : g.handle < 18446744073709551616 := by
  have h1 : g.times ≤ M := by
    unfold Gh.times
    cases e : g.ts[g.next]? with
    | none => exact Nat.zero_le _
    | some n => exact h.le _ n e
  have h2 : g.next ≤ 65536 := by
    unfold Gh.next
    cases e : g.bk.getLast? with
    | none => exact Nat.le_trans h.fits h.small
    | some p =>
      have hp : p ∈ g.bk := by rw [last_split e]; simp
      have := (List.getElem?_eq_some_iff.1 (h.free p hp)).1
      have := h.fits
      have := h.small
      show p ≤ 65536
      omega
  unfold Gh.handle
  omega
theorem place_taken {ts : List Nat} {l : List Bool} {x p : Nat} (h : placeOf ts l x = some p) : p < l.length ∧ l[p]? = some true := by
  unfold placeOf at h
  rw [List.find?_range_eq_some] at h
  obtain ⟨h1, h2, _⟩ := h
  refine ⟨by simpa using h2, ?_⟩
  have h3 : hd ts l p = some x := by simpa using h1
  unfold hd at h3
  split at h3
  · assumption
  · cases h3

section
variable {K : ArenaK} {w W W' : World} {a : Addr} {B : Nat} {N : Nat → Prop} {g g' : Gh} {M : Nat} {vt vk vb : Value} {p : Option Addr} {c : Nat} {H : List Nat}
theorem Play.more (h : Play K w W a B N g M vt vk vb p c H) : Play K w W a B N g (M + 1) vt vk vb p c H :=
  { h with ok := h.ok.more }

theorem below_kept {w W W' : World} {b : Nat} (h : Below w.heap.size w W) (t : W.grownBy W' (some b)) (hb : w.heap.size ≤ b) : Below w.heap.size w W' :=
  h.grown t h.size (fun k e => by cases e; exact hb)

/-- The document's arena is stored anew. -/
theorem play_put {w3 w4 : World} {vt' vk' vb' : Value} (q1 : K.At N w3 a g') (ok : g'.Ok M) (q2 : ∀ k, N k → w.heap.size ≤ k) (q3 : Boxed4 w3 B vt vk vb (.int .i64 (g'.room : Int))) (q4 : ¬ N B) (hB : w.heap.size ≤ B)
    (R : RAt N w4 (.agg #[vt', vk', vb', .int .i64 (g'.room : Int)]) g') (b4 : Below w3.heap.size w3 w4) (row : w3.ownsRow w.heap.size 35 1 (.slice p H.length c) H.length (H.map u64V)) (off : Off N p H.length c) (small : ∀ h, h ∈ H → h < 18446744073709551616) (lo : Below w.heap.size w w3) :
    Play K w (put4 (w4.alloc (.cells #[vt', vk', vb', .int .i64 (g'.room : Int)] 30)) B vt' vk' vb' (.int .i64 (g'.room : Int))) a B N g' M vt' vk' vb' p c H := by
  have b5 := b4.trans ((((Below.refl _ w4).alloc (Nat.le_refl _) (.cells #[vt', vk', vb', .int .i64 (g'.room : Int)] 30))).mono b4.size)
  have box5 := q3.below b5
  have at5 := K.below q1 b5
  have R5 := R.below ((Below.refl _ w4).alloc (Nat.le_refl _) (.cells #[vt', vk', vb', .int .i64 (g'.room : Int)] 30))
  have row5 := owns_below row b5
  have lo5 := lo.trans (b5.mono lo.size)
  have hput : ∀ k, k ≠ B → (put4 (w4.alloc (.cells #[vt', vk', vb', .int .i64 (g'.room : Int)] 30)) B vt' vk' vb' (.int .i64 (g'.room : Int))).heap[k]? = (w4.alloc (.cells #[vt', vk', vb', .int .i64 (g'.room : Int)] 30)).heap[k]? := by
    intro k hk
    unfold put4
    rw [Below.heap_setCell _ _ _ k hk, Below.heap_setCell _ _ _ k hk, Below.heap_setCell _ _ _ k hk, Below.heap_setCell _ _ _ k hk]
  refine ⟨K.kept at5 (fun k hk => hput k (fun e => q4 (e ▸ hk))) (by simp [put4]), ok, q2, box5.put _ _ _ _, q4, hB, ?_, box5.put_row _ _ _ _ row5 (by decide), off, small, below_put4 lo5 hB _ _ _ _⟩
  obtain ⟨pt, ct, pk, ck, pb, cb, e, r1, r2, r3, o⟩ := R5
  exact ⟨pt, ct, pk, ck, pb, cb, e, box5.put_row _ _ _ _ r1 (by decide), box5.put_row _ _ _ _ r2 (by decide), box5.put_row _ _ _ _ r3 (by decide), o⟩

/-- A handle more. -/
theorem Play.took (h : Play K w W a B N g M vt vk vb p c H) {x : Nat} (hx : x < 18446744073709551616) {p' : Option Addr} {c' : Nat} (o : W'.ownsRow w.heap.size 35 1 (.slice p' (H.length + 1) c') (H.length + 1) (H.map u64V ++ [.int .u64 (x : Int)])) (t : W.grownBy W' (Value.slice p H.length c).ownBlock)
    (hat : (Value.slice p' (H.length + 1) c').ownBlock = (Value.slice p H.length c).ownBlock ∨ (Value.slice p' (H.length + 1) c').ownBlock = some W.heap.size) :
    Play K w W' a B N g M vt vk vb p' c' (H ++ [x]) := by
  have hne : ∀ k, N k → some k ≠ (Value.slice p H.length c).ownBlock := fun k hk e => h.off k hk e.symm
  have hlt := fun k hk => K.lt h.at_ k hk
  have box' := h.box.grown t (h.box.not_own h.row (by decide))
  refine ⟨K.kept h.at_ (fun k hk => t.block k (hlt k hk) (hne k hk)) t.size, h.ok, h.new, box', h.boxN, h.boxw, ?_, ?_, fun k hk e => ?_, fun y hy => ?_, h.lo.grown t h.lo.size (fun k e => (h.row.lt k e).1)⟩
  · obtain ⟨pt, ct, pk, ck, pb, cb, e, r1, r2, r3, o'⟩ := h.ref
    exact ⟨pt, ct, pk, ck, pb, cb, e, r1.kept t (own_ne2 r1 h.row (by decide)), r2.kept t (own_ne2 r2 h.row (by decide)), r3.kept t (own_ne2 r3 h.row (by decide)), o'⟩
  · rw [List.length_append, List.map_append]
    exact o
  · rw [List.length_append] at e
    rcases hat with h4 | h4
    · exact h.off k hk (h4.symm.trans e)
    · have h5 : some W.heap.size = some k := h4.symm.trans e
      have := hlt k hk
      cases h5
      omega
  · rcases List.mem_append.1 hy with hy | hy
    · exact h.small y hy
    · simp at hy; subst hy; exact hx
end

section
variable {K : ArenaK} {w W : World} {a : Addr} {B : Nat} {N : Nat → Prop} {g : Gh} {M : Nat} {vt vk vb : Value} {p : Option Addr} {c : Nat} {H : List Nat}
theorem Play.drew (h : Play K w W a B N g M vt vk vb p c H) : Play K w W.drew a B N g M vt vk vb p c H :=
  h.below (Below.refl _ W).drew
theorem Play.handles (h : Play K w W a B N g M vt vk vb p c H) (hM : M ≤ 1000) (i : Int) (h1 : -1 ≤ i) (h2 : i ≤ 65536) :
    ∃ o : Option Nat, Hid (∀ W', Play K w W' a B N g M vt vk vb p c H → Calls Try.prog 16 #[.pointer (some a), .int .i64 i] W' fun e w' => e = .returned (HdOut o) ∧ Below W'.heap.size W' w') ∧
      Hid (∀ W', Play K w W' a B N g M vt vk vb p c H → Calls Try.prog 17 #[.agg #[vt, vk, vb, .int .i64 (g.room : Int)], .int .i64 i] W' fun e w' => e = .returned (HdOut o) ∧ Below W'.heap.size W' w') := by
  by_cases h0 : i < 0
  · exact ⟨none, fun W' q => K.handle_neg i q.at_ q.ok h0, fun W' q => rg_handle_neg q.ref q.ok i h0⟩
  · obtain ⟨j, rfl⟩ : ∃ j : Nat, i = (j : Int) := ⟨i.toNat, by omega⟩
    exact ⟨hd g.ts g.l j, fun W' q => K.handle j q.at_ q.ok hM (by omega), fun W' q => rg_handle q.ref q.ok (by omega) j⟩
theorem Play.places (h : Play K w W a B N g M vt vk vb p c H) (hM : M ≤ 1000) (y : Nat) (hy : y < 18446744073709551616) :
    ∃ o : Option Nat, Hid (∀ W', Play K w W' a B N g M vt vk vb p c H → Calls Try.prog 18 #[.pointer (some a), .int .u64 (y : Int)] W' fun e w' => e = .returned (placeV o) ∧ Below W'.heap.size W' w') ∧
      Hid (∀ W', Play K w W' a B N g M vt vk vb p c H → Calls Try.prog 19 #[.agg #[vt, vk, vb, .int .i64 (g.room : Int)], .int .u64 (y : Int)] W' fun e w' => e = .returned (placeV o) ∧ Below W'.heap.size W' w') :=
  ⟨placeOf g.ts g.l y, fun W' q => K.place y q.at_ q.ok hM hy, fun W' q => rg_place q.ref q.ok (by omega) y hy⟩
theorem Play.usedP (h : Play K w W a B N g M vt vk vb p c H) : Calls Try.prog 20 #[.pointer (some a)] W fun e w' => e = .returned (.int .i64 (g.l.count true : Nat)) ∧ Below W.heap.size W w' := K.used h.at_ h.ok
theorem Play.usedR (h : Play K w W a B N g M vt vk vb p c H) : Calls Try.prog 21 #[.agg #[vt, vk, vb, .int .i64 (g.room : Int)]] W fun e w' => e = .returned (.int .i64 (g.l.count true : Nat)) ∧ Below W.heap.size W w' := rg_used h.ref h.ok
theorem Play.roomP (h : Play K w W a B N g M vt vk vb p c H) : Calls Try.prog 22 #[.pointer (some a)] W fun e w' => e = .returned (.int .i64 (g.room : Nat)) ∧ Below W.heap.size W w' := K.room h.at_ h.ok
end

end Go.Proofs.Ytacienpjoegclaa
