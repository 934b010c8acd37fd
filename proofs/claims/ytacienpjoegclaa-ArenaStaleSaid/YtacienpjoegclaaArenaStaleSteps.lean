/-
  ArenaStale's steps: the arena and the handles that were taken, and beside them two maps of the law's own.
-/
import Derived.Test.YtacienpjoegclaaArenaPlayed
import Derived.Maps.OwnOps
import Derived.Maps.Views
namespace Go.Proofs.Ytacienpjoegclaa
open Go.RowKit Go.Maps
set_option linter.unusedVariables false

theorem lawM : Keyed Try.prog 35 := int_keyed Try.underlying35
theorem lawP : Keyed Try.prog 3 := int_keyed Try.underlying3
theorem zeroI (w : World) : (zeroValue 3).run Try.prog w = .ok (.int .i64 0) w := by kernel_rfl

abbrev MapAt (w : World) (k : TypeId) (b n : Nat) (D : DataW Unit) : Prop := w.ownsMap Try.prog k (plainElem Try.prog 3) b n D

theorem map_same {w w' : World} {k : TypeId} {b n : Nat} {D : DataW Unit} (h : MapAt w k b n D) (e : w'.heap[b]? = w.heap[b]?) : MapAt w' k b n D := by
  obtain ⟨es, clock, hb, r⟩ := h
  exact ⟨es, clock, e.trans hb, r⟩
theorem map_below {w w' : World} {k : TypeId} {b n : Nat} {D : DataW Unit} (h : MapAt w k b n D) (g : Below w.heap.size w w') : MapAt w' k b n D :=
  map_same h (g.block b h.lt)
theorem own_not_map {w : World} {base e size n m b : Nat} {k : TypeId} {v : Value} {xs : List Value} {D : DataW Unit} (h : w.ownsRow base e size v n xs) (hm : MapAt w k b m D) : v.ownBlock ≠ some b := by
  rcases h.2 with ⟨rfl, _⟩ | ⟨g1, c1, cur1, rfl, _, k1, _⟩
  · intro e; cases e
  · intro e
    obtain rfl : g1 = b := by simpa [Value.ownBlock] using e
    obtain ⟨es, clock, hb, _⟩ := hm
    have := k1.symm.trans hb
    simp at this

structure Stale (K : ArenaK) (w W : World) (a : Addr) (N : Nat → Prop) (g : Gh) (p : Option Addr) (c : Nat) (q : Option Addr) (d : Nat) (H : List Nat) (b1 b2 n : Nat) (D1 D2 : DataW Unit) : Prop where
  held : Held K w W a N g 60 p c q d H (H.map (goneV g))
  m1 : MapAt W 35 b1 n D1
  m2 : MapAt W 3 b2 n D2
  ne : b1 ≠ b2
  no1 : ¬ N b1
  no2 : ¬ N b2
  lo1 : w.heap.size ≤ b1
  lo2 : w.heap.size ≤ b2

section
variable {K : ArenaK} {w W W' : World} {a : Addr} {N : Nat → Prop} {g : Gh} {p : Option Addr} {c : Nat} {q : Option Addr} {d : Nat} {H : List Nat} {b1 b2 n : Nat} {D1 D2 : DataW Unit}
theorem Stale.below (h : Stale K w W a N g p c q d H b1 b2 n D1 D2) (b : Below W.heap.size W W') : Stale K w W' a N g p c q d H b1 b2 n D1 D2 :=
  ⟨h.held.below b, map_below h.m1 b, map_below h.m2 b, h.ne, h.no1, h.no2, h.lo1, h.lo2⟩
theorem Stale.went (h : Stale K w W a N g p c q d H b1 b2 n D1 D2) (t : Went K.At N W a g W') : ∃ N', Stale K w W' a N' g p c q d H b1 b2 n D1 D2 := by
  obtain ⟨N', h1, h2, h3⟩ := t
  have hs := h.held.lo.size
  have no : ∀ b, b < W.heap.size → ¬ N b → ¬ N' b := fun b hb hn hn' => by
    rcases h3 b hn' with h4 | h4
    · exact hn h4
    · omega
  refine ⟨N', ⟨h1, h.held.ok, fun k hk => ?_, own_turned h.held.row h.held.off h2, off_went h.held.off h.held.row h3, own_turned h.held.rowG h.held.offG h2, off_went h.held.offG h.held.rowG h3, h.held.small, below_turned h2 hs h.held.new h.held.lo⟩, map_same h.m1 (h2.block b1 h.m1.lt h.no1), map_same h.m2 (h2.block b2 h.m2.lt h.no2), h.ne, no b1 h.m1.lt h.no1, no b2 h.m2.lt h.no2, h.lo1, h.lo2⟩
  rcases h3 k hk with h4 | h4
  · exact h.held.new k h4
  · omega
theorem Held.grown {M b m : Nat} {G : List Value} {k : TypeId} {D : DataW Unit} (h : Held K w W a N g M p c q d H G) (hm : MapAt W k b m D) (t : W.grownBy W' (some b)) (hb : ¬ N b) (hlo : w.heap.size ≤ b) : Held K w W' a N g M p c q d H G :=
  ⟨K.kept h.at_ (fun i hi => t.block i (K.lt h.at_ i hi) (fun e => hb (by cases e; exact hi))) t.size, h.ok, h.new, h.row.kept t (.inr (own_not_map h.row hm)), h.off, h.rowG.kept t (.inr (own_not_map h.rowG hm)), h.offG, h.small, h.lo.grown t h.lo.size (fun i e => by cases e; exact hlo)⟩
theorem Stale.put1 {n' : Nat} (h : Stale K w W a N g p c q d H b1 b2 n D1 D2) {D' : DataW Unit} (o : MapAt W' 35 b1 n' D') (t : W.grownBy W' (some b1)) (hn : n ≤ n') : Stale K w W' a N g p c q d H b1 b2 n' D' D2 :=
  ⟨h.held.grown h.m1 t h.no1 h.lo1, o, (h.m2.kept t (fun e => h.ne (Option.some.inj e).symm)).mono hn, h.ne, h.no1, h.no2, h.lo1, h.lo2⟩
theorem Stale.put2 {n' : Nat} (h : Stale K w W a N g p c q d H b1 b2 n D1 D2) {D' : DataW Unit} (o : MapAt W' 3 b2 n' D') (t : W.grownBy W' (some b2)) (hn : n ≤ n') : Stale K w W' a N g p c q d H b1 b2 n' D1 D' :=
  ⟨h.held.grown h.m2 t h.no2 h.lo2, (h.m1.kept t (fun e => h.ne (Option.some.inj e))).mono hn, o, h.ne, h.no1, h.no2, h.lo1, h.lo2⟩
theorem stale_start (h : Held K w W a N g 60 p c q d H (H.map (goneV g))) : Stale K w ((W.alloc (.map #[] 0)).alloc (.map #[] 0)) a N g p c q d H W.heap.size (W.alloc (.map #[] 0)).heap.size 0 (.map []) (.map []) := by
  have b1 := (Below.refl _ W).alloc (Nat.le_refl _) (.map #[] 0)
  have h1 := h.below b1
  have b2 := (Below.refl _ (W.alloc (.map #[] 0))).alloc (Nat.le_refl _) (.map #[] 0)
  have hs := h.lo.size
  refine ⟨h1.below b2, (World.ownsMap_made W _ _ _).alloc _, World.ownsMap_made _ _ _ _, by simp, fun hn => ?_, fun hn => ?_, hs, Nat.le_trans hs b1.size⟩
  · have := K.lt h.at_ _ hn; omega
  · have := K.lt h1.at_ _ hn; omega
end

/-- Nothing is met that was not: the first map's keys. -/
def Unmet (H : List Nat) (r : Nat) (D : DataW Unit) : Prop := IsMap D ∧ ∀ x : Nat, x ∉ H.take r → D.atKey (.int .u64 (x : Int)) (.lit (.int .i64 0)) = .lit (.int .i64 0)
theorem unmet_start (H : List Nat) : Unmet H 0 (.map []) := ⟨isMap_empty, fun x _ => rfl⟩
theorem Unmet.step {H : List Nat} {r : Nat} {D : DataW Unit} (h : Unmet H r D) (hr : r < H.length) (d : DataW Unit) : Unmet H (r + 1) (D.put (.int .u64 (H[r] : Int)) d) := by
  refine ⟨h.1.put _ _, fun x hx => ?_⟩
  rw [← List.take_append_getElem hr] at hx
  have h1 : x ∉ H.take r := fun e => hx (List.mem_append_left _ e)
  have h2 : x ≠ H[r] := fun e => hx (by rw [e]; exact List.mem_append_right _ (List.mem_singleton.2 rfl))
  rw [atKey_put_other (by intro e; cases e; simp_all)]
  exact h.2 x h1
theorem unmet_new {H : List Nat} (hn : H.Nodup) {r : Nat} (hr : r < H.length) : H[r] ∉ H.take r := by
  intro hm
  obtain ⟨i, hi, e⟩ := List.mem_iff_getElem.1 hm
  rw [List.length_take] at hi
  rw [List.getElem_take] at e
  exact List.pairwise_iff_getElem.1 hn i r (by omega) hr (by omega) e
/-- .. the second one's: places of handles that were met. -/
def Untaken (g : Gh) (H : List Nat) (r : Nat) (D : DataW Unit) : Prop := IsMap D ∧ ∀ p : Nat, (∀ x, x ∈ H.take r → g.at x ≠ some p) → D.atKey (.int .i64 (p : Int)) (.lit (.int .i64 0)) = .lit (.int .i64 0)
theorem untaken_start (g : Gh) (H : List Nat) : Untaken g H 0 (.map []) := ⟨isMap_empty, fun x _ => rfl⟩
theorem Untaken.none {g : Gh} {H : List Nat} {r : Nat} {D : DataW Unit} (h : Untaken g H r D) (hr : r < H.length) : Untaken g H (r + 1) D := by
  refine ⟨h.1, fun p hp => h.2 p fun x hx => hp x ?_⟩
  rw [← List.take_append_getElem hr]
  exact List.mem_append_left _ hx
theorem Untaken.step {g : Gh} {H : List Nat} {r pp : Nat} {D : DataW Unit} (h : Untaken g H r D) (hr : r < H.length) (hp : g.at H[r] = some pp) (d : DataW Unit) : Untaken g H (r + 1) (D.put (.int .i64 (pp : Int)) d) := by
  refine ⟨h.1.put _ _, fun p hq => ?_⟩
  rw [← List.take_append_getElem hr] at hq
  have h2 : p ≠ pp := fun e => hq H[r] (List.mem_append_right _ (List.mem_singleton.2 rfl)) (by rw [e]; exact hp)
  rw [atKey_put_other (by intro e; cases e; simp_all)]
  exact h.2 p fun x hx => hq x (List.mem_append_left _ hx)
theorem untaken_new {g : Gh} {M : Nat} (ok : g.Ok M) {H : List Nat} (hn : H.Nodup) {r pp : Nat} (hr : r < H.length) (hp : g.at H[r] = some pp) : ∀ x, x ∈ H.take r → g.at x ≠ some pp := by
  intro x hx hxp
  have h1 := (at_iff ok).1 hp
  have h2 := (at_iff ok).1 hxp
  have e : H[r] = x := Option.some.inj (h1.symm.trans h2)
  exact unmet_new hn hr (e ▸ hx)
/-- How many hold, of the first ones. -/
theorem holds_step {g : Gh} {H : List Nat} {r : Nat} (hr : r < H.length) : (H.take (r + 1)).countP g.holds = (H.take r).countP g.holds + (if g.holds H[r] = true then 1 else 0) := by
  rw [← List.take_append_getElem hr, List.countP_append]
  rw [List.countP_cons]
  simp

end Go.Proofs.Ytacienpjoegclaa
