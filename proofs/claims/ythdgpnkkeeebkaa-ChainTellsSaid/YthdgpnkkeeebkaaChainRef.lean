/-
  The document's own chains (sandglassref05), in memory: a row of slices, each with a row of its own; what List and In answer.
-/
import Derived.Test.YthdgpnkkeeebkaaChainFacts
import Derived.Test.YthdgpnkkeeebkaaChainK
namespace Go.Proofs.Ythdgpnkkeeebkaa
open Go.RowKit
set_option linter.unusedVariables false

/-- A slice that holds a list, in blocks of M. -/
def Inner (M : Nat → Prop) (W : World) (v : Value) (l : List Nat) : Prop :=
  ∃ p c, v = .slice p l.length c ∧ W.ownsRow 0 3 1 v l.length (l.map natV) ∧ ∀ k, v.ownBlock = some k → M k
/-- The slice s holds the lists of g, in blocks of M. -/
structure RefAt (M : Nat → Prop) (W : World) (s : Value) (g : Ch) (vs : List Value) : Prop where
  row : W.ownsRow 0 43 1 s g.ls.length vs
  own : ∀ k, s.ownBlock = some k → M k
  lt : ∀ k, M k → k < W.heap.size
  inner : ∀ (i : Nat) (l : List Nat), g.ls[i]? = some l → ∃ v, vs[i]? = some v ∧ Inner M W v l
def refV (g : Ch) (s : Value) : Value := .agg #[.int .i64 (g.nodes : Int), s]
/-- What a call of the document's chains answers: chains g, in blocks of M, or new ones. -/
def RefC (f : Value → Value) (M : Nat → Prop) (w : World) (g : Ch) (e : Ending) (w' : World) : Prop :=
  ∃ s' M' vs', e = .returned (f (refV g s')) ∧ RefAt M' w' s' g vs' ∧ (∀ k, M' k → M k ∨ w.heap.size ≤ k) ∧ Below w.heap.size w w'
section
variable {M M' : Nat → Prop} {w W W' : World} {s v : Value} {g : Ch} {l : List Nat} {vs : List Value}
theorem Inner.kept (h : Inner M W v l) (k : ∀ i, M i → W'.heap[i]? = W.heap[i]?) : Inner M W' v l := by
  obtain ⟨p, c, e, r, o⟩ := h
  exact ⟨p, c, e, own_same r fun i hi => k i (o i hi), o⟩
theorem Inner.more (h : Inner M W v l) (k : ∀ i, M i → M' i) : Inner M' W v l := by
  obtain ⟨p, c, e, r, o⟩ := h
  exact ⟨p, c, e, r, fun i hi => k i (o i hi)⟩
theorem RefAt.kept (h : RefAt M W s g vs) (k : ∀ i, M i → W'.heap[i]? = W.heap[i]?) (hs : W.heap.size ≤ W'.heap.size) : RefAt M W' s g vs :=
  ⟨own_same h.row fun i hi => k i (h.own i hi), h.own, fun i hi => Nat.lt_of_lt_of_le (h.lt i hi) hs, fun i l hl => by
    obtain ⟨v, h1, h2⟩ := h.inner i l hl
    exact ⟨v, h1, h2.kept k⟩⟩
theorem RefAt.below (h : RefAt M W s g vs) (b : Below W.heap.size W W') : RefAt M W' s g vs := h.kept (fun i hi => b.block i (h.lt i hi)) b.size
theorem Inner.below (h : Inner M W v l) (lt : ∀ k, M k → k < W.heap.size) (b : Below W.heap.size W W') : Inner M W' v l := h.kept fun i hi => b.block i (lt i hi)
theorem RefAt.len (h : RefAt M W s g vs) : vs.length = g.ls.length := by
  have := h.row.1
  omega
theorem RefAt.form (h : RefAt M W s g vs) : ∃ p c, s = .slice p g.ls.length c := owns_slice h.row
/-- What the outer row reads. -/
theorem RefAt.reads' (h : RefAt M W s g vs) {i : Nat} {l : List Nat} (hl : g.ls[i]? = some l) : ∃ G c p d, s = .slice (some ⟨G, 0, none⟩) g.ls.length c ∧ W.cell? ⟨G, i, none⟩ = some (.slice p l.length d) ∧ Inner M W (.slice p l.length d) l ∧ vs[i]? = some (.slice p l.length d) := by
  have hi := (List.getElem?_eq_some_iff.1 hl).1
  obtain ⟨v, h1, h2⟩ := h.inner i l hl
  obtain ⟨p, d, rfl, r, o⟩ := h2
  have hr := h.row
  rcases h.row.2 with ⟨_, e⟩ | ⟨G, cap, cur, rfl, _⟩
  · omega
  · refine ⟨G, cap, p, d, rfl, ?_, ⟨p, d, rfl, r, o⟩, h1⟩
    rw [hr.cellAt i (by omega)]
    exact h1
theorem RefAt.reads (h : RefAt M W s g vs) {i : Nat} {l : List Nat} (hl : g.ls[i]? = some l) : ∃ G c p d, s = .slice (some ⟨G, 0, none⟩) g.ls.length c ∧ W.cell? ⟨G, i, none⟩ = some (.slice p l.length d) ∧ Inner M W (.slice p l.length d) l := by
  obtain ⟨G, c, p, d, h1, h2, h3, _⟩ := h.reads' hl
  exact ⟨G, c, p, d, h1, h2, h3⟩
theorem Inner.cells {p : Option Addr} {d : Nat} (h : Inner M W (.slice p l.length d) l) {j : Nat} (hj : j < l.length) : ∃ B, p = some ⟨B, 0, none⟩ ∧ W.cell? ⟨B, j, none⟩ = some (.int .i64 (l[j] : Int)) := by
  obtain ⟨p', c', e, r, _⟩ := h
  cases e
  rcases (owns_nat r).2 with ⟨_, e⟩ | ⟨B, rfl, _, hc⟩
  · rw [e] at hj; simp at hj
  · exact ⟨B, rfl, hc j hj⟩
/-- One of the lists is another one, in a new row. -/
theorem RefAt.with_ {s' : Value} {i : Nat} (h : RefAt M w s g vs) (hi : i < g.ls.length) (hv : Inner M w v l) (row : W.ownsRow w.heap.size 43 1 s' g.ls.length (vs.set i v)) (b : Below w.heap.size w W) :
    RefAt (fun k => M k ∨ (w.heap.size ≤ k ∧ k < W.heap.size)) W s' ⟨g.ls.set i l, g.nodes⟩ (vs.set i v) := by
  refine ⟨?_, fun k hk => .inr (row.lt k hk), fun k hk => ?_, fun j m hm => ?_⟩
  · show W.ownsRow 0 43 1 s' (g.ls.set i l).length (vs.set i v)
    rw [List.length_set]
    exact own_zero row
  · rcases hk with hk | hk
    · exact Nat.lt_of_lt_of_le (h.lt k hk) b.size
    · exact hk.2
  · rcases set_get hm with ⟨rfl, rfl, _⟩ | ⟨hne, hm⟩
    · exact ⟨v, List.getElem?_set_self (by rw [h.len]; exact hi), (hv.below h.lt b).more fun k hk => .inl hk⟩
    · obtain ⟨u, h1, h2⟩ := h.inner j m hm
      exact ⟨u, by rw [List.getElem?_set_ne (fun e => hne e.symm)]; exact h1, (h2.below h.lt b).more fun k hk => .inl hk⟩
theorem Inner.nil : Inner M W (.slice none 0 0) [] := ⟨none, 0, rfl, World.ownsRow_nil _ _ _ _, fun k h => by cases h⟩
end

/-- The box in which a call holds its chains. -/
theorem ref_box (w : World) (n s : Value) : ∃ W, Hid (w.alloc (.cells #[n, s] 29) = W) ∧ W.cell? ⟨w.heap.size, 0, none⟩ = some n ∧ W.cell? ⟨w.heap.size, 1, none⟩ = some s ∧ Hid (Below w.heap.size w W) ∧ Hid (w.heap.size < W.heap.size) := by
  refine ⟨_, Lib.hid rfl, ?_, ?_, Lib.hid ((Below.refl _ w).alloc (Nat.le_refl _) _), Lib.hid (by rw [World.size_alloc]; omega)⟩
  · exact (Box.new w 29 #[n, s]).cell 0
  · exact (Box.new w 29 #[n, s]).cell 1

section
variable {M : Nat → Prop} {w : World} {s : Value} {g : Ch} {vs : List Value}
theorem ref_list (h : RefAt M w s g vs) (i : Int) (hg : g.ls.length ≤ 64) :
    Calls Try.prog 19 #[refV g s, .int .i64 i] w fun e w' => ∃ p c, e = .returned (.slice p (g.list i).length c) ∧ Inner M w' (.slice p (g.list i).length c) (g.list i) ∧ Below w.heap.size w w' := by
  unfold refV
  by_cases h0 : i < 0
  · have HE : Hid (g.list i = []) := by
      unfold Ch.list
      rw [Ch.row_neg h0]
      exact Lib.hid rfl
    clear h
    go_enter Try.func19, Try.ntmps19
    go_wp2_with fail
    go_ret
    exact ⟨none, 0, by rw [HE.out]; rfl, by rw [HE.out]; exact Inner.nil, (Below.refl _ w).alloc (Nat.le_refl _) _⟩
  · obtain ⟨k, rfl⟩ : ∃ k : Nat, i = (k : Int) := ⟨i.toNat, by omega⟩
    by_cases hk : g.ls.length ≤ k
    · have HE : Hid (g.list (k : Int) = []) := by
        unfold Ch.list
        rw [Ch.row_nat, List.getElem?_eq_none hk]
        exact Lib.hid rfl
      obtain ⟨P, C, rfl⟩ := h.form
      have hkz : (g.ls.length : Int) ≤ (k : Int) := by omega
      clear h h0
      obtain ⟨W, HW, c0, c1, HB, _⟩ := ref_box w (.int .i64 (g.nodes : Int)) (.slice P g.ls.length C)
      go_enter Try.func19, Try.ntmps19
      go_upto_region 1 with fail
      rw [HW.out]
      go_wp2_with fail
      go_ret
      exact ⟨none, 0, by rw [HE.out]; rfl, by rw [HE.out]; exact Inner.nil, HB.out⟩
    · obtain ⟨l, hl⟩ := ch_row (g := g) (k := k) (by omega)
      obtain ⟨G, C, p, d, rfl, cG, hin⟩ := h.reads hl
      rw [list_nat hl]
      obtain ⟨W, HW, c0, c1, HB, _⟩ := ref_box w (.int .i64 (g.nodes : Int)) (.slice (some ⟨G, 0, none⟩) g.ls.length C)
      have hkz : ¬ (g.ls.length : Int) ≤ (k : Int) := by omega
      have hkz2 : (k : Int) < (g.ls.length : Int) := by omega
      have cW := (HB.out.cell (p := ⟨G, k, none⟩) (World.block_lt_of_cell? w _ cG)).trans cG
      have HI := Lib.hid (hin.below h.lt HB.out)
      clear h h0 hk cG hin hl
      go_enter Try.func19, Try.ntmps19
      go_upto_region 1 with fail
      rw [HW.out]
      go_wp2_with fail
      go_ret
      exact ⟨p, d, rfl, HI.out, HB.out⟩

theorem ref_in (h : RefAt M w s g vs) (ok : g.Ok) (n : Int) :
    Calls Try.prog 24 #[refV g s, .int .i64 n] w fun e w' => e = .returned (outV (g.inn n)) ∧ Below w.heap.size w w' := by
  unfold refV
  obtain ⟨P, C, rfl⟩ := h.form
  obtain ⟨W, HW, c0, c1, HB, _⟩ := ref_box w (.int .i64 (g.nodes : Int)) (.slice P g.ls.length C)
  have hlen := ok.len
  have hsm := ok.small
  have HH := Lib.hid (h.below HB.out)
  have HOK := Lib.hid ok
  clear h ok
  go_enter Try.func24, Try.ntmps24
  go_upto_region 1 with fail
  rw [HW.out]
  clear HW
  go_wp2_with fail
  go_loopg [6] g.ls.length (fun k i wx => ∃ (j : Nat), g.ls.length - j = k ∧ j ≤ g.ls.length ∧ i = .int .i64 (j : Int) ∧ wx = W ∧ Hid (∀ (i : Nat) (l : List Nat), i < j → g.ls[i]? = some l → ∀ x, x ∈ l → (x : Int) ≠ n))
  case atStart => exact ⟨0, rfl, by omega, rfl, rfl, Lib.hid fun i l hi => absurd hi (by omega)⟩
  case round =>
    obtain ⟨j, rfl, hj, rfl, rfl, HN⟩ := hrel
    by_cases hjl : j = g.ls.length
    · have hz : ¬ (j : Int) < (g.ls.length : Int) := by omega
      have HE : Hid (g.inn n = none) := by
        unfold Ch.inn
        split
        · refine Lib.hid (Ch.none_of fun i l hl hx => ?_)
          refine HN.out i l ?_ hl _ hx (by omega)
          have := (List.getElem?_eq_some_iff.1 hl).1
          omega
        · exact Lib.hid rfl
      clear HN hjl hj
      go_wp2_with fail
      go_ret2
      exact ⟨by rw [HE.out]; rfl, HB.out⟩
    · have hz : (j : Int) < (g.ls.length : Int) := by omega
      obtain ⟨l, hl⟩ := ch_row (g := g) (k := j) (by omega)
      obtain ⟨G, C', p, d, e', cG, hin⟩ := HH.out.reads hl
      cases e'
      have hll := Nat.le_trans (short_list HOK.out hl) hsm
      have HL := Lib.hid hl
      have HIN := Lib.hid hin
      clear hjl hl hin
      go_wp2_with fail
      go_loopg [7] l.length (fun k i wx => ∃ (r : Nat), l.length - r = k ∧ r ≤ l.length ∧ i = .int .i64 (r : Int) ∧ wx = wr ∧ Hid (∀ (i : Nat) (hi : i < l.length), i < r → (l[i] : Int) ≠ n))
      case atStart => exact ⟨0, rfl, by omega, rfl, rfl, Lib.hid fun i _ hi => absurd hi (by omega)⟩
      case round =>
        obtain ⟨r, rfl, hr, rfl, rfl, HM⟩ := hrel
        by_cases hrl : r = l.length
        · have hz2 : ¬ (r : Int) < (l.length : Int) := by omega
          have HE : Hid (∀ (i : Nat) (l : List Nat), i < j + 1 → g.ls[i]? = some l → ∀ x, x ∈ l → (x : Int) ≠ n) := by
            refine Lib.hid fun i l' hi hl' x hx => ?_
            by_cases c : i = j
            · subst c
              rw [HL.out] at hl'
              cases hl'
              obtain ⟨q, hq, rfl⟩ := List.getElem_of_mem hx
              exact HM.out q hq (by omega)
            · exact HN.out i l' (by omega) hl' x hx
          clear HM HN hrl hr
          go_wp2_with fail
          go_roundg (g.ls.length - (j + 1))
          case measure => omega
          case rel => exact ⟨j + 1, rfl, by omega, by go_num, rfl, HE⟩
        · have hrl' : r < l.length := by omega
          have hz2 : (r : Int) < (l.length : Int) := by omega
          obtain ⟨B, rfl, d0⟩ := HIN.out.cells hrl'
          obtain ⟨x, HX⟩ : ∃ x, Hid (l[r] = x) := ⟨_, Lib.hid rfl⟩
          rw [HX.out] at d0
          clear hrl
          by_cases hx : (x : Int) = n
          · have HE : Hid (g.inn n = some j) := by
              rw [← hx, Ch.inn_nat]
              exact Lib.hid (HOK.out.at_of HL.out (by rw [← HX.out]; exact List.getElem_mem _))
            have hxz : ((x : Int) == n) = true := by simp [hx]
            clear HM HN
            go_wp2_with fail
            go_ret2
            exact ⟨by rw [HE.out]; rfl, HB.out⟩
          · have hxz : ((x : Int) == n) = false := by simp [hx]
            have HE : Hid (∀ (i : Nat) (hi : i < l.length), i < r + 1 → (l[i] : Int) ≠ n) := by
              refine Lib.hid fun i hi hir => ?_
              by_cases c : i = r
              · subst c
                rw [HX.out]
                exact hx
              · exact HM.out i hi (by omega)
            clear HM HN hx
            go_wp2_with fail
            go_roundg (l.length - (r + 1))
            case measure => omega
            case rel => exact ⟨r + 1, rfl, by omega, by go_num, rfl, HE⟩
end

end Go.Proofs.Ythdgpnkkeeebkaa
