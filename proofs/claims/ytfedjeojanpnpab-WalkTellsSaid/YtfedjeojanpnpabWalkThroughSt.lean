/-
  WalkThrough: a key comes and goes; a key's box is written.
-/
import Derived.Test.YtfedjeojanpnpabWalkSt
import Derived.Test.YtfedjeojanpnpabWalkTurn
namespace Go.Proofs.Ytfedjeojanpnpab
open Go.RowKit
set_option linter.unusedVariables false

section
variable {K : TreeK} {w W W' : World} {a : Addr} {l : List En} {bx : List (Nat × TypeId × Array Value)} {rs : List (Value × List En)}
theorem St.set2 {q : Nat} {x0 y0 : Value} (h : St K w W a l ((q, 27, #[x0, y0]) :: bx) rs) (hd : ∀ b, b ∈ bx → b.1 ≠ q) (x y : Value) : St K w ((W.setCell ⟨q, 0, none⟩ x).setCell ⟨q, 1, none⟩ y) a l ((q, 27, #[x, y]) :: bx) rs := by
  obtain ⟨N, g, o, h1, h2, h3, h4⟩ := h
  obtain ⟨nq, lq, bq⟩ := h3 _ List.mem_cons_self
  refine ⟨N, g, (o.set6 nq lq).set6 nq lq, h1, h2, fun b hb => ?_, fun r hr => ?_⟩
  · rcases List.mem_cons.1 hb with rfl | hb'
    · exact ⟨nq, lq, (bq.set 0 x).set 1 y⟩
    · obtain ⟨k1, k2, k3⟩ := h3 b (List.mem_cons_of_mem _ hb')
      exact ⟨k1, k2, (k3.other (hd b hb') x).other (hd b hb') y⟩
  · obtain ⟨k1, k2⟩ := h4 r hr
    have bq' : Box W q 27 #[x0, y0] := bq
    have hne := bq'.not_row k2.row (by decide)
    exact ⟨k1, own_set (own_set k2.row hne) hne, k2.off⟩
theorem St.went (h : St K w W a l bx rs) {l' : List En} (hs : ∀ N g, OwnT K w W a N g → g.room = 60 → g.l = l → ∃ N' g', g'.room = g.room ∧ g'.l = l' ∧ OwnT K w W' a N' g' ∧ SteppedT W W' N N') : St K w W' a l' bx rs := by
  obtain ⟨N, g, o, h1, h2, h3, h4⟩ := h
  obtain ⟨N', g', e1, e2, o', s⟩ := hs N g o h1 h2
  refine ⟨N', g', o', e1.trans h1, e2, fun b hb => ?_, fun r hr => ⟨(h4 r hr).1, (h4 r hr).2.step s⟩⟩
  obtain ⟨k1, k2⟩ := step_box (h3 b hb).1 (h3 b hb).2.2 s
  exact ⟨k1, (h3 b hb).2.1, k2⟩
theorem St.put (h : St K w W a l bx rs) (k : Ky) (v : Int) (hk : k.Fits) (hv : I64 v) : Calls Try.prog 9 #[.pointer (some a), kyV k, .int .i64 v] W fun e W' => e = .returned (.int .i64 (putE 60 l k : Nat)) ∧ St K w W' a (putL 60 l k v) bx rs := by
  have h0 := h
  obtain ⟨N, g, o, h1, h2, h3, h4⟩ := h
  refine (o.put k v hk hv).mono ?_
  rintro e W' ⟨rfl, N', g', e1, e2, o', s⟩
  rw [h1, h2] at *
  refine ⟨rfl, N', g', o', e1, e2, fun b hb => ?_, fun r hr => ⟨(h4 r hr).1, (h4 r hr).2.step s⟩⟩
  obtain ⟨k1, k2⟩ := step_box (h3 b hb).1 (h3 b hb).2.2 s
  exact ⟨k1, (h3 b hb).2.1, k2⟩
theorem St.drop (h : St K w W a l bx rs) (k : Ky) (hk : k.Fits) : Calls Try.prog 10 #[.pointer (some a), kyV k] W fun e W' => e = .returned (outI (getL k l)) ∧ St K w W' a (delL k l) bx rs := by
  obtain ⟨N, g, o, h1, h2, h3, h4⟩ := h
  refine (o.drop k hk).mono ?_
  rintro e W' ⟨rfl, N', g', e1, e2, o', s⟩
  rw [h2] at *
  refine ⟨rfl, N', g', o', e1.trans h1, e2, fun b hb => ?_, fun r hr => ⟨(h4 r hr).1, (h4 r hr).2.step s⟩⟩
  obtain ⟨k1, k2⟩ := step_box (h3 b hb).1 (h3 b hb).2.2 s
  exact ⟨k1, (h3 b hb).2.1, k2⟩
end
theorem put_len (l : List En) (k : Ky) (v : Int) : (putL 60 l k v).length ≤ l.length + 1 := by
  unfold putL
  split
  · rw [insL_length]
    exact Nat.le_refl _
  · exact Nat.le_succ _
theorem ofUp_len (ks : List Ky) : ∀ j, (ofUp ks j).length ≤ j
  | 0 => Nat.le_refl _
  | j + 1 => by
    have ih := ofUp_len ks j
    show (match ks[j]? with
      | some k => putL 60 (ofUp ks j) k (j : Int)
      | none => ofUp ks j).length ≤ j + 1
    cases ks[j]? with
    | none => exact Nat.le_succ_of_le ih
    | some k => exact Nat.le_trans (put_len _ _ _) (Nat.succ_le_succ ih)
theorem of_len (ks : List Ky) : (ofL ks).length ≤ ks.length := Nat.le_trans (ofUp_len ks _) (Nat.min_le_left _ _)
theorem at_bound : ∀ l : List En, ∃ b, ∀ e, e ∈ l → e.key.at_ < b
  | [] => ⟨0, fun e he => (by cases he)⟩
  | a :: l => by
    obtain ⟨b, hb⟩ := at_bound l
    refine ⟨b + a.key.at_ + 1, fun e he => ?_⟩
    rcases List.mem_cons.1 he with rfl | he
    · omega
    · have := hb e he
      omega
/-- A sweep with no other key comes nearer. -/
theorem sweep_none {m k : Ky} {l : List En} {n : Nat} (h : Rises l) (hm : ∃ e, e ∈ l ∧ e.key = m) (hn : 0 < n) (hno : ∀ e, e ∈ (roundL k l).take n → e.key ≠ m) : ahead m (roundL (lastK ((roundL k l).take n) k) l) + 1 ≤ ahead m (roundL k l) := by
  -- a key that is not there
  obtain ⟨x, hx⟩ : ∃ x : Ky, ∀ e, e ∈ l → e.key ≠ x := by
    obtain ⟨b, hb⟩ := at_bound l
    refine ⟨⟨b, 0⟩, fun e he hc => ?_⟩
    have h1 := hb e he
    rw [hc] at h1
    simp only at h1
    omega
  have hd : delL x l = l := List.filter_eq_self.2 fun y hy => by simpa using hx y hy
  have hxm : x ≠ m := by
    obtain ⟨e, he, hem⟩ := hm
    intro e'
    exact hx e he (hem.trans e'.symm)
  have hs := ahead_sweep (x := x) h hxm hm hn hno
  rw [hd] at hs
  have h1 : delL x ((roundL k l).take n) = (roundL k l).take n := List.filter_eq_self.2 fun y hy => by simpa using hx y (round_mem.1 (List.mem_of_mem_take hy))
  rw [h1] at hs
  have h2 : 0 < ((roundL k l).take n).length := by
    obtain ⟨e, he, _⟩ := hm
    have := List.length_pos_of_mem (round_mem (k := k).2 he)
    rw [List.length_take]
    omega
  omega
/-- One more key, or none, that is there for a sweep: what it does to the row. -/
theorem extra_step {m k x : Ky} {l : List En} {n : Nat} (h : Rises l) (hm : ∃ e, e ∈ l ∧ e.key = m) (hn : 0 < n) (hl : l.length < 60) (hno : ∀ e, e ∈ (roundL k (putL 60 l x (-1))).take n → e.key ≠ m) :
    (putE 60 l x = 0 → delL x (putL 60 l x (-1)) = l ∧ (getL x (putL 60 l x (-1))).isSome = true ∧ ahead m (roundL (lastK ((roundL k (putL 60 l x (-1))).take n) k) l) ≤ ahead m (roundL k l)) ∧
    (putE 60 l x ≠ 0 → putL 60 l x (-1) = l ∧ ahead m (roundL (lastK ((roundL k l).take n) k) l) + 1 ≤ ahead m (roundL k l)) := by
  constructor
  · intro h0
    have hg : getL x l = none := by
      cases hg : getL x l with
      | none => rfl
      | some v => unfold putE at h0; rw [hg] at h0; simp at h0
    have hk := getL_none hg
    have hp : putL 60 l x (-1) = insL x (-1) l := by unfold putL; rw [if_pos h0]
    have hxm : x ≠ m := by
      obtain ⟨e, he, hem⟩ := hm
      intro e'
      exact hk e he (hem.trans e'.symm)
    have hr : Rises (insL x (-1) l) := h.ins hk
    have hd : delL x (insL x (-1) l) = l := del_ins hk
    rw [hp] at hno ⊢
    refine ⟨hd, ?_, ?_⟩
    · have := getL_of hr (e := ⟨x, -1⟩) (insL_mem.2 (.inl rfl))
      simp only at this
      rw [this]
      rfl
    · have hs := ahead_sweep (x := x) hr hxm (by obtain ⟨e, he, hem⟩ := hm; exact ⟨e, insL_mem.2 (.inr he), hem⟩) hn hno
      rw [hd] at hs
      omega
  · intro h0
    have hp : putL 60 l x (-1) = l := by unfold putL; rw [if_neg h0]
    rw [hp] at hno
    refine ⟨hp, ?_⟩
    have hs := sweep_none h hm hn hno
    exact hs

end Go.Proofs.Ytfedjeojanpnpab
