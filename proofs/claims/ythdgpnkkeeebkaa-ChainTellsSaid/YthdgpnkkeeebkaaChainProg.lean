/-
  The program's own chains (package chain) keep what a law of layer 5 asks of chains.
-/
import Derived.Test.YthdgpnkkeeebkaaChainOwnE
import Derived.Test.YthdgpnkkeeebkaaChainStep
namespace Go.Proofs.Ythdgpnkkeeebkaa
open Go.RowKit
set_option linter.unusedVariables false

/-- The chains at a hold g. -/
def AtC (N : Nat → Prop) (w : World) (a : Addr) (g : Ch) : Prop :=
  ∃ b gl gh gs K, a = ⟨b, 0, none⟩ ∧ N = Own4 b gl gh gs ∧ Raw w b gl gh gs g.nodes g.ls.length K (homeOf g) (sizeOf g) ∧ Rings K g

theorem own_len {N w a g} (i : Int) (h : AtC N w a g) (ok : g.Ok) : Calls Try.prog 22 #[.pointer (some a), .int .i64 i] w fun e w' => e = .returned (.int .i64 ((g.list i).length : Nat)) ∧ w' = w := by
  obtain ⟨b, gl, gh, gs, K, rfl, rfl, R, G⟩ := h
  rcases list_cases g i with ⟨k, l, rfl, hk, hl, e⟩ | ⟨hi, e, _⟩
  · rw [e, ← sizeOf_is hl]
    exact raw_len R k hk
  · rw [e]
    exact raw_len_no R i hi
theorem own_first {N w a g} (i : Int) (h : AtC N w a g) (ok : g.Ok) : Calls Try.prog 20 #[.pointer (some a), .int .i64 i] w fun e w' => e = .returned (outV (g.list i).head?) ∧ Below w.heap.size w w' := by
  have HL := own_len i h ok
  obtain ⟨b, gl, gh, gs, K, rfl, rfl, R, G⟩ := h
  cases e : g.list i with
  | nil =>
    rw [e] at HL
    exact (raw_first_no R i (Lib.hid HL)).mono fun _ _ h => ⟨h.1, h.2 ▸ Below.refl _ _⟩
  | cons x t =>
    rcases list_cases g i with ⟨k, l, rfl, hk, hl, e'⟩ | ⟨hi, e', _⟩
    · rw [e'] at e
      subst e
      exact (raw_first R k x hk (by rw [sizeOf_is hl]; simp) (ring_first (G k _ hl))).mono fun _ _ h => h
    · rw [e'] at e; cases e
theorem own_in {N w a g} (n : Int) (h : AtC N w a g) (ok : g.Ok) : Calls Try.prog 23 #[.pointer (some a), .int .i64 n] w fun e w' => e = .returned (outV (g.inn n)) ∧ w' = w := by
  obtain ⟨b, gl, gh, gs, K, rfl, rfl, R, G⟩ := h
  rcases node_cases ok n with ⟨x, rfl, hx, e⟩ | ⟨hn, e⟩
  · rw [e]
    cases ha : g.at x with
    | none => exact raw_in_none R x hx (homeOf_none ha)
    | some i => exact raw_in R x i hx (homeOf_some ha) (Ch.at_lt ha)
  · rw [e]
    exact raw_in_no R n hn
theorem went_same {N w a g} (h : AtC N w a g) : WentG AtC N w a g w := ⟨N, h, Turned.refl _ _, fun k hk => .inl hk⟩
theorem small_len {g : Ch} (ok : g.Ok) {i s : Nat} {l : List Nat} (h : g.ls[i]? = some l) (e : l.length = s + 1) : s ≤ 65536 := by
  have h1 := short_list ok h
  have h2 := ok.small
  omega
/-- Behind a leaving. -/
theorem went_less {w w' : World} {b gl gh gs : Nat} {K : Nat → Nat} {g : Ch} {i x s : Nat} (R : Raw w' b gl gh gs g.nodes g.ls.length (joined K (K (x * 2)) (K (x * 2 + 1))) (upd (homeOf g) x 0) (upd (sizeOf g) i s)) (G : Rings (joined K (K (x * 2)) (K (x * 2 + 1))) (g.less i x)) (eh : ∀ y, upd (homeOf g) x 0 y = homeOf (g.less i x) y) (es : ∀ j, upd (sizeOf g) i s j = sizeOf (g.less i x) j) (T : Turned (Own4 b gl gh gs) w w') : WentG AtC (Own4 b gl gh gs) w ⟨b, 0, none⟩ (g.less i x) w' := by
  refine ⟨_, ⟨b, gl, gh, gs, _, rfl, rfl, ?_, G⟩, T, fun k hk => .inl hk⟩
  have e1 : (g.less i x).ls.length = g.ls.length := by simp [Ch.less]
  rw [e1]
  exact ⟨R.box, R.links, R.homes.congr fun y _ => eh y, R.sizes.congr fun j _ => es j, R.ne, R.n1, R.m0, R.m1⟩
theorem own_drop {N w a g} (n : Int) (h : AtC N w a g) (ok : g.Ok) : Calls Try.prog 16 #[.pointer (some a), .int .i64 n] w (DropC AtC N w a (g.drop n) (g.inn n).isSome) := by
  have HI := own_in n h ok
  have HS := went_same h
  obtain ⟨b, gl, gh, gs, K, rfl, rfl, R, G⟩ := h
  cases e : g.inn n with
  | none =>
    rw [e] at HI
    rw [drop_not e]
    exact (raw_drop_no n (Lib.hid HI)).mono fun _ _ h => ⟨h.1, h.2 ▸ HS⟩
  | some i =>
    rcases node_cases ok n with ⟨x, rfl, hx, e'⟩ | ⟨hn, e'⟩
    · rw [e'] at e
      obtain ⟨l, s, hl, hm, hs, hp, hq, G', eh, es⟩ := less_step ok G e
      rw [drop_is e]
      refine (raw_drop R i x _ _ s (Ch.at_lt e) hx hp hq (homeOf_some e) rfl rfl (by rw [sizeOf_is hl, hs]) (small_len ok hl hs)).mono ?_
      rintro _ w' ⟨rfl, R', T⟩
      exact ⟨rfl, went_less R' G' eh es T⟩
    · rw [e'] at e; cases e
theorem own_pop {N w a g} (i : Int) (h : AtC N w a g) (ok : g.Ok) : Calls Try.prog 14 #[.pointer (some a), .int .i64 i] w (PopC AtC N w a (g.pop i) (g.list i).head?) := by
  have HL := own_len i h ok
  have HS := went_same h
  obtain ⟨b, gl, gh, gs, K, rfl, rfl, R, G⟩ := h
  cases e : g.list i with
  | nil =>
    rw [e] at HL
    rw [pop_not e]
    exact (raw_pop_no i (Lib.hid (raw_first_no R i (Lib.hid HL)))).mono fun _ _ h => ⟨h.1, h.2 ▸ HS⟩
  | cons x t =>
    rcases list_cases g i with ⟨k, l, rfl, hk, hl, e'⟩ | ⟨hi, e', _⟩
    · rw [e'] at e
      subst e
      have ha : g.at x = some k := ok.at_of hl (by simp)
      obtain ⟨l', s, hl', hm, hs, hp, hq, G', eh, es⟩ := less_step ok G ha
      rw [(pop_is ok hl).1]
      refine (raw_pop R k x _ _ s hk (ok.at_small ha) hp hq (ring_first (G k _ hl)) rfl rfl (by rw [sizeOf_is hl', hs]) (small_len ok hl' hs)).mono ?_
      rintro _ w' ⟨rfl, R', T⟩
      exact ⟨rfl, went_less R' G' eh es T⟩
    · rw [e'] at e; cases e
theorem own_push {N w a g} (i n : Int) (h : AtC N w a g) (ok : g.Ok) : Calls Try.prog 12 #[.pointer (some a), .int .i64 i, .int .i64 n] w (PushC AtC N w a (g.push i n) (g.pushE i n)) := by
  have HS := went_same h
  obtain ⟨b, gl, gh, gs, K, rfl, rfl, R, G⟩ := h
  rcases list_cases g i with ⟨k, l, rfl, hk, hl, _⟩ | ⟨hi, _, e'⟩
  · rcases node_cases ok n with ⟨x, rfl, hx, e⟩ | ⟨hn, e⟩
    · cases ha : g.at x with
      | some j =>
        have e1 : g.pushE (k : Int) (x : Int) = 50 := push_in hl hx ha
        have e2 : g.push (k : Int) (x : Int) = g := by unfold Ch.push; rw [e1]; rfl
        rw [e1, e2]
        exact (raw_push_in R k x _ hk hx (homeOf_some ha) (by omega)).mono fun _ _ h => ⟨h.1, h.2 ▸ HS⟩
      | none =>
        obtain ⟨e1, e2⟩ := push_is hl hx ha
        rw [e1, e2]
        obtain ⟨hp, G', eh, es⟩ := put_step ok G hl hx ha
        have hsm := short_list ok hl
        have hsn := ok.small
        refine (raw_push R k x _ l.length hk hx hp (homeOf_none ha) rfl (sizeOf_is hl) (by omega)).mono ?_
        rintro _ w' ⟨rfl, R', T⟩
        refine ⟨rfl, _, ⟨b, gl, gh, gs, _, rfl, rfl, ?_, G'⟩, T, fun k hk => .inl hk⟩
        have e1 : (g.put k x).ls.length = g.ls.length := by simp [Ch.put]
        rw [e1]
        exact ⟨R'.box, R'.links, R'.homes.congr fun y _ => eh y, R'.sizes.congr fun j _ => es j, R'.ne, R'.n1, R'.m0, R'.m1⟩
    · have e1 : g.pushE (k : Int) n = 2 := by
        unfold Ch.pushE
        rw [if_pos (.inr (fun h => by have := h.1; have := h.2; omega))]
      have e2 : g.push (k : Int) n = g := by unfold Ch.push; rw [e1]; rfl
      rw [e1, e2]
      exact (raw_push_node R k n hk hn).mono fun _ _ h => ⟨h.1, h.2 ▸ HS⟩
  · have e1 : g.pushE i n = 2 := by
      unfold Ch.pushE
      rw [if_pos (.inl (by rw [e']; rfl))]
    have e2 : g.push i n = g := by unfold Ch.push; rw [e1]; rfl
    rw [e1, e2]
    exact (raw_push_list R i n hi).mono fun _ _ h => ⟨h.1, h.2 ▸ HS⟩
theorem own_list {N w a g} (i : Int) (h : AtC N w a g) (ok : g.Ok) : Calls Try.prog 18 #[.pointer (some a), .int .i64 i] w (ListC w (g.list i)) := by
  have HL := own_len i h ok
  obtain ⟨b, gl, gh, gs, K, rfl, rfl, R, G⟩ := h
  cases e : g.list i with
  | nil =>
    rw [e] at HL
    exact (raw_list_no i (Lib.hid HL)).mono fun _ _ h => ⟨none, 0, h.1, World.ownsRow_nil _ _ _ _, h.2 ▸ Below.refl _ _⟩
  | cons x t =>
    rcases list_cases g i with ⟨k, l, rfl, hk, hl, e'⟩ | ⟨hi, e', _⟩
    · rw [← e, e']
      have hsm := short_list ok hl
      have hsn := ok.small
      exact raw_list R k l hk (sizeOf_is hl) (by rw [← e', e]; simp) (by omega) (G k l hl) (ok.lt k l hl)
    · rw [e'] at e; cases e
theorem own_new (lists nodes : Nat) (w : World) (h1 : 1 ≤ lists) (h2 : lists ≤ 64) (h3 : 1 ≤ nodes) (h4 : nodes ≤ 65536) : Calls Try.prog 9 #[.int .i64 (lists : Int), .int .i64 (nodes : Int)] w (NewC AtC w lists nodes) := by
  refine (raw_new lists nodes w h1 h2 h3 h4).mono ?_
  rintro e w' ⟨b, gl, gh, gs, K, rfl, R, G, O, B⟩
  have hr : ∀ (i : Nat) (l : List Nat), (Ch.new lists nodes).ls[i]? = some l → l = [] := by
    intro i l h
    have := List.mem_of_getElem? h
    unfold Ch.new at this
    exact (List.mem_replicate.1 this).2
  have el : (Ch.new lists nodes).ls.length = lists := by simp [Ch.new]
  have eh : ∀ y, homeOf (Ch.new lists nodes) y = 0 := fun y => homeOf_none (Ch.none_of fun i l h hx => by rw [hr i l h] at hx; simp at hx)
  refine ⟨_, _, rfl, ⟨b, gl, gh, gs, K, rfl, rfl, ?_, ?_⟩, O, B⟩
  · rw [el]
    refine ⟨R.box, R.links, R.homes.congr fun y _ => (eh y).symm, R.sizes.congr fun j hj => ?_, R.ne, R.n1, R.m0, R.m1⟩
    obtain ⟨l, hl⟩ := ch_row (g := Ch.new lists nodes) (k := j) (by rw [el]; exact hj)
    rw [sizeOf_is hl, hr j l hl]
    rfl
  · intro i l h
    rw [hr i l h]
    exact G i (by rw [← el]; exact (List.getElem?_eq_some_iff.1 h).1)

def chainK : ChainK where
  At := AtC
  lt := fun h k hk => by
    obtain ⟨b, gl, gh, gs, K, rfl, rfl, R, G⟩ := h
    exact R.lt k hk
  kept := fun h k hs => by
    obtain ⟨b, gl, gh, gs, K, rfl, rfl, R, G⟩ := h
    exact ⟨b, gl, gh, gs, K, rfl, rfl, R.same k, G⟩
  new := own_new
  new_no := fun lists nodes w h => (raw_new_no lists nodes w h).mono fun _ _ h => ⟨h.1, h.2 ▸ Below.refl _ _⟩
  push := fun i n h ok _ _ => own_push i n h ok
  pop := fun i h ok _ => own_pop i h ok
  drop := fun n h ok _ => own_drop n h ok
  first := fun i h ok _ => own_first i h ok
  inn := fun n h ok _ => (own_in n h ok).mono fun _ _ h => ⟨h.1, h.2 ▸ Below.refl _ _⟩
  len := fun i h ok _ => (own_len i h ok).mono fun _ _ h => ⟨h.1, h.2 ▸ Below.refl _ _⟩
  list := fun i h ok _ => own_list i h ok

end Go.Proofs.Ythdgpnkkeeebkaa
