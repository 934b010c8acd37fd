/-
  The first n of a walk: steps.
-/
import Derived.Test.YtfedjeojanpnpabWalkRound
import Derived.Maps.OwnIn
namespace Go.Proofs.Ytfedjeojanpnpab
open Go.RowKit Go.Shelf
set_option linter.unusedVariables false
attribute [local go_sem] Oper.semAt_some

/-- What is told by now lies in memory of its own. -/
def ToldAt (h : Nat) (n : Int) (pre : List En) (O1 : Nat → Prop) (W : World) : Prop :=
  ∃ p c, Box W (h + 1) 35 #[.slice p pre.length c] ∧ W.ownsRow h 52 3 (.slice p pre.length c) pre.length (pre.flatMap enC) ∧ O1 = (fun j => j = h + 1 ∨ (Value.slice p pre.length c).ownBlock = some j) ∧ pre.length ≤ n.toNat
theorem toldAt_of (h : Nat) (n : Int) : Of' (ToldAt h n) := by
  constructor
  · rintro pre O W ⟨p, c, h1, h2, rfl, h3⟩ k (rfl | hk)
    · exact h1.lt
    · exact (h2.lt k hk).2
  · rintro pre O A B ⟨p, c, h1, h2, rfl, h3⟩ t
    exact ⟨p, c, (t.block _ h1.lt (fun h => h (.inl rfl))).trans h1, own_same h2 fun g hg => t.block g (h2.lt g hg).2 (fun h => h (.inr hg)), rfl, h3⟩
theorem told_stop (h : Nat) (n : Int) (c : Code) : Of' (fun (pre : List En) O1 W => c = .exit 0 ∧ ∃ q x, pre = q ++ [x] ∧ q.length = n.toNat ∧ ToldAt h n q O1 W) :=
  ⟨fun ⟨_, q, x, _, _, k⟩ => (toldAt_of h n).lt k, fun ⟨e, q, x, e1, e2, k⟩ t => ⟨e, q, x, e1, e2, (toldAt_of h n).kept k t⟩⟩

/-- One more is told. -/
theorem told_more {h : Nat} {n : Int} {pre : List En} {x : En} {O1 : Nat → Prop} {W w1 : World} {p : Option Addr} {c : Nat} {v' : Value} {tmp : Obj} (hb : Box W (h + 1) 35 #[.slice p pre.length c]) (hr : W.ownsRow h 52 3 (.slice p pre.length c) pre.length (pre.flatMap enC))
    (hO : O1 = (fun j => j = h + 1 ∨ (Value.slice p pre.length c).ownBlock = some j)) (hn : ((pre.length : Nat) : Int) < n)
    (r : w1.ownsRow h 52 3 v' (pre.length + 1) (pre.flatMap enC ++ enC x)) (g : (W.alloc tmp).grownBy w1 (Value.slice p pre.length c).ownBlock) (ha : v'.ownBlock = (Value.slice p pre.length c).ownBlock ∨ v'.ownBlock = some (W.alloc tmp).heap.size) :
    Box w1 (h + 1) 35 #[.slice p pre.length c] ∧ ∃ O2, Stp W O1 (w1.setCell ⟨h + 1, 0, none⟩ v') O2 ∧ ToldAt h n (pre ++ [x]) O2 (w1.setCell ⟨h + 1, 0, none⟩ v') := by
  subst hO
  have hv : some (h + 1) ≠ (Value.slice p pre.length c).ownBlock := Boxed.not_row (show Boxed W (h + 1) _ _ from hb) (by decide) hr
  have hb1 : Box w1 (h + 1) 35 #[.slice p pre.length c] := (g.block (h + 1) (by have := hb.lt; simp; omega) hv).trans ((Below.heap_alloc W tmp _ hb.lt).trans hb)
  have hv' : some (h + 1) ≠ v'.ownBlock := Boxed.not_row (show Boxed w1 (h + 1) _ _ from hb1) (by decide) r
  obtain ⟨p', c', rfl⟩ := owns_slice r
  refine ⟨hb1, fun j => j = h + 1 ∨ (Value.slice p' (pre.length + 1) c').ownBlock = some j, ⟨?_, ?_⟩, p', c', ?_, ?_, ?_, ?_⟩
  · refine Turned.set (N := fun j => j = h + 1 ∨ (Value.slice p pre.length c).ownBlock = some j) ?_ (.inl rfl) _
    exact ((Turned.refl _ W).alloc tmp).grown g fun k hk _ => .inr hk
  · rintro k (rfl | hk)
    · exact .inl (.inl rfl)
    · rcases ha with ha | ha
      · exact .inl (.inr (ha ▸ hk))
      · rw [ha] at hk
        have := Option.some.inj hk
        simp at this
        exact .inr (by omega)
  · have := hb1.set 0 (.slice p' (pre.length + 1) c')
    rw [List.length_append]
    exact this
  · rw [List.length_append, List.flatMap_append, show ([x] : List En).flatMap enC = enC x by simp]
    exact own_set r (fun e => hv' e.symm)
  · rw [List.length_append]
    rfl
  · rw [List.length_append]
    simp
    omega

/-- What is handed out. -/
theorem told_all {w W1 W' : World} {l q : List En} {p : Option Addr} {c D : Nat} {O' : Nat → Prop} (bl : Below w.heap.size w W1) (hs : W1.heap.size = w.heap.size + 2) (e : l = q) (hr : W'.ownsRow w.heap.size 52 3 (.slice p q.length c) q.length (q.flatMap enC))
    (nD : ¬ (D = w.heap.size + 1 ∨ (Value.slice p q.length c).ownBlock = some D)) (hD : W1.heap.size ≤ D) (s : Stp W1 (fun j => j = w.heap.size + 1) W' O') : AllC w l (.returned (.slice p q.length c)) (W'.putObj D (.deferred none)) := by
  subst e
  refine ⟨p, c, rfl, own_same hr fun g hg => World.putObj_heap_other fun e => nD (.inr (e ▸ hg)), ?_⟩
  have h1 : Below w.heap.size W1 W' := ⟨s.turned.os, s.turned.tape, s.turned.output, s.turned.size, fun k hk => s.turned.block k (by omega) (by omega)⟩
  refine (bl.trans h1).trans ⟨rfl, rfl, rfl, by simp, fun k hk => World.putObj_heap_other (by omega)⟩
theorem en_new (W : World) (x : En) (j : Nat) (u : Value) (h : (enC x)[j]? = some u) : (W.alloc (.cells #[.int .u64 (x.key.at_ : Int), .int .u64 (x.key.seq : Int), .int .i64 x.val] 52)).cell? ((⟨W.heap.size, 0, none⟩ : Addr).add j) = some u := by
  have e : (⟨W.heap.size, 0, none⟩ : Addr).add j = ⟨W.heap.size, j, none⟩ := by
    cases j with
    | zero => rfl
    | succ j => simp [Addr.add]
  rw [e, (Box.new W _ _).cell j]
  simpa [enC] using h
theorem en_one (x : En) : ∀ u, u ∈ enC x → u.oneCell' = true := by
  intro u hu
  simp [enC] at hu
  rcases hu with rfl | rfl | rfl <;> rfl

set_option maxRecDepth 100000 in
set_option maxHeartbeats 2000000 in
theorem steps_calls {gf : Nat} {lb : Array Value} {xs : List En} {M : Nat → Prop} {w : World} (eg : ∀ args w, (callFunc gf args).run Try.prog w = .ok (.enter gf args) w) (hseq : SeqF Try.prog encE gf lb xs M w) (hMl : ∀ k, M k → k < w.heap.size) (n : Int) (hlen : xs.length ≤ 131072) :
    CallsIn Fence.wide 0 Try.prog 37 #[.func (.func gf) #[] lb, .int .i64 n] w (AllC w (xs.take n.toNat)) := by
  have bl : Below w.heap.size w ((w.alloc (.cells #[.int .i64 n] 3)).alloc (.cells #[.slice none 0 0] 35)) := ((Below.refl _ w).alloc (Nat.le_refl _) _).alloc (by simp) _
  have bN : Box ((w.alloc (.cells #[.int .i64 n] 3)).alloc (.cells #[.slice none 0 0] 35)) w.heap.size 3 #[.int .i64 n] := (Box.new w _ _).alloc _
  have bV : Box ((w.alloc (.cells #[.int .i64 n] 3)).alloc (.cells #[.slice none 0 0] 35)) (w.heap.size + 1) 35 #[.slice none 0 0] := by
    have := Box.new (w.alloc (.cells #[.int .i64 n] 3)) 35 #[.slice none 0 0]
    rwa [World.size_alloc] at this
  have hs : ((w.alloc (.cells #[.int .i64 n] 3)).alloc (.cells #[.slice none 0 0] 35)).heap.size = w.heap.size + 2 := by simp
  have HS := Lib.hid hseq
  clear hseq
  refine callsIn_of_wp_marks Try.func37 rfl trivial ?_ rfl
  simp only [Try.ntmps37, List.size_toArray, List.length_cons, List.length_nil, Nat.reduceAdd, Nat.reduceSub, Array.replicate_succ, Array.replicate_zero, List.push_toArray, List.append_toArray, List.nil_append, List.cons_append]
  gi_wp2
  revert bl bN bV hs
  generalize ((w.alloc (.cells #[.int .i64 n] 3)).alloc (.cells #[.slice none 0 0] 35)) = W1
  intro bl bN bV hs
  obtain ⟨h, HH⟩ : ∃ h, Hid (w.heap.size = h) := ⟨_, Lib.hid rfl⟩
  have sq : SeqF Try.prog encE gf lb xs M W1 := fun L J Jx W O hJ hJx hsz hm => HS.out L J Jx W O hJ hJx (by omega) (fun k hk => (hm k hk).trans (bl.block k (hMl k hk)))
  obtain ⟨inf, hi1, hi2, hi3, hi4⟩ := info_parts (P := Try.prog) (e := 52) (z := .agg #[.int .u64 0, .int .u64 0, .int .i64 0]) (size := 3) (bytes := 24) (by kernel_rfl)
  have HI := Lib.hid (And.intro hi1 (And.intro hi2 (And.intro hi3 hi4)))
  have HX := Lib.hid (And.intro bl (And.intro bN (And.intro bV hs)))
  clear hi1 hi2 hi3 hi4
  refine wp_rangeS 6 (fun x => .cells #[.int .u64 (x.key.at_ : Int), .int .u64 (x.key.seq : Int), .int .i64 x.val] 52 (0, 0)) rfl eg sq ?_ (fun _ => rfl)
    (ToldAt w.heap.size n) (fun c pre O1 W => c = .exit 0 ∧ ∃ q x, pre = q ++ [x] ∧ q.length = n.toNat ∧ ToldAt w.heap.size n q O1 W) (toldAt_of _ _) (told_stop _ _) (fun j => j = w.heap.size) (fun j => j = w.heap.size + 1) ?_ ?_ ?_ ?_ ?_ ?assign ?body ?done ?stop
  · intro k hk; have := hMl k hk; omega
  · intro k hk e; have := hMl k hk; omega
  · intro k hk e; have := hMl k hk; omega
  · intro k e; omega
  · intro k e e'; omega
  · exact ⟨none, 0, bV, World.ownsRow_nil _ _ _ _, by
      funext j
      simp [Value.ownBlock], Nat.zero_le _⟩
  case assign =>
    intro l' x W' K hK
    unfold encE enV
    gi_wp2
    simpa [inR, encE, enV] using hK _ ((Below.refl _ W').alloc (Nat.le_refl _) _) (World.alloc_heap_new W' _)
  case body =>
    intro l' pre x W' O1 B ht hp hbx hbo hE
    obtain ⟨p, c, hb, hr, hO, hle⟩ := ht
    have bN4 : Box W' w.heap.size 3 #[.int .i64 n] := (hE _ rfl).trans HX.out.2.1
    have n0 := bN4.cell 0
    have v0 := hb.cell 0
    have hbx' : Box W' B 52 #[.int .u64 (x.key.at_ : Int), .int .u64 (x.key.seq : Int), .int .i64 x.val] := hbx
    have x0 := hbx'.cell 0
    have x1 := hbx'.cell 1
    have x2 := hbx'.cell 2
    have hpl : pre.length + 1 ≤ xs.length := by
      have := hp.length_le
      simpa using this
    have HT := Lib.hid (And.intro hb (And.intro hr (And.intro hO (And.intro hle hpl))))
    have hN1 : pre.length + 1 ≤ maxLen := by show pre.length + 1 ≤ 9223372036854775807; omega
    clear hbx hbx' hE bN4 bl bN bV sq hb hO hle hpl hp
    have hsz := (show w.heap.size ≤ W'.heap.size from Nat.le_of_lt (World.block_lt_of_cell? W' _ n0))
    have hN2 : (pre.length + 1) * 24 ≤ 140737488355328 := by have := HT.out.2.2.2.2; omega
    have hN3 : ∀ o, w.heap.size ≤ (W'.alloc o).heap.size := fun o => by simp; omega
    by_cases hc : n ≤ (pre.length : Int)
    · unfold inR encE enV
      gi_wp2
      obtain ⟨hb, hr, hO, hle, hpl⟩ := HT.out
      exact ⟨O1, Stp.refl _ _, rfl, pre, x, rfl, by omega, p, c, hb, hr, hO, hle⟩
    · unfold inR encE enV
      gi_wp2_with (gi_at_builtin; refine wpListIn_append_own_at _ rfl (.tmp 13) (.tmp 15) 35 rfl w.heap.size 52 inf (.agg #[.int .u64 0, .int .u64 0, .int .i64 0]) 3 24 Try.underlying35 HI.out.1 HI.out.2.1 HI.out.2.2.1 HI.out.2.2.2 rfl (by decide) (.slice p pre.length c) pre.length (pre.flatMap enC) rfl (hr.alloc _) ⟨W'.heap.size, 0, none⟩ 1 1 (enC x) rfl rfl (en_new W' x) (en_one x) hN1 hN2 (hN3 _) ?_; intro v' w1 r1 g1 _ a1; obtain ⟨p', c', rfl⟩ := owns_slice r1; obtain ⟨hb, _, hO, hle, hpl⟩ := HT.out; obtain ⟨k1, O2, k2, k3⟩ := told_more (n := n) (x := x) hb hr hO (by omega) r1 g1 a1; have hc1 := k1.cell 0; have hf1 := k1.frozen 0; clear hb hO hle hpl k1 r1 g1 a1)
      exact ⟨O2, k2, k3⟩
  case done =>
    intro D W' O' hD hd nD s4 ht
    obtain ⟨p, c, hb, hr, hO, hle⟩ := ht
    have v0 := hb.cell 0
    have HT := Lib.hid (And.intro hb (And.intro hr (And.intro hO hle)))
    clear hb hr hO hle bl bN bV sq
    gi_wp2
    refine ⟨by simp, .inl ⟨_, _, rfl, run_takeDeferred hd, ?_⟩⟩
    obtain ⟨hb, hr, hO, hle⟩ := HT.out
    obtain ⟨bl, _, _, hs⟩ := HX.out
    refine ⟨_, results_tmp rfl _ _ _, ?_⟩
    exact told_all bl hs (List.take_of_length_le hle) hr (fun h => nD (by rw [hO]; exact h)) hD s4
  case stop =>
    rintro D W' O' c pre hD hd nD s4 hp ⟨rfl, q, x, rfl, hq, ht⟩
    obtain ⟨p, c, hb, hr, hO, hle⟩ := ht
    have v0 := hb.cell 0
    have HT := Lib.hid (And.intro hb (And.intro hr (And.intro hO (And.intro hle hp))))
    have HQ := Lib.hid hq
    clear hb hr hO hle bl bN bV sq hp hq
    gi_wp2
    refine ⟨by simp, .inl ⟨_, _, rfl, run_takeDeferred hd, ?_⟩⟩
    obtain ⟨hb, hr, hO, hle, hp⟩ := HT.out
    obtain ⟨bl, _, _, hs⟩ := HX.out
    have e1 : xs.take n.toNat = q := by
      obtain ⟨r, hr'⟩ := hp
      rw [← HQ.out, ← hr', List.append_assoc, List.take_left]
    refine ⟨_, results_tmp rfl _ _ _, ?_⟩
    exact told_all bl hs e1 hr (fun h => nD (by rw [hO]; exact h)) hD s4

end Go.Proofs.Ytfedjeojanpnpab
