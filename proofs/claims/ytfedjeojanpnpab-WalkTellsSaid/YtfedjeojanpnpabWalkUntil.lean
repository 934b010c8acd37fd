/-
  The program's own walk up to a key, as a function that is ranged over.
-/
import Derived.Test.YtfedjeojanpnpabWalkOnwardW
namespace Go.Proofs.Ytfedjeojanpnpab
open Go.RowKit Go.Shelf
set_option linter.unusedVariables false
attribute [local go_sem] Oper.semAt_some

theorem walk_before (a b : Ky) (w : World) : Calls Try.prog 57 #[kyV a, kyV b] w fun e w' => e = .returned (.bool (decide (a.lt b))) ∧ Below w.heap.size w w' := by
  unfold kyV
  have x1 := (Box.new w 27 #[.int .u64 (a.at_ : Int), .int .u64 (a.seq : Int)]).alloc (.cells #[.int .u64 (b.at_ : Int), .int .u64 (b.seq : Int)] 27)
  have x2 := Box.new (w.alloc (.cells #[.int .u64 (a.at_ : Int), .int .u64 (a.seq : Int)] 27)) 27 #[.int .u64 (b.at_ : Int), .int .u64 (b.seq : Int)]
  rw [World.size_alloc] at x2
  have HB := Lib.hid (((Below.refl _ w).alloc (Nat.le_refl _) (.cells #[.int .u64 (a.at_ : Int), .int .u64 (a.seq : Int)] 27)).alloc (by rw [World.size_alloc]; omega) (.cells #[.int .u64 (b.at_ : Int), .int .u64 (b.seq : Int)] 27))
  obtain ⟨W, HW⟩ : ∃ W, Hid (((w.alloc (.cells #[.int .u64 (a.at_ : Int), .int .u64 (a.seq : Int)] 27)).alloc (.cells #[.int .u64 (b.at_ : Int), .int .u64 (b.seq : Int)] 27)) = W) := ⟨_, Lib.hid rfl⟩
  rw [HW.out] at x1 x2 HB
  have c0 : W.cell? ⟨w.heap.size, 0, none⟩ = some (.int .u64 (a.at_ : Int)) := x1.cell 0
  have c1 : W.cell? ⟨w.heap.size, 1, none⟩ = some (.int .u64 (a.seq : Int)) := x1.cell 1
  have d0 : W.cell? ⟨w.heap.size + 1, 0, none⟩ = some (.int .u64 (b.at_ : Int)) := x2.cell 0
  have d1 : W.cell? ⟨w.heap.size + 1, 1, none⟩ = some (.int .u64 (b.seq : Int)) := x2.cell 1
  clear x1 x2
  by_cases h1 : a.at_ < b.at_
  · have h1z : (a.at_ : Int) < (b.at_ : Int) := by omega
    have HE : Hid (decide (a.lt b) = true) := Lib.hid (decide_eq_true (.inl h1))
    clear h1
    go_enter Try.func57, Try.ntmps57
    go_upto_region 1 with fail
    rw [HW.out]
    go_wp2_with fail
    go_ret
    exact ⟨by rw [HE.out]; rfl, HB.out⟩
  · have h1z : ¬ (a.at_ : Int) < (b.at_ : Int) := by omega
    by_cases h2 : a.at_ = b.at_
    · have h2z : ((a.at_ : Int) == (b.at_ : Int)) = true := by simp [h2]
      by_cases h3 : a.seq < b.seq
      · have h3z : (a.seq : Int) < (b.seq : Int) := by omega
        have HE : Hid (decide (a.lt b) = true) := Lib.hid (decide_eq_true (.inr ⟨h2, h3⟩))
        clear h1 h2 h3
        go_enter Try.func57, Try.ntmps57
        go_upto_region 1 with fail
        rw [HW.out]
        go_wp2_with fail
        go_ret
        exact ⟨by rw [HE.out]; rfl, HB.out⟩
      · have h3z : ¬ (a.seq : Int) < (b.seq : Int) := by omega
        have HE : Hid (decide (a.lt b) = false) := Lib.hid (decide_eq_false (by unfold Ky.lt; omega))
        clear h1 h2 h3
        go_enter Try.func57, Try.ntmps57
        go_upto_region 1 with fail
        rw [HW.out]
        go_wp2_with fail
        go_ret
        exact ⟨by rw [HE.out]; rfl, HB.out⟩
    · have h2z : ((a.at_ : Int) == (b.at_ : Int)) = false := by rw [beq_eq_false_iff_ne]; omega
      have HE : Hid (decide (a.lt b) = false) := Lib.hid (decide_eq_false (by unfold Ky.lt; omega))
      clear h1 h2
      go_enter Try.func57, Try.ntmps57
      go_upto_region 1 with fail
      rw [HW.out]
      go_wp2_with fail
      go_ret
      exact ⟨by rw [HE.out]; rfl, HB.out⟩

set_option maxRecDepth 100000 in
set_option maxHeartbeats 2000000 in
theorem until_seq {p : Option Addr} {l : List En} {M : Nat → Prop} {w : World} {k : Ky} {s : Nat} (hR : Reads (.pointer p) l M w) (hB : Boxes s (.pointer p) k w) (hMs : ¬ M (s + 1)) :
    SeqF Try.prog encE 56 (lbW s) (belowL k l) (And2 M s) w := by
  intro L J Jx W O hJ hJx hsz hm hoff hY h0
  have hlt : ∀ j, And2 M s j → j < w.heap.size := by
    rintro j (h | rfl | rfl)
    · exact hR.lt j h
    · exact hB.t.lt
    · exact hB.k.lt
  have c0 : Cx W O (And2 M s) W O := Cx.start (fun j hj => Nat.lt_of_lt_of_le (hlt j hj) hsz) hoff
  have rW : Reads (.pointer p) l M W := hR.later (fun j hj => hm j (.inl hj)) hsz
  have bW : Boxes s (.pointer p) k W := ⟨(hm s (.inr (.inl rfl))).trans hB.t, (hm (s + 1) (.inr (.inr rfl))).trans hB.k⟩
  have bl := (Below.refl W.heap.size W).alloc (Nat.le_refl _) (.cells #[.func (.yield L) #[] #[]] 89)
  have c1 := c0.below bl
  have j1 := hJ.kept h0 (Turned.below bl)
  have bY := Box.new W 89 #[.func (.yield L) #[] #[]]
  have bT1 : Box (W.alloc (.cells #[.func (.yield L) #[] #[]] 89)) s 28 #[.pointer p] := (c1.mem s (.inr (.inl rfl))).trans bW.t
  have bK1 : Box (W.alloc (.cells #[.func (.yield L) #[] #[]] 89)) (s + 1) 27 #[.int .u64 (k.at_ : Int), .int .u64 (k.seq : Int)] := (c1.mem (s + 1) (.inr (.inr rfl))).trans bW.k
  have HJ := Lib.hid hJ
  have HJx := Lib.hid hJx
  have HY := Lib.hid hY
  have HR := Lib.hid rW
  have HB := Lib.hid bW
  have HN : Hid (¬ O W.heap.size) := Lib.hid (fun h => by have := hJ.lt h0 _ h; omega)
  have cT := bT1.cell 0
  have cA := bK1.cell 0
  have cS := bK1.cell 1
  have hsz1 : (W.alloc (.cells #[.func (.yield L) #[] #[]] 89)).heap.size = W.heap.size + 1 := by simp
  have HC := Lib.hid (And.intro c1 (And.intro bY (And.intro j1 hsz1)))
  have HT : Hid (Of' (fun (pre : List En) (O1 : Nat → Prop) (W' : World) => (∀ e, e ∈ pre → ¬ k.lt e.key) ∧ J pre O1 W')) := Lib.hid ⟨fun h => hJ.lt h.2, fun h t => ⟨h.1, hJ.kept h.2 t⟩⟩
  have HTx : Hid (∀ c : Code, Of' (fun (pre : List En) (O1 : Nat → Prop) (W' : World) => c = .ret ∧ (J (belowL k l) O1 W' ∨ ∃ q, q <+: belowL k l ∧ Jx q O1 W'))) := Lib.hid fun c => ⟨fun h => h.2.elim (fun h => hJ.lt h) (fun ⟨q, _, h⟩ => hJx.lt h), fun h t => ⟨h.1, h.2.imp (fun h => hJ.kept h t) (fun ⟨q, hq, h⟩ => ⟨q, hq, hJx.kept h t⟩)⟩⟩
  obtain ⟨k0, hk0, hkv, Hk0⟩ : ∃ k0 : Ky, k0.Fits ∧ kyV k0 = .agg #[.int .u64 0, .int .u64 0] ∧ Hid (k0 = ⟨0, 0⟩) := ⟨⟨0, 0⟩, ⟨by decide, by decide⟩, rfl, Lib.hid rfl⟩
  have mkO := onward_makes p k0
  rw [hkv] at mkO
  clear hkv
  replace mkO := Lib.hid mkO
  clear hJ hJx hY hR hB h0 c0 rW bW hm hoff hsz hlt bl c1 j1 bY bT1 bK1 hsz1
  unfold lbW
  refine callsIn_of_wp_marks Try.func56 rfl trivial ?_ rfl
  simp only [Try.ntmps56, List.size_toArray, List.length_cons, List.length_nil, Nat.reduceAdd, Nat.reduceSub, Array.replicate_succ, Array.replicate_zero, List.push_toArray, List.append_toArray, List.nil_append, List.cons_append]
  gi_wp2_with (refine ⟨trivial, rfl, ?_⟩; gi_at_call 41; refine (mkO.out (W.alloc (.cells #[.func (.yield L) #[] #[]] 89))).mono ?_; rintro e W3 ⟨rfl, rfl⟩; clear cT cA cS mkO)
  obtain ⟨c1, bY1, j1, hsz1⟩ := HC.out
  revert c1 bY1 j1 hsz1
  generalize (W.alloc (.cells #[.func (.yield L) #[] #[]] 89)) = W2
  intro c2 bY2 j2 hsz2
  have bl3 : Below W2.heap.size W2 ((W2.alloc (.cells #[.pointer p] 28)).alloc (.cells #[.int .u64 (k0.at_ : Int), .int .u64 (k0.seq : Int)] 27)) := ((Below.refl _ W2).alloc (Nat.le_refl _) _).alloc (by simp) _
  have bx3 := boxes_new p k0 W2
  rw [hsz2] at bx3
  have hs3 : ((W2.alloc (.cells #[.pointer p] 28)).alloc (.cells #[.int .u64 (k0.at_ : Int), .int .u64 (k0.seq : Int)] 27)).heap.size = W2.heap.size + 2 := by simp
  revert bl3 bx3 hs3
  generalize ((W2.alloc (.cells #[.pointer p] 28)).alloc (.cells #[.int .u64 (k0.at_ : Int), .int .u64 (k0.seq : Int)] 27)) = W4
  intro bl3 bx3 hs3
  have c3 := c2.below bl3
  have r3 : Reads (.pointer p) l M W4 := HR.out.later (fun j hj => c3.mem j (.inl hj)) c3.size
  have bY3 := bY2.below bl3 bY2.lt
  have j3 := HJ.out.kept j2 (Turned.below bl3)
  have hOl := HJ.out.lt j2
  have hYl : W.heap.size < W2.heap.size := bY2.lt
  have hMl := c2.lt
  have hMf := c2.off
  have nY := HN.out
  have bK3 : Box W4 (s + 1) 27 #[.int .u64 (k.at_ : Int), .int .u64 (k.seq : Int)] := (c3.mem (s + 1) (.inr (.inr rfl))).trans HB.out.k
  have HX := Lib.hid (And.intro c3 (And.intro bY3 (And.intro bK3 hYl)))
  have sl := hMl (s + 1) (.inr (.inr rfl))
  have sq := onward_seq r3 bx3 hk0
  rw [Hk0.out, from_zero] at sq
  clear c2 bY2 HC c3 bY3 bK3
  refine wp_rangeS 4 (fun x => .cells #[.int .u64 (x.key.at_ : Int), .int .u64 (x.key.seq : Int), .int .i64 x.val] 52 (0, 0)) rfl (enters_of Try.func54 (by kernel_rfl) rfl) sq ?_ (fun _ => rfl)
    (fun pre O1 W' => (∀ e, e ∈ pre → ¬ k.lt e.key) ∧ J pre O1 W') (fun c pre O1 W' => c = .ret ∧ (J (belowL k l) O1 W' ∨ ∃ q, q <+: belowL k l ∧ Jx q O1 W')) HT.out HTx.out (fun j => j = W.heap.size ∨ j = s + 1) O ?_ ?_ ?_ ?_ ⟨fun e he => (by cases he), j3⟩ ?assign ?body ?done ?stop
  · rintro j (h | rfl | rfl)
    · exact r3.lt j h
    · omega
    · omega
  · rintro j (h | rfl | rfl) ho
    · exact hMf j (.inl h) ho
    · have := hOl _ ho; omega
    · have := hOl _ ho; omega
  · rintro j (h | rfl | rfl) (ho | ho)
    · have := hMl j (.inl h); omega
    · exact hMs (ho ▸ h)
    · omega
    · omega
    · omega
    · omega
  · rintro j (rfl | rfl)
    · omega
    · omega
  · rintro j (rfl | rfl)
    · exact nY
    · exact hMf _ (.inr (.inr rfl))
  case assign =>
    intro l' x W' K hK
    unfold encE enV
    gi_wp2
    simpa [inR, encE, enV] using hK _ ((Below.refl _ W').alloc (Nat.le_refl _) _) (World.alloc_heap_new W' _)
  case body =>
    intro l' pre x W' O1 B ht hp hbx hbo hE
    clear r3 bx3 bl3 j3 hOl hMl hMf nY j2 sq
    have bY4 : Box W' W.heap.size 89 #[.func (.yield L) #[] #[]] := (hE _ (.inl rfl)).trans HX.out.2.1
    have bK4 : Box W' (s + 1) 27 #[.int .u64 (k.at_ : Int), .int .u64 (k.seq : Int)] := (hE _ (.inr rfl)).trans HX.out.2.2.1
    have k0 := bK4.cell 0
    have k1 := bK4.cell 1
    have hbx' : Box W' B 52 #[.int .u64 (x.key.at_ : Int), .int .u64 (x.key.seq : Int), .int .i64 x.val] := hbx
    have x0 := hbx'.cell 0
    have x1 := hbx'.cell 1
    have HBf := Lib.hid (walk_before k x.key W')
    by_cases c : k.lt x.key
    · have HE : Hid (decide (k.lt x.key) = true) := Lib.hid (decide_eq_true c)
      have HS := Lib.hid (below_stop HR.out.rises hp ht.1 c)
      have HT1 := Lib.hid ht.2
      clear hbx hbx' hE bY4 bK4 ht hp c
      unfold inR encE enV
      gi_wp2_with (refine ⟨trivial, rfl, ?_⟩; gi_at_call 57; refine (CallsIn.inRound l' (callsIn_wide.2 HBf.out)).mono ?_; rintro e W5 ⟨rfl, b5⟩; rw [HE.out])
      refine ⟨fun _ h => (by cases h), ?_⟩
      gi_wp2
      exact ⟨O1, Stp.below O1 b5, rfl, .inl (by rw [HS.out]; exact HJ.out.kept HT1.out (Turned.below b5))⟩
    · have HE : Hid (decide (k.lt x.key) = false) := Lib.hid (decide_eq_false c)
      have hq : ∀ e, e ∈ pre ++ [x] → ¬ k.lt e.key := fun e he => by
        rcases List.mem_append.1 he with h | h
        · exact ht.1 e h
        · rw [List.mem_singleton.1 h]; exact c
      have hpp : pre ++ [x] <+: belowL k l := pre_filter hp fun e he => by simpa using hq e he
      have HQ := Lib.hid (And.intro hq (And.intro hpp (And.intro ht.2 (And.intro hbx' bY4))))
      clear hbx hbx' hE bY4 bK4 ht hp c hq hpp
      unfold inR encE enV
      gi_wp2_with (refine ⟨trivial, rfl, ?_⟩; gi_at_call 57; refine (CallsIn.inRound l' (callsIn_wide.2 HBf.out)).mono ?_; rintro e W5 ⟨rfl, b5⟩; rw [HE.out]; clear k0 k1 x0 x1; obtain ⟨hq, hpp, hj, hbx, hbY⟩ := HQ.out; have hbx5 := hbx.below b5 hbx.lt; have hbY5 := hbY.below b5 hbY.lt; have y0 := hbY5.cell 0; have x0 := hbx5.cell 0; have x1 := hbx5.cell 1; have x2 := hbx5.cell 2; obtain ⟨fn, tmps, assign, body, hy, hRd⟩ := HY.out pre x W5 O1 (HJ.out.kept hj (Turned.below b5)) hpp; unfold encE enV at hy; have HRd := Lib.hid hRd; clear hRd hq hpp hj hbx hbY hbx5 hbY5)
      refine ⟨rfl, RoundIn.mono HRd.out ?_⟩
      rintro e W6 ⟨O2, s5, (⟨rfl, h5⟩ | ⟨rfl, h5⟩)⟩
      · clear hy x0 x1 x2 y0
        gi_wp2
        exact ⟨O2, (Stp.below O1 b5).trans s5, HQ.out.1, h5⟩
      · clear hy x0 x1 x2 y0
        gi_wp2
        exact ⟨O2, (Stp.below O1 b5).trans s5, rfl, .inr ⟨_, HQ.out.2.1, h5⟩⟩
  case done =>
    intro D W' O' hD hd nD s4 ht
    gi_wp2
    refine ⟨by simp, .inl ⟨_, _, rfl, run_takeDeferred hd, ?_⟩⟩
    have hx := HX.out
    exact ⟨_, results_none rfl _ _ _, ⟨_, rfl⟩, O', (take_mark (hx.1.step s4) (by omega) _).stp, .inl (by rw [below_all ht.1]; exact kept_mark HJ.out ht.2 nD _)⟩
  case stop =>
    rintro D W' O' c pre hD hd nD s4 hp ⟨rfl, ht⟩
    gi_wp2
    refine ⟨by simp, .inl ⟨_, _, rfl, run_takeDeferred hd, ?_⟩⟩
    have hx := HX.out
    refine ⟨_, results_none rfl _ _ _, ⟨_, rfl⟩, O', (take_mark (hx.1.step s4) (by omega) _).stp, ?_⟩
    rcases ht with ht | ⟨q, hq, ht⟩
    · exact .inl (kept_mark HJ.out ht nD _)
    · exact .inr ⟨q, hq, kept_mark HJx.out ht nD _⟩

end Go.Proofs.Ytfedjeojanpnpab
