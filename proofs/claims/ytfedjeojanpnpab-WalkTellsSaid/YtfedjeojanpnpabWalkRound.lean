/-
  The program's own walk once round, as a function that is ranged over.
-/
import Derived.Test.YtfedjeojanpnpabWalkUntil
namespace Go.Proofs.Ytfedjeojanpnpab
open Go.RowKit Go.Shelf
set_option linter.unusedVariables false
attribute [local go_sem] Oper.semAt_some

set_option maxRecDepth 100000 in
set_option maxHeartbeats 2000000 in
theorem round_seq {p : Option Addr} {l : List En} {M : Nat → Prop} {w : World} {k : Ky} {s : Nat} (hR : Reads (.pointer p) l M w) (hB : Boxes s (.pointer p) k w) (hk : k.Fits) :
    SeqF Try.prog encE 52 (lbW s) (roundL k l) (And2 M s) w := by
  intro L J Jx W O hJ hJx hsz hm hoff hY h0
  have hlt : ∀ j, And2 M s j → j < w.heap.size := by
    rintro j (h | rfl | rfl)
    · exact hR.lt j h
    · exact hB.t.lt
    · exact hB.k.lt
  have c0 : Cx W O (And2 M s) W O := Cx.start (fun j hj => Nat.lt_of_lt_of_le (hlt j hj) hsz) hoff
  have rW : Reads (.pointer p) l M W := hR.later (fun j hj => hm j (.inl hj)) hsz
  have bW : Boxes s (.pointer p) k W := ⟨(hm s (.inr (.inl rfl))).trans hB.t, (hm (s + 1) (.inr (.inr rfl))).trans hB.k⟩
  have bl := (Below.refl W.heap.size W).alloc (Nat.le_refl _) (.cells #[.func (.yield L) #[] #[]] 89)
  have c1 := c0.below bl
  have j1 := hJ.kept h0 (Turned.below bl)
  have bY := Box.new W 89 #[.func (.yield L) #[] #[]]
  have bT1 : Box (W.alloc (.cells #[.func (.yield L) #[] #[]] 89)) s 28 #[.pointer p] := (c1.mem s (.inr (.inl rfl))).trans bW.t
  have bK1 : Box (W.alloc (.cells #[.func (.yield L) #[] #[]] 89)) (s + 1) 27 #[.int .u64 (k.at_ : Int), .int .u64 (k.seq : Int)] := (c1.mem (s + 1) (.inr (.inr rfl))).trans bW.k
  have HJ := Lib.hid hJ
  have HJx := Lib.hid hJx
  have HY := Lib.hid hY
  have HR := Lib.hid rW
  have HB := Lib.hid bW
  have HN : Hid (¬ O W.heap.size) := Lib.hid (fun h => by have := hJ.lt h0 _ h; omega)
  have cT := bT1.cell 0
  have cA := bK1.cell 0
  have cS := bK1.cell 1
  have hsz1 : (W.alloc (.cells #[.func (.yield L) #[] #[]] 89)).heap.size = W.heap.size + 1 := by simp
  have HC := Lib.hid (And.intro c1 (And.intro bY (And.intro j1 hsz1)))
  have mkA := Lib.hid (above_makes p k)
  have mkU := Lib.hid (until_makes p k)
  clear hJ hJx hY hR hB h0 c0 rW bW hm hoff hsz hlt bl c1 j1 bY bT1 bK1 hsz1
  unfold lbW
  refine callsIn_of_wp_marks Try.func52 rfl trivial ?_ rfl
  simp only [Try.ntmps52, List.size_toArray, List.length_cons, List.length_nil, Nat.reduceAdd, Nat.reduceSub, Array.replicate_succ, Array.replicate_zero, List.push_toArray, List.append_toArray, List.nil_append, List.cons_append]
  gi_wp2_with (refine ⟨trivial, rfl, ?_⟩; gi_at_call 53; refine (mkA.out (W.alloc (.cells #[.func (.yield L) #[] #[]] 89))).mono ?_; rintro e W3 ⟨rfl, rfl⟩; clear cT cA cS mkA)
  obtain ⟨c1, bY1, j1, hsz1⟩ := HC.out
  revert c1 bY1 j1 hsz1
  generalize (W.alloc (.cells #[.func (.yield L) #[] #[]] 89)) = W2
  intro c2 bY2 j2 hsz2
  have bl3 : Below W2.heap.size W2 ((W2.alloc (.cells #[.pointer p] 28)).alloc (.cells #[.int .u64 (k.at_ : Int), .int .u64 (k.seq : Int)] 27)) := ((Below.refl _ W2).alloc (Nat.le_refl _) _).alloc (by simp) _
  have bx3 := boxes_new p k W2
  rw [hsz2] at bx3
  have hs3 : ((W2.alloc (.cells #[.pointer p] 28)).alloc (.cells #[.int .u64 (k.at_ : Int), .int .u64 (k.seq : Int)] 27)).heap.size = W2.heap.size + 2 := by simp
  revert bl3 bx3 hs3
  generalize ((W2.alloc (.cells #[.pointer p] 28)).alloc (.cells #[.int .u64 (k.at_ : Int), .int .u64 (k.seq : Int)] 27)) = W4
  intro bl3 bx3 hs3
  have c3 := c2.below bl3
  have r3 : Reads (.pointer p) l M W4 := HR.out.later (fun j hj => c3.mem j (.inl hj)) c3.size
  have bY3 := bY2.below bl3 bY2.lt
  have j3 := HJ.out.kept j2 (Turned.below bl3)
  have hOl := HJ.out.lt j2
  have hYl : W.heap.size < W2.heap.size := bY2.lt
  have hMl := c2.lt
  have hMf := c2.off
  have nY := HN.out
  have HX := Lib.hid (And.intro c3 (And.intro bY3 (And.intro hYl nY)))
  clear c2 bY2 HC c3 bY3
  refine wp_rangeS 4 (fun x => .cells #[.int .u64 (x.key.at_ : Int), .int .u64 (x.key.seq : Int), .int .i64 x.val] 52 (0, 0)) rfl (enters_of Try.func60 (by kernel_rfl) rfl) (above_seq r3 bx3 hk) ?_ (fun _ => rfl)
    (fun pre O1 W' => J ([] ++ pre) O1 W') (fun c pre O1 W' => c = .ret ∧ Jx ([] ++ pre) O1 W') (HJ.out.shift _) (fun c => (HJx.out.shift _).when _) (fun j => j = W.heap.size) O ?_ ?_ ?_ ?_ j3 ?assignN ?bodyN ?doneN ?stopN
  · rintro j (h | rfl | rfl)
    · exact r3.lt j h
    · omega
    · omega
  · rintro j (h | rfl | rfl) ho
    · exact hMf j (.inl h) ho
    · have := hOl _ ho; omega
    · have := hOl _ ho; omega
  · rintro j (h | rfl | rfl) ho
    · have := hMl j (.inl h); omega
    · omega
    · omega
  · rintro j rfl
    omega
  · rintro j rfl
    exact nY
  case assignN =>
    intro l' x W' K hK
    unfold encE enV
    gi_wp2
    simpa [inR, encE, enV] using hK _ ((Below.refl _ W').alloc (Nat.le_refl _) _) (World.alloc_heap_new W' _)
  case bodyN =>
    intro l' pre x W' O1 B ht hp hbx hbo hE
    have bY4 : Box W' W.heap.size 89 #[.func (.yield L) #[] #[]] := (hE _ rfl).trans HX.out.2.1
    have y0 := bY4.cell 0
    have hbx' : Box W' B 52 #[.int .u64 (x.key.at_ : Int), .int .u64 (x.key.seq : Int), .int .i64 x.val] := hbx
    have x0 := hbx'.cell 0
    have x1 := hbx'.cell 1
    have x2 := hbx'.cell 2
    obtain ⟨fn, tmps, assign, body, hy, hRd⟩ := HY.out ([] ++ pre) x W' O1 ht (by obtain ⟨r, hr⟩ := hp; exact ⟨r ++ belowL k l, by unfold roundL; rw [← hr]; simp⟩)
    unfold encE enV at hy
    have HRd := Lib.hid hRd
    clear hbx hbx' hE bY4 hRd ht hp r3 bx3 bl3 j3 hOl hMl hMf nY j2
    unfold inR encE enV
    gi_wp2
    refine ⟨rfl, RoundIn.mono HRd.out ?_⟩
    rintro e W5 ⟨O2, s5, (⟨rfl, h5⟩ | ⟨rfl, h5⟩)⟩
    · clear hy x0 x1 x2 y0
      gi_wp2
      exact ⟨O2, s5, by show J ([] ++ (pre ++ [x])) O2 W5; rw [← List.append_assoc]; exact h5⟩
    · clear hy x0 x1 x2 y0
      gi_wp2
      exact ⟨O2, s5, rfl, by show Jx ([] ++ (pre ++ [x])) O2 W5; rw [← List.append_assoc]; exact h5⟩
  case stopN =>
    rintro D W' O' c pre hD hd nD s4 hp ⟨rfl, ht⟩
    gi_wp2
    refine ⟨by simp, .inl ⟨_, _, rfl, run_takeDeferred hd, ?_⟩⟩
    have hx := HX.out
    exact ⟨_, results_none rfl _ _ _, ⟨_, rfl⟩, O', (take_mark (hx.1.step s4) (by omega) _).stp, .inr ⟨[] ++ pre, by obtain ⟨r, hr⟩ := hp; exact ⟨r ++ belowL k l, by unfold roundL; rw [← hr]; simp⟩, kept_mark HJx.out ht nD _⟩⟩
  case doneN =>
    intro D W5 O' hD hd nD s4 ht
    obtain ⟨c3, bY3, hYl', nY'⟩ := HX.out
    have c5 := c3.step s4
    have nY5 : ¬ O' W.heap.size := fun h => by
      rcases s4.own _ h with h | h
      · exact nY h
      · have := bY3.lt; omega
    have bY5 : Box W5 W.heap.size 89 #[.func (.yield L) #[] #[]] := (s4.turned.block _ bY3.lt nY).trans bY3
    have bT5 : Box W5 s 28 #[.pointer p] := (c5.mem s (.inr (.inl rfl))).trans HB.out.t
    have bK5 : Box W5 (s + 1) 27 #[.int .u64 (k.at_ : Int), .int .u64 (k.seq : Int)] := (c5.mem (s + 1) (.inr (.inr rfl))).trans HB.out.k
    have cT := bT5.cell 0
    have cA := bK5.cell 0
    have cS := bK5.cell 1
    have ht' : J (aboveL k l ++ []) O' W5 := by rw [List.append_nil]; exact ht
    have hDW : W.heap.size ≤ D := by omega
    have HZ := Lib.hid (And.intro c5 (And.intro bY5 (And.intro nY5 (And.intro hd (And.intro nD (And.intro hD ht'))))))
    clear r3 bx3 bl3 j3 hOl hMl hMf nY j2 HX c3 bY3 hYl' nY' c5 nY5 bY5 bT5 bK5 ht ht' s4 nD hd hD hs3 hYl hsz2
    gi_wp2_with (refine ⟨trivial, rfl, ?_⟩; gi_at_call 42; refine (mkU.out W5).mono ?_; rintro e W3 ⟨rfl, rfl⟩; clear cT cA cS mkU)
    obtain ⟨c5, bY5, nY5, hd, nD, hD, ht⟩ := HZ.out
    have bl6 : Below W5.heap.size W5 ((W5.alloc (.cells #[.pointer p] 28)).alloc (.cells #[.int .u64 (k.at_ : Int), .int .u64 (k.seq : Int)] 27)) := ((Below.refl _ W5).alloc (Nat.le_refl _) _).alloc (by simp) _
    have bx6 := boxes_new p k W5
    have hs6 : ((W5.alloc (.cells #[.pointer p] 28)).alloc (.cells #[.int .u64 (k.at_ : Int), .int .u64 (k.seq : Int)] 27)).heap.size = W5.heap.size + 2 := by simp
    revert bl6 bx6 hs6
    generalize ((W5.alloc (.cells #[.pointer p] 28)).alloc (.cells #[.int .u64 (k.at_ : Int), .int .u64 (k.seq : Int)] 27)) = W6
    intro bl6 bx6 hs6
    have c6 := c5.below bl6
    have r6 : Reads (.pointer p) l M W6 := HR.out.later (fun j hj => c6.mem j (.inl hj)) c6.size
    have bY6 := bY5.below bl6 bY5.lt
    have j6 := HJ.out.kept ht (Turned.below bl6)
    have hOl := HJ.out.lt ht
    have hYl : W.heap.size < W5.heap.size := bY5.lt
    have hDl : D < W5.heap.size := (Array.getElem?_eq_some_iff.1 hd).1
    have hd6 := (bl6.block D hDl).trans hd
    have hMl := c5.lt
    have hMz := c5.size
    have hMf := c5.off
    have HX := Lib.hid (And.intro c6 (And.intro bY6 (And.intro hYl (And.intro nY5 (And.intro hd6 (And.intro nD hD))))))
    clear c5 bY5 HZ c6 bY6 hd hd6
    refine wp_rangeS 5 (fun x => .cells #[.int .u64 (x.key.at_ : Int), .int .u64 (x.key.seq : Int), .int .i64 x.val] 52 (0, 0)) rfl (enters_of Try.func56 (by kernel_rfl) rfl) (until_seq r6 bx6 (fun h => by have := hMl _ (.inl h); omega)) ?_ (fun _ => rfl)
      (fun pre O1 W' => J (aboveL k l ++ pre) O1 W') (fun c pre O1 W' => c = .ret ∧ Jx (aboveL k l ++ pre) O1 W') (HJ.out.shift _) (fun c => (HJx.out.shift _).when _) (fun j => j = W.heap.size) O' ?_ ?_ ?_ ?_ j6 ?assignN ?bodyN ?done2 ?stop2
    · rintro j (h | rfl | rfl)
      · exact r6.lt j h
      · omega
      · omega
    · rintro j (h | rfl | rfl) ho
      · exact hMf j (.inl h) ho
      · have := hOl _ ho; omega
      · have := hOl _ ho; omega
    · rintro j (h | rfl | rfl) ho
      · have := hMl j (.inl h); omega
      · omega
      · omega
    · rintro j rfl
      omega
    · rintro j rfl
      exact nY5
    case assignN =>
      intro l' x W' K hK
      unfold encE enV
      gi_wp2
      simpa [inR, encE, enV] using hK _ ((Below.refl _ W').alloc (Nat.le_refl _) _) (World.alloc_heap_new W' _)
    case bodyN =>
      intro l' pre x W' O1 B ht hp hbx hbo hE
      have bY4 : Box W' W.heap.size 89 #[.func (.yield L) #[] #[]] := (hE _ rfl).trans HX.out.2.1
      have y0 := bY4.cell 0
      have hbx' : Box W' B 52 #[.int .u64 (x.key.at_ : Int), .int .u64 (x.key.seq : Int), .int .i64 x.val] := hbx
      have x0 := hbx'.cell 0
      have x1 := hbx'.cell 1
      have x2 := hbx'.cell 2
      obtain ⟨fn, tmps, assign, body, hy, hRd⟩ := HY.out (aboveL k l ++ pre) x W' O1 ht (by obtain ⟨r, hr⟩ := hp; exact ⟨r, by unfold roundL; rw [← hr]; simp⟩)
      unfold encE enV at hy
      have HRd := Lib.hid hRd
      clear hbx hbx' hE bY4 hRd ht hp r6 bx6 bl6 j6 hOl hMl hMf nY5 hMz hDl nD hD
      unfold inR encE enV
      gi_wp2
      refine ⟨rfl, RoundIn.mono HRd.out ?_⟩
      rintro e W5 ⟨O2, s5, (⟨rfl, h5⟩ | ⟨rfl, h5⟩)⟩
      · clear hy x0 x1 x2 y0
        gi_wp2
        exact ⟨O2, s5, by show J (aboveL k l ++ (pre ++ [x])) O2 W5; rw [← List.append_assoc]; exact h5⟩
      · clear hy x0 x1 x2 y0
        gi_wp2
        exact ⟨O2, s5, rfl, by show Jx (aboveL k l ++ (pre ++ [x])) O2 W5; rw [← List.append_assoc]; exact h5⟩
    case done2 =>
      intro D2 W' O2 hD2 hd2 nD2 s7 ht7
      obtain ⟨hx, _, _, _, hd6, _, _⟩ := HX.out
      have hd7 := (s7.turned.block D (by omega) nD).trans hd6
      have hd8 : (W'.putObj D2 (.deferred none)).heap[D]? = some (.deferred (some [])) := (World.putObj_heap_other (by omega)).trans hd7
      have nD3 : ¬ O2 D := fun h => by
        rcases s7.own D h with h | h
        · exact nD h
        · omega
      gi_wp2
      refine ⟨by simp, .inl ⟨_, _, rfl, run_takeDeferred hd2, by simp, .inl ⟨_, _, rfl, run_takeDeferred hd8, ?_⟩⟩⟩
      have hcz := hx.size
      exact ⟨_, results_none rfl _ _ _, ⟨_, rfl⟩, O2, (take_mark (take_mark (hx.step s7) (by omega) _) (by omega) _).stp, .inl (by unfold roundL; exact kept_mark HJ.out (kept_mark HJ.out ht7 nD2 _) nD3 _)⟩
    case stop2 =>
      rintro D2 W' O2 c pre hD2 hd2 nD2 s7 hp ⟨rfl, ht7⟩
      obtain ⟨hx, _, _, _, hd6, _, _⟩ := HX.out
      have hd7 := (s7.turned.block D (by omega) nD).trans hd6
      have hd8 : (W'.putObj D2 (.deferred none)).heap[D]? = some (.deferred (some [])) := (World.putObj_heap_other (by omega)).trans hd7
      have nD3 : ¬ O2 D := fun h => by
        rcases s7.own D h with h | h
        · exact nD h
        · omega
      gi_wp2
      refine ⟨by simp, .inl ⟨_, _, rfl, run_takeDeferred hd2, by simp, .inl ⟨_, _, rfl, run_takeDeferred hd8, ?_⟩⟩⟩
      have hcz := hx.size
      exact ⟨_, results_none rfl _ _ _, ⟨_, rfl⟩, O2, (take_mark (take_mark (hx.step s7) (by omega) _) (by omega) _).stp, .inr ⟨aboveL k l ++ pre, by obtain ⟨r, hr⟩ := hp; exact ⟨r, by unfold roundL; rw [← hr]; simp⟩, kept_mark HJx.out (kept_mark HJx.out ht7 nD2 _) nD3 _⟩⟩

end Go.Proofs.Ytfedjeojanpnpab
