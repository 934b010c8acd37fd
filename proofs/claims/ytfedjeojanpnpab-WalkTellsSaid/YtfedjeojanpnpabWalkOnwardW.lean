/-
  The program's own walk from a key on, as a function that is ranged over.
-/
import Derived.Test.YtfedjeojanpnpabWalkAbove
namespace Go.Proofs.Ytfedjeojanpnpab
open Go.RowKit Go.Shelf
set_option linter.unusedVariables false
attribute [local go_sem] Oper.semAt_some

theorem Of'.shift {α : Type} {J : List α → (Nat → Prop) → World → Prop} (h : Of' J) (q : List α) : Of' (fun pre O W => J (q ++ pre) O W) := ⟨fun k => h.lt k, fun k t => h.kept k t⟩
theorem Of'.when {α : Type} {J : List α → (Nat → Prop) → World → Prop} (h : Of' J) (p : Prop) : Of' (fun pre O W => p ∧ J pre O W) := ⟨fun k => h.lt k.2, fun k t => ⟨k.1, h.kept k.2 t⟩⟩
theorem outI_parts (o : Option Int) : ∃ (v : Int) (b : Bool), outI o = .tuple #[.int .i64 v, .bool b] ∧ o.getD 0 = v ∧ o.isSome = b := ⟨_, _, rfl, rfl, rfl⟩
/-- At a return, behind a loop whose block for deferred calls is D. -/
theorem take_mark {W0 W : World} {O M O' : Nat → Prop} {D : Nat} (c : Cx W0 O M W O') (hD : W0.heap.size ≤ D) (o : Obj) : Cx W0 O M (W.putObj D o) O' :=
  c.own hD (Turned.put (N := fun j => j = D) (Turned.refl _ W) rfl o)
theorem kept_mark {α : Type} {J : List α → (Nat → Prop) → World → Prop} (h : Of' J) {pre : List α} {O' : Nat → Prop} {W : World} {D : Nat} (j : J pre O' W) (hD : ¬ O' D) (o : Obj) : J pre O' (W.putObj D o) :=
  h.kept j (Turned.put (N := fun k => ¬ O' k) (Turned.refl _ W) hD o)

set_option maxRecDepth 100000 in
set_option maxHeartbeats 2000000 in
theorem onward_seq {p : Option Addr} {l : List En} {M : Nat → Prop} {w : World} {k : Ky} {s : Nat} (hR : Reads (.pointer p) l M w) (hB : Boxes s (.pointer p) k w) (hk : k.Fits) :
    SeqF Try.prog encE 54 (lbW s) (fromL k l) (And2 M s) w := by
  intro L J Jx W O hJ hJx hsz hm hoff hY h0
  have hlt : ∀ j, And2 M s j → j < w.heap.size := by
    rintro j (h | rfl | rfl)
    · exact hR.lt j h
    · exact hB.t.lt
    · exact hB.k.lt
  have c0 : Cx W O (And2 M s) W O := Cx.start (fun j hj => Nat.lt_of_lt_of_le (hlt j hj) hsz) hoff
  have rW : Reads (.pointer p) l M W := hR.later (fun j hj => hm j (.inl hj)) hsz
  have bW : Boxes s (.pointer p) k W := ⟨(hm s (.inr (.inl rfl))).trans hB.t, (hm (s + 1) (.inr (.inr rfl))).trans hB.k⟩
  have bl := (Below.refl W.heap.size W).alloc (Nat.le_refl _) (.cells #[.func (.yield L) #[] #[]] 89)
  have c1 := c0.below bl
  have j1 := hJ.kept h0 (Turned.below bl)
  have bY := Box.new W 89 #[.func (.yield L) #[] #[]]
  have bT1 : Box (W.alloc (.cells #[.func (.yield L) #[] #[]] 89)) s 28 #[.pointer p] := (c1.mem s (.inr (.inl rfl))).trans bW.t
  have bK1 : Box (W.alloc (.cells #[.func (.yield L) #[] #[]] 89)) (s + 1) 27 #[.int .u64 (k.at_ : Int), .int .u64 (k.seq : Int)] := (c1.mem (s + 1) (.inr (.inr rfl))).trans bW.k
  have N1 := rW.get (W.alloc (.cells #[.func (.yield L) #[] #[]] 89)) k hk (fun j hj => c1.mem j (.inl hj)) c1.size
  have HJ := Lib.hid hJ
  have HJx := Lib.hid hJx
  have HY := Lib.hid hY
  have HR := Lib.hid rW
  have HB := Lib.hid bW
  have HC := Lib.hid (And.intro c1 (And.intro bY j1))
  have HN : Hid (¬ O W.heap.size) := Lib.hid (fun h => by have := hJ.lt h0 _ h; omega)
  have cT := bT1.cell 0
  have cA := bK1.cell 0
  have cS := bK1.cell 1
  obtain ⟨v, b, ho, ho1, ho2⟩ := outI_parts (getL k l)
  rw [ho] at N1
  replace N1 := Lib.hid N1
  have HO := Lib.hid (And.intro ho1 ho2)
  clear hJ hJx hY hR hB h0 c0 rW bW hm hoff hsz hlt bl c1 j1 bY bT1 bK1 ho ho1 ho2
  obtain ⟨Y, HYY⟩ : ∃ Y, Hid (W.heap.size = Y) := ⟨_, Lib.hid rfl⟩
  unfold lbW
  refine callsIn_of_wp_marks Try.func54 rfl trivial ?_ rfl
  simp only [Try.ntmps54, List.size_toArray, List.length_cons, List.length_nil, Nat.reduceAdd, Nat.reduceSub, Array.replicate_succ, Array.replicate_zero, List.push_toArray, List.append_toArray, List.nil_append, List.cons_append]
  cases b with
  | false =>
    have HP : Hid (fromL k l = [] ++ aboveL k l) := Lib.hid (by
      have h2 := HO.out.2
      rw [from_eq HR.out.rises]
      cases hg : getL k l with
      | none => rfl
      | some z => rw [hg] at h2; cases h2)
    clear HO
    gi_wp2_with (first | (refine ⟨trivial, rfl, ?_⟩; gi_at_call 55; refine (callsIn_wide.2 N1.out).mono ?_; rintro e W2 ⟨rfl, b2⟩; clear cT cA cS N1; obtain ⟨c1, bY, j1⟩ := HC.out; have c2 := c1.below b2; have bT2 : Box W2 s 28 #[.pointer p] := (c2.mem s (.inr (.inl rfl))).trans HB.out.t; have bK2 : Box W2 (s + 1) 27 #[.int .u64 (k.at_ : Int), .int .u64 (k.seq : Int)] := (c2.mem (s + 1) (.inr (.inr rfl))).trans HB.out.k; have bY2 := bY.below b2 bY.lt; have j2 := HJ.out.kept j1 (Turned.below b2); have cT := bT2.cell 0; have cA := bK2.cell 0; have cS := bK2.cell 1; have HC2 := Lib.hid (And.intro c2 (And.intro bY2 (And.intro HN.out j2))); clear c1 bY j1 c2 bT2 bK2 bY2 j2 b2 HC))
    refine ⟨fun _ h => (by cases h), ?_⟩
    gi_wp2_with (refine ⟨trivial, rfl, ?_⟩; gi_at_call 53; refine (above_makes p k W2).mono ?_; rintro e W3 ⟨rfl, rfl⟩; clear cT cA cS)
    obtain ⟨c2, bY2, nY, j2⟩ := HC2.out
    have bl3 : Below W2.heap.size W2 ((W2.alloc (.cells #[.pointer p] 28)).alloc (.cells #[.int .u64 (k.at_ : Int), .int .u64 (k.seq : Int)] 27)) := ((Below.refl _ W2).alloc (Nat.le_refl _) _).alloc (by simp) _
    have bx3 := boxes_new p k W2
    have hs3 : ((W2.alloc (.cells #[.pointer p] 28)).alloc (.cells #[.int .u64 (k.at_ : Int), .int .u64 (k.seq : Int)] 27)).heap.size = W2.heap.size + 2 := by simp
    revert bl3 bx3 hs3
    generalize ((W2.alloc (.cells #[.pointer p] 28)).alloc (.cells #[.int .u64 (k.at_ : Int), .int .u64 (k.seq : Int)] 27)) = W4
    intro bl3 bx3 hs3
    have c3 := c2.below bl3
    have r3 : Reads (.pointer p) l M W4 := HR.out.later (fun j hj => c3.mem j (.inl hj)) c3.size
    have bY3 := bY2.below bl3 bY2.lt
    have j3 := HJ.out.kept j2 (Turned.below bl3)
    have hOl := HJ.out.lt j2
    have hYl : W.heap.size < W2.heap.size := bY2.lt
    have hMl := c2.lt
    have hMf := c2.off
    have HX := Lib.hid (And.intro c3 (And.intro bY3 hYl))
    clear c2 bY2 HC2 c3 bY3
    refine wp_rangeS 6 (fun x => .cells #[.int .u64 (x.key.at_ : Int), .int .u64 (x.key.seq : Int), .int .i64 x.val] 52 (0, 0)) rfl (enters_of Try.func60 (by kernel_rfl) rfl) (above_seq r3 bx3 hk) ?_ (fun _ => rfl)
      (fun pre O1 W' => J ([] ++ pre) O1 W') (fun c pre O1 W' => c = .ret ∧ Jx ([] ++ pre) O1 W') (HJ.out.shift _) (fun c => (HJx.out.shift _).when _) (fun j => j = W.heap.size) O ?_ ?_ ?_ ?_ (by rw [List.append_nil]; exact j3) ?assign ?body ?done ?stop
    · rintro j (h | rfl | rfl)
      · exact r3.lt j h
      · omega
      · omega
    · rintro j (h | rfl | rfl) ho
      · exact hMf j (.inl h) ho
      · have := hOl _ ho; omega
      · have := hOl _ ho; omega
    · rintro j (h | rfl | rfl) ho
      · have := hMl j (.inl h); omega
      · omega
      · omega
    · rintro j rfl
      omega
    · rintro j rfl
      exact nY
    case assign =>
      intro l' x W' K hK
      unfold encE enV
      gi_wp2
      simpa [inR, encE, enV] using hK _ ((Below.refl _ W').alloc (Nat.le_refl _) _) (World.alloc_heap_new W' _)
    case body =>
      intro l' pre x W' O1 B ht hp hbx hbo hE
      clear r3 bx3 bl3 j3 hOl hMl hMf nY j2
      have bY4 : Box W' W.heap.size 89 #[.func (.yield L) #[] #[]] := (hE _ rfl).trans HX.out.2.1
      have y0 := bY4.cell 0
      have hbx' : Box W' B 52 #[.int .u64 (x.key.at_ : Int), .int .u64 (x.key.seq : Int), .int .i64 x.val] := hbx
      have x0 := hbx'.cell 0
      have x1 := hbx'.cell 1
      have x2 := hbx'.cell 2
      obtain ⟨fn, tmps, assign, body, hy, hRd⟩ := HY.out ([] ++ pre) x W' O1 ht (by rw [HP.out]; obtain ⟨r, hr⟩ := hp; exact ⟨r, by rw [← hr]; simp⟩)
      unfold encE enV at hy
      have HRd := Lib.hid hRd
      clear hbx hbx' hE bY4 hRd ht hp
      unfold inR encE enV
      gi_wp2
      refine ⟨rfl, RoundIn.mono HRd.out ?_⟩
      rintro e W5 ⟨O2, s5, (⟨rfl, h5⟩ | ⟨rfl, h5⟩)⟩
      · clear hy x0 x1 x2 y0
        gi_wp2
        exact ⟨O2, s5, by show J ([] ++ (pre ++ [x])) O2 W5; rw [← List.append_assoc]; exact h5⟩
      · clear hy x0 x1 x2 y0
        gi_wp2
        exact ⟨O2, s5, rfl, by show Jx ([] ++ (pre ++ [x])) O2 W5; rw [← List.append_assoc]; exact h5⟩
    case done =>
      intro D W' O' hD hd nD s4 ht
      gi_wp2
      refine ⟨by simp, .inl ⟨_, _, rfl, run_takeDeferred hd, ?_⟩⟩
      have hx := HX.out
      exact ⟨_, results_none rfl _ _ _, ⟨_, rfl⟩, O', (take_mark (hx.1.step s4) (by omega) _).stp, .inl (by rw [HP.out]; exact kept_mark HJ.out ht nD _)⟩
    case stop =>
      rintro D W' O' c pre hD hd nD s4 hp ⟨rfl, ht⟩
      gi_wp2
      refine ⟨by simp, .inl ⟨_, _, rfl, run_takeDeferred hd, ?_⟩⟩
      have hx := HX.out
      exact ⟨_, results_none rfl _ _ _, ⟨_, rfl⟩, O', (take_mark (hx.1.step s4) (by omega) _).stp, .inr ⟨[] ++ pre, by rw [HP.out]; obtain ⟨r, hr⟩ := hp; exact ⟨r, by rw [← hr]; simp⟩, kept_mark HJx.out ht nD _⟩⟩
  | true =>
    have HP : Hid (fromL k l = [⟨k, v⟩] ++ aboveL k l) := Lib.hid (by
      obtain ⟨h1, h2⟩ := HO.out
      rw [from_eq HR.out.rises]
      cases hg : getL k l with
      | none => rw [hg] at h2; cases h2
      | some z => rw [hg] at h1; rw [← h1]; rfl)
    clear HO
    gi_wp2_with (first | (refine ⟨trivial, rfl, ?_⟩; gi_at_call 55; refine (callsIn_wide.2 N1.out).mono ?_; rintro e W2 ⟨rfl, b2⟩; clear cT cA cS N1; obtain ⟨c1, bY, j1⟩ := HC.out; have c2 := c1.below b2; have bT2 : Box W2 s 28 #[.pointer p] := (c2.mem s (.inr (.inl rfl))).trans HB.out.t; have bK2 : Box W2 (s + 1) 27 #[.int .u64 (k.at_ : Int), .int .u64 (k.seq : Int)] := (c2.mem (s + 1) (.inr (.inr rfl))).trans HB.out.k; have bY2 := bY.below b2 bY.lt; have j2 := HJ.out.kept j1 (Turned.below b2); have cT := bT2.cell 0; have cA := bK2.cell 0; have cS := bK2.cell 1; have HC2 := Lib.hid (And.intro c2 (And.intro bY2 (And.intro HN.out j2))); have y0 := bY2.cell 0; obtain ⟨fn, tmps, assign, body, hy, hRd⟩ := HY.out [] ⟨k, v⟩ W2 O j2 (by rw [HP.out]; exact ⟨aboveL k l, rfl⟩); unfold encE enV at hy; have HRd := Lib.hid hRd; clear hRd; clear c1 bY j1 c2 bT2 bK2 bY2 j2 b2 HC))
    refine ⟨rfl, HRd.out.mono ?_⟩
    rintro e W2' ⟨O2, s5, (⟨rfl, h5⟩ | ⟨rfl, h5⟩)⟩
    · obtain ⟨c2, bY2, nY, j2⟩ := HC2.out
      have c2' := c2.step s5
      have bY2' : Box W2' W.heap.size 89 #[.func (.yield L) #[] #[]] := (s5.turned.block _ bY2.lt nY).trans bY2
      have nY' : ¬ O2 W.heap.size := fun h => by
        rcases s5.own _ h with h | h
        · exact nY h
        · have := bY2.lt; omega
      have bT2 : Box W2' s 28 #[.pointer p] := (c2'.mem s (.inr (.inl rfl))).trans HB.out.t
      have bK2 : Box W2' (s + 1) 27 #[.int .u64 (k.at_ : Int), .int .u64 (k.seq : Int)] := (c2'.mem (s + 1) (.inr (.inr rfl))).trans HB.out.k
      clear cT cA cS y0 hy HRd
      have cT := bT2.cell 0
      have cA := bK2.cell 0
      have cS := bK2.cell 1
      have h5' : J [⟨k, v⟩] O2 W2' := h5
      have HC2' := Lib.hid (And.intro c2' (And.intro bY2' (And.intro nY' h5')))
      clear c2 bY2 nY j2 HC2 c2' bY2' nY' bT2 bK2 h5 h5' s5
      gi_wp2_with (refine ⟨trivial, rfl, ?_⟩; gi_at_call 53; refine (above_makes p k W2').mono ?_; rintro e W3 ⟨rfl, rfl⟩; clear cT cA cS)
      obtain ⟨c2, bY2, nY, j2⟩ := HC2'.out
      have bl3 : Below W2'.heap.size W2' ((W2'.alloc (.cells #[.pointer p] 28)).alloc (.cells #[.int .u64 (k.at_ : Int), .int .u64 (k.seq : Int)] 27)) := ((Below.refl _ W2').alloc (Nat.le_refl _) _).alloc (by simp) _
      have bx3 := boxes_new p k W2'
      have hs3 : ((W2'.alloc (.cells #[.pointer p] 28)).alloc (.cells #[.int .u64 (k.at_ : Int), .int .u64 (k.seq : Int)] 27)).heap.size = W2'.heap.size + 2 := by simp
      revert bl3 bx3 hs3
      generalize ((W2'.alloc (.cells #[.pointer p] 28)).alloc (.cells #[.int .u64 (k.at_ : Int), .int .u64 (k.seq : Int)] 27)) = W4
      intro bl3 bx3 hs3
      have c3 := c2.below bl3
      have r3 : Reads (.pointer p) l M W4 := HR.out.later (fun j hj => c3.mem j (.inl hj)) c3.size
      have bY3 := bY2.below bl3 bY2.lt
      have j3 := HJ.out.kept j2 (Turned.below bl3)
      have hOl := HJ.out.lt j2
      have hYl : W.heap.size < W2'.heap.size := bY2.lt
      have hMl := c2.lt
      have hMf := c2.off
      have HX := Lib.hid (And.intro c3 (And.intro bY3 hYl))
      clear c2 bY2 HC2' c3 bY3
      refine wp_rangeS 6 (fun x => .cells #[.int .u64 (x.key.at_ : Int), .int .u64 (x.key.seq : Int), .int .i64 x.val] 52 (0, 0)) rfl (enters_of Try.func60 (by kernel_rfl) rfl) (above_seq r3 bx3 hk) ?_ (fun _ => rfl)
        (fun pre O1 W' => J ([⟨k, v⟩] ++ pre) O1 W') (fun c pre O1 W' => c = .ret ∧ Jx ([⟨k, v⟩] ++ pre) O1 W') (HJ.out.shift _) (fun c => (HJx.out.shift _).when _) (fun j => j = W.heap.size) O2 ?_ ?_ ?_ ?_ (by rw [List.append_nil]; exact j3) ?assign ?body ?done ?stop
      · rintro j (h | rfl | rfl)
        · exact r3.lt j h
        · omega
        · omega
      · rintro j (h | rfl | rfl) ho
        · exact hMf j (.inl h) ho
        · have := hOl _ ho; omega
        · have := hOl _ ho; omega
      · rintro j (h | rfl | rfl) ho
        · have := hMl j (.inl h); omega
        · omega
        · omega
      · rintro j rfl
        omega
      · rintro j rfl
        exact nY
      case assign =>
        intro l' x W' K hK
        unfold encE enV
        gi_wp2
        simpa [inR, encE, enV] using hK _ ((Below.refl _ W').alloc (Nat.le_refl _) _) (World.alloc_heap_new W' _)
      case body =>
        intro l' pre x W' O1 B ht hp hbx hbo hE
        clear r3 bx3 bl3 j3 hOl hMl hMf nY j2
        have bY4 : Box W' W.heap.size 89 #[.func (.yield L) #[] #[]] := (hE _ rfl).trans HX.out.2.1
        have y0 := bY4.cell 0
        have hbx' : Box W' B 52 #[.int .u64 (x.key.at_ : Int), .int .u64 (x.key.seq : Int), .int .i64 x.val] := hbx
        have x0 := hbx'.cell 0
        have x1 := hbx'.cell 1
        have x2 := hbx'.cell 2
        obtain ⟨fn, tmps, assign, body, hy, hRd⟩ := HY.out ([⟨k, v⟩] ++ pre) x W' O1 ht (by rw [HP.out]; obtain ⟨r, hr⟩ := hp; exact ⟨r, by rw [← hr]; simp⟩)
        unfold encE enV at hy
        have HRd := Lib.hid hRd
        clear hbx hbx' hE bY4 hRd ht hp
        unfold inR encE enV
        gi_wp2
        refine ⟨rfl, RoundIn.mono HRd.out ?_⟩
        rintro e W5 ⟨O2, s5, (⟨rfl, h5⟩ | ⟨rfl, h5⟩)⟩
        · clear hy x0 x1 x2 y0
          gi_wp2
          exact ⟨O2, s5, by show J ([⟨k, v⟩] ++ (pre ++ [x])) O2 W5; rw [← List.append_assoc]; exact h5⟩
        · clear hy x0 x1 x2 y0
          gi_wp2
          exact ⟨O2, s5, rfl, by show Jx ([⟨k, v⟩] ++ (pre ++ [x])) O2 W5; rw [← List.append_assoc]; exact h5⟩
      case done =>
        intro D W' O' hD hd nD s4 ht
        gi_wp2
        refine ⟨by simp, .inl ⟨_, _, rfl, run_takeDeferred hd, ?_⟩⟩
        have hx := HX.out
        exact ⟨_, results_none rfl _ _ _, ⟨_, rfl⟩, O', (take_mark (hx.1.step s4) (by omega) _).stp, .inl (by rw [HP.out]; exact kept_mark HJ.out ht nD _)⟩
      case stop =>
        rintro D W' O' c pre hD hd nD s4 hp ⟨rfl, ht⟩
        gi_wp2
        refine ⟨by simp, .inl ⟨_, _, rfl, run_takeDeferred hd, ?_⟩⟩
        have hx := HX.out
        exact ⟨_, results_none rfl _ _ _, ⟨_, rfl⟩, O', (take_mark (hx.1.step s4) (by omega) _).stp, .inr ⟨[⟨k, v⟩] ++ pre, by rw [HP.out]; obtain ⟨r, hr⟩ := hp; exact ⟨r, by rw [← hr]; simp⟩, kept_mark HJx.out ht nD _⟩⟩
    · clear cT cA cS y0 hy HRd
      gi_wp2
      obtain ⟨c2, bY2, nY, j2⟩ := HC2.out
      exact ⟨_, results_none rfl _ _ _, ⟨_, rfl⟩, O2, (c2.step s5).stp, .inr ⟨[⟨k, v⟩], by rw [HP.out]; exact ⟨aboveL k l, rfl⟩, h5⟩⟩

end Go.Proofs.Ytfedjeojanpnpab
