/-
  The program's own walk above a key, as a function that is ranged over.
-/
import Derived.Test.YtfedjeojanpnpabWalkSeq
namespace Go.Proofs.Ytfedjeojanpnpab
open Go.RowKit Go.Shelf
set_option linter.unusedVariables false
attribute [local go_sem] Oper.semAt_some

theorem outE_parts (o : Option En) : ∃ (a q : Nat) (v : Int) (b : Bool), outE o = .tuple #[.agg #[.int .u64 (a : Int), .int .u64 (q : Int), .int .i64 v], .bool b] ∧ o.getD noEn = ⟨⟨a, q⟩, v⟩ ∧ o.isSome = b :=
  ⟨_, _, _, _, rfl, rfl, rfl⟩

/-- Where the walk above k stands ahead of a round: n are to come. -/
def AboveAt (l : List En) (k : Ky) (s : Nat) (M : Nat → Prop) (W : World) (O : Nat → Prop) (J : List En → (Nat → Prop) → World → Prop) (n : Nat) (v4 v5 : Value) (wr : World) : Prop :=
  ∃ (pre : List En) (O1 : Nat → Prop) (k' : Ky) (a q : Nat) (v : Int) (b : Bool) (B : Nat), v4 = .pointer (some ⟨B, 0, none⟩) ∧ v5 = .bool b ∧ (nextL k' l).isSome = b ∧ (nextL k' l).getD noEn = ⟨⟨a, q⟩, v⟩ ∧ aboveL k l = pre ++ aboveL k' l ∧ n = (aboveL k' l).length ∧
    Box wr B 52 #[.int .u64 (a : Int), .int .u64 (q : Int), .int .i64 v] ∧ W.heap.size ≤ B ∧ ¬ O1 B ∧ Cx W O (And2 M s) wr O1 ∧ J pre O1 wr

theorem aboveAt_new {l : List En} {k : Ky} {s : Nat} {M : Nat → Prop} {W : World} {O : Nat → Prop} {J : List En → (Nat → Prop) → World → Prop} {pre : List En} {O1 : Nat → Prop} {k' : Ky} {a q : Nat} {v : Int} {b : Bool} {wr : World} (hJ : Of' J)
    (h1 : (nextL k' l).isSome = b) (h2 : (nextL k' l).getD noEn = ⟨⟨a, q⟩, v⟩) (ha : aboveL k l = pre ++ aboveL k' l) (c : Cx W O (And2 M s) wr O1) (j : J pre O1 wr) :
    AboveAt l k s M W O J (aboveL k' l).length (.pointer (some ⟨wr.heap.size, 0, none⟩)) (.bool b) (wr.alloc (.cells #[.int .u64 (a : Int), .int .u64 (q : Int), .int .i64 v] 52)) :=
  have bl := (Below.refl wr.heap.size wr).alloc (Nat.le_refl _) (.cells #[.int .u64 (a : Int), .int .u64 (q : Int), .int .i64 v] 52)
  ⟨pre, O1, k', a, q, v, b, wr.heap.size, rfl, rfl, h1, h2, ha, rfl, Box.new _ _ _, c.size, fun h => by have := hJ.lt j _ h; omega, c.below bl, hJ.kept j (Turned.below bl)⟩

set_option maxRecDepth 100000 in
set_option maxHeartbeats 2000000 in
theorem above_seq {tv : Value} {l : List En} {M : Nat → Prop} {w : World} {k : Ky} {s : Nat} (hR : Reads tv l M w) (hB : Boxes s tv k w) (hk : k.Fits) :
    SeqF Try.prog encE 60 (lbW s) (aboveL k l) (And2 M s) w := by
  intro L J Jx W O hJ hJx hsz hm hoff hY h0
  have hlt : ∀ j, And2 M s j → j < w.heap.size := by
    rintro j (h | rfl | rfl)
    · exact hR.lt j h
    · exact hB.t.lt
    · exact hB.k.lt
  have c0 : Cx W O (And2 M s) W O := Cx.start (fun j hj => Nat.lt_of_lt_of_le (hlt j hj) hsz) hoff
  have rW : Reads tv l M W := hR.later (fun j hj => hm j (.inl hj)) hsz
  have bW : Boxes s tv k W := ⟨(hm s (.inr (.inl rfl))).trans hB.t, (hm (s + 1) (.inr (.inr rfl))).trans hB.k⟩
  have HJ := Lib.hid hJ
  have HJx := Lib.hid hJx
  have HY := Lib.hid hY
  have HR := Lib.hid rW
  have HC := Lib.hid c0
  have H0 := Lib.hid h0
  have HB := Lib.hid bW
  have cT : W.cell? ⟨s, 0, none⟩ = some tv := bW.t.cell 0
  have cA : W.cell? ⟨s + 1, 0, none⟩ = some (.int .u64 (k.at_ : Int)) := bW.k.cell 0
  have cS : W.cell? ⟨s + 1, 1, none⟩ = some (.int .u64 (k.seq : Int)) := bW.k.cell 1
  have N1 := rW.next W k hk (fun _ _ => rfl) (Nat.le_refl _)
  obtain ⟨a0, q0, v0, t0, ho, ho1, ho2⟩ := outE_parts (nextL k l)
  rw [ho] at N1
  replace N1 := Lib.hid N1
  have HO := Lib.hid (And.intro ho1 ho2)
  clear ho ho1 ho2
  clear hJ hJx hY hR hB h0 c0 rW bW hm hoff hsz hlt
  unfold lbW
  refine callsIn_of_wp Try.func60 rfl trivial ?_ rfl
  simp only [Try.ntmps60, List.size_toArray, List.length_cons, List.length_nil, Nat.reduceAdd, Nat.reduceSub, Array.replicate_succ, Array.replicate_zero, List.push_toArray, List.append_toArray, List.nil_append, List.cons_append]
  gi_wp2_with (refine ⟨trivial, rfl, ?_⟩; gi_at_call 35; refine (callsIn_wide.2 N1.out).mono ?_; rintro e W1 ⟨rfl, b1⟩; clear cT cA cS N1)
  gi_loopw [4, 5] (fun v4 v5 wr => ∃ n, AboveAt l k s M W O J n v4 v5 wr) (fun v4 v5 wr => leastOf (fun n => AboveAt l k s M W O J n v4 v5 wr))
  case atStart => exact ⟨_, aboveAt_new HJ.out HO.out.2 HO.out.1 rfl (HC.out.below b1) (HJ.out.kept H0.out (Turned.below b1))⟩
  case round =>
    have hls := (leastOf_spec hrel).1
    clear hrel H0 HC
    obtain ⟨q, HQ⟩ : ∃ q, Hid (leastOf (fun n => AboveAt l k s M W O J n u4 u5 wr) = q) := ⟨_, Lib.hid rfl⟩
    rw [HQ.out] at hls
    obtain ⟨pre, O1, k', a, z, v, b, B, rfl, rfl, hb, hv, ha, hn, hbx, hbs, hbo, hc, hj⟩ := hls
    cases ho : nextL k' l with
    | none =>
      rw [ho] at hb
      have hb' : b = false := hb.symm
      subst hb'
      have e1 := above_nil ho
      rw [e1, List.append_nil] at ha
      have HE := Lib.hid (And.intro hc.stp hj)
      clear ho hn hbx hbs hbo hc hj e1 hb hv
      gi_wp2
      refine ⟨fun _ h => (by cases h), ?_⟩
      gi_wp2
      go_end0
      exact ⟨⟨_, rfl⟩, O1, HE.out.1, .inl (by rw [ha]; exact HE.out.2)⟩
    | some e =>
      have e1 := above_cons HR.out.rises ho
      have hf := fits_of_next ho HR.out.fits
      rw [ho] at hb hv
      have hb' : b = true := hb.symm
      have hv' : e = ⟨⟨a, z⟩, v⟩ := hv
      subst hb' hv'
      obtain ⟨fn, tmps, assign, body, hy, hRd⟩ := HY.out pre ⟨⟨a, z⟩, v⟩ wr O1 hj (by rw [ha, e1]; exact ⟨aboveL ⟨a, z⟩ l, by simp⟩)
      unfold encE enV at hy
      have HRd := Lib.hid hRd
      have x0 := hbx.cell 0
      have x1 := hbx.cell 1
      have x2 := hbx.cell 2
      have HC := Lib.hid (And.intro hc (And.intro hbx (And.intro hbs (And.intro hbo hj))))
      have HF := Lib.hid (And.intro hf (And.intro e1 (And.intro ha hn)))
      clear hRd hc hbx hbs hbo hj hf e1 ha hn ho hb hv
      gi_wp2
      refine ⟨rfl, HRd.out.mono ?_⟩
      rintro e W3 ⟨O2, s3, (⟨rfl, hj3⟩ | ⟨rfl, hj3⟩)⟩
      · clear hy x0 x1 x2 HRd
        obtain ⟨hc, hbx, hbs, hbo, hj⟩ := HC.out
        have hc3 := hc.step s3
        have hbx3 : Box W3 B 52 #[.int .u64 (a : Int), .int .u64 (z : Int), .int .i64 v] := (s3.turned.block B hbx.lt hbo).trans hbx
        have hbo3 : ¬ O2 B := fun h => by
          rcases s3.own B h with h | h
          · exact hbo h
          · have := hbx.lt; omega
        have cT : W3.cell? ⟨s, 0, none⟩ = some tv := by
          have b3 : Box W3 s 28 #[tv] := (hc3.mem s (.inr (.inl rfl))).trans HB.out.t
          exact b3.cell 0
        have N3 := HR.out.next W3 ⟨a, z⟩ HF.out.1.1 (fun j hj => hc3.mem j (.inl hj)) hc3.size
        obtain ⟨a0', q0', v0', t0', ho, ho1, ho2⟩ := outE_parts (nextL ⟨a, z⟩ l)
        rw [ho] at N3
        replace N3 := Lib.hid N3
        have HO := Lib.hid (And.intro ho1 ho2)
        have x0 := hbx3.cell 0
        have x1 := hbx3.cell 1
        have x2 := hbx3.cell 2
        have HX := Lib.hid (And.intro hc3 (And.intro hbx3 (And.intro hbs (And.intro hbo3 hj3))))
        clear hc hbx hbs hbo hj hc3 hbx3 hbo3 ho ho1 ho2 HC hj3
        gi_wp2_with (refine ⟨trivial, rfl, ?_⟩; gi_at_call 35; refine (callsIn_wide.2 N3.out).mono ?_; rintro e W4 ⟨rfl, b4⟩; have bx4 := HX.out.2.1.below b4 HX.out.2.1.lt; have x0' := bx4.cell 0; have x1' := bx4.cell 1; have x2' := bx4.cell 2; have f0' := bx4.frozen 0; have f1' := bx4.frozen 1; have f2' := bx4.frozen 2; clear cT x0 x1 x2 N3)
        obtain ⟨hc3, hbx3, hbs, hbo3, hj3⟩ := HX.out
        obtain ⟨_, e1, ha, hn⟩ := HF.out
        have tb : Turned (fun j => j = B) W4 (((W4.setCell ⟨B, 0, none⟩ (.int .u64 (a0' : Int))).setCell ⟨B, 1, none⟩ (.int .u64 (q0' : Int))).setCell ⟨B, 2, none⟩ (.int .i64 v0')) := Turned.set (N := fun j => j = B) (b := B) (Turned.set (N := fun j => j = B) (b := B) (Turned.set (N := fun j => j = B) (b := B) (Turned.refl _ W4) rfl _) rfl _) rfl _
        have hsz : (((W4.setCell ⟨B, 0, none⟩ (.int .u64 (a0' : Int))).setCell ⟨B, 1, none⟩ (.int .u64 (q0' : Int))).setCell ⟨B, 2, none⟩ (.int .i64 v0')).heap.size = W4.heap.size := by simp
        have new := aboveAt_new (k := k) (a := a0') (q := q0') (v := v0') HJ.out HO.out.2 HO.out.1 (by rw [ha, e1, List.append_assoc]; rfl) ((hc3.below b4).own hbs tb) (HJ.out.kept (HJ.out.kept hj3 (Turned.below b4)) (tb.weak fun j h => h ▸ hbo3))
        rw [hsz] at new
        exact ⟨⟨_, new⟩, Nat.lt_of_le_of_lt ((leastOf_spec ⟨_, new⟩).2 _ new) (by rw [HQ.out, hn, e1]; simp)⟩
      · clear hy x0 x1 x2 HRd
        gi_wp2
        go_end0
        obtain ⟨hc, hbx, hbs, hbo, hj⟩ := HC.out
        obtain ⟨_, e1, ha, _⟩ := HF.out
        exact ⟨⟨_, rfl⟩, O2, (hc.step s3).stp, .inr ⟨_, by rw [ha, e1]; exact ⟨aboveL ⟨a, z⟩ l, by simp⟩, hj3⟩⟩

end Go.Proofs.Ytfedjeojanpnpab

/- The program's own walks from a key on, up to one, and once round, as functions that are ranged over. -/
namespace Go.Proofs.Ytfedjeojanpnpab
open Go.RowKit Go.Shelf
set_option linter.unusedVariables false
attribute [local go_sem] Oper.semAt_some

theorem Cx.more {W wr : World} {O M M' O1 : Nat → Prop} (h : Cx W O M wr O1) (hm : ∀ j, M' j → M j) : Cx W O M' wr O1 := ⟨h.stp, fun j hj => h.off j (hm j hj), fun j hj => h.lt j (hm j hj), fun j hj => h.mem j (hm j hj)⟩

/-- above(t, k): the boxes are laid; the function that walks. -/
theorem above_makes (p : Option Addr) (k : Ky) (w : World) :
    CallsIn Fence.wide 0 Try.prog 53 #[.pointer p, kyV k] w fun e w' => e = .returned (.func (.func 60) #[] (lbW w.heap.size)) ∧ w' = (w.alloc (.cells #[.pointer p] 28)).alloc (.cells #[.int .u64 (k.at_ : Int), .int .u64 (k.seq : Int)] 27) := by
  unfold kyV
  refine callsIn_of_wp Try.func53 rfl trivial ?_ rfl
  simp only [Try.ntmps53, List.size_toArray, List.length_cons, List.length_nil, Nat.reduceAdd, Nat.reduceSub, Array.replicate_succ, Array.replicate_zero, List.push_toArray, List.append_toArray, List.nil_append, List.cons_append]
  gi_wp2
  go_ret
  exact ⟨rfl, rfl⟩
theorem onward_makes (p : Option Addr) (k : Ky) (w : World) :
    CallsIn Fence.wide 0 Try.prog 41 #[.pointer p, kyV k] w fun e w' => e = .returned (.func (.func 54) #[] (lbW w.heap.size)) ∧ w' = (w.alloc (.cells #[.pointer p] 28)).alloc (.cells #[.int .u64 (k.at_ : Int), .int .u64 (k.seq : Int)] 27) := by
  unfold kyV
  refine callsIn_of_wp Try.func41 rfl trivial ?_ rfl
  simp only [Try.ntmps41, List.size_toArray, List.length_cons, List.length_nil, Nat.reduceAdd, Nat.reduceSub, Array.replicate_succ, Array.replicate_zero, List.push_toArray, List.append_toArray, List.nil_append, List.cons_append]
  gi_wp2
  go_ret
  exact ⟨rfl, rfl⟩
theorem until_makes (p : Option Addr) (k : Ky) (w : World) :
    CallsIn Fence.wide 0 Try.prog 42 #[.pointer p, kyV k] w fun e w' => e = .returned (.func (.func 56) #[] (lbW w.heap.size)) ∧ w' = (w.alloc (.cells #[.pointer p] 28)).alloc (.cells #[.int .u64 (k.at_ : Int), .int .u64 (k.seq : Int)] 27) := by
  unfold kyV
  refine callsIn_of_wp Try.func42 rfl trivial ?_ rfl
  simp only [Try.ntmps42, List.size_toArray, List.length_cons, List.length_nil, Nat.reduceAdd, Nat.reduceSub, Array.replicate_succ, Array.replicate_zero, List.push_toArray, List.append_toArray, List.nil_append, List.cons_append]
  gi_wp2
  go_ret
  exact ⟨rfl, rfl⟩
theorem round_makes (p : Option Addr) (k : Ky) (w : World) :
    CallsIn Fence.wide 0 Try.prog 38 #[.pointer p, kyV k] w fun e w' => e = .returned (.func (.func 52) #[] (lbW w.heap.size)) ∧ w' = (w.alloc (.cells #[.pointer p] 28)).alloc (.cells #[.int .u64 (k.at_ : Int), .int .u64 (k.seq : Int)] 27) := by
  unfold kyV
  refine callsIn_of_wp Try.func38 rfl trivial ?_ rfl
  simp only [Try.ntmps38, List.size_toArray, List.length_cons, List.length_nil, Nat.reduceAdd, Nat.reduceSub, Array.replicate_succ, Array.replicate_zero, List.push_toArray, List.append_toArray, List.nil_append, List.cons_append]
  gi_wp2
  go_ret
  exact ⟨rfl, rfl⟩
/-- The two boxes, just laid. -/
theorem boxes_new (p : Option Addr) (k : Ky) (w : World) : Boxes w.heap.size (.pointer p) k ((w.alloc (.cells #[.pointer p] 28)).alloc (.cells #[.int .u64 (k.at_ : Int), .int .u64 (k.seq : Int)] 27)) := by
  refine ⟨(Below.heap_alloc _ _ _ (by simp)).trans (World.alloc_heap_new w _), ?_⟩
  have h := World.alloc_heap_new (w.alloc (.cells #[.pointer p] 28)) (.cells #[.int .u64 (k.at_ : Int), .int .u64 (k.seq : Int)] 27)
  rwa [World.size_alloc] at h

end Go.Proofs.Ytfedjeojanpnpab
