/-
  The document's own chains: New.
-/
import Derived.Test.YthdgpnkkeeebkaaChainRefW
namespace Go.Proofs.Ythdgpnkkeeebkaa
open Go.RowKit
set_option linter.unusedVariables false

/-- What New holds in memory: what it answers, and what it builds. -/
structure NewAt (w wx : World) (n : Value) (B : Nat) (p : Option Addr) (j c : Nat) (xs : List Value) : Prop where
  b4 : Box wx B 29 #[.int .i64 0, .slice none 0 0]
  b6 : Box wx (B + 1) 29 #[n, .slice p j c]
  row : wx.ownsRow w.heap.size 43 1 (.slice p j c) j xs
  each : ∀ v, v ∈ xs → (∃ q, v = .slice q 0 0) ∧ wx.ownsRow w.heap.size 3 1 v 0 []
  lo : Below w.heap.size w wx
  hB : w.heap.size ≤ B
section
variable {w wx w5 : World} {n u : Value} {B j c c5 : Nat} {p p5 : Option Addr} {xs : List Value}
theorem NewAt.below (h : NewAt w wx n B p j c xs) {w' : World} (b : Below wx.heap.size wx w') : NewAt w w' n B p j c xs :=
  ⟨h.b4.below b h.b4.lt, h.b6.below b h.b6.lt, owns_below h.row b, fun v hv => ⟨(h.each v hv).1, owns_below (h.each v hv).2 b⟩, below_tr h.lo b, h.hB⟩
theorem NewAt.grew (h : NewAt w wx n B p j c xs) (hu : (∃ q, u = .slice q 0 0) ∧ wx.ownsRow w.heap.size 3 1 u 0 []) (g : wx.grownBy w5 (Value.slice p j c).ownBlock) (o : w5.ownsRow w.heap.size 43 1 (.slice p5 (j + 1) c5) (j + 1) (xs ++ [u])) :
    NewAt w (w5.setCell ⟨B + 1, 1, none⟩ (.slice p5 (j + 1) c5)) n B p5 (j + 1) c5 (xs ++ [u]) := by
  have x4 := h.b4.grown g (fun e => h.b4.not_row h.row (by decide) e.symm)
  have x6 := h.b6.grown g (fun e => h.b6.not_row h.row (by decide) e.symm)
  have hB := h.hB
  have kp : ∀ v, wx.ownsRow w.heap.size 3 1 v 0 [] → (w5.setCell ⟨B + 1, 1, none⟩ (.slice p5 (j + 1) c5)).ownsRow w.heap.size 3 1 v 0 [] := fun v hv => x6.row (hv.kept g (own_ne2 hv h.row (by decide))) (by decide)
  refine ⟨x4.other (by omega) _, x6.set 1 _, x6.row o (by decide), fun v hv => ?_, (below_grown h.lo h.row (Nat.le_refl _) g).setCell (p := ⟨B + 1, 1, none⟩) (by show w.heap.size ≤ B + 1; omega) _, h.hB⟩
  rcases List.mem_append.1 hv with hv | hv
  · exact ⟨(h.each v hv).1, kp v (h.each v hv).2⟩
  · rw [List.mem_singleton.1 hv]
    exact ⟨hu.1, kp u hu.2⟩
theorem NewAt.put (h : NewAt w wx n B p j c xs) (g : wx.grownBy w5 (Value.slice p j c).ownBlock) : w5.cell? ⟨B + 1, 1, none⟩ = some (.slice p j c) ∧ w5.frozen? ⟨B + 1, 1, none⟩ = false :=
  have x6 := h.b6.grown g (fun e => h.b6.not_row h.row (by decide) e.symm)
  ⟨x6.cell 1, x6.frozen 1⟩
theorem NewAt.cells (h : NewAt w wx n B p j c xs) : wx.cell? ⟨B + 1, 0, none⟩ = some n ∧ wx.cell? ⟨B + 1, 1, none⟩ = some (.slice p j c) ∧ wx.frozen? ⟨B, 0, none⟩ = false ∧ wx.frozen? ⟨B, 1, none⟩ = false ∧ wx.cell? ⟨B, 0, none⟩ = some (.int .i64 0) ∧ wx.cell? ⟨B, 1, none⟩ = some (.slice none 0 0) :=
  ⟨h.b6.cell 0, h.b6.cell 1, h.b4.frozen 0, h.b4.frozen 1, h.b4.cell 0, h.b4.cell 1⟩
theorem NewAt.done (h : NewAt w wx n B p j c xs) (u0 u1 : Value) : Box ((wx.setCell ⟨B, 0, none⟩ u0).setCell ⟨B, 1, none⟩ u1) B 29 #[u0, u1] ∧ ((wx.setCell ⟨B, 0, none⟩ u0).setCell ⟨B, 1, none⟩ u1).ownsRow w.heap.size 43 1 (.slice p j c) j xs ∧ (∀ v, v ∈ xs → (∃ q, v = .slice q 0 0) ∧ ((wx.setCell ⟨B, 0, none⟩ u0).setCell ⟨B, 1, none⟩ u1).ownsRow w.heap.size 3 1 v 0 []) ∧ Below w.heap.size w ((wx.setCell ⟨B, 0, none⟩ u0).setCell ⟨B, 1, none⟩ u1) := by
  have x := h.b4.set 0 u0
  exact ⟨x.set 1 u1, x.row (h.b4.row h.row (by decide)) (by decide), fun v hv => ⟨(h.each v hv).1, x.row (h.b4.row (h.each v hv).2 (by decide)) (by decide)⟩, (h.lo.setCell (p := ⟨B, 0, none⟩) h.hB _).setCell (p := ⟨B, 1, none⟩) h.hB _⟩
end
theorem new_start (w : World) (n : Value) (B : Nat) (hB : w.heap.size = B) : NewAt w ((w.alloc (.cells #[.int .i64 0, .slice none 0 0] 29)).alloc (.cells #[n, .slice none 0 0] 29)) n B none 0 0 [] := by
  subst hB
  have x4 := Box.new w 29 #[.int .i64 0, .slice none 0 0]
  have x6 := Box.new (w.alloc (.cells #[.int .i64 0, .slice none 0 0] 29)) 29 #[n, .slice none 0 0]
  rw [World.size_alloc] at x6
  exact ⟨x4.alloc _, x6, World.ownsRow_nil _ _ _ _, fun v hv => by simp at hv, ((Below.refl _ w).alloc (Nat.le_refl _) _).alloc (by rw [World.size_alloc]; omega) _, Nat.le_refl _⟩
theorem ref_new_at {w W : World} {lists nodes : Nat} {s' : Value} {xs : List Value} (row : W.ownsRow w.heap.size 43 1 s' lists xs) (each : ∀ v, v ∈ xs → (∃ q, v = .slice q 0 0) ∧ W.ownsRow w.heap.size 3 1 v 0 []) : RefAt (fun k => w.heap.size ≤ k ∧ k < W.heap.size) W s' (Ch.new lists nodes) xs := by
  have hl : xs.length = lists := by have := row.1; omega
  refine ⟨?_, fun k hk => row.lt k hk, fun k hk => hk.2, fun i l h => ?_⟩
  · have e : (Ch.new lists nodes).ls.length = lists := by simp [Ch.new]
    rw [e]
    exact own_zero row
  · have hm := List.mem_of_getElem? h
    have e : l = [] := by unfold Ch.new at hm; exact (List.mem_replicate.1 hm).2
    subst e
    have hi : i < xs.length := by
      have := (List.getElem?_eq_some_iff.1 h).1
      simp [Ch.new] at this
      omega
    obtain ⟨⟨q, e⟩, r⟩ := each xs[i] (List.getElem_mem _)
    exact ⟨xs[i], List.getElem?_eq_getElem hi, q, 0, e, own_zero r, fun k hk => r.lt k hk⟩

theorem ref_new_no (lists nodes : Int) (w : World) (h : lists < 1 ∨ 64 < lists ∨ nodes < 1 ∨ 65536 < nodes) :
    Calls Try.prog 10 #[.int .i64 lists, .int .i64 nodes] w fun e w' => e = .returned (.tuple #[.agg #[.int .i64 0, .slice none 0 0], .int .i64 2]) ∧ Below w.heap.size w w' := by
  have x4 := Box.new w 29 #[.int .i64 0, .slice none 0 0]
  have c0 := x4.cell 0
  have HB := Lib.hid ((Below.refl _ w).alloc (Nat.le_refl _) (.cells #[.int .i64 0, .slice none 0 0] 29))
  clear x4 c0
  by_cases h1 : lists < 1
  · clear h
    go_enter Try.func10, Try.ntmps10
    go_wp2_with fail
    refine bodyPost_ret (v := .tuple #[.agg #[.int .i64 0, .slice none 0 0], .int .i64 2]) ?_ rfl ⟨rfl, HB.out⟩
    simp [results, Try.f10, go_sem]
  by_cases h2 : 64 < lists
  · clear h
    go_enter Try.func10, Try.ntmps10
    go_wp2_with fail
    refine bodyPost_ret (v := .tuple #[.agg #[.int .i64 0, .slice none 0 0], .int .i64 2]) ?_ rfl ⟨rfl, HB.out⟩
    simp [results, Try.f10, go_sem]
  by_cases h3 : nodes < 1
  · clear h
    go_enter Try.func10, Try.ntmps10
    go_wp2_with fail
    refine bodyPost_ret (v := .tuple #[.agg #[.int .i64 0, .slice none 0 0], .int .i64 2]) ?_ rfl ⟨rfl, HB.out⟩
    simp [results, Try.f10, go_sem]
  · have h4 : 65536 < nodes := by omega
    clear h
    go_enter Try.func10, Try.ntmps10
    go_wp2_with fail
    refine bodyPost_ret (v := .tuple #[.agg #[.int .i64 0, .slice none 0 0], .int .i64 2]) ?_ rfl ⟨rfl, HB.out⟩
    simp [results, Try.f10, go_sem]

set_option maxHeartbeats 4000000 in
theorem ref_new (lists nodes : Nat) (w : World) (l1 : 1 ≤ lists) (l2 : lists ≤ 64) (n1 : 1 ≤ nodes) (n2 : nodes ≤ 65536) (M : Nat → Prop) :
    Calls Try.prog 10 #[.int .i64 (lists : Int), .int .i64 (nodes : Int)] w (RefC (fun v => .tuple #[v, .int .i64 0]) M w (Ch.new lists nodes)) := by
  have a1 : ¬ (lists : Int) < 1 := by omega
  have a2 : ¬ (64 : Int) < (lists : Int) := by omega
  have a3 : ¬ (nodes : Int) < 1 := by omega
  have a4 : ¬ (65536 : Int) < (nodes : Int) := by omega
  obtain ⟨i0, hi0, hz0, hz1, hz2⟩ := info_parts (P := Try.prog) (e := 43) (z := .slice none 0 0) (size := 1) (bytes := 24) (by kernel_rfl)
  obtain ⟨B, HBE⟩ : ∃ B, Hid (w.heap.size = B) := ⟨_, Lib.hid rfl⟩
  have S0 := Lib.hid (new_start w (.int .i64 (nodes : Int)) B HBE.out)
  go_enter Try.func10, Try.ntmps10
  go_upto_region 4 with fail
  obtain ⟨W, HW⟩ : ∃ W, Hid (((w.alloc (.cells #[.int .i64 0, .slice none 0 0] 29)).alloc (.cells #[.int .i64 (nodes : Int), .slice none 0 0] 29)) = W) := ⟨_, Lib.hid rfl⟩
  rw [HW.out] at S0 ⊢
  rw [HBE.out]
  clear HW
  go_wp2_with fail
  go_loopg [7] lists (fun k i wx => ∃ (j : Nat) (p : Option Addr) (c : Nat) (xs : List Value), lists - j = k ∧ j ≤ lists ∧ i = .int .i64 (j : Int) ∧ Hid (NewAt w wx (.int .i64 (nodes : Int)) B p j c xs))
  case atStart => exact ⟨0, none, 0, [], rfl, by omega, rfl, S0⟩
  case round =>
    obtain ⟨j, p, c, xs, rfl, hj, rfl, HI⟩ := hrel
    clear S0
    obtain ⟨c2, c3, f0, f1, c4, c5⟩ := HI.out.cells
    by_cases hjl : j = lists
    · have hz : ¬ (j : Int) < (lists : Int) := by omega
      obtain ⟨x6, r6, each6, lo6⟩ := HI.out.done (.int .i64 (nodes : Int)) (.slice p j c)
      have HE := Lib.hid (ref_new_at (nodes := nodes) r6 each6)
      have HB := Lib.hid lo6
      have e0 : ((wr.setCell ⟨B, 0, none⟩ (.int .i64 (nodes : Int))).setCell ⟨B, 1, none⟩ (.slice p j c)).cell? ⟨B, 0, none⟩ = some (.int .i64 (nodes : Int)) := x6.cell 0
      have e1 : ((wr.setCell ⟨B, 0, none⟩ (.int .i64 (nodes : Int))).setCell ⟨B, 1, none⟩ (.slice p j c)).cell? ⟨B, 1, none⟩ = some (.slice p j c) := x6.cell 1
      clear hj HI x6 r6 each6 lo6
      subst hjl
      go_wp2_with fail
      refine bodyPost_ret (v := .tuple #[.agg #[.int .i64 (nodes : Int), .slice p j c], .int .i64 0]) ?_ rfl ⟨_, _, _, rfl, HE.out, fun k hk => .inr hk.1, HB.out⟩
      simp [results, Try.f10, go_sem, e0, e1]
    · have hz : (j : Int) < (lists : Int) := by omega
      have hml : j + 1 ≤ maxLen := by simp [maxLen]; omega
      have hbs : w.heap.size ≤ wr.heap.size := HI.out.lo.size
      have A0 := HI.out.below ((Below.refl _ wr).alloc (Nat.le_refl _) (.cells #[] 3))
      have A1 := Lib.hid (A0.below ((Below.refl _ _).alloc (Nat.le_refl _) (.cells #[.slice (some ⟨wr.heap.size, 0, none⟩) 0 0] 43)))
      have hsl := lit_one (e := 43) (wr.alloc (.cells #[] 3)) (.slice (some ⟨wr.heap.size, 0, none⟩) 0 0)
      rw [World.size_alloc] at hsl
      have HU : Hid ((∃ q, (Value.slice (some ⟨wr.heap.size, 0, none⟩) 0 0) = .slice q 0 0) ∧ ((wr.alloc (.cells #[] 3)).alloc (.cells #[.slice (some ⟨wr.heap.size, 0, none⟩) 0 0] 43)).ownsRow w.heap.size 3 1 (.slice (some ⟨wr.heap.size, 0, none⟩) 0 0) 0 []) :=
        Lib.hid ⟨⟨_, rfl⟩, (lit_empty wr w.heap.size hbs).alloc _⟩
      have cA : ((wr.alloc (.cells #[] 3)).alloc (.cells #[.slice (some ⟨wr.heap.size, 0, none⟩) 0 0] 43)).cell? ⟨B + 1, 1, none⟩ = some (.slice p j c) := A1.out.cells.2.1
      have r5 := A1.out.row
      clear A0 hjl
      go_wp2_with (first | (at_builtin; (refine wpList_append_any _ rfl (.tmp 31) (.tmp 33) 27 rfl w.heap.size 43 i0 (.slice none 0 0) 1 24 Try.underlying27 hi0 hz0 hz1 hz2 rfl (by decide) (.slice p j c) j _ rfl r5 0 _ 1 [.slice (some ⟨wr.heap.size, 0, none⟩) 0 0] rfl hsl (by intro u hu; simp at hu; subst hu; rfl) hml (by omega) (by simp; omega) ?_; intro p5 c5 w5 own5 gr5 loc5; have HE := Lib.hid (A1.out.grew HU.out gr5 own5); obtain ⟨d0, d1⟩ := A1.out.put gr5; clear own5 gr5 loc5)))
      go_roundg (lists - (j + 1))
      case measure => omega
      case rel => exact ⟨j + 1, p5, c5, _, rfl, by omega, by go_num, HE⟩

end Go.Proofs.Ythdgpnkkeeebkaa
