/-
  The document's own chains: with, New.
-/
import Derived.Test.YthdgpnkkeeebkaaChainRef
import Derived.Deep.AppendLies
import Derived.Deep.RegionLaw
namespace Go.Proofs.Ythdgpnkkeeebkaa
open Go.RowKit
set_option linter.unusedVariables false

/-- What with holds in memory: its own chains, what it answers, and what it builds (a row of slices of its own). -/
structure WithAt (w wx : World) (n s : Value) (B : Nat) (p : Option Addr) (j c : Nat) (xs : List Value) : Prop where
  b3 : Box wx B 29 #[n, s]
  b6 : Box wx (B + 1) 29 #[.int .i64 0, .slice none 0 0]
  b7 : Box wx (B + 1 + 1) 29 #[n, .slice p j c]
  row : wx.ownsRow w.heap.size 43 1 (.slice p j c) j xs
  lo : Below w.heap.size w wx
  hB : w.heap.size ≤ B
theorem below_grown {w wx w5 : World} {base e n : Nat} {v : Value} {xs : List Value} (lo : Below w.heap.size w wx) (r : wx.ownsRow base e 1 v n xs) (hb : w.heap.size ≤ base) (g : wx.grownBy w5 v.ownBlock) : Below w.heap.size w w5 :=
  lo.trans ⟨g.os, g.tape, g.output, g.size, fun k hk => g.block k (Nat.lt_of_lt_of_le hk lo.size) (fun e => by
    have := (r.lt k e.symm).1
    omega)⟩
section
variable {w wx w5 : World} {n s u : Value} {B j c c5 : Nat} {p p5 : Option Addr} {xs : List Value}
theorem WithAt.below (h : WithAt w wx n s B p j c xs) {w' : World} (b : Below wx.heap.size wx w') : WithAt w w' n s B p j c xs :=
  ⟨h.b3.below b h.b3.lt, h.b6.below b h.b6.lt, h.b7.below b h.b7.lt, owns_below h.row b, below_tr h.lo b, h.hB⟩
theorem WithAt.grew (h : WithAt w wx n s B p j c xs) (g : wx.grownBy w5 (Value.slice p j c).ownBlock) (o : w5.ownsRow w.heap.size 43 1 (.slice p5 (j + 1) c5) (j + 1) (xs ++ [u])) :
    WithAt w (w5.setCell ⟨B + 1 + 1, 1, none⟩ (.slice p5 (j + 1) c5)) n s B p5 (j + 1) c5 (xs ++ [u]) := by
  have x3 := h.b3.grown g (fun e => h.b3.not_row h.row (by decide) e.symm)
  have x6 := h.b6.grown g (fun e => h.b6.not_row h.row (by decide) e.symm)
  have x7 := h.b7.grown g (fun e => h.b7.not_row h.row (by decide) e.symm)
  have hB := h.hB
  refine ⟨x3.other (by omega) _, x6.other (by omega) _, ?_, x7.row o (by decide), (below_grown h.lo h.row (Nat.le_refl _) g).setCell (p := ⟨B + 1 + 1, 1, none⟩) (by show w.heap.size ≤ B + 1 + 1; omega) _, h.hB⟩
  exact x7.set 1 _
theorem WithAt.put (h : WithAt w wx n s B p j c xs) (g : wx.grownBy w5 (Value.slice p j c).ownBlock) (o : w5.ownsRow w.heap.size 43 1 (.slice p5 (j + 1) c5) (j + 1) (xs ++ [u])) : w5.cell? ⟨B + 1 + 1, 1, none⟩ = some (.slice p j c) ∧ w5.frozen? ⟨B + 1 + 1, 1, none⟩ = false :=
  have x7 := h.b7.grown g (fun e => h.b7.not_row h.row (by decide) e.symm)
  ⟨x7.cell 1, x7.frozen 1⟩
theorem WithAt.old (h : WithAt w wx n s B p j c xs) (g : wx.grownBy w5 (Value.slice p j c).ownBlock) : w5.cell? ⟨B, 1, none⟩ = some s :=
  (h.b3.grown g (fun e => h.b3.not_row h.row (by decide) e.symm)).cell 1
theorem WithAt.done (h : WithAt w wx n s B p j c xs) (u0 u1 : Value) : Box ((wx.setCell ⟨B + 1, 0, none⟩ u0).setCell ⟨B + 1, 1, none⟩ u1) (B + 1) 29 #[u0, u1] ∧ ((wx.setCell ⟨B + 1, 0, none⟩ u0).setCell ⟨B + 1, 1, none⟩ u1).ownsRow w.heap.size 43 1 (.slice p j c) j xs ∧ Below w.heap.size w ((wx.setCell ⟨B + 1, 0, none⟩ u0).setCell ⟨B + 1, 1, none⟩ u1) := by
  have hB := h.hB
  have x := h.b6.set 0 u0
  exact ⟨x.set 1 u1, x.row (h.b6.row h.row (by decide)) (by decide), (h.lo.setCell (p := ⟨B + 1, 0, none⟩) (by show w.heap.size ≤ B + 1; omega) _).setCell (p := ⟨B + 1, 1, none⟩) (by show w.heap.size ≤ B + 1; omega) _⟩
theorem WithAt.cells (h : WithAt w wx n s B p j c xs) : wx.cell? ⟨B, 0, none⟩ = some n ∧ wx.cell? ⟨B, 1, none⟩ = some s ∧ wx.cell? ⟨B + 1 + 1, 0, none⟩ = some n ∧ wx.cell? ⟨B + 1 + 1, 1, none⟩ = some (.slice p j c) ∧ wx.frozen? ⟨B + 1, 0, none⟩ = false ∧ wx.frozen? ⟨B + 1, 1, none⟩ = false ∧ wx.cell? ⟨B + 1, 0, none⟩ = some (.int .i64 0) ∧ wx.cell? ⟨B + 1, 1, none⟩ = some (.slice none 0 0) :=
  ⟨h.b3.cell 0, h.b3.cell 1, h.b7.cell 0, h.b7.cell 1, h.b6.frozen 0, h.b6.frozen 1, h.b6.cell 0, h.b6.cell 1⟩
end
theorem with_start (w : World) (n s : Value) (B : Nat) (hB : w.heap.size = B) : WithAt w (((w.alloc (.cells #[n, s] 29)).alloc (.cells #[.int .i64 0, .slice none 0 0] 29)).alloc (.cells #[n, .slice none 0 0] 29)) n s B none 0 0 [] := by
  subst hB
  have x3 := Box.new w 29 #[n, s]
  have x6 := Box.new (w.alloc (.cells #[n, s] 29)) 29 #[.int .i64 0, .slice none 0 0]
  have x7 := Box.new ((w.alloc (.cells #[n, s] 29)).alloc (.cells #[.int .i64 0, .slice none 0 0] 29)) 29 #[n, .slice none 0 0]
  rw [World.size_alloc] at x6
  rw [World.size_alloc, World.size_alloc] at x7
  exact ⟨(x3.alloc _).alloc _, x6.alloc _, x7, World.ownsRow_nil _ _ _ _, (((Below.refl _ w).alloc (Nat.le_refl _) _).alloc (by rw [World.size_alloc]; omega) _).alloc (by rw [World.size_alloc, World.size_alloc]; omega) _, Nat.le_refl _⟩

section
variable {M : Nat → Prop} {w : World} {s : Value} {g : Ch} {vs : List Value}
set_option maxHeartbeats 4000000 in
theorem ref_with (h : RefAt M w s g vs) (ok : g.Ok) (i : Nat) (hi : i < g.ls.length) (l : List Nat) (v : Value) (hv : Inner M w v l) :
    Calls Try.prog 31 #[refV g s, .int .i64 (i : Int), v] w (RefC id M w ⟨g.ls.set i l, g.nodes⟩) := by
  unfold refV
  obtain ⟨P, C, rfl⟩ := h.form
  have hlen := ok.len
  have hsm := ok.small
  obtain ⟨pv, cv, rfl, _⟩ := id hv
  obtain ⟨i0, hi0, hz0, hz1, hz2⟩ := info_parts (P := Try.prog) (e := 43) (z := .slice none 0 0) (size := 1) (bytes := 24) (by kernel_rfl)
  have HH := Lib.hid h
  have HV := Lib.hid hv
  clear h ok hv
  obtain ⟨B, HBE⟩ : ∃ B, Hid (w.heap.size = B) := ⟨_, Lib.hid rfl⟩
  have S0 := Lib.hid (with_start w (.int .i64 (g.nodes : Int)) (.slice P g.ls.length C) B HBE.out)
  obtain ⟨us, HUS⟩ : ∃ us, Hid (vs.set i (.slice pv l.length cv) = us) := ⟨_, Lib.hid rfl⟩
  have hul : us.length = g.ls.length := by rw [← HUS.out, List.length_set]; exact HH.out.len
  go_enter Try.func31, Try.ntmps31
  go_upto_region 2 with fail
  obtain ⟨W, HW⟩ : ∃ W, Hid ((((w.alloc (.cells #[.int .i64 (g.nodes : Int), .slice P g.ls.length C] 29)).alloc (.cells #[.int .i64 0, .slice none 0 0] 29)).alloc (.cells #[.int .i64 (g.nodes : Int), .slice none 0 0] 29)) = W) := ⟨_, Lib.hid rfl⟩
  rw [HW.out] at S0 ⊢
  rw [HBE.out]
  clear HW
  go_wp2_with fail
  go_loopg [8] g.ls.length (fun k i wx => ∃ (j : Nat) (p : Option Addr) (c : Nat), g.ls.length - j = k ∧ j ≤ g.ls.length ∧ i = .int .i64 (j : Int) ∧ Hid (WithAt w wx (.int .i64 (g.nodes : Int)) (.slice P g.ls.length C) B p j c (us.take j)))
  case atStart => exact ⟨0, none, 0, rfl, by omega, rfl, S0⟩
  case round =>
    obtain ⟨j, p, c, rfl, hj, rfl, HI⟩ := hrel
    clear S0
    obtain ⟨c0, c1, c2, c3, f0, f1, c4, c5⟩ := HI.out.cells
    by_cases hjl : j = g.ls.length
    · have hz : ¬ (j : Int) < (g.ls.length : Int) := by omega
      have HE : Hid (RefAt (fun k => M k ∨ (w.heap.size ≤ k ∧ k < wr.heap.size)) ((wr.setCell ⟨B + 1, 0, none⟩ (.int .i64 (g.nodes : Int))).setCell ⟨B + 1, 1, none⟩ (.slice p g.ls.length c)) (.slice p g.ls.length c) ⟨g.ls.set i l, g.nodes⟩ us ∧ Below w.heap.size w ((wr.setCell ⟨B + 1, 0, none⟩ (.int .i64 (g.nodes : Int))).setCell ⟨B + 1, 1, none⟩ (.slice p g.ls.length c))) := by
        obtain ⟨x6, r6, lo6⟩ := HI.out.done (.int .i64 (g.nodes : Int)) (.slice p g.ls.length c)
        have h1 := HH.out.with_ (s' := .slice p g.ls.length c) (W := (wr.setCell ⟨B + 1, 0, none⟩ (.int .i64 (g.nodes : Int))).setCell ⟨B + 1, 1, none⟩ (.slice p g.ls.length c)) hi HV.out (by
          rw [HUS.out]
          have h2 := r6
          rw [List.take_of_length_le (by omega), hjl] at h2
          exact h2) lo6
        rw [HUS.out] at h1
        simp only [World.size_setCell] at h1
        exact Lib.hid ⟨h1, lo6⟩
      obtain ⟨x6, _, _⟩ := HI.out.done (.int .i64 (g.nodes : Int)) (.slice p g.ls.length c)
      have e0 : ((wr.setCell ⟨B + 1, 0, none⟩ (.int .i64 (g.nodes : Int))).setCell ⟨B + 1, 1, none⟩ (.slice p g.ls.length c)).cell? ⟨B + 1, 0, none⟩ = some (.int .i64 (g.nodes : Int)) := x6.cell 0
      have e1 : ((wr.setCell ⟨B + 1, 0, none⟩ (.int .i64 (g.nodes : Int))).setCell ⟨B + 1, 1, none⟩ (.slice p g.ls.length c)).cell? ⟨B + 1, 1, none⟩ = some (.slice p g.ls.length c) := x6.cell 1
      clear hj HI x6
      subst hjl
      go_wp2_with fail
      refine bodyPost_ret (v := .agg #[.int .i64 (g.nodes : Int), .slice p g.ls.length c]) ?_ rfl ⟨_, _, _, rfl, HE.out.1, fun k hk => hk.imp id fun h => h.1, HE.out.2⟩
      simp [results, Try.f31, go_sem, e0, e1]
    · have hz : (j : Int) < (g.ls.length : Int) := by omega
      have hju : j < us.length := by omega
      have HTK := Lib.hid (List.take_succ_eq_append_getElem hju)
      have hml : j + 1 ≤ maxLen := by simp [maxLen]; omega
      have hbs : w.heap.size ≤ wr.heap.size := HI.out.lo.size
      by_cases hij : j = i
      · have hijz : ((j : Int) == (i : Int)) = true := by simp [hij]
        have HU : Hid (us[j] = .slice pv l.length cv) := by
          have : us[j]? = some (.slice pv l.length cv) := by rw [← HUS.out, hij, List.getElem?_set_self (by rw [HH.out.len]; exact hi)]
          rw [List.getElem?_eq_getElem hju] at this
          exact Lib.hid (Option.some.inj this)
        rw [HU.out] at HTK
        have A1 := Lib.hid (HI.out.below ((Below.refl _ wr).alloc (Nat.le_refl _) (.cells #[.slice pv l.length cv] 43)))
        have r5 := A1.out.row
        clear hij HU hjl
        go_wp2_with (first | (at_builtin; (refine wpList_append_any _ rfl (.tmp 23) (.tmp 25) 27 rfl w.heap.size 43 i0 (.slice none 0 0) 1 24 Try.underlying27 hi0 hz0 hz1 hz2 rfl (by decide) (.slice p j c) j _ rfl r5 0 _ 1 [.slice pv l.length cv] rfl (lit_one wr _) (by intro u hu; simp at hu; subst hu; rfl) hml (by omega) (by simp; omega) ?_; intro p5 c5 w5 own5 gr5 loc5; have HE := Lib.hid (A1.out.grew gr5 own5); obtain ⟨d0, d1⟩ := A1.out.put gr5 own5; clear own5 gr5 loc5)))
        rw [← HTK.out] at HE
        go_roundg (g.ls.length - (j + 1))
        case measure => omega
        case rel => exact ⟨j + 1, p5, c5, rfl, by omega, by go_num, HE⟩
      · have hijz : ((j : Int) == (i : Int)) = false := by simp; omega
        obtain ⟨l', hl'⟩ := ch_row (g := g) (k := j) (by omega)
        obtain ⟨G, C', q, d, e', cG, _, hvj⟩ := HH.out.reads' hl'
        cases e'
        have HU : Hid (us[j] = .slice q l'.length d) := by
          have : us[j]? = some (.slice q l'.length d) := by rw [← HUS.out, List.getElem?_set_ne (fun e => hij e.symm)]; exact hvj
          rw [List.getElem?_eq_getElem hju] at this
          exact Lib.hid (Option.some.inj this)
        rw [HU.out] at HTK
        have cW := (HI.out.lo.cell (p := ⟨G, j, none⟩) (World.block_lt_of_cell? w _ cG)).trans cG
        have A1 := Lib.hid (HI.out.below (((Below.refl _ wr).alloc (Nat.le_refl _) (.cells #[.slice q l'.length d] 43)).drew))
        have r5 := A1.out.row
        have cA := (A1.out.lo.cell (p := ⟨G, j, none⟩) (World.block_lt_of_cell? w _ cG)).trans cG
        have HG := Lib.hid (World.block_lt_of_cell? w _ cG)
        clear hij HU hjl cG hvj hl'
        go_upto_region 7 with fail
        have cA3 : (wr.alloc (.cells #[.slice q l'.length d] 43)).cell? ⟨B + 1 + 1, 1, none⟩ = some (.slice p j c) := A1.out.cells.2.2.2.1
        have cA1 : (wr.alloc (.cells #[.slice q l'.length d] 43)).cell? ⟨B, 1, none⟩ = some (.slice (some ⟨G, 0, none⟩) g.ls.length C) := A1.out.cells.2.1
        go_region_law
          ((refine step_append_lies _ (by rfl) (.tmp 29) (.tmp 35) _ (by rfl) w.heap.size 43 i0 _ 1 24 Try.underlying27 hi0 hz0 hz1 hz2 rfl (by omega) (.slice p j c) j (us.take j) (by rfl) r5
              ⟨wr.heap.size, 0, none⟩ 1 1 [.slice q l'.length d] (by rfl) (by rfl) (World.news_of_block (cs := #[.slice q l'.length d]) (t := 43) (fr := (0, 0)) (heap_alloc_new wr _)) (by simp [Value.oneCell']) (by omega) hml (by omega) (by simp; omega) (wr.heap.size + 1) (by simp) ?_; intro gg cap w5 own5 gr5 hat hlt; have HE := Lib.hid (A1.out.grew gr5 own5); obtain ⟨d0, d1⟩ := A1.out.put gr5 own5; have d2 := (A1.out.old gr5); have d3 := (below_grown A1.out.lo A1.out.row (Nat.le_refl _) gr5).cell (p := ⟨G, j, none⟩) HG.out; rw [← A1.out.lo.cell (p := ⟨G, j, none⟩) HG.out, cA] at d3; clear own5 gr5 hat hlt))
        all_goals
          rw [← HTK.out] at HE
          clear d0 d1 d2 d3
          go_wp2_with fail
          go_roundg (g.ls.length - (j + 1))
          case measure => omega
          case rel => exact ⟨j + 1, some ⟨gg, 0, none⟩, cap, rfl, by omega, by go_num, HE⟩
end
end Go.Proofs.Ythdgpnkkeeebkaa
