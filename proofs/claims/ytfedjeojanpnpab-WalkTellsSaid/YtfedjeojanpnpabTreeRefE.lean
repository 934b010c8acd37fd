/-
  The document's own tree (sandglassref06): Drop, walked.
-/
import Derived.Test.YtfedjeojanpnpabTreeRefC
import Derived.Test.YtfedjeojanpnpabTreeDrop
import Derived.BigRegion
namespace Go.Proofs.Ytfedjeojanpnpab
open Go.RowKit
set_option linter.unusedVariables false

/-- What Drop answers. -/
def RefDrop (base : Nat) (v0 : Value) (room : Nat) (l : List En) (k : Ky) (w : World) (e : Ending) (w' : World) : Prop :=
  ∃ p n c, e = .returned (.tuple #[.agg #[.slice p n c, .int .i64 (room : Int)], .int .i64 ((getL k l).getD 0), .bool (getL k l).isSome]) ∧ (delL k l).length = n ∧ w'.ownsRow base 52 3 (.slice p n c) n ((delL k l).flatMap enC) ∧ Below w.heap.size w w' ∧ (v0 = .slice p n c ∨ w'.ownsRow w.heap.size 52 3 (.slice p n c) n ((delL k l).flatMap enC))

set_option maxHeartbeats 4000000 in
set_option maxRecDepth 100000 in
theorem ref_drop (p : Option Addr) (c n base room : Nat) (l : List En) (k : Ky) (w : World) (hn : l.length = n) (hn6 : n ≤ 65536) (hr : Rises l) (hbs : base ≤ w.heap.size) (h : w.ownsRow base 52 3 (.slice p n c) n (l.flatMap enC)) :
    Calls Try.prog 22 #[.agg #[.slice p n c, .int .i64 (room : Int)], kyV k] w (RefDrop base (.slice p n c) room l k w) := by
  unfold kyV
  obtain ⟨W, HW⟩ : ∃ W, Hid (((w.alloc (.cells #[.slice p n c, .int .i64 (room : Int)] 41)).alloc (.cells #[.int .u64 (k.at_ : Int), .int .u64 (k.seq : Int)] 27)).alloc (.cells #[.slice none 0 0, .int .i64 0] 41) = W) := ⟨_, Lib.hid rfl⟩
  obtain ⟨x1, x2, x3, bl⟩ := box3 HW.out
  have KP := Lib.hid (ref_place p c n base (room : Int) l k W hn hn6 hr (owns_below h bl))
  unfold kyV at KP
  obtain ⟨tb, HTB⟩ : ∃ q, Hid (w.heap.size = q) := ⟨_, Lib.hid rfl⟩
  rw [HTB.out] at x1 x2 x3
  have z0 : W.cell? ⟨tb, 0, none⟩ = some (.slice p n c) := x1.cell 0
  have z1 : W.cell? ⟨tb, 1, none⟩ = some (.int .i64 (room : Int)) := x1.cell 1
  have z2 : W.cell? ⟨tb + 1, 0, none⟩ = some (.int .u64 (k.at_ : Int)) := x2.cell 0
  have z3 : W.cell? ⟨tb + 1, 1, none⟩ = some (.int .u64 (k.seq : Int)) := x2.cell 1
  have HX1 := Lib.hid x1
  have HX2 := Lib.hid x2
  have HX3 := Lib.hid x3
  have HB := Lib.hid bl
  have HO := Lib.hid (owns_below h bl)
  have HRI := Lib.hid hr
  have HNN := Lib.hid hn
  have hsz : w.heap.size ≤ tb + 1 + 1 := by rw [HTB.out]; omega
  clear x1 x2 x3 bl h hr hn
  go_enter Try.func22, Try.ntmps22
  go_upto_region 1 with fail
  rw [HW.out, HTB.out]
  go_wp2_with fail
  refine KP.out.mono ?_
  rintro e w2 ⟨rfl, b2⟩
  have HB2 := Lib.hid (below_tr HB.out b2)
  have HO2 := Lib.hid (owns_below HO.out b2)
  have X1 := HX1.out.below b2 HX1.out.lt
  have X3 := HX3.out.below b2 HX3.out.lt
  have y0 : w2.cell? ⟨tb, 0, none⟩ = some (.slice p n c) := X1.cell 0
  have y1 : w2.cell? ⟨tb, 1, none⟩ = some (.int .i64 (room : Int)) := X1.cell 1
  have r0 : w2.cell? ⟨tb + 1 + 1, 0, none⟩ = some (.slice none 0 0) := X3.cell 0
  have r1 : w2.cell? ⟨tb + 1 + 1, 1, none⟩ = some (.int .i64 0) := X3.cell 1
  have f0 := X3.frozen 0
  have f1 := X3.frozen 1
  have HY1 := Lib.hid X1
  have HY3 := Lib.hid X3
  clear KP HW z0 z1 z2 z3 b2 X1 X3 HX1 HX2 HX3 HO
  obtain ⟨g0, g1⟩ := res_cells HY3.out rfl (.slice p n c) (.int .i64 (room : Int))
  cases hg : getL k l with
  | none =>
    have h2 := del_none hg
    have HE : Hid (RefDrop base (.slice p n c) room l k w (.returned (.tuple #[.agg #[.slice p n c, .int .i64 (room : Int)], .int .i64 0, .bool false])) ((w2.setCell ⟨tb + 1 + 1, 0, none⟩ (.slice p n c)).setCell ⟨tb + 1 + 1, 1, none⟩ (.int .i64 (room : Int)))) := by
      refine Lib.hid ⟨p, n, c, by rw [hg]; rfl, by rw [h2]; exact HNN.out, ?_, (HB2.out.setCell hsz _).setCell hsz _, .inl rfl⟩
      rw [h2]
      exact res_row HO2.out HY3.out
    clear hg h2
    simp only [Option.isSome]
    go_wp2_with fail
    refine bodyPost_ret (v := .tuple #[.agg #[.slice p n c, .int .i64 (room : Int)], .int .i64 0, .bool false]) ?_ rfl HE.out
    simp [results, Try.f22, go_sem, g0, g1]
  | some x =>
    have hat := plc_at HRI.out hg
    have hpl : plc k l < n := by rw [← HNN.out]; exact (List.getElem?_eq_some_iff.1 hat).1
    have hdel : delL k l = l.take (plc k l) ++ l.drop (plc k l + 1) := del_nth HRI.out hat
    have HG := Lib.hid hg
    obtain ⟨i, HI⟩ : ∃ i, Hid (plc k l = i) := ⟨_, Lib.hid rfl⟩
    rw [HI.out] at hat hpl hdel
    rw [HI.out]
    obtain ⟨inf, hi1, hi2, hi3, hi4⟩ := info_parts (P := Try.prog) (e := 52) (z := .agg #[.int .u64 0, .int .u64 0, .int .i64 0]) (size := 3) (bytes := 24) (by kernel_rfl)
    have HT3 : Hid (((l.take i).flatMap enC).length = i * 3) := Lib.hid (by rw [flat3, List.length_take, HNN.out]; omega)
    have HD3 : Hid (((l.drop (i + 1)).flatMap enC).length = (n - (i + 1)) * 3) := Lib.hid (by rw [flat3, List.length_drop, HNN.out])
    have HT1 := Lib.hid (one_cells (l.take i))
    have HD1 := Lib.hid (one_cells (l.drop (i + 1)))
    have HDL : Hid ((l.take i).flatMap enC ++ (l.drop (i + 1)).flatMap enC = (delL k l).flatMap enC) := Lib.hid (by rw [hdel, List.flatMap_append])
    have HLN : Hid ((delL k l).length = i + (n - (i + 1))) := Lib.hid (by rw [hdel, List.length_append, List.length_take, List.length_drop, HNN.out]; omega)
    obtain ⟨g, rfl, hgl, s0, s1, s2⟩ := en_at (k := k) (v := x) HO2.out HNN.out hat
    obtain ⟨hnc, hcm, hcell⟩ : n ≤ c ∧ c ≤ 9223372036854775807 ∧ ∀ j u, (l.flatMap enC)[j]? = some u → w2.cell? ⟨g, j, none⟩ = some u := by
      rcases row_parts HO2.out with ⟨h1, _, _⟩ | ⟨g', h1, _, h3, h4, h5⟩
      · cases h1
      · cases h1
        exact ⟨h3, h4, h5⟩
    have HCt := Lib.hid (cells_take hcell i)
    have HCd := Lib.hid (cells_drop hcell (i + 1) (by rw [HNN.out]; omega))
    have hplz : (i : Int) ≤ (c : Int) := by omega
    have hplz2 : (i : Int) ≤ (n : Int) := by omega
    have hplz3 : (i : Int) < (n : Int) := by omega
    have hplz4 : (i : Int) + 1 ≤ (n : Int) := by omega
    have hplc : i ≤ c := by omega
    have hml : 0 + i ≤ maxLen := by simp [maxLen]; omega
    clear hg g0 g1 hat hdel hcell s0 s1
    simp only [Option.isSome]
    go_upto_region 6 with (first | (at_builtin; (refine wpList_append_own_at _ rfl (.tmp 19) (.tmp 23) 35 rfl w2.heap.size 52 inf (.agg #[.int .u64 0, .int .u64 0, .int .i64 0]) 3 24 Try.underlying35 hi1 hi2 hi3 hi4 rfl (by decide) (.slice none 0 0) 0 [] rfl (World.ownsRow_nil _ _ _ _) ⟨g, 0, none⟩ i c ((l.take i).flatMap enC) rfl HT3.out HCt.out HT1.out hml (by omega) (Nat.le_refl _) ?_; intro v5 w5 own5 gr5 hnil5 loc5; obtain ⟨p5, c5, rfl⟩ := owns_slice own5; have HO5 := Lib.hid own5; have HG5 := Lib.hid gr5; clear own5 gr5 hnil5 loc5)))
    have L5 : Below w2.heap.size w2 w5 := grown_low (World.ownsRow_nil w2 w2.heap.size 52 3) HG5.out (Nat.le_refl _)
    have own5 := HO5.out
    rw [Nat.zero_add, List.nil_append] at own5
    have Y1 := HY1.out.below L5 HY1.out.lt
    have q0 : w5.cell? ⟨tb, 0, none⟩ = some (.slice (some ⟨g, 0, none⟩) n c) := Y1.cell 0
    have HN5 := Lib.hid own5
    have HL5 := Lib.hid L5
    clear HO5 HG5 own5 L5 Y1
    have hb5 : w2.heap.size ≤ w5.heap.size := HL5.out.size
    have HCd5 : Hid (∀ j u, ((l.drop (i + 1)).flatMap enC)[j]? = some u → w5.cell? ((⟨g, (i + 1) * 3, none⟩ : Addr).add j) = some u) := Lib.hid (cells_below HL5.out hgl HCd.out)
    have hml9 : i + (n - (i + 1)) ≤ maxLen := by simp [maxLen]; omega
    have HFIN : Hid (∀ p7 c7 w7, w7.ownsRow w2.heap.size 52 3 (.slice p7 (i + (n - (i + 1))) c7) (i + (n - (i + 1))) ((l.take i).flatMap enC ++ (l.drop (i + 1)).flatMap enC) → Below w2.heap.size w5 w7 → RefDrop base (.slice (some ⟨g, 0, none⟩) n c) room l k w (.returned (.tuple #[.agg #[.slice p7 (i + (n - (i + 1))) c7, .int .i64 (room : Int)], .int .i64 x, .bool true])) ((w7.setCell ⟨tb + 1 + 1, 0, none⟩ (.slice p7 (i + (n - (i + 1))) c7)).setCell ⟨tb + 1 + 1, 1, none⟩ (.int .i64 (room : Int))).drew ∧ w7.cell? ⟨tb, 0, none⟩ = some (.slice (some ⟨g, 0, none⟩) n c) ∧ w7.cell? ⟨tb, 1, none⟩ = some (.int .i64 (room : Int)) ∧ w7.cell? ⟨g, i * 3 + 2, none⟩ = some (.int .i64 x) ∧ Hid (Box w7 (tb + 1 + 1) 41 #[.slice none 0 0, .int .i64 0])) := by
      refine Lib.hid fun p7 c7 w7 o7 b7 => ?_
      have B7 := HL5.out.trans b7
      have V1 := HY1.out.below B7 HY1.out.lt
      have V3 := HY3.out.below B7 HY3.out.lt
      have hbb : base ≤ w2.heap.size := by have := HB2.out.size; omega
      refine ⟨⟨p7, _, c7, by rw [HG.out]; rfl, HLN.out, ?_, (((below_tr HB2.out B7).setCell hsz _).setCell hsz _).drew, .inr ?_⟩, V1.cell 0, V1.cell 1, (B7.cell (p := ⟨g, i * 3 + 2, none⟩) hgl).trans s2, Lib.hid V3⟩
      · rw [HDL.out] at o7
        exact owns_below (res_row (own_low o7 hbb) V3) (Below.refl _ _).drew
      · rw [HDL.out] at o7
        exact owns_below (res_row (own_low o7 HB2.out.size) V3) (Below.refl _ _).drew
    clear HLN HDL HL5 HCd HCt HRI HNN HT3 HT1 HI HB2 HB HG
    by_cases hic : i + 1 = c
    · have hin : n = c := by omega
      subst hin
      have hnz : n - (i + 1) = 0 := by omega
      have hzz : (i : Int) + 1 = (n : Int) := by omega
      rw [hnz, Nat.add_zero] at HFIN
      have hnil : (l.drop (i + 1)).flatMap enC = [] := List.length_eq_zero_iff.1 (by rw [HD3.out, hnz, Nat.zero_mul])
      rw [hnil, List.append_nil] at HFIN
      have hml0 : i + 0 ≤ maxLen := by simp [maxLen]; omega
      go_upto_region 7 with (first | (at_builtin; (refine wpList_append_own_at _ rfl (.tmp 25) (.tmp 30) 35 rfl w2.heap.size 52 inf (.agg #[.int .u64 0, .int .u64 0, .int .i64 0]) 3 24 Try.underlying35 hi1 hi2 hi3 hi4 rfl (by decide) (.slice p5 i c5) i _ rfl HN5.out ⟨g, 0, none⟩ 0 0 [] rfl rfl (by intro j u hu; simp at hu) (by intro u hu; simp at hu) hml0 (by omega) hb5 ?_; intro v7 w7 own7 gr7 hnil7 loc7; obtain ⟨p7, c7, rfl⟩ := owns_slice own7; have HO7 := Lib.hid own7; have HG7 := Lib.hid gr7; clear own7 gr7 hnil7 loc7)))
      have own7 := HO7.out
      rw [Nat.add_zero, List.append_nil] at own7
      obtain ⟨HE, u0, u1, u2, HV3⟩ := HFIN.out p7 c7 w7 own7 (grown_low HN5.out HG7.out hb5)
      have t2 : w7.cell? ⟨tb + 1 + 1, 0, none⟩ = some (.slice none 0 0) := HV3.out.cell 0
      have t3 : w7.cell? ⟨tb + 1 + 1, 1, none⟩ = some (.int .i64 0) := HV3.out.cell 1
      have t4 := HV3.out.frozen 0
      have t5 := HV3.out.frozen 1
      clear own7
      obtain ⟨g0, g1⟩ := res_cells HV3.out rfl (.slice p7 i c7) (.int .i64 (room : Int))
      rw [← World.cell?_drew] at g0 g1
      have HE' := Lib.hid HE
      clear HE HFIN HO7 HG7
      go_region
      clear t2 t3 t4 t5 u0 u1 u2 HV3
      go_wp2_with fail
      refine bodyPost_ret (v := .tuple #[.agg #[.slice p7 i c7, .int .i64 (room : Int)], .int .i64 x, .bool true]) ?_ rfl HE'.out
      simp [results, Try.f22, go_sem, g0, g1]
    · have hic2 : i + 1 < c := by omega
      go_upto_region 7 with (first | (at_builtin; (refine wpList_append_own_at _ rfl (.tmp 25) (.tmp 30) 35 rfl w2.heap.size 52 inf (.agg #[.int .u64 0, .int .u64 0, .int .i64 0]) 3 24 Try.underlying35 hi1 hi2 hi3 hi4 rfl (by decide) (.slice p5 i c5) i _ rfl HN5.out ⟨g, (i + 1) * 3, none⟩ (n - (i + 1)) (c - (i + 1)) ((l.drop (i + 1)).flatMap enC) rfl HD3.out HCd5.out HD1.out hml9 (by omega) hb5 ?_; intro v7 w7 own7 gr7 hnil7 loc7; obtain ⟨p7, c7, rfl⟩ := owns_slice own7; have HO7 := Lib.hid own7; have HG7 := Lib.hid gr7; clear own7 gr7 hnil7 loc7)))
      obtain ⟨HE, u0, u1, u2, HV3⟩ := HFIN.out p7 c7 w7 HO7.out (grown_low HN5.out HG7.out hb5)
      have t2 : w7.cell? ⟨tb + 1 + 1, 0, none⟩ = some (.slice none 0 0) := HV3.out.cell 0
      have t3 : w7.cell? ⟨tb + 1 + 1, 1, none⟩ = some (.int .i64 0) := HV3.out.cell 1
      have t4 := HV3.out.frozen 0
      have t5 := HV3.out.frozen 1
      obtain ⟨g0, g1⟩ := res_cells HV3.out rfl (.slice p7 (i + (n - (i + 1))) c7) (.int .i64 (room : Int))
      rw [← World.cell?_drew] at g0 g1
      have HE' := Lib.hid HE
      clear HE HFIN HO7 HG7
      go_region
      clear t2 t3 t4 t5 u0 u1 u2 HV3
      go_wp2_with fail
      refine bodyPost_ret (v := .tuple #[.agg #[.slice p7 (i + (n - (i + 1))) c7, .int .i64 (room : Int)], .int .i64 x, .bool true]) ?_ rfl HE'.out
      simp [results, Try.f22, go_sem, g0, g1]

end Go.Proofs.Ytfedjeojanpnpab
