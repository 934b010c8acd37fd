/-
  The program's own tree: New, First and Next.
-/
import Derived.Test.YtkiibobpejoaeaaTreePut
namespace Go.Proofs.Ytkiibobpejoaeaa
open Go.RowKit
set_option linter.unusedVariables false
set_option maxRecDepth 100000

section
variable {w w' : World} {b B c room n : Nat} {G : Gr} {z : List Fr} {t : T}
theorem raw_entry (h : RawT w b B c room n G) {p : Nat} (hp : p < n) :
    Calls Try.prog 79 #[.pointer (some ⟨b, 0, none⟩), .int .i64 (p : Int)] w fun e w' => e = .returned (enV ⟨G.key p, G.val p⟩) ∧ Below w.heap.size w w' := by
  unfold enV
  obtain ⟨W, HW⟩ : ∃ W, Hid (w.alloc (.cells #[.int .u64 0, .int .u64 0, .int .i64 0] 126) = W) := ⟨_, Lib.hid rfl⟩
  have bl : Below w.heap.size w W := by
    rw [← HW.out]
    exact (Below.refl _ _).alloc (Nat.le_refl _) _
  have bx : Box W w.heap.size 126 #[.int .u64 0, .int .u64 0, .int .i64 0] := by
    rw [← HW.out]
    exact Box.new _ _ _
  obtain ⟨c0, c1, c2⟩ := (h.below bl).cells
  obtain ⟨d0, d1⟩ := (h.below bl).c_key hp
  have d2 := (h.below bl).c_val hp
  have n2 := h.n2
  have hz1 : (p : Int) < (n : Int) := by omega
  obtain ⟨H, HH⟩ : ∃ H, Hid (w.heap.size = H) := ⟨_, Lib.hid rfl⟩
  rw [HH.out] at bx
  have e0 := bx.cell 0
  have e1 := bx.cell 1
  have e2 := bx.cell 2
  have f0 := bx.frozen 0
  have f1 := bx.frozen 1
  have f2 := bx.frozen 2
  have HB := Lib.hid bl
  have HX := Lib.hid bx
  clear h bl bx
  go_enter Try.func79, Try.ntmps79
  go_upto_region 1 with fail
  rw [HW.out, HH.out]
  go_still_tail 17, (by kernel_rfl)
  change wpList _ _ _ _ _ W.drew
  obtain ⟨W2, HW2⟩ : ∃ W2, Hid (W.drew = W2) := ⟨_, Lib.hid rfl⟩
  have HB2 : Hid (Below w.heap.size w W2) := by
    rw [← HW2.out]
    exact Lib.hid HB.out.drew
  have HX2 : Hid (Box W2 H 126 #[.int .u64 0, .int .u64 0, .int .i64 0]) := by
    rw [← HW2.out]
    exact HX
  rw [HW2.out]
  clear c0 c1 c2 d0 d1 d2 e0 e1 e2 f0 f1 f2 HW HB HX HW2
  have e0 := HX2.out.cell 0
  have e1 := HX2.out.cell 1
  have e2 := HX2.out.cell 2
  have f0 := HX2.out.frozen 0
  have f1 := HX2.out.frozen 1
  have f2 := HX2.out.frozen 2
  have bx3 := ((HX2.out.set 0 (.int .u64 ((G.key p).at_ : Int))).set 1 (.int .u64 ((G.key p).seq : Int))).set 2 (.int .i64 (G.val p))
  have g0 := bx3.cell 0
  have g1 := bx3.cell 1
  have g2 := bx3.cell 2
  simp at g0 g1 g2
  clear bx3
  go_wp2_with fail
  refine bodyPost_ret (v := .agg #[.int .u64 ((G.key p).at_ : Int), .int .u64 ((G.key p).seq : Int), .int .i64 (G.val p)]) ?_ rfl ⟨rfl, ?_⟩
  · simp [results, Try.f79, go_sem, g0, g1, g2]
  · have hsz : w.heap.size ≤ H := by rw [HH.out]; exact Nat.le_refl _
    exact ((HB2.out.setCell hsz _).setCell hsz _).setCell hsz _
theorem raw_first {t0 : T} (h : LieT w b B c room n G [] t0) :
    Calls Try.prog 75 #[.pointer (some ⟨b, 0, none⟩)] w fun e w' => e = .returned (outE t0.toL.head?) ∧ Below w.heap.size w w' := by
  obtain ⟨W, HW⟩ : ∃ W, Hid (w.alloc (.cells #[.int .u64 0, .int .u64 0, .int .i64 0] 126) = W) := ⟨_, Lib.hid rfl⟩
  have bl : Below w.heap.size w W := by
    rw [← HW.out]
    exact (Below.refl _ _).alloc (Nat.le_refl _) _
  have bx : Box W w.heap.size 126 #[.int .u64 0, .int .u64 0, .int .i64 0] := by
    rw [← HW.out]
    exact Box.new _ _ _
  have n2 := h.raw.n2
  have HM := Lib.hid (raw_made (h.raw.below bl))
  have HR : Hid (Calls Try.prog 82 #[.pointer (some ⟨b, 0, none⟩)] W fun e w' => e = .returned (.int .i64 (t0.pl : Int)) ∧ w' = W) := by
    refine Lib.hid ((raw_root (h.raw.below bl)).mono fun e w' ⟨e1, e2⟩ => ⟨?_, e2⟩)
    rw [e1, show G.dn 0 0 = t0.pl from h.sits.hole]
  have HL := Lib.hid (raw_least (h.below bl))
  obtain ⟨H, HH⟩ : ∃ H, Hid (w.heap.size = H) := ⟨_, Lib.hid rfl⟩
  rw [HH.out] at bx
  have HB := Lib.hid bl
  have HX := Lib.hid bx
  have HLi := Lib.hid h
  clear h bl bx
  go_enter Try.func75, Try.ntmps75
  go_upto_region 1 with fail
  rw [HW.out, HH.out]
  go_wp2_with fail
  refine HM.out.mono ?_
  rintro e w1 ⟨rfl, rfl⟩
  clear HM HW
  go_wp2_with fail
  refine HR.out.mono ?_
  rintro e w2 ⟨rfl, rfl⟩
  clear HR
  go_wp2_with fail
  refine HL.out.mono ?_
  rintro e w3 ⟨hA, b3⟩
  clear HL
  obtain ⟨q, xx, he, qn, hq, hout⟩ : ∃ (q : Nat) (xx : En), e = .returned (.int .i64 (q : Int)) ∧ q < n ∧ (G.key q = xx.key ∧ G.val q = xx.val) ∧ outE t0.toL.head? = .tuple #[enV xx, .bool ((q : Int) != 0)] := by
    rcases hA with ⟨h1, h2⟩ | ⟨y, q, cq, eq, r, h1, h2, h3, h4⟩
    · refine ⟨0, noEn, h2, HLi.out.raw.n1, ⟨HLi.out.sits.key0, HLi.out.sits.val0⟩, ?_⟩
      rw [h1]
      rfl
    · obtain ⟨q0, qn, qk, qv, _⟩ := LieT.node (s := 0) (o := 1) h4 rfl
      refine ⟨q, eq, h1, qn, ⟨qk, qv⟩, ?_⟩
      have hz0 : ((q : Int) != 0) = true := by rw [bne_iff_ne]; omega
      rw [← h2, plug_lr, h3, hz0]
      simp [T.toL, T.rb, RB.toL, outE]
  subst he
  have r3 := HLi.out.raw.below (below_tr HB.out b3)
  have HE := Lib.hid (raw_entry r3 qn)
  rw [hq.1, hq.2] at HE
  unfold enV at HE
  have HX3 := Lib.hid (HX.out.below b3 HX.out.lt)
  have HB3 := Lib.hid (below_tr HB.out b3)
  have HO := Lib.hid hout
  clear hA b3 r3 hq hout HX HB HLi
  go_wp2_with fail
  refine HE.out.mono ?_
  rintro e w4 ⟨rfl, b4⟩
  have bx4 := HX3.out.below b4 HX3.out.lt
  have e0 := bx4.cell 0
  have e1 := bx4.cell 1
  have e2 := bx4.cell 2
  have f0 := bx4.frozen 0
  have f1 := bx4.frozen 1
  have f2 := bx4.frozen 2
  have bx5 := ((bx4.set 0 (.int .u64 (xx.key.at_ : Int))).set 1 (.int .u64 (xx.key.seq : Int))).set 2 (.int .i64 xx.val)
  have g0 := bx5.cell 0
  have g1 := bx5.cell 1
  have g2 := bx5.cell 2
  simp at g0 g1 g2
  have HB4 := Lib.hid (below_tr HB3.out b4)
  clear bx4 bx5 b4 HE HX3 HB3
  have hz0 : ((q : Int) != 0) = ((q : Int) != 0) := rfl
  obtain ⟨qb, hqb⟩ : ∃ qb, ((q : Int) != 0) = qb := ⟨_, rfl⟩
  rw [hqb] at HO
  go_wp2_with fail
  refine bodyPost_ret (v := .tuple #[.agg #[.int .u64 (xx.key.at_ : Int), .int .u64 (xx.key.seq : Int), .int .i64 xx.val], .bool qb]) ?_ rfl ⟨?_, ?_⟩
  · simp [results, Try.f75, go_sem, g0, g1, g2]
  · rw [HO.out]
    rfl
  · have hsz : w.heap.size ≤ H := by rw [HH.out]; exact Nat.le_refl _
    exact ((HB4.out.setCell hsz _).setCell hsz _).setCell hsz _
end

end Go.Proofs.Ytkiibobpejoaeaa
