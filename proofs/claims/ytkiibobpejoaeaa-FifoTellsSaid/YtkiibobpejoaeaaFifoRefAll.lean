/-
  The document's own queue (sandglassref11): All, Pop.
-/
import Derived.Test.YtkiibobpejoaeaaFifoRef
namespace Go.Proofs.Ytkiibobpejoaeaa
open Go.RowKit
set_option linter.unusedVariables false
set_option linter.unusedSimpArgs false
set_option maxRecDepth 100000

set_option maxHeartbeats 4000000 in
theorem ref_all (room : Int) {v : Value} {l : List En} (w : World) (h : RowAt w v l) (hl : l.length ≤ 65536) :
    Calls Try.prog 32 #[.agg #[.int .i64 room, v]] w fun e w' => ∃ p c, e = .returned (.slice p l.length c) ∧ w'.ownsRow w.heap.size 32 1 (.slice p l.length c) l.length (l.map hV) ∧ Below w.heap.size w w' := by
  obtain ⟨W, HW⟩ : ∃ W, Hid (w.alloc (.cells #[.int .i64 room, v] 64) = W) := ⟨_, Lib.hid rfl⟩
  have x1 : Box W w.heap.size 64 #[.int .i64 room, v] := by rw [← HW.out]; exact Box.new _ _ _
  have bl : Below w.heap.size w W := by rw [← HW.out]; exact (Below.refl _ w).alloc (Nat.le_refl _) _
  have HR := Lib.hid (h.below bl)
  have HB0 := Lib.hid bl
  obtain ⟨pr, cr, rfl, hcl, hcm, _⟩ := h
  have hws := bl.size
  obtain ⟨tb, HTB⟩ : ∃ q, Hid (w.heap.size = q) := ⟨_, Lib.hid rfl⟩
  rw [HTB.out] at x1
  have HX := Lib.hid x1
  obtain ⟨n, HN⟩ : ∃ n, Hid (l.length = n) := ⟨_, Lib.hid rfl⟩
  rw [HN.out] at HX HW hl
  rw [HN.out]
  have hnz := World.ownsRow_nil W W.heap.size 32 1
  have HZ := Lib.hid hnz
  clear x1 bl hcl hcm hnz
  go_enter Try.func32, Try.ntmps32
  go_upto_region 1 with fail
  rw [HW.out, HTB.out]
  go_upto_region 2 with fail
  go_wp2_with fail
  go_loopg [3, 4] n (fun k v3 v4 wx => ∃ (i : Nat) (p' : Option Addr) (c' : Nat), i + k = n ∧ v3 = .slice p' i c' ∧ v4 = .int .i64 (i : Int) ∧ Hid (wx.ownsRow W.heap.size 32 1 (.slice p' i c') i ((l.take i).map hV)) ∧ Hid (Below W.heap.size W wx))
  case atStart => exact ⟨0, none, 0, by omega, rfl, rfl, by rw [List.take_zero, List.map_nil]; exact HZ, Lib.hid (Below.refl _ _)⟩
  case round =>
  obtain ⟨i, p', c', hik, rfl, rfl, HO, HB⟩ := hrel
  have z1 : wr.cell? ⟨tb, 1, none⟩ = some (.slice pr n cr) := (HX.out.below HB.out HX.out.lt).cell 1
  by_cases hin : i = n
  · have hiz : ¬ (i : Int) < (n : Int) := by omega
    have HE : Hid (wr.ownsRow w.heap.size 32 1 (.slice p' n c') n (l.map hV)) := by
      have h1 := HO.out
      rw [hin, ← HN.out, List.take_length, HN.out] at h1
      exact Lib.hid (own_low h1 hws)
    have HF := Lib.hid (below_tr HB0.out HB.out)
    obtain rfl := hin
    clear HO
    go_wp2_with fail
    go_ret
    exact ⟨p', c', rfl, HE.out, HF.out⟩
  · have hiz : (i : Int) < (n : Int) := by omega
    have hi0 : (0 : Int) ≤ (i : Int) := by omega
    obtain ⟨x, hx⟩ : ∃ x, l[i]? = some x := ⟨_, List.getElem?_eq_getElem (by have := HN.out; omega)⟩
    obtain ⟨p2, c2, e2, _, _, h4⟩ := HR.out.below HB.out
    cases e2
    obtain ⟨gg, o, rfl, x0, x1, x2⟩ := h4 i x hx
    have htk : (l.take (i + 1)).map hV = (l.take i).map hV ++ [hV x] := by rw [List.take_add_one, hx]; simp
    have HTk := Lib.hid htk
    clear h4 hx htk x1 x2
    obtain ⟨i0, hi0', hz0, hz1, hz2⟩ := info_parts (P := Try.prog) (e := 32) (z := .int .u64 0) (size := 1) (bytes := 8) (by kernel_rfl)
    have b6 := (Below.refl _ wr).alloc (Nat.le_refl _) (.cells #[.int .u64 x.val] 32)
    have r5 := owns_below HO.out b6
    have hml : i + 1 ≤ maxLen := by unfold maxLen; omega
    have hsl := lit_one (e := 32) wr (.int .u64 x.val)
    have hbz : W.heap.size ≤ (wr.alloc (.cells #[.int .u64 x.val] 32)).heap.size := Nat.le_trans HB.out.size b6.size
    have HB6 := Lib.hid b6
    clear b6
    go_upto_region 5 with fail
    go_wp2_with (first | (at_builtin; (refine wpList_append_any _ rfl (.tmp 12) (.tmp 19) 38 rfl W.heap.size 32 i0 (.int .u64 0) 1 8 Try.underlying38 hi0' hz0 hz1 hz2 rfl (by decide) (.slice p' i c') i _ rfl r5 0 _ 1 [.int .u64 x.val] rfl hsl (by intro u hu; simp at hu; subst hu; rfl) hml (by omega) hbz ?_; intro p5 c5 w5 own5 gr5 loc5; have HE1 : Hid (w5.ownsRow W.heap.size 32 1 (.slice p5 (i + 1) c5) (i + 1) ((l.take (i + 1)).map hV)) := (by rw [HTk.out]; exact Lib.hid own5); have HE4 : Hid (Below W.heap.size W w5) := Lib.hid (below_grown (below_tr HB.out HB6.out) r5 (Nat.le_refl _) gr5); have hwi : IntKind.i64.wrap ((i : Int) + 1) = ((i + 1 : Nat) : Int) := (by rw [IntKind.wrap_i64]; omega); clear own5 gr5 loc5 r5 hsl HO hi0' hz0 hz1 hz2 hbz x0 z1)))
    go_roundg (n - (i + 1))
    case measure => omega
    case rel => exact ⟨i + 1, p5, c5, by omega, rfl, by first | rfl | exact congrArg (Value.int .i64) (by omega), HE1, HE4⟩

theorem three_box {w W : World} {t1 t2 t3 : TypeId} {c1 c2 c3 : Array Value} (h : ((w.alloc (.cells c1 t1)).alloc (.cells c2 t2)).alloc (.cells c3 t3) = W) : Box W w.heap.size t1 c1 ∧ Box W (w.heap.size + 1) t2 c2 ∧ Box W (w.heap.size + 1 + 1) t3 c3 ∧ Below w.heap.size w W := by
  obtain ⟨x1, x2, b⟩ := two_box (rfl : (w.alloc (.cells c1 t1)).alloc (.cells c2 t2) = _)
  subst h
  refine ⟨x1.alloc _, x2.alloc _, ?_, b.alloc (by rw [World.size_alloc, World.size_alloc]; omega) _⟩
  have := Box.new ((w.alloc (.cells c1 t1)).alloc (.cells c2 t2)) t3 c3
  rw [World.size_alloc, World.size_alloc] at this
  exact this
/-- It is nothing, or it stands somewhere. -/
def ShapeR (v : Value) (l : List En) : Prop := v = .slice none 0 0 ∨ ∃ g o c, v = .slice (some ⟨g, o, none⟩) l.length c
set_option maxHeartbeats 8000000 in
theorem ref_pop (room : Int) {v : Value} {l : List En} (w : World) (h : RowAt w v l) (hs : ShapeR v l) :
    Calls Try.prog 26 #[.agg #[.int .i64 room, v]] w fun e w' => ∃ v', e = .returned (.tuple #[.agg #[.int .i64 room, v'], .int .u64 (l.head?.getD noEn).val, kyV (l.head?.getD noEn).key, .bool l.head?.isSome]) ∧ RowAt w' v' l.tail ∧ ShapeR v' l.tail ∧ v'.ownBlock = v.ownBlock ∧ Below w.heap.size w w' := by
  obtain ⟨W, HW⟩ : ∃ W, Hid (((w.alloc (.cells #[.int .i64 room, v] 64)).alloc (.cells #[.int .i64 0, .slice none 0 0] 64)).alloc (.cells #[.int .u64 0, .int .u64 0] 68) = W) := ⟨_, Lib.hid rfl⟩
  obtain ⟨x1, x2, x3, bl⟩ := three_box HW.out
  have hr := h.below bl
  have KH := Lib.hid (ref_head room W hr)
  have HB := Lib.hid bl
  have HR0 := Lib.hid h
  have HSh := Lib.hid hs
  obtain ⟨tb, HTB⟩ : ∃ q, Hid (w.heap.size = q) := ⟨_, Lib.hid rfl⟩
  rw [HTB.out] at x1 x2 x3
  have z0 : W.cell? ⟨tb, 0, none⟩ = some (.int .i64 room) := x1.cell 0
  have z1 : W.cell? ⟨tb, 1, none⟩ = some v := x1.cell 1
  have HX1 := Lib.hid x1
  have HX2 := Lib.hid x2
  have HX3 := Lib.hid x3
  have ht0 : w.heap.size ≤ tb := by rw [HTB.out]; exact Nat.le_refl _
  have ht1 : w.heap.size ≤ tb + 1 := by omega
  have ht2 : w.heap.size ≤ tb + 1 + 1 := by omega
  clear x1 x2 x3 bl h hr hs
  obtain ⟨y, Hy⟩ : ∃ y, Hid (l.head?.getD noEn = y) := ⟨_, Lib.hid rfl⟩
  obtain ⟨ok, Hok⟩ : ∃ b, Hid (l.head?.isSome = b) := ⟨_, Lib.hid rfl⟩
  unfold popV kyV at KH
  rw [Hy.out, Hok.out] at KH
  rw [Hy.out, Hok.out]
  go_enter Try.func26, Try.ntmps26
  go_upto_region 1 with fail
  rw [HW.out, HTB.out]
  clear HW HTB
  go_wp2_with fail
  refine KH.out.mono ?_
  rintro e W2 ⟨rfl, b2⟩
  have b3 := below_tr b2 ((Below.refl _ W2).alloc (Nat.le_refl _) (.cells #[.int .u64 (y.key.at_ : Int), .int .u64 (y.key.seq : Int)] 68))
  have y4 := Box.new W2 68 #[.int .u64 (y.key.at_ : Int), .int .u64 (y.key.seq : Int)]
  have hkz := b2.size
  have hl1 := HX1.out.lt
  have hl2 := HX2.out.lt
  have hl3 := HX3.out.lt
  clear z0 z1 KH b2
  go_upto_region 2 with fail
  obtain ⟨kb, HKb⟩ : ∃ x, Hid (W2.heap.size = x) := ⟨_, Lib.hid rfl⟩
  obtain ⟨W3, HW3⟩ : ∃ V, Hid (W2.alloc (.cells #[.int .u64 (y.key.at_ : Int), .int .u64 (y.key.seq : Int)] 68) = V) := ⟨_, Lib.hid rfl⟩
  rw [HW3.out] at b3 y4
  rw [HKb.out] at y4 hkz
  rw [HW3.out, HKb.out]
  have HB3 := Lib.hid (below_tr HB.out b3)
  have HR3 := Lib.hid (HR0.out.below (below_tr HB.out b3))
  have Y1 := Lib.hid (HX1.out.below b3 hl1)
  have Y2 := Lib.hid (HX2.out.below b3 hl2)
  have Y3 := Lib.hid (HX3.out.below b3 hl3)
  have Y4 := Lib.hid y4
  have n1 : kb ≠ tb + 1 := by omega
  have n2 : kb ≠ tb + 1 + 1 := by omega
  have n0 : kb ≠ tb := by omega
  have n3 : tb + 1 ≠ kb := by omega
  have n4 : tb + 1 + 1 ≠ kb := by omega
  have n5 : tb ≠ tb + 1 := by omega
  have n6 : tb ≠ tb + 1 + 1 := by omega
  have n7 : tb + 1 ≠ tb := by omega
  have n8 : tb + 1 + 1 ≠ tb := by omega
  have n9 : tb + 1 ≠ tb + 1 + 1 := by omega
  clear HW3 HKb b3 y4 HX1 HX2 HX3 HB hkz hl1 hl2 hl3
  cases l with
  | nil =>
    obtain rfl : ok = false := by rw [← Hok.out]; rfl
    have HBv := HB3
    obtain ⟨p, c, rfl, hlc, hcm, _⟩ := HR0.out
    simp only [List.length_nil] at Y1 HR0 HR3
    have Z1 := Y1
    have Z2 := Y2
    have Z3 := Y3
    have Z4 := Y4
    go_upto_region 4 with fail
    simp only [List.length_nil]
    have z0 : W3.cell? ⟨tb, 0, none⟩ = some (.int .i64 room) := Z1.out.cell 0
    have z1 : W3.cell? ⟨tb, 1, none⟩ = some (.slice p 0 c) := Z1.out.cell 1
    have c0 : W3.cell? ⟨kb, 0, none⟩ = some (.int .u64 (y.key.at_ : Int)) := Z4.out.cell 0
    have c1 : W3.cell? ⟨kb, 1, none⟩ = some (.int .u64 (y.key.seq : Int)) := Z4.out.cell 1
    have d0 : W3.cell? ⟨tb + 1, 0, none⟩ = some (.int .i64 0) := Z2.out.cell 0
    have d1 : W3.cell? ⟨tb + 1, 1, none⟩ = some (.slice none 0 0) := Z2.out.cell 1
    have e0 : W3.cell? ⟨tb + 1 + 1, 0, none⟩ = some (.int .u64 0) := Z3.out.cell 0
    have e1 : W3.cell? ⟨tb + 1 + 1, 1, none⟩ = some (.int .u64 0) := Z3.out.cell 1
    have q0 := Z2.out.frozen 0
    have q1 := Z2.out.frozen 1
    have q2 := Z3.out.frozen 0
    have q3 := Z3.out.frozen 1
    have HBz := Lib.hid (((((HBv.out.setCell (p := ⟨tb + 1, 0, none⟩) ht1 (.int .i64 room)).setCell (p := ⟨tb + 1, 1, none⟩) ht1 (.slice p 0 c)).setCell (p := ⟨tb + 1 + 1, 0, none⟩) ht2 (.int .u64 (y.key.at_ : Int))).setCell (p := ⟨tb + 1 + 1, 1, none⟩) ht2 (.int .u64 (y.key.seq : Int))).drew)
    have HP2 := Lib.hid (((((Z2.out.set 0 (.int .i64 room)).set 1 (.slice p 0 c)).other n9 (i := 0) (.int .u64 (y.key.at_ : Int))).other n9 (i := 1) (.int .u64 (y.key.seq : Int))))
    have HP3 := Lib.hid (((((Z3.out.other n9.symm (i := 0) (.int .i64 room)).other n9.symm (i := 1) (.slice p 0 c)).set 0 (.int .u64 (y.key.at_ : Int))).set 1 (.int .u64 (y.key.seq : Int))))
    go_region_held3 (fun wy => wy.cell? ⟨tb, 0, none⟩ = some (.int .i64 room) ∧ wy.cell? ⟨tb, 1, none⟩ = some (.slice p 0 c) ∧ wy.cell? ⟨kb, 0, none⟩ = some (.int .u64 (y.key.at_ : Int)) ∧ wy.cell? ⟨kb, 1, none⟩ = some (.int .u64 (y.key.seq : Int))) (go_keep) (fail)
    all_goals
      clear z0 z1 c0 c1 d0 d1 e0 e1 q0 q1 q2 q3
      go_wp2_with fail
      have HG2 : Hid (Box ((((W3.setCell ⟨tb + 1, 0, none⟩ (.int .i64 room)).setCell ⟨tb + 1, 1, none⟩ (.slice p 0 c)).setCell ⟨tb + 1 + 1, 0, none⟩ (.int .u64 (y.key.at_ : Int))).setCell ⟨tb + 1 + 1, 1, none⟩ (.int .u64 (y.key.seq : Int))).drew (tb + 1) 64 #[.int .i64 room, (.slice p 0 c)]) := Lib.hid HP2.out
      have HG3 : Hid (Box ((((W3.setCell ⟨tb + 1, 0, none⟩ (.int .i64 room)).setCell ⟨tb + 1, 1, none⟩ (.slice p 0 c)).setCell ⟨tb + 1 + 1, 0, none⟩ (.int .u64 (y.key.at_ : Int))).setCell ⟨tb + 1 + 1, 1, none⟩ (.int .u64 (y.key.seq : Int))).drew (tb + 1 + 1) 68 #[.int .u64 (y.key.at_ : Int), .int .u64 (y.key.seq : Int)]) := Lib.hid HP3.out
      obtain ⟨W9, HW9⟩ : ∃ W9, Hid (((((W3.setCell ⟨tb + 1, 0, none⟩ (.int .i64 room)).setCell ⟨tb + 1, 1, none⟩ (.slice p 0 c)).setCell ⟨tb + 1 + 1, 0, none⟩ (.int .u64 (y.key.at_ : Int))).setCell ⟨tb + 1 + 1, 1, none⟩ (.int .u64 (y.key.seq : Int))).drew = W9) := ⟨_, Lib.hid rfl⟩
      rw [HW9.out] at HG2 HG3 HBz ⊢
      have k0 := HG2.out.cell 0
      have k1 := HG2.out.cell 1
      have k2 := HG3.out.cell 0
      have k3 := HG3.out.cell 1
      simp only [List.getElem?_toArray, List.getElem?_cons_zero, List.getElem?_cons_succ] at k0 k1 k2 k3
      refine bodyPost_ret (v := .tuple #[.agg #[.int .i64 room, (.slice p 0 c)], .int .u64 y.val, kyV y.key, .bool false]) ?_ rfl ⟨(.slice p 0 c), rfl, HR0.out.below HBz.out, HSh.out, rfl, HBz.out⟩
      simp [results, Try.f26, go_sem, k0, k1, k2, k3, kyV]
  | cons x m =>
    obtain rfl : ok = true := by rw [← Hok.out]; rfl
    obtain rfl : x = y := by have := Hy.out; simpa using this
    obtain ⟨p, c, rfl, hlc, hcm, hc⟩ := HR0.out
    obtain ⟨g, o, rfl, hx0, hx1, hx2⟩ := hc 0 x rfl
    simp only [List.length_cons] at Y1 HR0 HR3 hlc ⊢
    obtain ⟨c0, rfl⟩ : ∃ c0, c = c0 + 1 := ⟨c - 1, by omega⟩
    have z1 : W3.cell? ⟨tb, 1, none⟩ = some (.slice (some ⟨g, o, none⟩) (m.length + 1) (c0 + 1)) := Y1.out.cell 1
    have f1 := Y1.out.frozen 1
    have hn1 : (1 : Int) ≤ ((m.length + 1 : Nat) : Int) := by omega
    have hc1 : (1 : Int) ≤ ((c0 + 1 : Nat) : Int) := by omega
    cases c0 with
    | zero =>
      obtain rfl : m = [] := List.eq_nil_of_length_eq_zero (by omega)
      have HT : Hid (RowAt w (.slice (some ⟨g, o, none⟩) 0 0) []) := Lib.hid ⟨_, 0, rfl, Nat.le_refl _, by omega, fun i e he => by simp at he⟩
      go_upto_region 4 with fail
      obtain ⟨V, HV⟩ : ∃ V, Hid (W3.setCell ⟨tb, 1, none⟩ (.slice (some ⟨g, o, none⟩) 0 0) = V) := ⟨_, Lib.hid rfl⟩
      have Z1 : Hid (Box V tb 64 #[.int .i64 room, (.slice (some ⟨g, o, none⟩) 0 0)]) := by rw [← HV.out]; exact Lib.hid (Y1.out.set 1 (.slice (some ⟨g, o, none⟩) 0 0))
      have Z2 : Hid (Box V (tb + 1) 64 #[.int .i64 0, .slice none 0 0]) := by rw [← HV.out]; exact Lib.hid (Y2.out.other n7 (i := 1) (.slice (some ⟨g, o, none⟩) 0 0))
      have Z3 : Hid (Box V (tb + 1 + 1) 68 #[.int .u64 0, .int .u64 0]) := by rw [← HV.out]; exact Lib.hid (Y3.out.other n8 (i := 1) (.slice (some ⟨g, o, none⟩) 0 0))
      have Z4 : Hid (Box V kb 68 #[.int .u64 (x.key.at_ : Int), .int .u64 (x.key.seq : Int)]) := by rw [← HV.out]; exact Lib.hid (Y4.out.other n0 (i := 1) (.slice (some ⟨g, o, none⟩) 0 0))
      have HBv : Hid (Below w.heap.size w V) := by rw [← HV.out]; exact Lib.hid (HB3.out.setCell (p := ⟨tb, 1, none⟩) ht0 (.slice (some ⟨g, o, none⟩) 0 0))
      rw [HV.out]
      clear HV z1 f1 hx0 hx1 hx2 hc Y1 Y2 Y3 Y4 HB3
      have z0 : V.cell? ⟨tb, 0, none⟩ = some (.int .i64 room) := Z1.out.cell 0
      have z1 : V.cell? ⟨tb, 1, none⟩ = some (.slice (some ⟨g, o, none⟩) 0 0) := Z1.out.cell 1
      have c0 : V.cell? ⟨kb, 0, none⟩ = some (.int .u64 (x.key.at_ : Int)) := Z4.out.cell 0
      have c1 : V.cell? ⟨kb, 1, none⟩ = some (.int .u64 (x.key.seq : Int)) := Z4.out.cell 1
      have d0 : V.cell? ⟨tb + 1, 0, none⟩ = some (.int .i64 0) := Z2.out.cell 0
      have d1 : V.cell? ⟨tb + 1, 1, none⟩ = some (.slice none 0 0) := Z2.out.cell 1
      have e0 : V.cell? ⟨tb + 1 + 1, 0, none⟩ = some (.int .u64 0) := Z3.out.cell 0
      have e1 : V.cell? ⟨tb + 1 + 1, 1, none⟩ = some (.int .u64 0) := Z3.out.cell 1
      have q0 := Z2.out.frozen 0
      have q1 := Z2.out.frozen 1
      have q2 := Z3.out.frozen 0
      have q3 := Z3.out.frozen 1
      have HBz := Lib.hid (((((HBv.out.setCell (p := ⟨tb + 1, 0, none⟩) ht1 (.int .i64 room)).setCell (p := ⟨tb + 1, 1, none⟩) ht1 (.slice (some ⟨g, o, none⟩) 0 0)).setCell (p := ⟨tb + 1 + 1, 0, none⟩) ht2 (.int .u64 (x.key.at_ : Int))).setCell (p := ⟨tb + 1 + 1, 1, none⟩) ht2 (.int .u64 (x.key.seq : Int))).drew)
      have HP2 := Lib.hid (((((Z2.out.set 0 (.int .i64 room)).set 1 (.slice (some ⟨g, o, none⟩) 0 0)).other n9 (i := 0) (.int .u64 (x.key.at_ : Int))).other n9 (i := 1) (.int .u64 (x.key.seq : Int))))
      have HP3 := Lib.hid (((((Z3.out.other n9.symm (i := 0) (.int .i64 room)).other n9.symm (i := 1) (.slice (some ⟨g, o, none⟩) 0 0)).set 0 (.int .u64 (x.key.at_ : Int))).set 1 (.int .u64 (x.key.seq : Int))))
      go_region_held3 (fun wy => wy.cell? ⟨tb, 0, none⟩ = some (.int .i64 room) ∧ wy.cell? ⟨tb, 1, none⟩ = some (.slice (some ⟨g, o, none⟩) 0 0) ∧ wy.cell? ⟨kb, 0, none⟩ = some (.int .u64 (x.key.at_ : Int)) ∧ wy.cell? ⟨kb, 1, none⟩ = some (.int .u64 (x.key.seq : Int))) (go_keep) (fail)
      all_goals
        clear z0 z1 c0 c1 d0 d1 e0 e1 q0 q1 q2 q3
        go_wp2_with fail
        have HG2 : Hid (Box ((((V.setCell ⟨tb + 1, 0, none⟩ (.int .i64 room)).setCell ⟨tb + 1, 1, none⟩ (.slice (some ⟨g, o, none⟩) 0 0)).setCell ⟨tb + 1 + 1, 0, none⟩ (.int .u64 (x.key.at_ : Int))).setCell ⟨tb + 1 + 1, 1, none⟩ (.int .u64 (x.key.seq : Int))).drew (tb + 1) 64 #[.int .i64 room, (.slice (some ⟨g, o, none⟩) 0 0)]) := Lib.hid HP2.out
        have HG3 : Hid (Box ((((V.setCell ⟨tb + 1, 0, none⟩ (.int .i64 room)).setCell ⟨tb + 1, 1, none⟩ (.slice (some ⟨g, o, none⟩) 0 0)).setCell ⟨tb + 1 + 1, 0, none⟩ (.int .u64 (x.key.at_ : Int))).setCell ⟨tb + 1 + 1, 1, none⟩ (.int .u64 (x.key.seq : Int))).drew (tb + 1 + 1) 68 #[.int .u64 (x.key.at_ : Int), .int .u64 (x.key.seq : Int)]) := Lib.hid HP3.out
        obtain ⟨W9, HW9⟩ : ∃ W9, Hid (((((V.setCell ⟨tb + 1, 0, none⟩ (.int .i64 room)).setCell ⟨tb + 1, 1, none⟩ (.slice (some ⟨g, o, none⟩) 0 0)).setCell ⟨tb + 1 + 1, 0, none⟩ (.int .u64 (x.key.at_ : Int))).setCell ⟨tb + 1 + 1, 1, none⟩ (.int .u64 (x.key.seq : Int))).drew = W9) := ⟨_, Lib.hid rfl⟩
        rw [HW9.out] at HG2 HG3 HBz ⊢
        have k0 := HG2.out.cell 0
        have k1 := HG2.out.cell 1
        have k2 := HG3.out.cell 0
        have k3 := HG3.out.cell 1
        simp only [List.getElem?_toArray, List.getElem?_cons_zero, List.getElem?_cons_succ] at k0 k1 k2 k3
        refine bodyPost_ret (v := .tuple #[.agg #[.int .i64 room, (.slice (some ⟨g, o, none⟩) 0 0)], .int .u64 x.val, kyV x.key, .bool true]) ?_ rfl ⟨(.slice (some ⟨g, o, none⟩) 0 0), rfl, HT.out.below HBz.out, .inr ⟨_, _, _, rfl⟩, rfl, HBz.out⟩
        simp [results, Try.f26, go_sem, k0, k1, k2, k3, kyV]
    | succ cc =>
      have HT : Hid (RowAt w (.slice (some ⟨g, o + 3, none⟩) m.length (cc + 1)) m) := Lib.hid ⟨_, cc + 1, rfl, by omega, by omega, fun i e he => by
        obtain ⟨g2, o2, e2, h0, h1, h2⟩ := hc (i + 1) e (by simpa using he)
        cases e2
        refine ⟨g, o + 3, rfl, ?_, ?_, ?_⟩
        · rw [show o + 3 + i * 3 = o + (i + 1) * 3 by omega]; exact h0
        · rw [show o + 3 + i * 3 + 1 = o + (i + 1) * 3 + 1 by omega]; exact h1
        · rw [show o + 3 + i * 3 + 2 = o + (i + 1) * 3 + 2 by omega]; exact h2⟩
      go_upto_region 4 with fail
      obtain ⟨V, HV⟩ : ∃ V, Hid (W3.setCell ⟨tb, 1, none⟩ (.slice (some ⟨g, o + 3, none⟩) m.length (cc + 1)) = V) := ⟨_, Lib.hid rfl⟩
      have Z1 : Hid (Box V tb 64 #[.int .i64 room, (.slice (some ⟨g, o + 3, none⟩) m.length (cc + 1))]) := by rw [← HV.out]; exact Lib.hid (Y1.out.set 1 (.slice (some ⟨g, o + 3, none⟩) m.length (cc + 1)))
      have Z2 : Hid (Box V (tb + 1) 64 #[.int .i64 0, .slice none 0 0]) := by rw [← HV.out]; exact Lib.hid (Y2.out.other n7 (i := 1) (.slice (some ⟨g, o + 3, none⟩) m.length (cc + 1)))
      have Z3 : Hid (Box V (tb + 1 + 1) 68 #[.int .u64 0, .int .u64 0]) := by rw [← HV.out]; exact Lib.hid (Y3.out.other n8 (i := 1) (.slice (some ⟨g, o + 3, none⟩) m.length (cc + 1)))
      have Z4 : Hid (Box V kb 68 #[.int .u64 (x.key.at_ : Int), .int .u64 (x.key.seq : Int)]) := by rw [← HV.out]; exact Lib.hid (Y4.out.other n0 (i := 1) (.slice (some ⟨g, o + 3, none⟩) m.length (cc + 1)))
      have HBv : Hid (Below w.heap.size w V) := by rw [← HV.out]; exact Lib.hid (HB3.out.setCell (p := ⟨tb, 1, none⟩) ht0 (.slice (some ⟨g, o + 3, none⟩) m.length (cc + 1)))
      rw [HV.out]
      clear HV z1 f1 hx0 hx1 hx2 hc Y1 Y2 Y3 Y4 HB3
      have z0 : V.cell? ⟨tb, 0, none⟩ = some (.int .i64 room) := Z1.out.cell 0
      have z1 : V.cell? ⟨tb, 1, none⟩ = some (.slice (some ⟨g, o + 3, none⟩) m.length (cc + 1)) := Z1.out.cell 1
      have c0 : V.cell? ⟨kb, 0, none⟩ = some (.int .u64 (x.key.at_ : Int)) := Z4.out.cell 0
      have c1 : V.cell? ⟨kb, 1, none⟩ = some (.int .u64 (x.key.seq : Int)) := Z4.out.cell 1
      have d0 : V.cell? ⟨tb + 1, 0, none⟩ = some (.int .i64 0) := Z2.out.cell 0
      have d1 : V.cell? ⟨tb + 1, 1, none⟩ = some (.slice none 0 0) := Z2.out.cell 1
      have e0 : V.cell? ⟨tb + 1 + 1, 0, none⟩ = some (.int .u64 0) := Z3.out.cell 0
      have e1 : V.cell? ⟨tb + 1 + 1, 1, none⟩ = some (.int .u64 0) := Z3.out.cell 1
      have q0 := Z2.out.frozen 0
      have q1 := Z2.out.frozen 1
      have q2 := Z3.out.frozen 0
      have q3 := Z3.out.frozen 1
      have HBz := Lib.hid (((((HBv.out.setCell (p := ⟨tb + 1, 0, none⟩) ht1 (.int .i64 room)).setCell (p := ⟨tb + 1, 1, none⟩) ht1 (.slice (some ⟨g, o + 3, none⟩) m.length (cc + 1))).setCell (p := ⟨tb + 1 + 1, 0, none⟩) ht2 (.int .u64 (x.key.at_ : Int))).setCell (p := ⟨tb + 1 + 1, 1, none⟩) ht2 (.int .u64 (x.key.seq : Int))).drew)
      have HP2 := Lib.hid (((((Z2.out.set 0 (.int .i64 room)).set 1 (.slice (some ⟨g, o + 3, none⟩) m.length (cc + 1))).other n9 (i := 0) (.int .u64 (x.key.at_ : Int))).other n9 (i := 1) (.int .u64 (x.key.seq : Int))))
      have HP3 := Lib.hid (((((Z3.out.other n9.symm (i := 0) (.int .i64 room)).other n9.symm (i := 1) (.slice (some ⟨g, o + 3, none⟩) m.length (cc + 1))).set 0 (.int .u64 (x.key.at_ : Int))).set 1 (.int .u64 (x.key.seq : Int))))
      go_region_held3 (fun wy => wy.cell? ⟨tb, 0, none⟩ = some (.int .i64 room) ∧ wy.cell? ⟨tb, 1, none⟩ = some (.slice (some ⟨g, o + 3, none⟩) m.length (cc + 1)) ∧ wy.cell? ⟨kb, 0, none⟩ = some (.int .u64 (x.key.at_ : Int)) ∧ wy.cell? ⟨kb, 1, none⟩ = some (.int .u64 (x.key.seq : Int))) (go_keep) (fail)
      all_goals
        clear z0 z1 c0 c1 d0 d1 e0 e1 q0 q1 q2 q3
        go_wp2_with fail
        have HG2 : Hid (Box ((((V.setCell ⟨tb + 1, 0, none⟩ (.int .i64 room)).setCell ⟨tb + 1, 1, none⟩ (.slice (some ⟨g, o + 3, none⟩) m.length (cc + 1))).setCell ⟨tb + 1 + 1, 0, none⟩ (.int .u64 (x.key.at_ : Int))).setCell ⟨tb + 1 + 1, 1, none⟩ (.int .u64 (x.key.seq : Int))).drew (tb + 1) 64 #[.int .i64 room, (.slice (some ⟨g, o + 3, none⟩) m.length (cc + 1))]) := Lib.hid HP2.out
        have HG3 : Hid (Box ((((V.setCell ⟨tb + 1, 0, none⟩ (.int .i64 room)).setCell ⟨tb + 1, 1, none⟩ (.slice (some ⟨g, o + 3, none⟩) m.length (cc + 1))).setCell ⟨tb + 1 + 1, 0, none⟩ (.int .u64 (x.key.at_ : Int))).setCell ⟨tb + 1 + 1, 1, none⟩ (.int .u64 (x.key.seq : Int))).drew (tb + 1 + 1) 68 #[.int .u64 (x.key.at_ : Int), .int .u64 (x.key.seq : Int)]) := Lib.hid HP3.out
        obtain ⟨W9, HW9⟩ : ∃ W9, Hid (((((V.setCell ⟨tb + 1, 0, none⟩ (.int .i64 room)).setCell ⟨tb + 1, 1, none⟩ (.slice (some ⟨g, o + 3, none⟩) m.length (cc + 1))).setCell ⟨tb + 1 + 1, 0, none⟩ (.int .u64 (x.key.at_ : Int))).setCell ⟨tb + 1 + 1, 1, none⟩ (.int .u64 (x.key.seq : Int))).drew = W9) := ⟨_, Lib.hid rfl⟩
        rw [HW9.out] at HG2 HG3 HBz ⊢
        have k0 := HG2.out.cell 0
        have k1 := HG2.out.cell 1
        have k2 := HG3.out.cell 0
        have k3 := HG3.out.cell 1
        simp only [List.getElem?_toArray, List.getElem?_cons_zero, List.getElem?_cons_succ] at k0 k1 k2 k3
        refine bodyPost_ret (v := .tuple #[.agg #[.int .i64 room, (.slice (some ⟨g, o + 3, none⟩) m.length (cc + 1))], .int .u64 x.val, kyV x.key, .bool true]) ?_ rfl ⟨(.slice (some ⟨g, o + 3, none⟩) m.length (cc + 1)), rfl, HT.out.below HBz.out, .inr ⟨_, _, _, rfl⟩, rfl, HBz.out⟩
        simp [results, Try.f26, go_sem, k0, k1, k2, k3, kyV]

end Go.Proofs.Ytkiibobpejoaeaa
