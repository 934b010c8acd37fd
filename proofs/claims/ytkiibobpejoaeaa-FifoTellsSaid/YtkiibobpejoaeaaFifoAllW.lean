/-
  The program's own queue: All.
-/
import Derived.Test.YtkiibobpejoaeaaFifoAll
namespace Go.Proofs.Ytkiibobpejoaeaa
open Go.RowKit
set_option linter.unusedVariables false
set_option maxRecDepth 100000
set_option linter.unusedSimpArgs false

theorem mergeP_len : ∀ (t r : List En), (mergeP r t).length = r.length + t.length
  | [], r => rfl
  | e :: t, r => by
    have h := below_le (k := e.key) (r := r)
    rw [mergeP, List.length_append, List.length_cons, mergeP_len t, List.length_take, List.length_drop, List.length_cons]
    omega
theorem RowAt.take {W : World} {p : Option Addr} {n c j : Nat} {r : List En} (h : RowAt W (.slice p n c) r) (hj : j ≤ r.length) : RowAt W (.slice p j c) (r.take j) := by
  obtain ⟨p', c', e, h2, h3, h4⟩ := h
  cases e
  have hl : (r.take j).length = j := by rw [List.length_take]; omega
  refine ⟨p, c, by rw [hl], by omega, h3, fun i e he => ?_⟩
  have hi := (List.getElem?_eq_some_iff.1 he).1
  rw [hl] at hi
  rw [List.getElem?_take, if_pos hi] at he
  exact h4 i e he
theorem RowAt.dropped {W : World} {g o n c j : Nat} {r : List En} (h : RowAt W (.slice (some ⟨g, o, none⟩) n c) r) (hj : j ≤ r.length) (hc : ¬ c = j) : RowAt W (.slice (some ⟨g, o + j * 3, none⟩) (n - j) (c - j)) (r.drop j) := by
  obtain ⟨p', c', e, h2, h3, h4⟩ := h
  cases e
  refine ⟨_, _, by rw [List.length_drop], by rw [List.length_drop]; omega, by omega, fun i e he => ?_⟩
  rw [List.getElem?_drop] at he
  obtain ⟨g', o', e1, k0, k1, k2⟩ := h4 _ e he
  cases e1
  refine ⟨g, o + j * 3, rfl, ?_, ?_, ?_⟩
  · rw [show o + j * 3 + i * 3 = o + (j + i) * 3 by omega]; exact k0
  · rw [show o + j * 3 + i * 3 + 1 = o + (j + i) * 3 + 1 by omega]; exact k1
  · rw [show o + j * 3 + i * 3 + 2 = o + (j + i) * 3 + 2 by omega]; exact k2
set_option maxHeartbeats 8000000 in
set_option maxRecDepth 100000 in
theorem f_all {w : World} {b gone : Nat} {ta : Addr} {NT : Nat → Prop} {rv : Value} {P r : List En} {tg : Tg} {g : Fg} (h : FLie w b ta NT rv gone P r tg g) (ok : g.Ok) :
    Calls Try.prog 31 #[.pointer (some ⟨b, 0, none⟩)] w fun e w' => ∃ p c, e = .returned (.slice p g.l.length c) ∧ w'.ownsRow w.heap.size 32 1 (.slice p g.l.length c) g.l.length (g.l.map hV) ∧ Below w.heap.size w w' := by
  have hsm := parts_small ok h.parts
  have hs2 := ok.small
  have hs1 := ok.room
  have KM := Lib.hid (f_made h.box)
  have KL0 := f_len h (by omega)
  obtain ⟨s, Hs⟩ : ∃ s, Hid (g.l.length = s) := ⟨_, Lib.hid rfl⟩
  rw [Hs.out] at KL0 hs1 ⊢
  have hsz : s ≤ 65536 := by omega
  have KL := Lib.hid KL0
  have HL := Lib.hid h
  obtain ⟨inf, hi1, hi2, hi3, hi4⟩ := info_parts (P := Try.prog) (e := 32) (z := .int .u64 0) (size := 1) (bytes := 8) (by kernel_rfl)
  have r1 : ∀ W : World, (Instr.makeSlice 38 (.int .i64 0) (.int .i64 (s : Int))).run Try.prog W = .ok (.slice (some ⟨W.heap.size, 0, none⟩) 0 s) (W.alloc (.cells (madeCells (Value.int .u64 0).cells (s * 1)) 32)) := fun W => by
    have hrun := run_make (P := Try.prog) W 38 32 inf (.int .u64 0) Try.underlying38 hi1 hi2 .i64 .i64 0 (s : Int) (by omega) (by omega) (by rw [hi4]; omega) (by omega)
    simp only [Int.toNat_natCast, Int.toNat_zero, hi3] at hrun
    exact hrun
  have hs0 : (0 : Int) ≤ (s : Int) := by omega
  clear h KL0 hi1 hi2 hi3 hi4
  go_enter Try.func31, Try.ntmps31
  go_upto_region 3 with (go_at_call 48; refine KM.out.mono ?_; rintro e w1 ⟨rfl, rfl⟩)
  go_upto_region 4 with (go_at_call 29; refine KL.out.mono ?_; rintro e W2 ⟨rfl, b2⟩)
  clear KM KL r1 hs0
  have bl3 := (Below.refl _ W2).alloc (Nat.le_refl _) (.cells (madeCells #[Value.int .u64 0] s) 32)
  have y3 := Box.new W2 32 (madeCells #[Value.int .u64 0] s)
  have hsz3 : (madeCells #[Value.int .u64 0] s).size = s := size_madeCells _ _
  have hhb := b2.size
  obtain ⟨hb, HHb⟩ : ∃ hb, Hid (W2.heap.size = hb) := ⟨_, Lib.hid rfl⟩
  obtain ⟨W3, HW3⟩ : ∃ W3, Hid (W2.alloc (.cells (madeCells #[Value.int .u64 0] s) 32) = W3) := ⟨_, Lib.hid rfl⟩
  rw [HW3.out] at bl3 y3
  rw [HHb.out] at y3 hhb
  rw [HW3.out, HHb.out]
  have HO3 : Hid (W3.ownsRow w1.heap.size 32 1 (.slice (some ⟨hb, 0, none⟩) 0 s) 0 []) :=
    Lib.hid ⟨rfl, .inr ⟨hb, s, _, rfl, hhb, y3, Nat.zero_le _, by unfold maxLen; omega, by rw [hsz3]; omega, by simp⟩⟩
  have HB3 := Lib.hid (below_tr b2 bl3)
  have HL3 := Lib.hid ((HL.out.below b2).below bl3)
  have KW := Lib.hid (f_waitingS HL3.out.box HL3.out.row HL3.out.drop HL3.out.gl)
  clear bl3 y3 hsz3 hhb HW3 HHb b2
  go_upto_region 5 with (go_at_call 57; refine KW.out.mono ?_; rintro e W4 ⟨v, rfl, _, b4, _, hsh, hrd⟩)
  have HR4 := Lib.hid (hrd w1 HL.out.row)
  have HSh := Lib.hid hsh
  have HB4 := Lib.hid (below_tr HB3.out b4)
  have HL4 := Lib.hid (HL3.out.below b4)
  have HO4 := Lib.hid (owns_below HO3.out b4)
  have KA := Lib.hid (treeK.all HL4.out.tr HL4.out.tok)
  obtain ⟨c0, c1, c2, c3⟩ := HL4.out.box.cells
  clear KW HL3 HB3 HO3 b4 hsh hrd
  obtain ⟨q, Hq⟩ : ∃ q, Hid (tg.l.length = q) := ⟨_, Lib.hid rfl⟩
  unfold AllC at KA
  rw [Hq.out] at KA
  have hqs : r.length + q = s := by rw [← Hq.out, ← HL.out.parts.len]; exact Hs.out
  go_upto_block 0 with (go_at_call 59; refine KA.out.mono ?_; rintro e W5 ⟨pe, ce, rfl, oe, b5⟩)
  have HE5 := Lib.hid (own_zero oe)
  have HB5 := Lib.hid (below_tr HB4.out b5)
  have HO5 := Lib.hid (owns_below HO4.out b5)
  clear KA HL4 HB4 HO4 oe b5 c0 c1 c2 c3
  have HMg := Lib.hid HL.out.parts.merge
  have HRr := Lib.hid HL.out.parts.rr
  go_cut [3, 4] (fun v3 v4 wx => ∃ (p : Option Addr) (c m : Nat) (vr : Value) (rr : List En) (acc : List Value), v3 = .slice p m c ∧ v4 = vr ∧ Hid (RowAt w1 vr rr) ∧ m + rr.length = s ∧ Hid (wx.ownsRow w1.heap.size 32 1 (.slice p m c) m acc) ∧ Hid (Below w1.heap.size w1 wx) ∧ Hid (acc ++ rr.map hV = g.l.map hV))
  case first =>
    go_wp2_with fail
    go_loopg [3, 4, 22] q (fun k v3 v4 v22 wx => ∃ (j : Nat) (p : Option Addr) (c m : Nat) (vr : Value) (rr : List En) (acc : List Value), j + k = q ∧ v3 = .slice p m c ∧ v4 = vr ∧ v22 = .int .i64 (j : Int) ∧ Hid (RowAt w1 vr rr) ∧ Hid (Rises rr) ∧ Hid (vr = .slice none 0 0 ∨ ∃ gh o c', vr = .slice (some ⟨gh, o, none⟩) rr.length c') ∧ m + rr.length + (q - j) = s ∧ Hid (wx.ownsRow w1.heap.size 32 1 (.slice p m c) m acc) ∧ Hid (wx.ownsRow 0 126 3 (.slice pe q ce) q (tg.l.flatMap enC)) ∧ Hid (Below w1.heap.size w1 wx) ∧ Hid (acc ++ (mergeP rr (tg.l.drop j)).map hV = g.l.map hV))
    case atStart => exact ⟨0, _, _, 0, v, r, [], by omega, rfl, rfl, rfl, HR4, HRr, HSh, by omega, HO5, HE5, HB5, Lib.hid (by rw [List.drop_zero, HMg.out, List.nil_append])⟩
    case round =>
    clear HR4 HRr HSh HO5 HE5 HB5 HMg
    obtain ⟨j, p, c, m, vr, rr, acc, hjk, rfl, rfl, rfl, HRa, HRi, HSh, hms, HO, HE, HB, HM⟩ := hrel
    by_cases hjn : j = q
    · have hjz : ¬ (j : Int) < (q : Int) := by omega
      have HF : Hid (acc ++ rr.map hV = g.l.map hV) := by
        have h := HM.out
        rw [hjn, ← Hq.out, List.drop_length] at h
        exact Lib.hid h
      clear HE HM
      go_wp2_with fail
      go_meet
      exact ⟨_, _, _, _, rr, acc, rfl, rfl, HRa, by omega, HO, HB, HF⟩
    · have hjz : (j : Int) < (q : Int) := by omega
      have hj0 : (0 : Int) ≤ (j : Int) := by omega
      have hjl : j < tg.l.length := by rw [Hq.out]; omega
      obtain ⟨y, hy⟩ : ∃ y, tg.l[j] = y := ⟨_, rfl⟩
      have hec := en_cells (l := tg.l) (by rw [Hq.out]; exact HE.out) hjl
      rw [hy] at hec
      obtain ⟨Be, rfl, _, x0, x1, x2⟩ := hec
      have hdr : tg.l.drop j = y :: tg.l.drop (j + 1) := by rw [← hy]; exact List.drop_eq_getElem_cons hjl
      have HDr := Lib.hid hdr
      have hyv : IntKind.u64.wrap y.val = (lateE y).val := late_wrap (HL.out.tok.fits y (by rw [← hy]; exact List.getElem_mem hjl)).2
      have b6 := (Below.refl _ wr).alloc (Nat.le_refl _) (.cells #[.int .u64 (y.key.at_ : Int), .int .u64 (y.key.seq : Int), .int .i64 y.val] 126)
      have y6 := Box.new wr 126 #[.int .u64 (y.key.at_ : Int), .int .u64 (y.key.seq : Int), .int .i64 y.val]
      obtain ⟨eb, HEb⟩ : ∃ eb, Hid (wr.heap.size = eb) := ⟨_, Lib.hid rfl⟩
      obtain ⟨W6, HW6⟩ : ∃ W6, Hid (wr.alloc (.cells #[.int .u64 (y.key.at_ : Int), .int .u64 (y.key.seq : Int), .int .i64 y.val] 126) = W6) := ⟨_, Lib.hid rfl⟩
      rw [HW6.out] at b6 y6
      rw [HEb.out] at y6
      have HB6 := Lib.hid (below_tr HB.out b6)
      have HO6 := Lib.hid (owns_below HO.out b6)
      have HE6 := Lib.hid (owns_below HE.out b6)
      have HY6 := Lib.hid y6
      have d0 := y6.cell 0
      have d1 := y6.cell 1
      have hrrl : rr.length ≤ 65536 := by omega
      have KP0 := f_place (HRa.out.below HB6.out) HRi.out hrrl y.key
      unfold kyV at KP0
      obtain ⟨ah, Hah⟩ : ∃ ah, Hid (below y.key rr = ah) := ⟨_, Lib.hid rfl⟩
      have hahl : ah ≤ rr.length := by rw [← Hah.out]; exact below_le
      rw [Hah.out] at KP0
      have KP := Lib.hid KP0
      clear hy hdr b6 y6 HB HO HE KP0 hjn
      go_upto_region 8 with fail
      rw [HW6.out, HEb.out]
      clear x0 x1 x2 HW6 HEb
      go_upto_region 9 with (go_at_call 60; refine KP.out.mono ?_; rintro e W8 ⟨rfl, b8⟩)
      have HB8 := Lib.hid (below_tr HB6.out b8)
      have HO8 := Lib.hid (owns_below HO6.out b8)
      have HE8 := Lib.hid (owns_below HE6.out b8)
      have HY8 := Lib.hid (HY6.out.below b8 HY6.out.lt)
      clear b8 KP HB6 HO6 HE6 HY6 d0 d1
      obtain ⟨pr, cr, rfl, hcr1, hcr2, _⟩ := HRa.out
      have hlt : (rr.take ah).length = ah := by rw [List.length_take]; omega
      have KA0 := fun wy (bl : Below W8.heap.size W8 wy) => f_app (HRa.out.take hahl) (below_tr HB8.out bl) (owns_below HO8.out bl) (by rw [hlt]; omega)
      rw [hlt] at KA0
      have KA := Lib.hid KA0
      have BLd : Below W8.heap.size W8 (W8.alloc (.cells #[.int .u64 (lateE y).val] 32)).drew := ((Below.refl _ W8).alloc (Nat.le_refl _) _).drew
      have HC : Hid (∀ wy, Below W8.heap.size W8 wy → wy.cell? ⟨eb, 2, none⟩ = some (.int .i64 y.val)) := Lib.hid fun wy bl => (HY8.out.below bl HY8.out.lt).cell 2
      have hne : ¬ (Value.slice p m c).ownBlock = some eb := Box.not_row HY8.out HO8.out (by decide)
      have hnl : ¬ (Value.slice p m c).ownBlock = some W8.heap.size := fun e => by have := (HO8.out.lt _ e).2; omega
      obtain ⟨i0, hi0', hz0, hz1, hz2⟩ := info_parts (P := Try.prog) (e := 32) (z := .int .u64 0) (size := 1) (bytes := 8) (by kernel_rfl)
      have hml : m + ah + 1 ≤ maxLen := by unfold maxLen; omega
      have hw1 := HB8.out.size
      have haz : (ah : Int) ≤ (rr.length : Int) := by omega
      have ha0 : (0 : Int) ≤ (ah : Int) := by omega
      have hcz : (rr.length : Int) ≤ (cr : Int) := by omega
      have hacz : (ah : Int) ≤ (cr : Int) := by omega
      clear KA0 hlt
      go_cut [3] (fun v3 wx => ∃ (V : World) (p5 : Option Addr) (c5 : Nat), V = wx ∧ v3 = .slice p5 (m + ah + 1) c5 ∧ Hid (V.ownsRow w1.heap.size 32 1 (.slice p5 (m + ah + 1) c5) (m + ah + 1) (acc ++ (rr.take ah).map hV ++ [hV (lateE y)])) ∧ Hid (Turned (fun k => (Value.slice p m c).ownBlock = some k) W8 V))
      case first =>
        go_region_held3 (fun wy => wy.cell? ⟨eb, 2, none⟩ = some (.int .i64 y.val))
          (first | exact HC.out _ (Below.refl _ _).drew | exact HC.out _ BLd | exact k9 | exact k5 | go_keep)
          (first
            | (go_at_call 61; (first
              | (refine Calls.mono (KA.out _ (Below.refl _ W8).drew) ?_; rintro e W9 ⟨p9, c9, rfl, o9, T9, G9⟩; have k9 : W9.cell? ⟨eb, 2, none⟩ = some (.int .i64 y.val) := ((HY8.out.below (Below.refl _ W8).drew HY8.out.lt).turned T9 hne).cell 2; have A9 := ((Turned.below (Below.refl _ W8).drew).trans T9).trans (Turned.below ((Below.refl _ W9).alloc (Nat.le_refl _) (.cells #[.int .u64 (lateE y).val] 32))); have HT9 := Lib.hid (Nat.le_trans hw1 T9.size))
              | (refine Calls.mono (KA.out _ BLd) ?_; rintro e W9 ⟨p9, c9, rfl, o9, T9, G9⟩; have k9 : W9.cell? ⟨eb, 2, none⟩ = some (.int .i64 y.val) := ((HY8.out.below BLd HY8.out.lt).turned T9 hne).cell 2; have A9 := (Turned.below BLd).trans T9; have L9 : W9.ownsRow 0 32 1 (.slice (some ⟨W8.heap.size, 0, none⟩) 1 1) 1 [.int .u64 (lateE y).val] := own_turnedV (owns_below (lit_one W8 (.int .u64 (lateE y).val)) (Below.refl _ _).drew) (fun k hk e => hnl (by cases e; exact hk)) T9; have HT9 := Lib.hid (Nat.le_trans hw1 A9.size))))
            | (refine step_append_any (by rfl) (.tmp 34) (.tmp 38) _ (by rfl) w1.heap.size 32 i0 (.int .u64 0) 1 8 Try.underlying38 hi0' hz0 hz1 hz2 rfl (by decide) (.slice p9 (m + ah) c9) (m + ah) _ (by rfl) (o9.alloc (.cells #[.int .u64 (lateE y).val] 32)) 0 _ 1 [.int .u64 (lateE y).val] (by rfl) (lit_one W9 _) (by intro u hu; simp at hu; subst hu; rfl) (m + ah + 1) rfl hml (by omega) (by rw [World.size_alloc]; have := HT9.out; omega) ?_; intro p5 c5 w5 own5 gr5 loc5; have T5 := Grew.turned (W := W8) G9 A9 gr5; have k5 : w5.cell? ⟨eb, 2, none⟩ = some (.int .i64 y.val) := (HY8.out.turned T5 hne).cell 2)
            | (refine step_append_any (by rfl) (.tmp 34) (.tmp 38) _ (by rfl) w1.heap.size 32 i0 (.int .u64 0) 1 8 Try.underlying38 hi0' hz0 hz1 hz2 rfl (by decide) (.slice p9 (m + ah) c9) (m + ah) _ (by rfl) o9 0 _ 1 [.int .u64 (lateE y).val] (by rfl) L9 (by intro u hu; simp at hu; subst hu; rfl) (m + ah + 1) rfl hml (by omega) (by have := HT9.out; omega) ?_; intro p5 c5 w5 own5 gr5 loc5; have T5 := Grew.turned (W := W8) (Grew.mono BLd.size G9) A9 gr5; have k5 : w5.cell? ⟨eb, 2, none⟩ = some (.int .i64 y.val) := (HY8.out.turned T5 hne).cell 2))
        all_goals
          have HF5 := Lib.hid own5
          have HF6 := Lib.hid T5
          clear own5 T5 gr5 loc5 o9 T9 G9 k9 k5 A9 HT9
          go_wp2_with fail
          go_meet
          exact ⟨_, p5, c5, rfl, rfl, HF5, HF6⟩
      case rest =>
      obtain ⟨V, p5, c5, rfl, rfl, HO5, HT5⟩ := hcut
      have HBV : Hid (Below w1.heap.size w1 V) := Lib.hid (below_turned HT5.out HB8.out.size (fun k hk => (HO8.out.lt k hk).1) HB8.out)
      have HEV : Hid (V.ownsRow 0 126 3 (.slice (some ⟨Be, 0, none⟩) q ce) q (tg.l.flatMap enC)) := Lib.hid (own_turnedV HE8.out (fun k hk e => by
        rcases own_ne2 HO8.out HE8.out (by decide) with e1 | e1
        · rw [e1] at hk; cases hk
        · exact e1 (hk.trans e.symm)) HT5.out)
      have HMV : Hid ((acc ++ (rr.take ah).map hV ++ [hV (lateE y)]) ++ (mergeP (rr.drop ah) (tg.l.drop (j + 1))).map hV = g.l.map hV) := Lib.hid (by
        have h := HM.out
        rw [HDr.out, mergeP, Hah.out, List.map_append, List.map_cons] at h
        rw [← h]
        simp)
      have HRV : Hid (Rises (rr.drop ah)) := Lib.hid (HRi.out.sublist (List.drop_sublist _ _))
      have hdl : (rr.drop ah).length = rr.length - ah := List.length_drop
      have HDl := Lib.hid hdl
      have hwj : IntKind.i64.wrap ((j : Int) + 1) = ((j + 1 : Nat) : Int) := by rw [IntKind.wrap_i64]; omega
      clear HC hne hnl hi0' hz0 hz1 hz2 hml KA HO8 HE8 HY8 HB8 hdl hw1
      rcases HSh.out with e | ⟨gh, o, c', e⟩
      · have e1 : pr = none ∧ rr.length = 0 ∧ cr = 0 := by
          injection e with e1 e2 e3
          exact ⟨e1, e2, e3⟩
        obtain ⟨rfl, hl, rfl⟩ := e1
        obtain rfl : rr = [] := List.eq_nil_of_length_eq_zero hl
        obtain rfl : ah = 0 := by simpa using hahl
        have HR1 : Hid (RowAt w1 (.slice none 0 0) (List.drop 0 [])) := Lib.hid ⟨none, 0, rfl, Nat.le_refl _, by omega, fun i e he => by simp at he⟩
        have hm2 : m + 0 = s - (q - j) := by simp only [List.length_nil] at hms; omega
        have HMm := Lib.hid hm2
        clear e hl hm2
        go_wp2_with fail
        go_roundg (q - (j + 1))
        case measure => omega
        case rel => exact ⟨j + 1, p5, c5, m + 0 + 1, .slice none 0 0, List.drop 0 [], _, by omega, rfl, rfl, by go_num, HR1, HRV, Lib.hid (.inl rfl), by simp only [List.drop_nil, List.length_nil] at hms ⊢; omega, HO5, HEV, HBV, HMV⟩
      · cases e
        by_cases hca : cr = ah
        · have hz : (rr.drop ah).length = 0 := by rw [HDl.out]; omega
          have HZ := Lib.hid hz
          have HR1 : Hid (RowAt w1 (.slice (some ⟨gh, o, none⟩) 0 0) (rr.drop ah)) := Lib.hid ⟨_, _, by rw [HZ.out], by rw [HZ.out]; omega, by omega, fun i e he => by
            have h := (List.getElem?_eq_some_iff.1 he).1
            rw [HZ.out] at h
            omega⟩
          have hm2 : m + ah + 1 + 0 + (q - (j + 1)) = s := by rw [HDl.out] at hz; omega
          have HMm := Lib.hid hm2
          clear hz hm2
          subst hca
          go_wp2_with fail
          go_roundg (q - (j + 1))
          case measure => omega
          case rel => exact ⟨j + 1, p5, c5, m + cr + 1, _, rr.drop cr, _, by omega, rfl, rfl, by go_num, HR1, HRV, Lib.hid (.inr ⟨gh, o, 0, by rw [HZ.out]⟩), by rw [HZ.out]; exact HMm.out, HO5, HEV, HBV, HMV⟩
        · have HR1 : Hid (RowAt w1 (.slice (some ⟨gh, o + ah * 3, none⟩) (rr.length - ah) (cr - ah)) (rr.drop ah)) := Lib.hid (HRa.out.dropped hahl hca)
          go_wp2_with fail
          go_roundg (q - (j + 1))
          case measure => omega
          case rel => exact ⟨j + 1, p5, c5, m + ah + 1, _, rr.drop ah, _, by omega, rfl, rfl, by go_num, HR1, HRV, Lib.hid (.inr ⟨gh, _, _, by rw [HDl.out]⟩), by rw [HDl.out]; omega, HO5, HEV, HBV, HMV⟩
  case rest =>
  obtain ⟨p, c, m, vr, rr, acc, rfl, rfl, HRa, hms, HO, HB, HM⟩ := hcut
  have KQ := Lib.hid (f_app HRa.out HB.out HO.out (by omega))
  have hHl : Hid (m + rr.length = s) := Lib.hid hms
  rw [hHl.out] at KQ
  have HB9 := HB.out
  go_wp2_with fail
  refine KQ.out.mono ?_
  rintro e W9 ⟨p9, c9, rfl, o9, T9, _⟩
  have HE9 : Hid (W9.ownsRow w1.heap.size 32 1 (.slice p9 s c9) s (g.l.map hV)) := by rw [← HM.out]; exact Lib.hid o9
  have HF9 : Hid (Below w1.heap.size w1 W9) := Lib.hid (below_turned T9 HB.out.size (fun k hk => (HO.out.lt k hk).1) HB.out)
  clear o9 T9 KQ
  go_wp2_with fail
  go_ret
  exact ⟨p9, c9, rfl, HE9.out, HF9.out⟩

end Go.Proofs.Ytkiibobpejoaeaa
