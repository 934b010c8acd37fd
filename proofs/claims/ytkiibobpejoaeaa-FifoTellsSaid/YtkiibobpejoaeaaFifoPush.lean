/-
  The program's own queue: Push.
-/
import Derived.Test.YtkiibobpejoaeaaFifoLen
import Derived.Deep.AppendLies
namespace Go.Proofs.Ytkiibobpejoaeaa
open Go.RowKit
set_option linter.unusedVariables false
set_option maxRecDepth 100000
set_option linter.unusedSimpArgs false

set_option maxHeartbeats 4000000 in
set_option maxRecDepth 100000 in
theorem f_push {w : World} {N : Nat → Prop} {a : Addr} {g : Fg} (h : AtF N w a g) (ok : g.Ok) (v : Int) (hv : Hw v) (k : Ky) (hk : k.Fits) :
    Calls Try.prog 23 #[.pointer (some a), .int .u64 v, kyV k] w fun e w' => e = .returned (.int .i64 (putE g.room g.l k : Nat)) ∧ WentG AtF N w a ⟨g.room, putL g.room g.l k v⟩ w' := by
  obtain ⟨b, ta, NT, rv, gone, P, r, tg, rfl, h1, hN⟩ := h
  have hsm := parts_small ok h1.parts
  have bl := (Below.refl _ w).alloc (Nat.le_refl _) (.cells #[.int .u64 (k.at_ : Int), .int .u64 (k.seq : Int)] 68)
  have y1 := Box.new w 68 #[.int .u64 (k.at_ : Int), .int .u64 (k.seq : Int)]
  obtain ⟨kb, HKb⟩ : ∃ kb, Hid (w.heap.size = kb) := ⟨_, Lib.hid rfl⟩
  obtain ⟨W1, HW⟩ : ∃ W1, Hid (w.alloc (.cells #[.int .u64 (k.at_ : Int), .int .u64 (k.seq : Int)] 68) = W1) := ⟨_, Lib.hid rfl⟩
  rw [HW.out] at y1 bl
  rw [HKb.out] at y1
  have HY := Lib.hid y1
  have HB1 := Lib.hid bl
  have HL := Lib.hid (h1.below bl)
  have HL0 := Lib.hid h1
  have KM := Lib.hid (f_made HL.out.box)
  have KH0 := f_has HL.out hsm.1 k hk
  unfold kyV at KH0
  have KH := Lib.hid KH0
  have HN := Lib.hid hN
  have HOk := Lib.hid ok
  have HKf := Lib.hid hk
  have HV := Lib.hid hv
  have c0 := y1.cell 0
  have c1 := y1.cell 1
  obtain ⟨t, Ht⟩ : ∃ t, Hid ((getL k g.l).isSome = t) := ⟨_, Lib.hid rfl⟩
  rw [Ht.out] at KH
  obtain ⟨q, Hq⟩ : ∃ q, Hid (g.l.length = q) := ⟨_, Lib.hid rfl⟩
  have hq1 : q ≤ g.room := by rw [← Hq.out]; exact ok.room
  have hq2 := ok.small
  obtain ⟨e, HE⟩ : ∃ e, Hid (putE g.room g.l k = e) := ⟨_, Lib.hid rfl⟩
  have hE : e = if t = true then 60 else if g.room ≤ q then 4 else 0 := by
    rw [← HE.out]
    unfold putE
    rw [Ht.out, Hq.out]
  have HPL : Hid (¬ e = 0 → putL g.room g.l k v = g.l) := Lib.hid fun h0 => by
    unfold putL
    rw [HE.out, if_neg h0]
  have HPI : Hid (e = 0 → putL g.room g.l k v = insL k v g.l) := Lib.hid fun h0 => by
    unfold putL
    rw [HE.out, if_pos h0]
  rw [HE.out]
  unfold kyV
  clear bl y1 h1 hN ok KH0 hk hv
  go_enter Try.func23, Try.ntmps23
  go_upto_region 1 with fail
  rw [HW.out, HKb.out]
  go_upto_region 3 with (go_at_call 48; refine KM.out.mono ?_; rintro e w1 ⟨rfl, rfl⟩)
  cases t with
  | true =>
    have he : e = 60 := hE
    have HW9 : Hid (∀ wy, Below w1.heap.size w1 wy → WentG AtF N w ⟨b, 0, none⟩ ⟨g.room, putL g.room g.l k v⟩ wy) := Lib.hid fun wy bl => by
      rw [HPL.out (by omega)]
      exact ⟨N, ⟨b, ta, NT, rv, gone, P, r, tg, rfl, HL.out.below bl, HN.out⟩, Turned.below (below_tr HB1.out bl), fun k hk => .inl hk⟩
    subst he
    clear hE
    go_wp2_with (go_at_call 49; refine KH.out.mono ?_; rintro e w2 ⟨rfl, b2⟩)
    go_ret
    exact ⟨rfl, HW9.out _ b2⟩
  | false =>
  go_upto_region 5 with (go_at_call 49; refine KH.out.mono ?_; rintro e w2 ⟨rfl, b2⟩)
  have HB2 := Lib.hid (below_tr HB1.out b2)
  have HY2 := Lib.hid (HY.out.below b2 HY.out.lt)
  have HL2 := Lib.hid (HL.out.below b2)
  clear b2 KM KH HY HB1 HL
  have KL0 := fun wy (bl : Below w2.heap.size w2 wy) => f_len (HL2.out.below bl) (by omega)
  rw [Hq.out] at KL0
  have KL := Lib.hid KL0
  have KR0 := fun wy (bl : Below w2.heap.size w2 wy) => let F := HL2.out.below bl; treeK.room F.tr F.tok
  rw [HL2.out.troom] at KR0
  have KR := Lib.hid KR0
  have HC : Hid (∀ wy, Below w2.heap.size w2 wy → wy.cell? ⟨b, 3, none⟩ = some (.pointer (some ta))) := Lib.hid fun wy bl => (HL2.out.below bl).box.cells.2.2.2
  obtain ⟨t2, Ht2⟩ : ∃ t, Hid (decide (q = g.room) = t) := ⟨_, Lib.hid rfl⟩
  have ht2 : ((q : Int) == (g.room : Int)) = t2 := by
    rw [← Ht2.out, Bool.eq_iff_iff, beq_iff_eq, decide_eq_true_iff]
    omega
  clear KL0 KR0
  go_cut [20] (fun v20 wx => ∃ V : World, V = wx ∧ v20 = .bool t2 ∧ Hid (Below w2.heap.size w2 V))
  case first =>
    go_region_held3 (fun wy => wy.cell? ⟨b, 3, none⟩ = some (.pointer (some ta)))
      (first | exact HC.out _ (Below.refl _ _).drew | exact HC.out _ (by assumption))
      (first
        | (go_at_call 29; (first | (refine Calls.mono (KL.out _ (Below.refl _ _).drew) ?_; rintro e W2 ⟨rfl, b2⟩; have bb := below_tr (Below.refl _ w2).drew b2) | (refine Calls.mono (KL.out _ (by assumption)) ?_; rintro e W2 ⟨rfl, b2⟩; have bc := below_tr (by assumption) b2)))
        | (go_at_call 50; (first | (refine Calls.mono (KR.out _ (Below.refl _ _).drew) ?_; rintro e W2 ⟨rfl, b2⟩; have bb := below_tr (Below.refl _ w2).drew b2) | (refine Calls.mono (KR.out _ (by assumption)) ?_; rintro e W2 ⟨rfl, b2⟩; have bc := below_tr (by assumption) b2))))
    all_goals
      have HF := Lib.hid bc
      clear bb bc b2 KL KR HC
      go_wp2_with fail
      go_meet
      exact ⟨_, rfl, rfl, HF⟩
  case rest =>
  obtain ⟨V, rfl, rfl, HV3⟩ := hcut
  have HB3 := Lib.hid (below_tr HB2.out HV3.out)
  have HY3 := Lib.hid (HY2.out.below HV3.out HY2.out.lt)
  have HL3 := Lib.hid (HL2.out.below HV3.out)
  clear HC KL KR HB2 HY2 HL2 HV3 c0 c1 ht2
  have c0 := HY3.out.cell 0
  have c1 := HY3.out.cell 1
  cases t2 with
  | true =>
    have hqr : q = g.room := by simpa using Ht2.out
    have he : e = 4 := by rw [hE, if_neg (by decide), if_pos (by omega)]
    have HW9 : Hid (WentG AtF N w ⟨b, 0, none⟩ ⟨g.room, putL g.room g.l k v⟩ V) := by
      rw [HPL.out (by omega)]
      exact Lib.hid ⟨N, ⟨b, ta, NT, rv, gone, P, r, tg, rfl, HL3.out, HN.out⟩, Turned.below HB3.out, fun k hk => .inl hk⟩
    subst he
    clear hE hqr
    go_wp2_with fail
    go_ret
    exact ⟨rfl, HW9.out⟩
  | false =>
  have hqr : q < g.room := by
    have := of_decide_eq_false Ht2.out
    omega
  have he : e = 0 := by rw [hE, if_neg (by decide), if_neg (by omega)]
  subst he
  have HIn := Lib.hid (HPI.out rfl)
  have KO0 := f_inOrder HL3.out hsm.1 k
  unfold kyV at KO0
  have KO := Lib.hid KO0
  obtain ⟨io, Hio⟩ : ∃ t, Hid (inO k r = t) := ⟨_, Lib.hid rfl⟩
  rw [Hio.out] at KO
  have Hqr := Lib.hid hqr
  clear KO0 hE HPL HPI HE hqr
  cases io with
  | false =>
    go_upto_region 8 with (go_at_call 51; refine KO.out.mono ?_; rintro e W4 ⟨rfl, b4⟩)
    have HB4 := Lib.hid (below_tr HB3.out b4)
    have HY4 := HY3.out.below b4 HY3.out.lt
    have HL4 := Lib.hid (HL3.out.below b4)
    obtain ⟨e0, e1, e2, e3⟩ := HL4.out.box.cells
    have d0 := HY4.cell 0
    have d1 := HY4.cell 1
    have htv : IntKind.i64.wrap v = toI v := by
      have := HV.out
      unfold Hw at this
      unfold toI
      rw [IntKind.wrap_i64]
      split <;> omega
    have hnt : getL k tg.l = none := by
      have h9 := Ht.out
      rw [HL0.out.parts.has k, Bool.or_eq_false_iff] at h9
      cases h8 : getL k tg.l with
      | none => rfl
      | some z => rw [h8] at h9; exact absurd h9.2 (by simp)
    have hpe : putE g.room tg.l k = 0 := by
      unfold putE
      rw [hnt]
      have h9 := HL0.out.parts.len
      have h8 := Hq.out
      have h7 := Hqr.out
      simp only [Option.isSome_none, Bool.false_eq_true, if_false]
      rw [if_neg (by omega)]
    have hpl : putL g.room tg.l k (toI v) = insL k (toI v) tg.l := by
      unfold putL
      rw [if_pos hpe]
    have KP0 := treeK.put k (toI v) (HL4.out.below (Below.refl _ _).drew).tr HL4.out.tok HKf.out ⟨(toI_fits HV.out).1, (toI_fits HV.out).2⟩
    rw [HL4.out.troom, hpe, hpl] at KP0
    unfold kyV at KP0
    have KP := Lib.hid KP0
    clear hpl hpe hnt KP0 b4 KO HB3 HL3 HY3 HY4 c0 c1
    go_still_tail 7, (by kernel_rfl)
    change wpList _ _ _ _ _ W4.drew
    go_wp2_with fail
    refine KP.out.mono ?_
    rintro e W5 ⟨rfl, T⟩
    have HE5 : Hid (WentG AtF N w ⟨b, 0, none⟩ ⟨g.room, putL g.room g.l k v⟩ W5) := by
      rw [HIn.out]
      exact Lib.hid (WentW.g (show WentW N w W4 _ _ _ from went_tree (W := W4.drew) HN.out (below_tr HB4.out (Below.refl _ W4).drew) (HL4.out.below (Below.refl _ _).drew) (HL0.out.parts.late HV.out Ht.out) T) HB4.out.size)
    clear T KP
    go_wp2_with fail
    go_ret
    exact ⟨rfl, HE5.out⟩
  | true =>
    go_upto_region 9 with (go_at_call 51; refine KO.out.mono ?_; rintro e W4 ⟨rfl, b4⟩)
    have HB4 := Lib.hid (below_tr HB3.out b4)
    have HY4 := HY3.out.below b4 HY3.out.lt
    have HL4 := Lib.hid (HL3.out.below b4)
    obtain ⟨p, c, rfl⟩ := owns_slice HL4.out.row
    obtain ⟨e0, e1, e2, e3⟩ := HL4.out.box.cells
    have d0 := HY4.cell 0
    have d1 := HY4.cell 1
    have A1 := Lib.hid (HL4.out.below (((Below.refl _ W4).alloc (Nat.le_refl _) (.cells #[.int .u64 v, .int .u64 (k.at_ : Int), .int .u64 (k.seq : Int)] 116)).drew))
    have r5 := A1.out.row
    have cA : (W4.alloc (.cells #[.int .u64 v, .int .u64 (k.at_ : Int), .int .u64 (k.seq : Int)] 116)).cell? ⟨b, 1, none⟩ = some (.slice p P.length c) := A1.out.box.cells.2.1
    obtain ⟨inf, hi1, hi2, hi3, hi4⟩ := info_parts (P := Try.prog) (e := 116) (z := .agg #[.int .u64 0, .int .u64 0, .int .u64 0]) (size := 3) (bytes := 24) (by kernel_rfl)
    have hPs : P.length ≤ 131072 := by
      have e1 := congrArg List.length HL0.out.drop
      have e2 := HL0.out.gr
      rw [List.length_drop] at e1
      omega
    have hml : P.length + 1 ≤ maxLen := by unfold maxLen; omega
    have hnb : (Value.slice p P.length c).ownBlock ≠ some b := Box.not_row (show Box W4 b _ _ from HL4.out.box) HL4.out.row (by decide)
    have hbW := HL4.out.box.lt
    have HIO := Lib.hid (HL0.out.parts.push (v := v) Ht.out (inO_all HL0.out.parts.rr Hio.out))
    clear b4 KO HB3 HL3 HY3 HY4 c0 c1
    go_cut [] (fun wx => ∃ V5 : World, V5 = wx ∧ Hid (WentG AtF N w ⟨b, 0, none⟩ ⟨g.room, putL g.room g.l k v⟩ V5))
    case first =>
      go_region_law
        ((refine step_append_lies _ (by rfl) (.tmp 37) (.tmp 41) _ (by rfl) 0 116 inf _ 3 24 Try.underlying110 hi1 hi2 hi3 hi4 rfl (by omega) (.slice p P.length c) P.length _ (by rfl) r5
            ⟨W4.heap.size, 0, none⟩ 1 1 [.int .u64 v, .int .u64 (k.at_ : Int), .int .u64 (k.seq : Int)] (by rfl) (by rfl) (World.news_of_block (cs := #[.int .u64 v, .int .u64 (k.at_ : Int), .int .u64 (k.seq : Int)]) (t := 116) (fr := (0, 0)) (heap_alloc_new W4 _)) (by simp [Value.oneCell']) (by omega) hml (by omega) (by simp) (W4.heap.size + 1) (by simp) ?_; intro gg cap w5 own5 gr5 hat hlt; have HOwn := Lib.hid own5; have HGr := Lib.hid gr5; have HAt := Lib.hid hat; have d2 := (gr5.cell_far ⟨b, 1, none⟩ (by simp; omega) (fun e => hnb e.symm)).trans cA; have f2 := (Box.grown (show Box _ b _ _ from A1.out.box) gr5 (fun e => hnb e.symm)).frozen 1; clear own5 gr5 hat hlt))
      all_goals
        have T6 := Turned.set (N := fun k => k = b ∨ (Value.slice p P.length c).ownBlock = some k) (b := b) (i := 1) ((Turned.refl _ _).grown HGr.out (fun k hk _ => .inr hk)) (.inl rfl) (.slice (some ⟨gg, 0, none⟩) (P.length + 1) cap)
        have hel : (P ++ [(⟨k, v⟩ : En)]).length = P.length + 1 := by simp
        have F6 : FLie (w5.setCell ⟨b, 1, none⟩ (.slice (some ⟨gg, 0, none⟩) (P.length + 1) cap)) b ta NT (.slice (some ⟨gg, 0, none⟩) (P.length + 1) cap) gone (P ++ [⟨k, v⟩]) (r ++ [⟨k, v⟩]) tg ⟨g.room, putL g.room g.l k v⟩ := by
          refine ⟨Box.set (Box.grown (show Box _ b _ _ from A1.out.box) HGr.out (fun e => hnb e.symm)) 1 _, treeK.kept A1.out.tr (fun k hk => T6.block k (treeK.lt A1.out.tr k hk) (fun e => ?_)) T6.size, A1.out.tok, A1.out.troom, ?_, ?_, ?_, ?_, ?_, A1.out.nb, fun k hk e => ?_⟩
          · rcases e with rfl | e
            · exact A1.out.nb hk
            · exact A1.out.nr k hk e
          · rw [hel, List.flatMap_append]
            exact Box.row (Box.grown (show Box _ b _ _ from A1.out.box) HGr.out (fun e => hnb e.symm)) HOwn.out (by decide)
          · rw [List.drop_append_of_le_length A1.out.gl, A1.out.drop]
          · rw [hel]; have := A1.out.gl; omega
          · rw [List.length_append, List.length_singleton]; have := A1.out.gr; omega
          · show Parts (putL g.room g.l k v) _ _
            rw [HIn.out]
            exact HIO.out
          · have h9 := treeK.lt A1.out.tr k hk
            have e2 : gg = k := by simpa [Value.ownBlock] using e
            rcases HAt.out with h8 | h8
            · exact A1.out.nr k hk (by rw [h8, e2])
            · have h7 : k < W4.heap.size := treeK.lt HL4.out.tr k hk
              omega
        have HW6 := Lib.hid ((went_row HN.out (below_tr HB4.out (((Below.refl _ W4).alloc (Nat.le_refl _) (.cells #[.int .u64 v, .int .u64 (k.at_ : Int), .int .u64 (k.seq : Int)] 116)).drew)) F6 T6 (by
          rcases HAt.out with h8 | h8
          · exact .inl h8.symm
          · refine .inr ⟨gg, rfl, ?_⟩
            show (W4.alloc _).heap.size ≤ gg
            rw [World.size_alloc]
            omega)).g (below_tr HB4.out (((Below.refl _ W4).alloc (Nat.le_refl _) (.cells #[.int .u64 v, .int .u64 (k.at_ : Int), .int .u64 (k.seq : Int)] 116)).drew)).size)
        clear T6 F6 hel d2 f2 cA d0 d1 e0 e1 e2 e3 r5
        go_wp2_with fail
        go_meet
        exact ⟨_, rfl, HW6⟩
    case rest =>
    obtain ⟨V5, rfl, HE5⟩ := hcut
    go_wp2_with fail
    go_ret
    exact ⟨rfl, HE5.out⟩

end Go.Proofs.Ytkiibobpejoaeaa
