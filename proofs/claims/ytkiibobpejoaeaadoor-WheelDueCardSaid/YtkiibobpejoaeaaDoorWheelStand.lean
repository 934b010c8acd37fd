/-
  The program's own wheel: stand (a thing is put into its slot) and first (the first slot in which one stands).
-/
import Derived.Test.YtkiibobpejoaeaaDoorWheelFirst
import Derived.Test.YtkiibobpejoaeaaDoorKept
import Derived.Deep.AppendLies
import Derived.Deep.RegionLaw
import Derived.StillTailTactics
namespace Go.Proofs.YtkiibobpejoaeaaDoor
open Go.RowKit
set_option linter.unusedVariables false
set_option linter.unusedSimpArgs false

theorem add_last {n1 S cur : Nat} (hn : n1 + 1 = S) (h2 : S ≤ 4096) (h3 : cur < 18446744073709551616) : Num.add (cur : Int) (n1 : Int) = ((lastW S cur : Nat) : Int) := by
  unfold Num.add Num.kept lastW
  split <;> omega
theorem clamp_stand {S cur s : Nat} (hc : cur < 18446744073709551616) : Num.clamp (s : Int) (cur : Int) ((lastW S cur : Nat) : Int) = ((standW S cur s : Nat) : Int) := by
  have h : cur ≤ lastW S cur := by unfold lastW; omega
  unfold Num.clamp standW
  by_cases c : s < cur
  · rw [if_pos (Or.inl (by omega)), if_pos c]
  · rw [if_neg (by omega), if_neg c]
    by_cases c2 : lastW S cur < s
    · rw [if_pos (by omega), if_pos c2]
    · rw [if_neg (by omega), if_neg c2]
/-- The wheel behind a step: m is told, where the rows are. -/
theorem went_w {N : Nat → Prop} {w w' : World} {b gs S : Nat} {fa : Addr} {NB : Nat → Prop} {sv sv' : Nat → Value} {dv dv' : Value} {m' : Nat → Bool} {s' : Ws} (hN : ∀ k, N k ↔ OwnW b gs S NB sv dv k) (h : WLie w' b gs fa NB sv' dv' m' s') (hm : ∀ p, m' p = true ↔ p < s'.S ∧ s'.R p ≠ []) (hS : s'.S = S)
    (hsv : ∀ p, p < S → ∀ k, (sv' p).ownBlock = some k → (∃ q, q < S ∧ (sv q).ownBlock = some k) ∨ w.heap.size ≤ k) (hdv : ∀ k, dv'.ownBlock = some k → dv.ownBlock = some k ∨ w.heap.size ≤ k) (t : Turned (OwnW b gs S NB sv dv) w w') : WentG WAt N w ⟨b, 0, none⟩ s' w' := by
  refine ⟨OwnW b gs s'.S NB sv' dv', ⟨b, gs, fa, NB, sv', dv', m', rfl, h, hm, fun k => Iff.rfl⟩, ⟨t.os, t.tape, t.output, t.size, fun k hk hn => t.block k hk (fun ho => hn ((hN k).2 ho))⟩, ?_⟩
  rw [hS]
  rintro k (e | e | hk | ⟨p, hp, hk⟩ | hk)
  · exact .inl ((hN k).2 (.inl e))
  · exact .inl ((hN k).2 (.inr (.inl e)))
  · exact .inl ((hN k).2 (.inr (.inr (.inl hk))))
  · rcases hsv p hp k hk with h | h
    · exact .inl ((hN k).2 (.inr (.inr (.inr (.inl h)))))
    · exact .inr h
  · rcases hdv k hk with h | h
    · exact .inl ((hN k).2 (.inr (.inr (.inr (.inr h)))))
    · exact .inr h

theorem Turned.less {N N' : Nat → Prop} {w w' : World} (hn : ∀ k, N k → N' k) (t : Turned N w w') : Turned N' w w' := ⟨t.os, t.tape, t.output, t.size, fun k hk h => t.block k hk (fun h' => h (hn k h'))⟩
theorem set_mark_iff {S p q : Nat} {m : Nat → Bool} (hp : p < S) : (setG ⟨S, m⟩ (p : Int)).m q = true ↔ q = p ∨ m q = true := by
  unfold setG newB
  cases e : m p
  · rw [if_pos (by simp [hp, e])]
    show setB m p true q = true ↔ _
    unfold setB
    by_cases c : q = p
    · simp [c]
    · simp [c]
  · rw [if_neg (by simp [e])]
    constructor
    · exact .inr
    · rintro (rfl | h)
      · exact e
      · exact h
theorem setG_n {S : Nat} {m : Nat → Bool} {i : Int} : setG ⟨S, m⟩ i = ⟨S, (setG ⟨S, m⟩ i).m⟩ := by
  unfold setG
  split <;> rfl
theorem clear_mark_iff {S p q : Nat} {m : Nat → Bool} (hp : p < S) : (clearG ⟨S, m⟩ (p : Int)).m q = true ↔ q ≠ p ∧ m q = true := by
  unfold clearG hasB
  cases e : m p
  · rw [if_neg (by simp [e])]
    constructor
    · intro h
      exact ⟨fun c => (by rw [c] at h; exact absurd (h.symm.trans e) (by decide)), h⟩
    · exact fun h => h.2
  · rw [if_pos (by simp [hp, e])]
    show setB m p false q = true ↔ _
    unfold setB
    by_cases c : q = p
    · simp [c]
    · simp [c]
theorem clearG_n {S : Nat} {m : Nat → Bool} {i : Int} : clearG ⟨S, m⟩ i = ⟨S, (clearG ⟨S, m⟩ i).m⟩ := by
  unfold clearG
  split <;> rfl
section
variable {w w' : World} {b gs : Nat} {fa : Addr} {NB : Nat → Prop} {sv : Nat → Value} {dv : Value} {m : Nat → Bool} {s : Ws}
/-- Behind an append to a slot's row. -/
theorem WLie.put (h : WLie w b gs fa NB sv dv m s) {p : Nat} (hp : p < s.S) {w5 : World} {gg cap : Nat} {y : Tw} (g5 : w.grownBy w5 (sv p).ownBlock) (o5 : w5.ownsRow 0 67 3 (.slice (some ⟨gg, 0, none⟩) ((s.R p).length + 1) cap) ((s.R p).length + 1) (flatT (s.R p) ++ y.cells)) (hat : (sv p).ownBlock = some gg ∨ gg = w.heap.size) :
    WLie (w5.setCell ⟨gs, p, none⟩ (.slice (some ⟨gg, 0, none⟩) ((s.R p).length + 1) cap)) b gs fa NB (updV sv p (.slice (some ⟨gg, 0, none⟩) ((s.R p).length + 1) cap)) dv m { s with R := updR s.R p (s.R p ++ [y]) } ∧
      ((Value.slice (some ⟨gg, 0, none⟩) ((s.R p).length + 1) cap).ownBlock = (sv p).ownBlock ∨ (Value.slice (some ⟨gg, 0, none⟩) ((s.R p).length + 1) cap).ownBlock = some w.heap.size) ∧
      Turned (OwnW b gs s.S NB sv dv) w (w5.setCell ⟨gs, p, none⟩ (.slice (some ⟨gg, 0, none⟩) ((s.R p).length + 1) cap)) := by
  have hat' : (Value.slice (some ⟨gg, 0, none⟩) ((s.R p).length + 1) cap).ownBlock = (sv p).ownBlock ∨ (Value.slice (some ⟨gg, 0, none⟩) ((s.R p).length + 1) cap).ownBlock = some w.heap.size := by
    rcases hat with e | e
    · exact .inl e.symm
    · exact .inr (by rw [← e]; rfl)
  have o5' : w5.ownsRow 0 67 3 (.slice (some ⟨gg, 0, none⟩) ((s.R p).length + 1) cap) (s.R p ++ [y]).length (flatT (s.R p ++ [y])) := by
    rw [flatT_app, List.length_append, show flatT [y] = y.cells from by simp [flatT]]
    exact o5
  have hb := Box.lt (show Box w b _ _ from h.box)
  have hgs : some gs ≠ (sv p).ownBlock := fun e => h.sl.gr.not_row (h.sl.row p hp) e.symm
  have hset : ∀ k, k ≠ gs → (w5.setCell ⟨gs, p, none⟩ (.slice (some ⟨gg, 0, none⟩) ((s.R p).length + 1) cap)).heap[k]? = w5.heap[k]? := fun k hk => Below.heap_setCell w5 ⟨gs, p, none⟩ _ k hk
  refine ⟨⟨?_, h.sl.put hb hp g5 o5' hat', ?_, h.nbd⟩, hat', ?_⟩
  · exact (hset b h.sl.bg).trans ((g5.block b hb (fun e => h.sl.br p hp e.symm)).trans h.box)
  · refine h.due.kept fun k hk => ?_
    rw [hset k (fun e => h.dg (e ▸ hk)), g5.block k (h.due.lt k hk).2 (fun e => h.dr hp k e.symm hk)]
  · exact ((Turned.refl _ w).grown g5 (fun k e _ => .inr (.inr (.inr (.inl ⟨p, hp, e⟩))))).trans ((Turned.refl _ w5).set (.inr (.inl rfl)) _)
theorem WLie.mark {m' : Nat → Bool} (h : WLie w b gs fa NB sv dv m s) (k : WentB NB w fa ⟨s.S, m'⟩ w') : WLie w' b gs fa NB sv dv m' s := by
  have hb := Box.lt (show Box w b _ _ from h.box)
  exact ⟨(k.2.block b hb h.sl.nbb).trans h.box, h.sl.mark k, h.due.kept fun j hj => k.2.block j (h.due.lt j hj).2 (fun hn => h.nbd j hn hj), h.nbd⟩
theorem WLie.set_mark (h : WLie w b gs fa NB sv dv m s) {p : Nat} (hp : p < s.S) (k : WentB NB w fa (setG ⟨s.S, m⟩ (p : Int)) w') : WLie w' b gs fa NB sv dv (setG ⟨s.S, m⟩ (p : Int)).m s := h.mark (setG_n ▸ k)
theorem WLie.clear_mark (h : WLie w b gs fa NB sv dv m s) {p : Nat} (hp : p < s.S) (k : WentB NB w fa (clearG ⟨s.S, m⟩ (p : Int)) w') : WLie w' b gs fa NB sv dv (clearG ⟨s.S, m⟩ (p : Int)).m s := h.mark (clearG_n ▸ k)
/-- A slot is emptied. -/
theorem WLie.clear (h : WLie w b gs fa NB sv dv m s) {p : Nat} (hp : p < s.S) : WLie (w.setCell ⟨gs, p, none⟩ (.slice none 0 0)) b gs fa NB (updV sv p (.slice none 0 0)) dv m { s with R := updR s.R p [] } := by
  have hb := Box.lt (show Box w b _ _ from h.box)
  exact ⟨(Below.heap_setCell w ⟨gs, p, none⟩ _ b h.sl.bg).trans h.box, h.sl.clear hb hp, tail_set h.due h.dg, h.nbd⟩
end

set_option maxHeartbeats 4000000 in
set_option maxRecDepth 100000 in
/-- stand: a thing is put into its slot, or into the last one that there is. -/
theorem w_stand {N : Nat → Prop} {w : World} {a : Addr} {s : Ws} (h : WAt N w a s) (f : s.Fits) (x : Tw) (hs : x.slot < 18446744073709551616) (hl : (s.R (standW s.S s.cur x.slot % s.S)).length < 65536) :
    Calls Tryd.prog 26 #[.pointer (some a), .agg #[.int .u64 (x.v : Int), .int .u64 (x.slot : Int), .int .u64 (x.turn : Int)]] w fun e w' => e = .returned (.tuple #[]) ∧ WentG WAt N w a { s with R := updR s.R (standW s.S s.cur x.slot % s.S) (s.R (standW s.S s.cur x.slot % s.S) ++ [x.stand s.S s.cur]) } w' := by
  obtain ⟨b, gs, fa, NB, sv, dv, m, rfl, h1, h2, h3⟩ := h
  obtain ⟨S, width, room, cur, waits, turns, R, due⟩ := s
  obtain ⟨s1, s2, w1, w2, hcur, hlen, hword⟩ := f
  obtain ⟨v, slot, turn, at0⟩ := x
  simp only at *
  have hcu := stand_in (slots := S) (s := slot) hcur
  have hla := last_lt (S := S) (cur := cur)
  obtain ⟨st, HSt⟩ : ∃ st, Hid (standW S cur slot = st) := ⟨_, Lib.hid rfl⟩
  obtain ⟨la, HLa⟩ : ∃ la, Hid (lastW S cur = la) := ⟨_, Lib.hid rfl⟩
  obtain ⟨n1, hn1⟩ : ∃ n1, n1 + 1 = S := ⟨S - 1, by omega⟩
  have HA1 := add_last hn1 s2 hcur
  have HC1 := clamp_stand (S := S) (s := slot) hcur
  have HX : Hid (Tw.stand ⟨v, slot, turn, at0⟩ S cur = ⟨v, slot, turn, st⟩) := Lib.hid (by rw [← HSt.out]; rfl)
  rw [HX.out]
  rw [HSt.out] at hl hcu HC1 ⊢
  rw [HLa.out] at HA1 HC1 hcu hla
  obtain ⟨pl, HPl⟩ : ∃ pl, Hid (st % S = pl) := ⟨_, Lib.hid rfl⟩
  have hpl : pl < S := by rw [← HPl.out]; exact Nat.mod_lt _ (by omega)
  rw [HPl.out] at hl ⊢
  have hst : st < 18446744073709551616 := by omega
  have HA := Lib.hid (fun W : World => (addv (cur : Int) (n1 : Int) (la : Int) W ⟨by omega, by omega⟩ ⟨by omega, by omega⟩ HA1).mono fun _ _ (h : _ ∧ W = _) => (⟨h.1, h.2.symm⟩ : _ ∧ _ = W))
  have HC := Lib.hid (fun W : World => (clampv (slot : Int) (cur : Int) (la : Int) (st : Int) W ⟨by omega, by omega⟩ ⟨by omega, by omega⟩ ⟨by omega, by omega⟩ HC1).mono fun _ _ (h : _ ∧ W = _) => (⟨h.1, h.2.symm⟩ : _ ∧ _ = W))
  have HL1 := Lib.hid (h1.below ((Below.refl _ w).alloc (Nat.le_refl _) (.cells #[.int .u64 (v : Int), .int .u64 (slot : Int), .int .u64 (turn : Int)] 67)))
  have HB1 := Lib.hid ((Below.refl _ w).alloc (Nat.le_refl _) (.cells #[.int .u64 (v : Int), .int .u64 (slot : Int), .int .u64 (turn : Int)] 67))
  have HX1 := Lib.hid (Box.new w 67 #[.int .u64 (v : Int), .int .u64 (slot : Int), .int .u64 (turn : Int)])
  have HP := Lib.hid (fun d => w_place (HL1.out.below (below_drewN (Below.refl _ _) d)).box s1 s2 st hst)
  simp only [HPl.out] at HP
  have HL0 := Lib.hid h1
  clear h1 HA1 HC1 HSt HLa
  go_enter Tryd.func26, Tryd.ntmps26
  go_upto_region 1 with fail
  obtain ⟨xb, HXB⟩ : ∃ xb, Hid (w.heap.size = xb) := ⟨_, Lib.hid rfl⟩
  obtain ⟨W1, HW1⟩ : ∃ W1, Hid (w.alloc (.cells #[.int .u64 (v : Int), .int .u64 (slot : Int), .int .u64 (turn : Int)] 67) = W1) := ⟨_, Lib.hid rfl⟩
  rw [HW1.out] at HL1 HB1 HX1 HP ⊢
  rw [HXB.out] at HX1 ⊢
  obtain ⟨c0, c1, c2, c3, c4, c5, c6, c7, c8⟩ := HL1.out.box.cells
  have x0 := HX1.out.cell 0
  have x1 := HX1.out.cell 1
  have x2 := HX1.out.cell 2
  have hz1 : IntKind.i64.wrap ((S : Int) - 1) = (n1 : Int) := by rw [IntKind.wrap_i64]; omega
  have hz2 : IntKind.u64.wrap (n1 : Int) = (n1 : Int) := by rw [IntKind.wrap_u64]; omega
  go_quiet (first | (go_at_call 43; exact Calls.quiet_of_same (HA.out _)))
  go_upto_region 2 with fail
  clear hz1 hz2 HA c0 c1 c2 c3 c4 c5 c6 c7 c8 x0 x1 x2
  have HL2 := Lib.hid (HL1.out.below (below_drewN (Below.refl _ _) nq))
  have HX2 := Lib.hid (HX1.out.below (below_drewN (Below.refl _ _) nq) HX1.out.lt)
  have HB2 := Lib.hid (below_drewN HB1.out nq)
  obtain ⟨W2, HW2⟩ : ∃ W2, Hid (W1.drewN nq = W2) := ⟨_, Lib.hid rfl⟩
  have HP2 := Lib.hid (fun d => w_place (HL2.out.below (below_drewN (Below.refl _ _) d)).box s1 s2 st hst)
  simp only [HPl.out] at HP2
  rw [HW2.out] at HL2 HX2 HB2 HP2 ⊢
  clear HL1 HX1 HB1 HP HW2 HW1
  obtain ⟨c0, c1, c2, c3, c4, c5, c6, c7, c8⟩ := HL2.out.box.cells
  have x0 := HX2.out.cell 0
  have x1 := HX2.out.cell 1
  have x2 := HX2.out.cell 2
  go_quiet (first | (go_at_call 44; exact Calls.quiet_of_same (HC.out _)) | (go_at_call 39; exact Calls.quiet_of_same (HP2.out _)))
  go_upto_region 3 with fail
  clear HC HP2 c0 c1 c2 c3 c4 c5 c6 c7 c8 x0 x1 x2
  have HL3 := Lib.hid (HL2.out.below (below_drewN (Below.refl _ _) nq))
  have HX3 := Lib.hid (HX2.out.below (below_drewN (Below.refl _ _) nq) HX2.out.lt)
  have HB3 := Lib.hid (below_drewN HB2.out nq)
  obtain ⟨W3, HW3⟩ : ∃ W3, Hid (W2.drewN nq = W3) := ⟨_, Lib.hid rfl⟩
  rw [HW3.out] at HL3 HX3 HB3 ⊢
  clear HL2 HX2 HB2 HW3
  obtain ⟨c0, c1, c2, c3, c4, c5, c6, c7, c8⟩ := HL3.out.box.cells
  have x0 := HX3.out.cell 0
  have x1 := HX3.out.cell 1
  have x2 := HX3.out.cell 2
  have g0 := HL3.out.sl.gr.cell hpl
  have hpz0 : (0 : Int) ≤ (pl : Int) := by omega
  have hpz : (pl : Int) < (S : Int) := by omega
  have A1 := Lib.hid (((Below.refl _ W3).alloc (Nat.le_refl _) (.cells #[.int .u64 (v : Int), .int .u64 (slot : Int), .int .u64 (turn : Int)] 67)).drew)
  have HL4 := Lib.hid (HL3.out.below A1.out)
  have HR5 := Lib.hid (HL4.out.sl.row pl hpl)
  have cA : (W3.alloc (.cells #[.int .u64 (v : Int), .int .u64 (slot : Int), .int .u64 (turn : Int)] 67)).cell? ⟨b, 4, none⟩ = some (.slice (some ⟨gs, 0, none⟩) S S) := HL4.out.box.cells.2.2.2.2.1
  have gA : (W3.alloc (.cells #[.int .u64 (v : Int), .int .u64 (slot : Int), .int .u64 (turn : Int)] 67)).cell? ⟨gs, pl, none⟩ = some (sv pl) := HL4.out.sl.gr.cell hpl
  obtain ⟨inf, hi1, hi2, hi3, hi4⟩ := info_parts (P := Tryd.prog) (e := 67) (z := .agg #[.int .u64 0, .int .u64 0, .int .u64 0]) (size := 3) (bytes := 24) (by kernel_rfl)
  have hml : (R pl).length + 1 ≤ maxLen := by simp [maxLen]; omega
  go_cut [] (fun wx => ∃ sv', Hid (WLie wx b gs fa NB (updV sv pl sv') dv m ⟨S, width, room, cur, waits, turns, updR R pl (R pl ++ [⟨v, slot, turn, st⟩]), due⟩ ∧ (sv'.ownBlock = (sv pl).ownBlock ∨ ∃ k, sv'.ownBlock = some k ∧ w.heap.size ≤ k) ∧ Turned (OwnW b gs S NB sv dv) w wx))
  case first =>
    go_region_law
      ((refine step_append_lies _ (by rfl) (.tmp 39) (.tmp 41) _ (by rfl) 0 67 inf _ 3 24 Tryd.underlying71 hi1 hi2 hi3 hi4 rfl (by omega) (sv pl) (R pl).length _ (by rfl) HR5.out
          ⟨W3.heap.size, 0, none⟩ 1 1 [.int .u64 (v : Int), .int .u64 (slot : Int), .int .u64 (turn : Int)] (by rfl) (by rfl) (World.news_of_block (cs := #[.int .u64 (v : Int), .int .u64 (slot : Int), .int .u64 (turn : Int)]) (t := 67) (fr := (0, 0)) (heap_alloc_new W3 _)) (by simp [Value.oneCell']) (by omega) hml (by omega) (by simp) (W3.heap.size + 1) (by simp) ?_; intro gg cap w5 own5 gr5 hat hlt; have H6 := Lib.hid (HL4.out.put (y := ⟨v, slot, turn, st⟩) hpl gr5 own5 (hat.imp id (fun e => e.trans (by simp)))); have d4 := (gr5.cell_far ⟨b, 4, none⟩ (HL4.out.lt b (.inl rfl)) (fun e => HL4.out.sl.br pl hpl e.symm)).trans cA; have fg := ((HL4.out.sl.gr.same (gr5.block gs HL4.out.sl.gr.lt (fun e => HL4.out.sl.gr.not_row HR5.out e.symm))).frozen pl); have gc := ((HL4.out.sl.gr.same (gr5.block gs HL4.out.sl.gr.lt (fun e => HL4.out.sl.gr.not_row HR5.out e.symm))).cell hpl); clear own5 gr5 hat hlt))
    all_goals
      clear d4 fg gc
      go_wp2_with fail
      go_meet
      refine ⟨_, Lib.hid ⟨H6.out.1, H6.out.2.1.imp id (fun e => ⟨_, e, ?_⟩), (Turned.below (HB3.out.trans (A1.out.mono HB3.out.size))).trans H6.out.2.2⟩⟩
      have := HB3.out.size
      have h5 := A1.out.size
      omega
  case rest =>
    obtain ⟨sv', H6⟩ := hcut
    clear hpz0 hpz c0 c1 c2 c3 c4 c5 c6 c7 c8 x0 x1 x2 g0 cA gA HR5 HL4 HL3 HX3
    obtain ⟨k0, k1, k2, k3, k4, k5, k6, k7, k8⟩ := H6.out.1.box.cells
    have HS := Lib.hid (c_set H6.out.1.sl.bm (pl : Int))
    go_wp2_with fail
    refine HS.out.mono ?_
    rintro e w7 ⟨rfl, q7⟩
    have H7 := Lib.hid (H6.out.1.set_mark hpl q7)
    have HT := Lib.hid (H6.out.2.2.trans (Turned.less (fun k hk => .inr (.inr (.inl hk))) q7.2))
    clear q7 HS k0 k1 k2 k3 k4 k5 k6 k7 k8
    go_wp2_with fail
    go_end0
    refine ⟨rfl, went_w h3 H7.out (fun p => ?_) rfl (fun p hp k hk => ?_) (fun k hk => .inl hk) ?_⟩
    · rw [set_mark_iff hpl, h2]
      show _ ↔ p < S ∧ updR R pl (R pl ++ [⟨v, slot, turn, st⟩]) p ≠ []
      by_cases c : p = pl
      · subst c; rw [updR_at]; simp [hpl]
      · rw [updR_ne c]; simp [c]
    · by_cases c : p = pl
      · subst c
        rw [updV_at] at hk
        rcases H6.out.2.1 with e | e
        · exact .inl ⟨p, hp, by rw [← e]; exact hk⟩
        · obtain ⟨k', e, hk'⟩ := e
          rw [e] at hk
          have := Option.some.inj hk
          exact .inr (by omega)
      · rw [updV_ne c] at hk
        exact .inl ⟨p, hp, hk⟩
    · exact HT.out

end Go.Proofs.YtkiibobpejoaeaaDoor
