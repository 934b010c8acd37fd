/-
  The program's own tree: fill, which moves the last node to a place that is free.
-/
import Derived.Test.YtkiibobpejoaeaaTreeOwnG
import Derived.Test.YtkiibobpejoaeaaTreePut
namespace Go.Proofs.Ytkiibobpejoaeaa
open Go.RowKit
set_option linter.unusedVariables false
set_option maxRecDepth 100000

theorem plug_rb : ∀ (y : List Fr) {t t' : T}, t.rb = t'.rb → (plug y t).rb = (plug y t').rb
  | [], _, _, h => h
  | f :: y, t, t', h => plug_rb y (by
      simp only [Fr.fill, T.mk]
      split <;> simp only [T.rb, h])
/-- Links of a tree's places stay among these. -/
theorem within_of {G : Gr} {t : T} {m : Nat} (S : Sits G [] t) (hm : 1 ≤ m) (h1 : ∀ x, t.occ x ≠ 0 → x < m) (h2 : ∀ x, x ≠ 0 → x < m → t.occ x ≠ 0) : Within m G := by
  have hpl : ∀ {z : List Fr} {u : T}, Sits G z u → (∀ x, occZ z x + u.occ x = t.occ x) → u.pl < m ∧ above z < m := by
    intro z u s ho
    refine ⟨?_, ?_⟩
    · by_cases hl : u = .leaf
      · rw [hl]
        exact hm
      · refine h1 _ ?_
        rw [← ho]
        have := T.occ_pl hl
        omega
    · cases z with
      | nil => exact hm
      | cons f z =>
        refine h1 _ ?_
        rw [← ho]
        simp [above, occZ]
  have hat : ∀ x, x ≠ 0 → x < m → G.up x < m ∧ G.dn x 0 < m ∧ G.dn x 1 < m := by
    intro x h0 hx
    obtain ⟨y, c, l, e, r, e1, s⟩ := S.at_ (h2 x h0 hx)
    have ho : ∀ i, occZ y i + (T.node x c l e r).occ i = t.occ i := by
      intro i
      rw [e1, plug_occ]
    have k1 := hpl s ho
    obtain ⟨_, _, _, _, k5, k6, k7, _, _⟩ := s.rep
    have sl := (Sits.down (s := 0) (o := 1) s rfl)
    have k2 := hpl sl (fun i => by rw [← ho]; simp only [occZ, T.occ]; omega)
    have sr : Sits G (⟨1, x, c, e, l⟩ :: y) r := Sits.down (s := 1) (o := 0) (b := l) (a := r) s rfl
    have k3 := hpl sr (fun i => by rw [← ho]; simp only [occZ, T.occ]; omega)
    exact ⟨by rw [k5]; exact k1.2, by rw [k6]; exact k2.1, by rw [k7]; exact k3.1⟩
  refine ⟨fun x h0 hx => (hat x h0 hx).1, fun x s hx hs => ?_⟩
  by_cases h0 : x = 0
  · subst h0
    rcases (by omega : s = 0 ∨ s = 1) with rfl | rfl
    · rw [show G.dn 0 0 = t.pl from S.hole]
      exact (hpl S (fun i => by simp [occZ])).1
    · rw [S.dn1]
      exact hm
  · rcases (by omega : s = 0 ∨ s = 1) with rfl | rfl
    · exact (hat x h0 hx).2.1
    · exact (hat x h0 hx).2.2

section
variable {w w' : World} {b B c room n m : Nat} {G : Gr} {z : List Fr}
theorem RowG.congr {G' : Gr} (h : RowG w B c n G) (e : ∀ p, p < n → ndC G' p = ndC G p) : RowG w B c n G' := by
  obtain ⟨cs, h1, h2, h3⟩ := h
  exact ⟨cs, h1, h2, fun p hp j hj => by rw [h3 p hp j hj, e p hp]⟩
/-- All seven cells of a node. -/
def put7 (w : World) (B p : Nat) (e : En) (cc : Bool) (u d0 d1 : Nat) : World :=
  ((((((w.setCell ⟨B, p * 7, none⟩ (.int .u64 (e.key.at_ : Int))).setCell ⟨B, p * 7 + 1, none⟩ (.int .u64 (e.key.seq : Int))).setCell ⟨B, p * 7 + 2, none⟩ (.int .i64 e.val)).setCell ⟨B, p * 7 + 3, none⟩ (.bool cc)).setCell ⟨B, p * 7 + 4, none⟩ (.int .i64 (u : Int))).setCell ⟨B, p * 7 + 5, none⟩ (.int .i64 (d0 : Int))).setCell ⟨B, p * 7 + 6, none⟩ (.int .i64 (d1 : Int))
theorem Box.put7 {b' : Nat} {t : TypeId} {cs : Array Value} (h : Box w b' t cs) (hne : b' ≠ B) (p : Nat) (e : En) (cc : Bool) (u d0 d1 : Nat) : Box (put7 w B p e cc u d0 d1) b' t cs :=
  ((((((h.other hne _).other hne _).other hne _).other hne _).other hne _).other hne _).other hne _
theorem Turned.put7 {N : Nat → Prop} {w0 : World} (h : Turned N w0 w) (hB : N B) (p : Nat) (e : En) (cc : Bool) (u d0 d1 : Nat) : Turned N w0 (put7 w B p e cc u d0 d1) :=
  ((((((h.set hB _).set hB _).set hB _).set hB _).set hB _).set hB _).set hB _
theorem RawT.put7 (h : RawT w b B c room n G) {p : Nat} (hp : p < n) (e : En) (cc : Bool) {u d0 d1 : Nat} (hu : u < n) (h0 : d0 < n) (h1 : d1 < n) : RawT (put7 w B p e cc u d0 d1) b B c room n (G.setAll p e cc u d0 d1) := by
  have k1 := h.row.setKV h.nc hp e
  have k2 := k1.setRed h.nc hp cc
  have k3 := k2.setUp h.nc hp u
  have k4 := k3.setDn (s := 0) h.nc hp (by omega) d0
  have k5 := k4.setDn (s := 1) h.nc hp (by omega) d1
  refine ⟨h.box.put7 (Ne.symm h.ne) _ _ _ _ _ _, RowG.congr k5 (fun q hq => ?_), ⟨fun q hq0 hq => ?_, fun q s hq hs => ?_⟩, h.n1, h.n2, h.nc, h.c2, h.rm⟩
  · by_cases hqp : q = p
    · subst hqp
      simp [ndC, Gr.setAll, Gr.setEn, Gr.setRed, Gr.setUp, Gr.setDn]
    · simp [ndC, Gr.setAll, Gr.setEn, Gr.setRed, Gr.setUp, Gr.setDn, hqp]
  · show (if q = p then u else G.up q) < n
    split
    · exact hu
    · exact h.inn.up q hq0 hq
  · show (if q = p then (if s = 0 then d0 else d1) else G.dn q s) < n
    split
    · split
      · exact h0
      · exact h1
    · exact h.inn.dn q s hq hs
theorem RawT.cut (h : RawT w b B c room (m + 1) G) (hm : 1 ≤ m) (hw : Within m G) : RawT (w.setCell ⟨b, 2, none⟩ (.slice (some ⟨B, 0, none⟩) m c)) b B c room m G := by
  have h1 := h.n2
  have h2 := h.nc
  exact ⟨h.box.set 2 _, (h.row.less (by omega)).other h.ne _, hw, hm, by omega, by omega, h.c2, h.rm⟩
/-- What fill leaves. -/
def FillEnd (w : World) (b B c room m : Nat) (t : T) (e' : Ending) (w' : World) : Prop :=
  e' = .returned (.tuple #[]) ∧ (∃ G' t', LieT w' b B c room m G' [] t' ∧ t'.rb = t.rb ∧ Full m t') ∧ Turned (Own2 b B) w w'
/-- Nothing stands at the last place any more. -/
structure FillSt (w wx : World) (b B c room m : Nat) (t : T) (G : Gr) (t' : T) : Prop where
  raw : RawT wx b B c room (m + 1) G
  sits : Sits G [] t'
  rb : t'.rb = t.rb
  lt : ∀ x, t'.occ x ≠ 0 → x < m
  full : Full m t'
  turned : Turned (Own2 b B) w wx
theorem fill_end {t t' : T} {wx : World} (h : FillSt w wx b B c room m t G t') (hm : 1 ≤ m) : FillEnd w b B c room m t (.returned (.tuple #[])) (wx.setCell ⟨b, 2, none⟩ (.slice (some ⟨B, 0, none⟩) m c)) := by
  refine ⟨rfl, ⟨G, t', ⟨h.raw.cut hm (within_of h.sits hm h.lt fun x h0 hx => ?_), h.sits, fun x hx => h.lt x (by simpa [occZ] using hx)⟩, h.rb, h.full⟩, h.turned.set (.inl rfl) _⟩
  rw [h.full x h0 hx]
  omega
set_option maxHeartbeats 1600000 in
set_option maxRecDepth 100000 in
theorem lie_fill {gap : Nat} {t : T} (h : LieT w b B c room (m + 1) G [] t) (h0 : gap ≠ 0) (hg : gap < m + 1) (hf : ∀ x, x ≠ 0 → x < m + 1 → t.occ x + (if x = gap then 1 else 0) = 1) :
    Calls Try.prog 76 #[.pointer (some ⟨b, 0, none⟩), .int .i64 (gap : Int)] w (FillEnd w b B c room m t) := by
  have n2 := h.raw.n2
  have nc := h.raw.nc
  have hm : 1 ≤ m := by omega
  obtain ⟨c0, c1, c2⟩ := h.raw.cells
  have HLi := Lib.hid h
  have HFu := Lib.hid hf
  have cc2 := h.raw.c2
  have hnm : ((m + 1 : Nat) : Int) - 1 = (m : Int) := by omega
  clear h hf
  go_enter Try.func76, Try.ntmps76
  go_upto_if 14 with fail
  go_cut [4] (fun v4 wx => v4 = .int .i64 (m : Int) ∧ ∃ (G' : Gr) (t' : T), Hid (FillSt w wx b B c room m t G' t'))
  case first =>
    by_cases hgm : gap = m
    · have HE : Hid (FillSt w w b B c room m t G t) := by
        have hl := HLi.out
        refine Lib.hid ⟨hl.raw, hl.sits, rfl, fun x hx => ?_, fun x h0 hx => ?_, Turned.refl _ _⟩
        · have h1 := hl.lt x (by simpa [occZ] using hx)
          by_cases hxm : x = m
          · have h2 := HFu.out x (by omega) h1
            rw [if_pos (by omega)] at h2
            omega
          · omega
        · have h2 := HFu.out x h0 (by omega)
          rw [if_neg (by omega)] at h2
          exact h2
      have hz : ((gap : Int) != (m : Int)) = false := by simp [hgm]
      clear HLi HFu hgm
      go_wp2_with fail
      go_meet
      exact ⟨rfl, _, _, HE⟩
    · have hz : ((gap : Int) != (m : Int)) = true := by rw [bne_iff_ne]; omega
      have hl := HLi.out
      obtain ⟨y, cn, ln, en, rn, hty, sy⟩ := hl.sits.at_ (x := m) (by
        have := HFu.out m (by omega) (by omega)
        rw [if_neg (fun e => hgm e.symm)] at this
        omega)
      obtain ⟨m0, mk_, mv, mr, mu, md0, md1, _, _⟩ := sy.rep
      obtain ⟨d0, d1⟩ := hl.raw.c_key (p := m) (by omega)
      have d2 := hl.raw.c_val (p := m) (by omega)
      have d3 := hl.raw.c_red (p := m) (by omega)
      have d4 := hl.raw.c_up (p := m) (by omega)
      have d5 := hl.raw.c_dn0 (p := m) (by omega)
      have d6 := hl.raw.c_dn1 (p := m) (by omega)
      rw [mk_] at d0 d1
      rw [mv] at d2
      rw [mr] at d3
      rw [mu] at d4
      rw [md0] at d5
      rw [md1] at d6
      have hz1 : (m : Int) < ((m + 1 : Nat) : Int) := by omega
      go_upto_region 3 with fail
      obtain ⟨W, HW⟩ : ∃ W, Hid (w.alloc (.cells #[.int .u64 (en.key.at_ : Int), .int .u64 (en.key.seq : Int), .int .i64 en.val, .bool cn, .int .i64 (above y : Int), .int .i64 (ln.pl : Int), .int .i64 (rn.pl : Int)] 143) = W) := ⟨_, Lib.hid rfl⟩
      rw [HW.out]
      have bl : Below w.heap.size w W := by
        rw [← HW.out]
        exact (Below.refl _ _).alloc (Nat.le_refl _) _
      have bx : Box W w.heap.size 143 #[.int .u64 (en.key.at_ : Int), .int .u64 (en.key.seq : Int), .int .i64 en.val, .bool cn, .int .i64 (above y : Int), .int .i64 (ln.pl : Int), .int .i64 (rn.pl : Int)] := by
        rw [← HW.out]
        exact Box.new _ _ _
      clear HW
      have hbH : w.heap.size ≠ b := by have := hl.raw.box.lt; omega
      have hBH : w.heap.size ≠ B := by have := hl.raw.row.lt; omega
      have hNH : ¬ Own2 b B w.heap.size := by
        rintro (e | e)
        · exact hbH e
        · exact hBH e
      have rW := hl.raw.below bl
      have an : above y < m + 1 := (⟨hl.raw, sy, fun i hi => hl.lt i (by rw [hty, plug_occ]; simp only [occZ]; omega)⟩ : LieT w b B c room (m + 1) G y (.node m cn ln en rn)).above_lt
      have lnn : ln.pl < m + 1 := by rw [← md0]; exact hl.raw.inn.dn m 0 (by omega) (by omega)
      have rnn : rn.pl < m + 1 := by rw [← md1]; exact hl.raw.inn.dn m 1 (by omega) (by omega)
      have sd := sy.side_lt
      have hgo : occZ y gap + (T.node m cn ln en rn).occ gap = 0 := by
        have := HFu.out gap h0 hg
        rw [if_pos rfl, hty, plug_occ] at this
        omega
      have hso := sy.sideOf (by intro e; cases e)
      have HE : Hid (∀ w6, RawT w6 b B c room (m + 1) ((((G.hang (above y) (side y) gap).setAll gap en cn (above y) ln.pl rn.pl).hang gap 0 ln.pl).hang gap 1 rn.pl) → Turned (Own2 b B) w w6 → ∃ G' t', FillSt w w6 b B c room m t G' t') := by
        refine Lib.hid fun w6 r6 t6 => ⟨_, plug y (.node gap cn ln en rn), r6, (sy.relay h0 hgo).out, ?_, fun x hx => ?_, fun x hx0 hx => ?_, t6⟩
        · rw [hty]
          exact plug_rb y rfl
        · rw [plug_occ] at hx
          by_cases hxg : gap = x
          · omega
          · have hx' : t.occ x ≠ 0 := by
              rw [hty, plug_occ]
              simp only [T.occ] at hx ⊢
              rw [if_neg hxg] at hx
              omega
            have h1 := hl.lt x (by simpa [occZ] using hx')
            by_cases hxm : x = m
            · subst hxm
              have h2 := hl.sits.once x
              rw [hty, plug_occ] at h2
              simp only [T.occ, occZ] at h2 hx
              rw [if_neg hxg] at hx
              rw [if_pos trivial] at h2
              omega
            · omega
        · have h1 := HFu.out x hx0 (by omega)
          rw [hty, plug_occ] at h1
          rw [plug_occ]
          simp only [T.occ] at h1 ⊢
          rw [if_neg (by omega : ¬ m = x)] at h1
          by_cases hxg : gap = x
          · subst hxg
            rw [if_pos rfl] at h1 ⊢
            omega
          · rw [if_neg (fun e => hxg e.symm)] at h1
            rw [if_neg hxg]
            omega
      have HS : Hid (∀ k, Calls Try.prog 84 #[.pointer (some ⟨b, 0, none⟩), .int .i64 (m : Int)] (W.drewN k) fun e w' => e = .returned (.int .i64 (side y : Int)) ∧ ∃ k', w' = W.drewN k') :=
        Lib.hid fun k => (raw_sideOf (rW.drewN k) m0 (by omega)).mono fun e w' ⟨e1, k', e2⟩ => ⟨hso ▸ e1, k + k', by rw [e2, World.drewN_drewN]⟩
      have HHa : Hid (∀ k, Calls Try.prog 73 #[.pointer (some ⟨b, 0, none⟩), .int .i64 (above y : Int), .int .i64 (side y : Int), .int .i64 (gap : Int)] (W.drewN k) fun e w' => e = .returned (.tuple #[]) ∧ RawT w' b B c room (m + 1) (G.hang (above y) (side y) gap) ∧ Turned (Own2 b B) W w') :=
        Lib.hid fun k => (raw_hang (rW.drewN k) an sd hg).mono fun e w' ⟨e1, e2, e3⟩ => ⟨e1, e2, (Turned.below (below_drewN (Below.refl _ _) k)).trans e3⟩
      have HC : Hid (∀ k, (W.drewN k).cell? ⟨w.heap.size, 4, none⟩ = some (.int .i64 (above y : Int))) := Lib.hid fun k => (bx.below (below_drewN (Below.refl _ _) k) bx.lt).cell 4
      have HK : Hid (∀ w3, Turned (Own2 b B) W w3 → w3.cell? ⟨w.heap.size, 4, none⟩ = some (.int .i64 (above y : Int))) := Lib.hid fun w3 t3 => (bx.turned t3 hNH).cell 4
      have HBX := Lib.hid bx
      have HTW := Lib.hid (Turned.below (N := Own2 b B) bl)
      obtain ⟨H, HH⟩ : ∃ H, Hid (w.heap.size = H) := ⟨_, Lib.hid rfl⟩
      rw [HH.out] at HC HK HBX hNH hbH hBH
      rw [HH.out]
      have hz2 : (gap : Int) < ((m + 1 : Nat) : Int) := by omega
      clear HLi HFu hl sy hty d0 d1 d2 d3 d4 d5 d6 c0 c1 c2 m0 mk_ mv mr mu md0 md1 bx bl rW hso hgo hz1
      go_region_held3 (fun w' => w'.cell? ⟨H, 4, none⟩ = some (.int .i64 (above y : Int)))
        (first | exact HC.out 1 | exact HC.out _ | exact HK.out _ t3)
        (first | (go_at_call 84; first | (refine (HS.out 1).mono ?_; rintro e w3 ⟨rfl, k3, rfl⟩) | (refine (HS.out _).mono ?_; rintro e w3 ⟨rfl, k3, rfl⟩)) | (go_at_call 73; first | (refine (HHa.out 1).mono ?_; rintro e w3 ⟨rfl, r3, t3⟩) | (refine (HHa.out _).mono ?_; rintro e w3 ⟨rfl, r3, t3⟩)))
      have b3 := HBX.out.turned t3 hNH
      have HT3 := Lib.hid (HTW.out.trans t3)
      have HR3 := Lib.hid r3
      obtain ⟨c0, c1, c2⟩ := r3.cells
      have x0 := b3.cell 0
      have x1 := b3.cell 1
      have x2 := b3.cell 2
      have x3 := b3.cell 3
      have x4 := b3.cell 4
      have x5 := b3.cell 5
      have x6 := b3.cell 6
      have HB3 := Lib.hid b3
      have hz3 : (gap : Int) < (m : Int) + 1 := by omega
      clear r3 t3 b3 HS HHa HC HK HTW HBX
      go_wp2_with fail
      go_still_tail 7, (by kernel_rfl)
      change wpList _ _ _ _ _ w3.drew
      obtain ⟨W4, HW4⟩ : ∃ W4, Hid (w3.drew = W4) := ⟨_, Lib.hid rfl⟩
      have r4 : RawT W4 b B c room (m + 1) (G.hang (above y) (side y) gap) := by
        rw [← HW4.out]
        exact HR3.out.drew
      have HT4 : Hid (Turned (Own2 b B) w W4) := by
        rw [← HW4.out]
        exact Lib.hid HT3.out.drew
      have HB4 : Hid (Box W4 H 143 #[.int .u64 (en.key.at_ : Int), .int .u64 (en.key.seq : Int), .int .i64 en.val, .bool cn, .int .i64 (above y : Int), .int .i64 (ln.pl : Int), .int .i64 (rn.pl : Int)]) := by
        rw [← HW4.out]
        exact HB3
      rw [HW4.out]
      clear HW4 HT3 HR3 HB3 c0 c1 c2 x0 x1 x2 x3 x4 x5 x6
      obtain ⟨d0, d1⟩ := r4.c_key hg
      have d2 := r4.c_val hg
      have d3 := r4.c_red hg
      have d4 := r4.c_up hg
      have d5 := r4.c_dn0 hg
      have d6 := r4.c_dn1 hg
      have f0 := r4.row.frozen (gap * 7)
      have f1 := r4.row.frozen (gap * 7 + 1)
      have f2 := r4.row.frozen (gap * 7 + 2)
      have f3 := r4.row.frozen (gap * 7 + 3)
      have f4 := r4.row.frozen (gap * 7 + 4)
      have f5 := r4.row.frozen (gap * 7 + 5)
      have f6 := r4.row.frozen (gap * 7 + 6)
      have HR5 := Lib.hid (r4.put7 hg en cn an lnn rnn)
      have HT5 := Lib.hid (HT4.out.put7 (.inr rfl) gap en cn (above y) ln.pl rn.pl)
      have HB5 := Lib.hid (HB4.out.put7 hBH gap en cn (above y) ln.pl rn.pl)
      clear r4 HT4 HB4
      go_upto_region 5 with fail
      obtain ⟨W5, HW5⟩ : ∃ W5, Hid (put7 W4 B gap en cn (above y) ln.pl rn.pl = W5) := ⟨_, Lib.hid rfl⟩
      rw [HW5.out] at HR5 HT5 HB5
      unfold put7 at HW5
      rw [HW5.out]
      clear HW5 d0 d1 d2 d3 d4 d5 d6 f0 f1 f2 f3 f4 f5 f6
      have x5 := HB5.out.cell 5
      have HH5 := Lib.hid (raw_hang (s := 0) HR5.out hg (by omega) lnn)
      clear HR5
      go_wp2_with fail
      refine HH5.out.mono ?_
      rintro e w6 ⟨rfl, r6, t6⟩
      have b6 := HB5.out.turned t6 hNH
      have x6 := b6.cell 6
      have HH6 := Lib.hid (raw_hang (s := 1) r6 hg (by omega) rnn)
      have HT6 := Lib.hid (HT5.out.trans t6)
      clear r6 t6 b6 x5 HH5 HT5 HB5
      go_wp2_with fail
      refine HH6.out.mono ?_
      rintro e w7 ⟨rfl, r7, t7⟩
      have HF := Lib.hid (HE.out _ r7 (HT6.out.trans t7))
      clear r7 t7 HH6 HT6 HE x6
      go_wp2_with fail
      go_meet
      obtain ⟨G7, t7, h7⟩ := HF.out
      exact ⟨rfl, G7, t7, Lib.hid h7⟩
  case rest =>
    obtain ⟨rfl, G', t', HF⟩ := hcut
    clear c0 c1 c2
    obtain ⟨c0, c1, c2⟩ := HF.out.raw.cells
    have f2 := HF.out.raw.box.frozen 2
    have HE := Lib.hid (fill_end HF.out hm)
    have hz1 : (m : Int) ≤ (c : Int) := by omega
    clear HF
    go_wp2_with fail
    go_end0
    exact HE.out
end

end Go.Proofs.Ytkiibobpejoaeaa
