/-
  The program's own tree: Put, walked.
-/
import Derived.Test.YtkiibobpejoaeaaTreePut
namespace Go.Proofs.Ytkiibobpejoaeaa
open Go.RowKit
set_option linter.unusedVariables false
set_option maxRecDepth 100000

/-- A node more at its end: behind the append. -/
theorem raw_more {w w5 : World} {b B c room n gg cap : Nat} {G : Gr} {k : Ky} {v : Int} (h : RawT w b B c room n G) (hn : n ≤ 65536)
    (own : w5.ownsRow 0 143 7 (.slice (some ⟨gg, 0, none⟩) (n + 1) cap) (n + 1) ((List.range n).flatMap (ndC G) ++ [.int .u64 (k.at_ : Int), .int .u64 (k.seq : Int), .int .i64 v, .bool true, .int .i64 0, .int .i64 0, .int .i64 0])) (gr : w.grownBy w5 (some B)) :
    RawT (w5.setCell ⟨b, 2, none⟩ (.slice (some ⟨gg, 0, none⟩) (n + 1) cap)) b gg cap room (n + 1) (G.setAll n ⟨k, v⟩ true 0 0 0) ∧ Turned (Own2 b B) w (w5.setCell ⟨b, 2, none⟩ (.slice (some ⟨gg, 0, none⟩) (n + 1) cap)) := by
  have hb := h.box.grown gr (ne_some (Ne.symm h.ne))
  have he : ndC (G.setAll n ⟨k, v⟩ true 0 0 0) n = [.int .u64 (k.at_ : Int), .int .u64 (k.seq : Int), .int .i64 v, .bool true, .int .i64 0, .int .i64 0, .int .i64 0] := by
    simp [ndC, Gr.setAll]
  rw [← he] at own
  obtain ⟨r1, r2, r3⟩ := rowG_more own (fun p hp => by simp [ndC, Gr.setAll, Nat.ne_of_lt hp])
  have hne : gg ≠ b := by
    obtain ⟨cs, k1, _⟩ := r1
    exact k1.ne hb (by decide)
  refine ⟨⟨?_, r1.other hne _, ⟨fun p h0 hp => ?_, fun p s hp hs => ?_⟩, by omega, by omega, r2, r3, h.rm⟩, ?_⟩
  · exact hb.set 2 _
  · show (if p = n then 0 else G.up p) < n + 1
    split
    · omega
    · have := h.inn.up p h0 (by omega)
      omega
  · show (if p = n then (if s = 0 then 0 else 0) else G.dn p s) < n + 1
    split
    · simp
    · have := h.inn.dn p s (by omega) hs
      omega
  · have t1 : Turned (Own2 b B) w w5 := (Turned.refl _ w).grown gr (fun k hk _ => .inr (Option.some.inj hk).symm)
    exact t1.set (.inl rfl) _

theorem put_found {g : Tg} (ok : g.Ok) {k : Ky} {v : Int} {x : En} (hx : x ∈ g.l) (hk : x.key = k) : putE g.room g.l k = 60 ∧ putL g.room g.l k v = g.l := by
  have h1 := getL_of ok.rises hx
  rw [hk] at h1
  have h2 : putE g.room g.l k = 60 := by
    unfold putE
    rw [h1]
    rfl
  refine ⟨h2, ?_⟩
  unfold putL
  rw [h2]
  rfl
theorem put_full {g : Tg} {k : Ky} {v : Int} (h1 : getL k g.l = none) (h2 : g.room ≤ g.l.length) : putE g.room g.l k = 4 ∧ putL g.room g.l k v = g.l := by
  have h3 : putE g.room g.l k = 4 := by
    unfold putE
    rw [h1]
    simp [h2]
  refine ⟨h3, ?_⟩
  unfold putL
  rw [h3]
  rfl
theorem put_in {g : Tg} {k : Ky} {v : Int} (h1 : getL k g.l = none) (h2 : ¬ g.room ≤ g.l.length) : putE g.room g.l k = 0 ∧ putL g.room g.l k v = insL k v g.l := by
  have h3 : putE g.room g.l k = 0 := by
    unfold putE
    rw [h1]
    simp [h2]
  refine ⟨h3, ?_⟩
  unfold putL
  rw [h3]
  rfl
/-- A node came in, all is mended: what lies there now. -/
theorem put_done {w w' : World} {b B B' c' n : Nat} {G' : Gr} {t' : T} {g : Tg} {k : Ky} {v : Int} {z : List Fr} (ok : g.Ok) (hg : getL k g.l = none) (hr : ¬ g.room ≤ g.l.length) (hk : k.Fits) (hv : I64 v)
    (hz : lefts z ++ rights z = g.l) (lf : ∀ x, x ∈ lefts z → x.key.lt k) (rt : ∀ x, x ∈ rights z → k.lt x.key) (sz : g.l.length + 1 = n) (fl : ∀ x, x ≠ 0 → x < n → occZ z x = 1) (hn0 : occZ z n = 0)
    (l : LieT w' b B' c' g.room (n + 1) G' [] t') (bal : ∃ m, t'.Bal true m) (e1 : t'.toL = (plug z (.node n true .leaf ⟨k, v⟩ .leaf)).toL) (e2 : ∀ q, t'.occ q = (plug z (.node n true .leaf ⟨k, v⟩ .leaf)).occ q)
    (t : Turned (Own2 b B) w w') (hB : B' = B ∨ w.heap.size ≤ B') : TurnT AtT (Own2 b B) w ⟨b, 0, none⟩ g.room (insL k v g.l) w' := by
  have e3 : t'.toL = insL k v g.l := by
    rw [e1, plug_lr, ← hz, ins_mid lf rt]
    simp [T.toL, T.rb, RB.toL]
  refine ⟨⟨g.room, t'.rb⟩, rfl, e3, ⟨?_, bal, fun x hx => ?_, ?_, ok.one, ok.small⟩, Own2 b B', ⟨b, B', c', n + 1, G', t', rfl, rfl, l, rfl, fun x h0 hx => ?_, ?_⟩, t, ?_⟩
  · show Rises t'.toL
    rw [e3]
    exact ok.rises.ins (getL_none hg)
  · have hx' : x ∈ t'.toL := hx
    rw [e3] at hx'
    rcases insL_mem.1 hx' with rfl | h
    · exact ⟨hk, hv⟩
    · exact ok.fits x h
  · show t'.toL.length ≤ g.room
    rw [e3, insL_length]
    omega
  · rw [e2, plug_occ]
    by_cases hxn : x = n
    · subst hxn
      simp [T.occ]
      exact hn0
    · have := fl x h0 (by omega)
      simp [T.occ, Ne.symm hxn]
      exact this
  · rw [e3, insL_length]
    omega
  · rintro j (rfl | rfl)
    · exact .inl (.inl rfl)
    · rcases hB with h | h
      · exact .inl (.inr h)
      · exact .inr h

theorem tree_put {N : Nat → Prop} {w : World} {a : Addr} {g : Tg} (k : Ky) (v : Int) (h : AtT N w a g) (ok : g.Ok) (hk : k.Fits) (hv : I64 v) :
    Calls Try.prog 52 #[.pointer (some a), kyV k, .int .i64 v] w fun e w' => e = .returned (.int .i64 (putE g.room g.l k : Nat)) ∧ TurnT AtT N w a g.room (putL g.room g.l k v) w' := by
  have HS : Hid (∀ w', Below w.heap.size w w' → TurnT AtT N w a g.room g.l w') := Lib.hid fun w' b => at_same h ok b
  obtain ⟨b, B, c, n, G, t0, rfl, rfl, L, e0, fl, sz⟩ := h
  have el : t0.toL = g.l := by
    show t0.rb.toL = _
    rw [e0]
    rfl
  rw [el] at sz
  obtain ⟨W, HW⟩ : ∃ W, Hid (w.alloc (.cells #[.int .u64 (k.at_ : Int), .int .u64 (k.seq : Int)] 68) = W) := ⟨_, Lib.hid rfl⟩
  have HB : Hid (Below w.heap.size w W) := by
    rw [← HW.out]
    exact Lib.hid ((Below.refl _ _).alloc (Nat.le_refl _) _)
  have HX : Hid (Box W w.heap.size 68 #[.int .u64 (k.at_ : Int), .int .u64 (k.seq : Int)]) := by
    rw [← HW.out]
    exact Lib.hid (Box.new _ _ _)
  obtain ⟨H, HH⟩ : ∃ H, Hid (w.heap.size = H) := ⟨_, Lib.hid rfl⟩
  have HM := Lib.hid (raw_made (L.raw.below HB.out))
  have HF := Lib.hid (raw_find (L.below HB.out) (by rw [el]; exact ok.rises) k)
  unfold kyV at HF
  unfold kyV
  have x0 := HX.out.cell 0
  have x1 := HX.out.cell 1
  rw [HH.out] at x0 x1
  go_enter Try.func52, Try.ntmps52
  go_upto_region 1 with fail
  rw [HW.out, HH.out]
  go_wp2_with fail
  refine HM.out.mono ?_
  rintro e w1 ⟨rfl, rfl⟩
  clear HM HW
  go_wp2_with fail
  refine HF.out.mono ?_
  rintro e w2 ⟨z, t, rfl, l2, pz, lf, rt, fd, b2⟩
  have n2 := L.raw.n2
  have b02 := below_tr HB.out b2
  clear HF x0 x1
  cases t with
  | node p cc l x r =>
    obtain ⟨p1, cc1, l1, x1, r1, e1, hxk⟩ := fd (by intro h; cases h)
    cases e1
    obtain ⟨h1, h2⟩ := put_found (v := v) ok (x := x) (k := k) (by rw [← el, ← pz, plug_lr]; simp [T.toL, T.rb, RB.toL]) hxk
    have HE : Hid (putE g.room g.l k = 60 ∧ putL g.room g.l k v = g.l) := Lib.hid ⟨h1, h2⟩
    obtain ⟨p0, _⟩ := LieT.node (s := 0) (o := 1) l2 rfl
    have hz0 : ((p : Int) != 0) = true := by rw [bne_iff_ne]; omega
    have HB2 := Lib.hid b02
    clear l2 pz lf rt fd b2 b02 h1 h2 hxk p0 L fl
    simp only [T.pl]
    go_wp2_with fail
    go_ret
    refine ⟨by rw [HE.out.1]; rfl, ?_⟩
    rw [HE.out.2]
    exact HS.out _ HB2.out
  | leaf =>
    have hzl : lefts z ++ rights z = g.l := by
      rw [← el, ← pz, plug_lr]
      simp [T.toL, T.rb, RB.toL]
    have hg0 : getL k g.l = none := by
      rw [← hzl]
      exact get_mid lf rt
    have HL := Lib.hid (fun kk => raw_len (l2.raw.drewN kk))
    obtain ⟨c0, c1, c2⟩ := l2.raw.cells
    by_cases hfull : n - 1 = g.room
    · obtain ⟨h1, h2⟩ := put_full (v := v) hg0 (by omega : g.room ≤ g.l.length)
      have HE : Hid (putE g.room g.l k = 4 ∧ putL g.room g.l k v = g.l) := Lib.hid ⟨h1, h2⟩
      have hz0 : (((n - 1 : Nat) : Int) == (g.room : Int)) = true := by simp [hfull]
      have HB2 := Lib.hid b02
      clear l2 pz lf rt fd b2 b02 h1 h2 L fl hfull
      generalize n - 1 = nn at *
      go_wp2_with fail
      go_quiet (first | (go_at_call 58; exact Calls.quiet_of_same (HL.out _)))
      go_wp2_with fail
      go_ret
      refine ⟨by rw [HE.out.1]; rfl, ?_⟩
      rw [HE.out.2]
      exact HS.out _ (below_drewN HB2.out _)
    · have hroom : n ≤ 65536 := by
        have h1 := ok.room
        have h2 := ok.small
        omega
      have hnf : ¬ g.room ≤ g.l.length := by
        have h1 := ok.room
        omega
      obtain ⟨h1, h2⟩ := put_in (v := v) hg0 hnf
      have HE : Hid (putE g.room g.l k = 0 ∧ putL g.room g.l k v = insL k v g.l) := Lib.hid ⟨h1, h2⟩
      have hz0 : (((n - 1 : Nat) : Int) == (g.room : Int)) = false := by rw [beq_eq_false_iff_ne]; omega
      have HXk := Lib.hid (HX.out.below b2 HX.out.lt)
      rw [HH.out] at HXk
      have HL2 := Lib.hid l2
      have HB2 := Lib.hid b02
      have hn0 : n ≠ 0 := by omega
      have hoz : occZ z n = 0 := by
        by_cases hc : occZ z n = 0
        · exact hc
        · exact absurd (l2.lt n (by omega)) (by omega)
      have hfz : ∀ x, x ≠ 0 → x < n → occZ z x = 1 := fun x h0 hx => by
        have := fl x h0 hx
        rw [← pz, plug_occ] at this
        simpa [T.occ] using this
      have hgood : Good z 0 := by
        obtain ⟨m, hm⟩ := ok.bal
        have hm' : (plug z .leaf).Bal true m := by
          rw [pz]
          show t0.rb.Bal true m
          rw [e0]
          exact hm
        obtain ⟨m', k1, k2⟩ := good_of hm'
        obtain rfl : m' = 0 := k2
        exact k1
      have HD : Hid (∀ (w' : World) (B' c' : Nat) (G' : Gr) (t' : T), LieT w' b B' c' g.room (n + 1) G' [] t' → (∃ m, t'.Bal true m) → t'.toL = (plug z (.node n true .leaf ⟨k, v⟩ .leaf)).toL → (∀ q, t'.occ q = (plug z (.node n true .leaf ⟨k, v⟩ .leaf)).occ q) → Turned (Own2 b B) w w' → (B' = B ∨ w.heap.size ≤ B') → TurnT AtT (Own2 b B) w ⟨b, 0, none⟩ g.room (insL k v g.l) w') :=
        Lib.hid fun w' B' c' G' t' a1 a2 a3 a4 a5 a6 => put_done ok hg0 hnf hk hv hzl lf rt sz hfz hoz a1 a2 a3 a4 a5 a6
      have HA : Hid (∀ (w' : World) (B' c' : Nat), RawT w' b B' c' g.room (n + 1) ((G.setAll n ⟨k, v⟩ true 0 0 0).hang (above z) (side z) n) → LieT w' b B' c' g.room (n + 1) ((G.setAll n ⟨k, v⟩ true 0 0 0).hang (above z) (side z) n) z (T.mk 0 n true ⟨k, v⟩ .leaf .leaf)) := by
        refine Lib.hid fun w' B' c' r => ⟨r, l2.sits.attach hn0 hoz ⟨k, v⟩ 0, fun x hx => ?_⟩
        by_cases hxn : x = n
        · omega
        · have : occZ z x ≠ 0 := by
            intro h0
            rw [h0] at hx
            simp [T.mk, T.occ, Ne.symm hxn] at hx
          have := l2.lt x (by omega)
          omega
      have an := l2.above_lt
      have sn := l2.side_lt
      have HG := Lib.hid hgood
      clear l2 pz lf rt fd b2 b02 h1 h2 L fl hfull hg0 hnf hzl hgood hfz hoz
      generalize n - 1 = nn at *
      go_wp2_with fail
      go_quiet (first | (go_at_call 58; exact Calls.quiet_of_same (HL.out _)))
      go_upto_region 9 with fail
      obtain ⟨W3, HW3⟩ : ∃ W3, Hid (w2.drewN nq = W3) := ⟨_, Lib.hid rfl⟩
      have HB3 : Hid (Below w.heap.size w W3) := by
        rw [← HW3.out]
        exact Lib.hid (below_drewN HB2.out _)
      have HR3 : Hid (RawT W3 b B c g.room n G) := by
        rw [← HW3.out]
        exact Lib.hid (HL2.out.raw.drewN _)
      have HX3 : Hid (Box W3 H 68 #[.int .u64 (k.at_ : Int), .int .u64 (k.seq : Int)]) := by
        rw [← HW3.out]
        exact Lib.hid (HXk.out.below (below_drewN (Below.refl _ _) _) HXk.out.lt)
      rw [HW3.out]
      clear HW3 HL HL2 HB2 HXk c0 c1 c2 HX
      have A1 := Lib.hid (HR3.out.below (((Below.refl _ W3).alloc (Nat.le_refl _) (.cells #[.int .u64 (k.at_ : Int), .int .u64 (k.seq : Int), .int .i64 v, .bool true, .int .i64 0, .int .i64 0, .int .i64 0] 143)).drew))
      have r5 := A1.out.row.owns A1.out.nc A1.out.c2
      obtain ⟨c0, c1, c2⟩ := HR3.out.cells
      have x0 := HX3.out.cell 0
      have x1 := HX3.out.cell 1
      have cA : (W3.alloc (.cells #[.int .u64 (k.at_ : Int), .int .u64 (k.seq : Int), .int .i64 v, .bool true, .int .i64 0, .int .i64 0, .int .i64 0] 143)).cell? ⟨b, 2, none⟩ = some (.slice (some ⟨B, 0, none⟩) n c) := A1.out.cells.2.2
      have hBW := HR3.out.box.lt
      obtain ⟨inf, hi1, hi2, hi3, hi4⟩ := info_parts (P := Try.prog) (e := 143) (z := .agg #[.int .u64 0, .int .u64 0, .int .i64 0, .bool false, .int .i64 0, .int .i64 0, .int .i64 0]) (size := 7) (bytes := 56) (by kernel_rfl)
      have hml : n + 1 ≤ maxLen := by simp [maxLen]; omega
      go_cut [7] (fun v7 wx => ∃ gg cap : Nat, v7 = .int .i64 (n : Int) ∧ Hid (RawT wx b gg cap g.room (n + 1) (G.setAll n ⟨k, v⟩ true 0 0 0)) ∧ Hid (Turned (Own2 b B) w wx) ∧ Hid (gg = B ∨ w.heap.size ≤ gg))
      case first =>
        go_region_law
          ((refine step_append_lies _ (by rfl) (.tmp 38) (.tmp 42) _ (by rfl) 0 143 inf _ 7 56 Try.underlying136 hi1 hi2 hi3 hi4 rfl (by omega) (.slice (some ⟨B, 0, none⟩) n c) n _ (by rfl) r5
              ⟨W3.heap.size, 0, none⟩ 1 1 [.int .u64 (k.at_ : Int), .int .u64 (k.seq : Int), .int .i64 v, .bool true, .int .i64 0, .int .i64 0, .int .i64 0] (by rfl) (by rfl) (World.news_of_block (cs := #[.int .u64 (k.at_ : Int), .int .u64 (k.seq : Int), .int .i64 v, .bool true, .int .i64 0, .int .i64 0, .int .i64 0]) (t := 143) (fr := (0, 0)) (heap_alloc_new W3 _)) (by simp [Value.oneCell']) (by omega) hml (by omega) (by simp) (W3.heap.size + 1) (by simp) ?_; intro gg cap w5 own5 gr5 hat hlt; obtain ⟨R6, T6⟩ := raw_more A1.out hroom own5 gr5; have HR6 := Lib.hid R6; have HT6 := Lib.hid T6; have hgg := Lib.hid hat; have d2 := (gr5.cell_far ⟨b, 2, none⟩ (by simp; omega) (ne_some (Ne.symm A1.out.ne))).trans cA; have f2 := (A1.out.box.grown gr5 (ne_some (Ne.symm A1.out.ne))).frozen 2; clear own5 gr5 hat hlt R6 T6))
        all_goals
          have HTT : Hid (Turned (Own2 b B) w (w5.setCell ⟨b, 2, none⟩ (.slice (some ⟨gg, 0, none⟩) (n + 1) cap))) := Lib.hid ((Turned.below (below_tr HB3.out (((Below.refl _ W3).alloc (Nat.le_refl _) _).drew))).trans HT6.out)
          have HGG : Hid (gg = B ∨ w.heap.size ≤ gg) := by
            refine Lib.hid ?_
            rcases hgg.out with h | h
            · left
              exact (Option.some.inj h).symm
            · right
              have := HB3.out.size
              omega
          clear d2 f2 c0 c1 c2 x0 x1 cA
          go_wp2_with fail
          go_meet
          exact ⟨gg, cap, rfl, HR6, HTT, HGG⟩
      case rest =>
        obtain ⟨gg, cap, rfl, HR6, HT6, HGG⟩ := hcut
        clear c0 c1 c2 x0 x1 cA r5 A1 HR3 HX3 HB3
        have HHa := Lib.hid (raw_hang HR6.out (by omega : above z < n + 1) sn (by omega : n < n + 1))
        go_wp2_with fail
        refine HHa.out.mono ?_
        rintro e w7 ⟨rfl, r7, t7⟩
        have HM := Lib.hid (lie_mendRed (m := 0) (HA.out _ _ _ r7) rfl rfl HG.out)
        have HT7 := Lib.hid t7
        clear r7 t7 HHa HR6
        go_wp2_with fail
        refine HM.out.mono ?_
        rintro e w8 ⟨rfl, ⟨G8, t8, l8, b8, e8, o8⟩, t9⟩
        have HE8 : Hid (TurnT AtT (Own2 b B) w ⟨b, 0, none⟩ g.room (insL k v g.l) w8) := by
          refine Lib.hid (HD.out _ _ _ _ _ l8 b8 e8 o8 ?_ HGG.out)
          have hin : ∀ {wa wb : World}, Turned (Own2 b gg) wa wb → w.heap.size ≤ wa.heap.size → Turned (Own2 b B) w wa → Turned (Own2 b B) w wb := by
            intro wa wb h1 h2 h3
            refine ⟨h1.os.trans h3.os, h1.tape.trans h3.tape, h1.output.trans h3.output, Nat.le_trans h3.size h1.size, fun i hi hn => ?_⟩
            refine (h1.block i (by omega) ?_).trans (h3.block i hi hn)
            rintro (rfl | rfl)
            · exact hn (.inl rfl)
            · rcases HGG.out with h | h
              · exact hn (.inr h)
              · omega
          exact hin t9 (Nat.le_trans HT6.out.size HT7.out.size) (hin HT7.out HT6.out.size HT6.out)
        clear l8 b8 e8 o8 t9 HM HT7 HT6 HGG HA HD HG
        go_wp2_with fail
        go_ret
        refine ⟨by rw [HE.out.1]; rfl, ?_⟩
        rw [HE.out.2]
        exact HE8.out


end Go.Proofs.Ytkiibobpejoaeaa
