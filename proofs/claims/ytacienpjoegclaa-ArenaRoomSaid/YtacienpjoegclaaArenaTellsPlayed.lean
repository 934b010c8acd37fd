/-
  ArenaTells' walk: what is played.
-/
import Derived.Test.YtacienpjoegclaaArenaSteps
import Derived.Deep.RegionHeld3
import Derived.Deep.DeepCutAuto
import Derived.Deep.CutBlock
namespace Go.Proofs.Ytacienpjoegclaa
open Go.RowKit
set_option linter.unusedVariables false

/-- At the head of a round: the taken handles' slice, so many calls played. -/
def PlayAt (K : ArenaK) (w W : World) (a : Addr) (B room : Nat) (tk : Value) (M : Nat) : Prop :=
  ∃ N g vt vk vb p c H, tk = .slice p H.length c ∧ g.room = room ∧ H.length ≤ M ∧ Play K w W a B N g M vt vk vb p c H

theorem play_start (K : ArenaK) {w w1 w2 : World} {a : Addr} {N : Nat → Prop} {room : Nat} (hr : room ≤ 65536) (h : K.At N w1 a (Gh.new room)) (hN : ∀ k, N k → w.heap.size ≤ k) (g1 : Below w.heap.size w w1) (g2 : Below w1.heap.size w1 w2) :
    PlayAt K w (w2.alloc (.cells #[.slice none 0 0, .slice none 0 0, .slice none 0 0, .int .i64 (room : Int)] 30)) a w2.heap.size room (.slice none 0 0) 0 := by
  have h2 := K.below h g2
  have h3 := K.below h2 ((Below.refl _ w2).alloc (Nat.le_refl _) (.cells #[.slice none 0 0, .slice none 0 0, .slice none 0 0, .int .i64 (room : Int)] 30))
  have hs : w.heap.size ≤ w2.heap.size := Nat.le_trans g1.size g2.size
  refine ⟨N, Gh.new room, .slice none 0 0, .slice none 0 0, .slice none 0 0, none, 0, [], rfl, rfl, Nat.le_refl _, ⟨h3, Gh.new_ok hr, hN, Boxed4.new _ _ _ _ _, fun hb => ?_, hs, ?_, World.ownsRow_nil _ _ _ _, (fun k _ e => by cases e), (fun x hx => by simp at hx), (below_tr g1 g2).alloc hs _⟩⟩
  · have := K.lt h2 _ hb
    omega
  · exact ⟨none, 0, none, 0, none, 0, rfl, World.ownsRow_nil _ _ _ _, World.ownsRow_nil _ _ _ _, World.ownsRow_nil _ _ _ _, (fun k _ e => by cases e), (fun k _ e => by cases e), (fun k _ e => by cases e)⟩

theorem list3 {l : List Value} (h : l.length = 3) : ∃ x y z, l = [x, y, z] := by
  match l, h with
  | [x, y, z], _ => exact ⟨x, y, z, rfl⟩
theorem nat_u8 {x : Int} (h : (Lit.int .u8 x).wf = true) : ∃ n : Nat, x = (n : Int) ∧ n < 256 := by
  simp [Lit.wf, IntKind.min, IntKind.max, IntKind.signed, IntKind.bits] at h
  exact ⟨x.toNat, by omega, by omega⟩
theorem nat_u64 {x : Int} (h : (Lit.int .u64 x).wf = true) : ∃ n : Nat, x = (n : Int) ∧ n < 18446744073709551616 := by
  simp [Lit.wf, IntKind.min, IntKind.max, IntKind.signed, IntKind.bits] at h
  exact ⟨x.toNat, by omega, by omega⟩
theorem add_at (a : Addr) (n k : Nat) : a.add (n + (k + 1)) = ⟨(a.add n).block, (a.add n).off + (k + 1), none⟩ := by
  rw [← Go.Deep.add_add]
  simp [Addr.add]

/-- An operation's cells, in whatever world keeps what lay. -/
theorem op_cells {w : World} {A : Option Addr} {len cap : Nat} {rows : List (List Value)} (h : RowOf [some .u8, some .i64, some .u64] w A len cap rows) {j : Nat} (hj : j < len) :
    ∃ (a : Addr) (kd hh : Nat) (ni : Int), A = some a ∧ kd < 256 ∧ (Lit.int .i64 ni).wf = true ∧ hh < 18446744073709551616 ∧ ∀ W, Below w.heap.size w W →
      W.cell? (a.add (j * 3)) = some (.int .u8 (kd : Int)) ∧ W.cell? ⟨(a.add (j * 3)).block, (a.add (j * 3)).off + 1, none⟩ = some (.int .i64 ni) ∧ W.cell? ⟨(a.add (j * 3)).block, (a.add (j * 3)).off + 2, none⟩ = some (.int .u64 (hh : Int)) := by
  obtain ⟨h1, _, h3⟩ := h
  obtain ⟨hf, a, rfl, hc⟩ := h3 j (by omega)
  obtain ⟨x, y, z, e⟩ := list3 hf.length
  rw [e] at hf hc
  obtain ⟨⟨n0, rfl, w0⟩, ⟨n1, rfl, w1⟩, ⟨n2, rfl, w2⟩, _⟩ := hf
  obtain ⟨kd, rfl, hkd⟩ := nat_u8 w0
  obtain ⟨hh, rfl, hhh⟩ := nat_u64 w2
  have c0 := hc 0 _ rfl
  have c1 := hc 1 _ rfl
  have c2 := hc 2 _ rfl
  refine ⟨a, kd, hh, n1, rfl, hkd, w1, hhh, fun W b => ⟨?_, ?_, ?_⟩⟩
  · exact (b.cell (World.block_lt_of_cell? w _ c0)).trans c0
  · have e1 : a.add (j * 3 + 1) = ⟨(a.add (j * 3)).block, (a.add (j * 3)).off + 1, none⟩ := add_at a (j * 3) 0
    rw [← e1]
    exact (b.cell (World.block_lt_of_cell? w _ c1)).trans c1
  · have e1 : a.add (j * 3 + 2) = ⟨(a.add (j * 3)).block, (a.add (j * 3)).off + 2, none⟩ := add_at a (j * 3) 1
    rw [← e1]
    exact (b.cell (World.block_lt_of_cell? w _ c2)).trans c2

theorem lit3 (w : World) (u v x : Value) : (w.alloc (.cells #[u, v, x] 35)).ownsRow w.heap.size 35 1 (.slice (some ⟨w.heap.size, 0, none⟩) 3 3) 3 [u, v, x] :=
  World.ownsRow_lit (base := w.heap.size) (e := 35) (size := 1) w #[u, v, x] 3 (Nat.le_refl _) (by decide) rfl
theorem info_u64 : (Try.prog.info? 35).map (fun i => (i.zero, i.size, i.bytes)) = some (some (.int .u64 0), 1, 8) := by kernel_rfl

set_option maxHeartbeats 8000000 in
set_option maxRecDepth 100000 in
theorem tells_played (K : ArenaK) (HA : Hid Awake) (room : Nat) (A : Option Addr) (len cap : Nat) (rows : List (List Value)) (w : World) (h1 : 1 ≤ room) (h2 : room ≤ 40) (h3 : len ≤ 60) (HR : Hid (RowOf [some .u8, some .i64, some .u64] w A len cap rows)) :
    Calls Try.prog 3 #[.int .i64 (room : Int), .slice A len cap] w fun e w' => e = .returned (.bool true) ∧ Below w.heap.size w w' := by
  have R1 := Lib.hid (K.new room w h1 (by omega))
  have R2 := Lib.hid (fun w => ref_new_yes (room : Int) w (by omega) (by omega))
  have h2z : ¬ (40 : Int) < (room : Int) := by omega
  have h3z : ¬ (60 : Int) < (len : Int) := by omega
  go_enter Try.func3, Try.ntmps3
  go_wp2_with fail
  refine R1.out.mono ?_
  rintro e w1 ⟨a, N, rfl, hat, hN, g1⟩
  go_wp2_with fail
  refine (R2.out _).mono ?_
  rintro e w2 ⟨rfl, g2⟩
  have HP := Lib.hid (play_start K (by omega) hat hN g1 g2)
  clear hat hN g1 g2 R1 R2
  go_wp2_with fail
  obtain ⟨W0, HW0⟩ : ∃ W0, Hid (w2.alloc (.cells #[.slice none 0 0, .slice none 0 0, .slice none 0 0, .int .i64 (room : Int)] 30) = W0) := ⟨_, Lib.hid rfl⟩
  rw [HW0.out] at HP ⊢
  clear HW0
  obtain ⟨B, HB⟩ : ∃ B, Hid (w2.heap.size = B) := ⟨_, Lib.hid rfl⟩
  rw [HB.out] at HP ⊢
  clear HB
  go_loopg [9, 72] len (fun k tk i wx => ∃ (j : Nat), len - j = k ∧ j ≤ len ∧ i = .int .i64 (j : Int) ∧ Hid (PlayAt K w wx a B room tk j))
  case atStart => exact ⟨0, rfl, by omega, rfl, HP⟩
  case round =>
    clear HP
    obtain ⟨j, rfl, hj, rfl, HQ⟩ := hrel
    obtain ⟨N, g, vt, vk, vb, p, c, H, rfl, hroom, hH, P⟩ := HQ.out
    have HP := Lib.hid P
    have Hroom := Lib.hid hroom
    clear HQ P hroom
    by_cases h0 : j = len
    · have h0z : ¬ (j : Int) < (len : Int) := by omega
      have h0n : ¬ j < len := by omega
      clear h0
      go_wp2_with fail
      refine (HA.out _).mono ?_
      rintro e w3 ⟨rfl, g3⟩
      go_wp2_with fail
      go_ret
      exact ⟨rfl, HP.out.lo.trans (g3.mono HP.out.lo.size)⟩
    · have hjl : j < len := by omega
      obtain ⟨ad, kd, hh, ni, rfl, hkd, hni, hhh, HO⟩ := op_cells HR.out hjl
      obtain ⟨o0, o1, o2⟩ := HO wr HP.out.lo
      clear HO
      have hjz : (j : Int) < (len : Int) := by omega
      clear h0
      go_upto_if 80 with fail
      clear o0 o1 o2
      go_cut [12] (fun hv wx => ∃ x : Nat, hv = .int .u64 (x : Int) ∧ Hid (x < 18446744073709551616) ∧ wx = wr.alloc (.cells #[.int .u8 (kd : Int), .int .i64 ni, .int .u64 (hh : Int)] 37))
      case first =>
        by_cases hk2 : kd = 2
        · subst hk2
          have R := Lib.hid (law_of p c w.heap.size H ni _ (by omega) (HP.out.row.alloc (.cells #[.int .u8 ((2 : Nat) : Int), .int .i64 ni, .int .u64 (hh : Int)] 37)))
          have hs := Lib.hid (ofH_small HP.out.small ni)
          generalize ofH H ni = x at *
          go_wp2_with fail
          refine R.out.mono ?_
          rintro e w' ⟨rfl, rfl⟩
          go_wp2_with fail
          go_meet
          exact ⟨x, rfl, hs, rfl⟩
        · have hk2z : ((kd : Int) == 2) = false := by simp; omega
          go_wp2_with fail
          go_meet
          exact ⟨hh, rfl, hhh, rfl⟩
      case rest =>
        obtain ⟨x, rfl, Hx, rfl⟩ := hcut
        go_upto_block 2 with fail
        have HP1 := Lib.hid (HP.out.below ((Below.refl _ wr).alloc (Nat.le_refl _) (.cells #[.int .u8 (kd : Int), .int .i64 ni, .int .u64 (hh : Int)] 37)))
        obtain ⟨W1, HW1⟩ : ∃ W1, Hid (wr.alloc (.cells #[.int .u8 (kd : Int), .int .i64 ni, .int .u64 (hh : Int)] 37) = W1) := ⟨_, Lib.hid rfl⟩
        rw [HW1.out] at HP1 ⊢
        clear HW1 HP
        go_cut [9] (fun tk wx => Hid (PlayAt K w wx a B room tk (j + 1)))
        case first =>
          by_cases hk1 : kd = 1
          · subst hk1
            by_cases hf : g.full
            · have HF := Lib.hid hf
              clear hf
              go_wp2_with fail
              refine (K.take_full HP1.out.at_ HP1.out.ok (by omega) HF.out).mono ?_
              rintro e w3 ⟨rfl, t⟩
              obtain ⟨N', q1, q2, q3, q4, q5, q6, q7, q8⟩ := HP1.out.went t
              obtain ⟨c0, c1, c2, c3⟩ := q3.cells
              clear t
              rw [show ((0 : Nat) : Int) = 0 from rfl, show ((4 : Nat) : Int) = 4 from rfl]
              go_wp2_with fail
              refine (rg_take_full q5 HP1.out.ok HF.out).mono ?_
              rintro e w4 ⟨v4, rfl, hR4, b4⟩
              rw [show ((0 : Nat) : Int) = 0 from rfl, show ((4 : Nat) : Int) = 4 from rfl]
              have hR5 := hR4
              obtain ⟨pt4, ct4, pk4, ck4, pb4, cb4, hv4, _⟩ := hR4
              subst hv4
              have X5 := (q3.below b4).alloc (.cells #[.slice pt4 g.ts.length ct4, .slice pk4 g.l.length ck4, .slice pb4 g.bk.length cb4, .int .i64 (g.room : Int)] 30)
              have HPP := Lib.hid (play_put (w := w) q1 HP1.out.ok.more q2 q3 q4 HP1.out.boxw hR5 b4 q6 q7 HP1.out.small q8)
              obtain ⟨d0, d1, d2, d3⟩ := X5.cells
              have fx := X5.frozen
              clear hR5 X5 c0 c1 c2 c3 b4 q1 q2 q3 q4 q5 q6 q7 q8
              go_wp2_with fail
              go_meet
              unfold put4 at HPP
              exact ⟨N', g, _, _, _, p, c, H, rfl, Hroom.out, by omega, HPP.out⟩
            · have HF := Lib.hid hf
              clear hf
              have HT := Lib.hid (fun (N' : Nat → Prop) (w3 : World) (v : Value) (hN : ∀ k, N' k → k < w3.heap.size) (r : RAt N' w3 v g) => rg_take hN r HP1.out.ok (by omega) HF.out)
              have HKT := Lib.hid (K.take HP1.out.at_ HP1.out.ok (by omega) HF.out)
              have HOK := Lib.hid (HP1.out.ok.take HF.out)
              have HHS := Lib.hid (HP1.out.ok.handle_small (by omega))
              have HTR := Lib.hid (Gh.take_room g)
              obtain ⟨g', Hg'⟩ : ∃ g', Hid (g.take = g') := ⟨_, Lib.hid rfl⟩
              obtain ⟨hx, Hhx⟩ : ∃ hx, Hid (g.handle = hx) := ⟨_, Lib.hid rfl⟩
              rw [Hg'.out] at HT HKT HOK HTR
              rw [Hhx.out] at HT HKT HHS
              clear Hg' Hhx
              go_wp2_with fail
              refine HKT.out.mono ?_
              rintro e w3 ⟨rfl, t⟩
              obtain ⟨N', q1, q2, q3, q4, q5, q6, q7, q8⟩ := HP1.out.went t
              obtain ⟨c0, c1, c2, c3⟩ := q3.cells
              clear t
              rw [show ((0 : Nat) : Int) = 0 from rfl]
              go_wp2_with fail
              refine (HT.out N' w3 _ (fun k hk => K.lt q1 k hk) q5).mono ?_
              rintro e w4 ⟨v4, rfl, hR4, b4⟩
              rw [show ((0 : Nat) : Int) = 0 from rfl]
              have q3' := q3
              rw [← HTR.out] at q3'
              have hR5 := hR4
              obtain ⟨pt4, ct4, pk4, ck4, pb4, cb4, hv4, _⟩ := hR4
              subst hv4
              have X5 := (q3'.below b4).alloc (.cells #[.slice pt4 g'.ts.length ct4, .slice pk4 g'.l.length ck4, .slice pb4 g'.bk.length cb4, .int .i64 (g'.room : Int)] 30)
              have HPP := Lib.hid (play_put (w := w) q1 HOK.out q2 q3' q4 HP1.out.boxw hR5 b4 q6 q7 HP1.out.small q8)
              obtain ⟨d0, d1, d2, d3⟩ := X5.cells
              have fx := X5.frozen
              clear hR5 X5 c0 c1 c2 c3 b4 q1 q2 q3 q4 q5 q6 q7 q8 q3'
              go_upto_region 22 with fail
              obtain ⟨W5, HW5⟩ : ∃ W5, Hid (put4 (w4.alloc (.cells #[.slice pt4 g'.ts.length ct4, .slice pk4 g'.l.length ck4, .slice pb4 g'.bk.length cb4, .int .i64 (g'.room : Int)] 30)) B (.slice pt4 g'.ts.length ct4) (.slice pk4 g'.l.length ck4) (.slice pb4 g'.bk.length cb4) (.int .i64 (g'.room : Int)) = W5) := ⟨_, Lib.hid rfl⟩
              rw [HW5.out] at HPP
              unfold put4 at HW5
              rw [HW5.out]
              clear HW5 d0 d1 d2 d3 fx
              obtain ⟨i2, hi2, hz0, hz1, hz2⟩ := info_parts info_u64
              have PA := Lib.hid (HPP.out.below ((Below.refl _ W5).alloc (Nat.le_refl _) (.cells #[.int .u64 (hx : Int)] 35)))
              have hs1 : H.length + 1 ≤ maxLen := by unfold maxLen; omega
              have hs2 : w.heap.size ≤ W5.heap.size := HPP.out.lo.size
              go_wp2_with (at_builtin; refine wpList_append_own_at _ rfl (.tmp 111) (.tmp 113) 34 rfl w.heap.size 35 i2 (.int .u64 0) 1 8 Try.underlying34 hi2 hz0 hz1 hz2 rfl (by decide) _ H.length (H.map u64V) rfl PA.out.row ⟨W5.heap.size, 0, none⟩ 1 1 [.int .u64 (hx : Int)] rfl rfl (cell_one_new _ _ _) (by intro u hu; simp at hu; subst hu; rfl) hs1 (by omega) (by simp; omega) ?_; intro v6 w6 own6 gr6 _ at6; obtain ⟨p6, c6, rfl⟩ := owns_slice own6)
              go_meet
              exact ⟨N', g', _, _, _, p6, c6, H ++ [hx], by rw [List.length_append]; rfl, HTR.out.trans Hroom.out, by rw [List.length_append]; simp; omega, PA.out.took HHS.out own6 gr6 at6⟩
          · have hk1z : ((kd : Int) == 1) = false := by simp; omega
            by_cases hk23 : kd = 2 ∨ kd = 3
            · cases hpl : placeOf g.ts g.l x with
              | none =>
                have HKG := Lib.hid (K.give_no x HP1.out.at_ HP1.out.ok (by omega) Hx.out hpl)
                have HT := Lib.hid (fun (N' : Nat → Prop) (w3 : World) (v : Value) (r : RAt N' w3 v g) => rg_give_none r HP1.out.ok (by omega) x Hx.out hpl)
                clear hpl
                rcases hk23 with hk | hk
                all_goals
                  subst hk
                  go_wp2_with fail
                  refine HKG.out.mono ?_
                  rintro e w3 ⟨rfl, t⟩
                  obtain ⟨N', q1, q2, q3, q4, q5, q6, q7, q8⟩ := HP1.out.went t
                  obtain ⟨c0, c1, c2, c3⟩ := q3.cells
                  clear t
                  rw [show ((40 : Nat) : Int) = 40 from rfl]
                  go_wp2_with fail
                  refine (HT.out N' w3 _ q5).mono ?_
                  rintro e w4 ⟨v4, rfl, hR4, b4⟩
                  rw [show ((40 : Nat) : Int) = 40 from rfl]
                  have hR5 := hR4
                  obtain ⟨pt4, ct4, pk4, ck4, pb4, cb4, hv4, _⟩ := hR4
                  subst hv4
                  have X5 := (q3.below b4).alloc (.cells #[.slice pt4 g.ts.length ct4, .slice pk4 g.l.length ck4, .slice pb4 g.bk.length cb4, .int .i64 (g.room : Int)] 30)
                  have HPP := Lib.hid (play_put (w := w) q1 HP1.out.ok.more q2 q3 q4 HP1.out.boxw hR5 b4 q6 q7 HP1.out.small q8)
                  obtain ⟨d0, d1, d2, d3⟩ := X5.cells
                  have fx := X5.frozen
                  clear hR5 X5 c0 c1 c2 c3 b4 q1 q2 q3 q4 q5 q6 q7 q8
                  go_wp2_with fail
                  go_meet
                  unfold put4 at HPP
                  exact ⟨N', g, _, _, _, p, c, H, rfl, Hroom.out, by omega, HPP.out⟩
              | some pp =>
                have hpt := place_taken hpl
                have HKG := Lib.hid (K.give x pp HP1.out.at_ HP1.out.ok (by omega) Hx.out hpl)
                have HT := Lib.hid (fun (N' : Nat → Prop) (w3 : World) (v : Value) (hN : ∀ k, N' k → k < w3.heap.size) (r : RAt N' w3 v g) => rg_give hN r HP1.out.ok (by omega) x pp Hx.out hpt.1 hpt.2 hpl)
                have HOK := Lib.hid (HP1.out.ok.give hpt.2)
                have HTR := Lib.hid (Gh.give_room g pp)
                obtain ⟨g', Hg'⟩ : ∃ g', Hid (g.give pp = g') := ⟨_, Lib.hid rfl⟩
                rw [Hg'.out] at HT HKG HOK HTR
                clear Hg' hpl hpt
                rcases hk23 with hk | hk
                all_goals
                  subst hk
                  go_wp2_with fail
                  refine HKG.out.mono ?_
                  rintro e w3 ⟨rfl, t⟩
                  obtain ⟨N', q1, q2, q3, q4, q5, q6, q7, q8⟩ := HP1.out.went t
                  obtain ⟨c0, c1, c2, c3⟩ := q3.cells
                  clear t
                  rw [show ((0 : Nat) : Int) = 0 from rfl]
                  go_wp2_with fail
                  refine (HT.out N' w3 _ (fun k hk => K.lt q1 k hk) q5).mono ?_
                  rintro e w4 ⟨v4, rfl, hR4, b4⟩
                  rw [show ((0 : Nat) : Int) = 0 from rfl]
                  have q3' := q3
                  rw [← HTR.out] at q3'
                  have hR5 := hR4
                  obtain ⟨pt4, ct4, pk4, ck4, pb4, cb4, hv4, _⟩ := hR4
                  subst hv4
                  have X5 := (q3'.below b4).alloc (.cells #[.slice pt4 g'.ts.length ct4, .slice pk4 g'.l.length ck4, .slice pb4 g'.bk.length cb4, .int .i64 (g'.room : Int)] 30)
                  have HPP := Lib.hid (play_put (w := w) q1 HOK.out.more q2 q3' q4 HP1.out.boxw hR5 b4 q6 q7 HP1.out.small q8)
                  obtain ⟨d0, d1, d2, d3⟩ := X5.cells
                  have fx := X5.frozen
                  clear hR5 X5 c0 c1 c2 c3 b4 q1 q2 q3 q4 q5 q6 q7 q8 q3'
                  go_wp2_with fail
                  go_meet
                  unfold put4 at HPP
                  exact ⟨N', g', _, _, _, p, c, H, rfl, HTR.out.trans Hroom.out, by omega, HPP.out⟩
            · have hk2z : ((kd : Int) == 2) = false := by simp; omega
              have hk3z : ((kd : Int) == 3) = false := by simp; omega
              go_wp2_with fail
              go_meet
              exact ⟨N, g, _, _, _, p, c, H, rfl, Hroom.out, by omega, HP1.out.more⟩
        case rest =>
          clear HP1 Hroom
          obtain ⟨N, g, vt, vk, vb, p, c, H, rfl, hroom, hH, P⟩ := hcut.out
          have HP := Lib.hid P
          have Hroom := Lib.hid hroom
          clear P hroom hcut
          go_wp2_with fail
          go_loopg [21] (room + 2) (fun k i wx => ∃ q : Nat, room + 2 - q = k ∧ q ≤ room + 2 ∧ i = .int .i64 ((q : Int) - 1) ∧ Hid (Play K w wx a B N g (j + 1) vt vk vb p c H))
          case atStart => exact ⟨0, rfl, by omega, rfl, HP⟩
          case round =>
            clear HP
            obtain ⟨q, rfl, hq, rfl, HP⟩ := hrel
            obtain ⟨c0, c1, c2, c3⟩ := HP.out.box.cells
            by_cases hq0 : q = room + 2
            · have hqz : ¬ (q : Int) - 1 ≤ (room : Int) := by omega
              clear hq0
              go_upto_region 37 with fail
              obtain ⟨x2, hx2, hx2s⟩ : ∃ x2 : Nat, IntKind.u64.wrap ((x : Int) + 4294967296) = (x2 : Int) ∧ x2 < 18446744073709551616 := ⟨(x + 4294967296) % 18446744073709551616, by rw [IntKind.wrap_u64]; omega, by omega⟩
              obtain ⟨L, HL0⟩ : ∃ L, Hid ([x, x2, 0] ++ H = L) := ⟨_, Lib.hid rfl⟩
              have HLl : Hid (L.length = 3 + H.length) := by show L.length = _; rw [← HL0.out]; simp; omega
              have HLs : Hid (∀ y, y ∈ L → y < 18446744073709551616) := by
                intro y hy
                rw [← HL0.out] at hy
                rcases List.mem_append.1 hy with hy | hy
                · simp at hy
                  have := Hx.out
                  rcases hy with rfl | rfl | rfl <;> omega
                · exact HP.out.small y hy
              obtain ⟨i2, hi2, hz0, hz1, hz2⟩ := info_parts info_u64
              have lit := lit3 wr (.int .u64 (x : Int)) (.int .u64 (x2 : Int)) (.int .u64 0)
              have PA := Lib.hid (HP.out.below ((Below.refl _ wr).alloc (Nat.le_refl _) (.cells #[.int .u64 (x : Int), .int .u64 (x2 : Int), .int .u64 0] 35)))
              have hs1 : 3 + H.length ≤ maxLen := by unfold maxLen; omega
              clear c0 c1 c2 c3
              go_wp2_with (at_builtin; refine wpList_append_any _ rfl (.tmp 159) (.tmp 160) 34 rfl wr.heap.size 35 i2 (.int .u64 0) 1 8 Try.underlying34 hi2 hz0 hz1 hz2 rfl (by decide) _ 3 [.int .u64 (x : Int), .int .u64 (x2 : Int), .int .u64 0] rfl lit w.heap.size _ H.length (H.map u64V) rfl PA.out.row (by intro u hu; obtain ⟨a, _, rfl⟩ := List.mem_map.1 hu; rfl) hs1 (by omega) (by simp) ?_; intro v9 w9 own9 gr9; obtain ⟨p9, c9, rfl⟩ := owns_slice own9)
              obtain ⟨_, hf9⟩ := own_form own9
              obtain ⟨g9, rfl⟩ := hf9 (by omega)
              have b9 := ((Below.refl _ wr).alloc (Nat.le_refl _) (.cells #[.int .u64 (x : Int), .int .u64 (x2 : Int), .int .u64 0] 35)).grown gr9 (by simp) (fun k e => by cases e; exact Nat.le_refl _)
              have HP9 := Lib.hid (HP.out.below b9)
              have HL9 : Hid (w9.ownsRow wr.heap.size 35 1 (.slice (some ⟨g9, 0, none⟩) (3 + H.length) c9) (3 + H.length) (L.map u64V)) := by
                show w9.ownsRow _ _ _ _ _ _
                rw [← HL0.out]
                exact own9
              clear own9 gr9 hf9 b9 PA lit HP hx2
              go_loopg [163] (3 + H.length) (fun k i wx => ∃ q : Nat, 3 + H.length - q = k ∧ q ≤ 3 + H.length ∧ i = .int .i64 (q : Int) ∧ Hid (Play K w wx a B N g (j + 1) vt vk vb p c H) ∧ Hid (wx.ownsRow wr.heap.size 35 1 (.slice (some ⟨g9, 0, none⟩) (3 + H.length) c9) (3 + H.length) (L.map u64V)))
              case atStart => exact ⟨0, rfl, by omega, rfl, HP9, HL9⟩
              case round =>
                clear HP9 HL9
                obtain ⟨q3, rfl, hq3, rfl, HP, HLr⟩ := hrel
                obtain ⟨c0, c1, c2, c3⟩ := HP.out.box.cells
                by_cases hq0 : q3 = 3 + H.length
                · have hqz3 : ¬ (q3 : Int) < 3 + (H.length : Int) := by omega
                  have hqn3 : ¬ q3 < 3 + H.length := by omega
                  clear hq0
                  go_upto_region 45 with fail
                  have Hc := Lib.hid (by rw [Hroom.out]; simp : ((g.room : Int) != (room : Int)) = false)
                  have hcz : ((g.room : Int) != (room : Int)) = false := Hc.out
                  go_region_held3 (fun w' => w'.cell? ⟨B, 0, none⟩ = some vt ∧ w'.cell? ⟨B, 1, none⟩ = some vk ∧ w'.cell? ⟨B, 2, none⟩ = some vb ∧ w'.cell? ⟨B, 3, none⟩ = some (.int .i64 (g.room : Int)) ∧ Hid (Play K w w' a B N g (j + 1) vt vk vb p c H))
                    (first | exact ⟨c0, c1, c2, c3, HP.out.drew⟩ | exact ⟨HPn.out.box.cells.1, HPn.out.box.cells.2.1, HPn.out.box.cells.2.2.1, HPn.out.box.cells.2.2.2, HPn⟩ | (go_split_ands; exact ⟨by assumption, by assumption, by assumption, by assumption, by assumption⟩))
                    (first | (go_at_call 20; go_split_ands; refine (Play.usedP (Hid.out (by assumption : Hid (Play K w _ a B N g (j + 1) vt vk vb p c H)))).mono ?_; rintro e w5 ⟨rfl, g5⟩; have HPn := Lib.hid ((Hid.out (by assumption : Hid (Play K w _ a B N g (j + 1) vt vk vb p c H))).below g5)) | (go_at_call 21; go_split_ands; refine (Play.usedR (Hid.out (by assumption : Hid (Play K w _ a B N g (j + 1) vt vk vb p c H)))).mono ?_; rintro e w6 ⟨rfl, g6⟩; have HPn := Lib.hid ((Hid.out (by assumption : Hid (Play K w _ a B N g (j + 1) vt vk vb p c H))).below g6)) | (go_at_call 22; go_split_ands; refine (Play.roomP (Hid.out (by assumption : Hid (Play K w _ a B N g (j + 1) vt vk vb p c H)))).mono ?_; rintro e w7 ⟨rfl, g7⟩; have HPn := Lib.hid ((Hid.out (by assumption : Hid (Play K w _ a B N g (j + 1) vt vk vb p c H))).below g7)))
                  go_wp2_with fail
                  go_roundg (len - (j + 1))
                  case measure => omega
                  case rel => exact ⟨j + 1, rfl, by omega, by go_num, ⟨N, g, vt, vk, vb, p, c, H, rfl, Hroom.out, hH, HPn.out⟩⟩
                · have hqn3 : q3 < 3 + H.length := by omega
                  have hqz3 : (q3 : Int) < 3 + (H.length : Int) := by omega
                  have hql : q3 < L.length := by have := HLl.out; omega
                  have cy : wr.cell? ⟨g9, q3, none⟩ = some (.int .u64 (L[q3] : Nat)) := by
                    have h := HLr.out.cellAt q3 (by omega)
                    rw [List.getElem?_map, List.getElem?_eq_getElem hql] at h
                    exact h
                  have hys := HLs.out L[q3] (List.getElem_mem hql)
                  generalize L[q3] = y at *
                  obtain ⟨o, HA1, HA2⟩ := HP.out.places (by omega) y hys
                  clear hq0 hql
                  cases o
                  all_goals
                    go_wp2_with fail
                    refine (HA1.out _ HP.out).mono ?_
                    rintro e w3 ⟨rfl, g3⟩
                    have HP3 := Lib.hid (HP.out.below g3)
                    have HL3 := Lib.hid (owns_below HLr.out g3)
                    obtain ⟨e0, e1, e2, e3⟩ := HP3.out.box.cells
                    clear g3 c0 c1 c2 c3 cy
                    unfold placeV
                    simp only [Option.getD_none, Option.getD_some, Option.isSome_none, Option.isSome_some]
                    go_wp2_with fail
                    refine (HA2.out _ HP3.out).mono ?_
                    rintro e w4 ⟨rfl, g4⟩
                    have HP4 := Lib.hid (HP3.out.below g4)
                    have HL4 := Lib.hid (owns_below HL3.out g4)
                    clear g4 e0 e1 e2 e3
                    unfold placeV
                    simp only [Option.getD_none, Option.getD_some, Option.isSome_none, Option.isSome_some]
                    go_wp2_with fail
                    go_roundg (3 + H.length - (q3 + 1))
                    case measure => omega
                    case rel => exact ⟨q3 + 1, rfl, by omega, by go_num, HP4, HL4⟩
            · have hqz : (q : Int) - 1 ≤ (room : Int) := by omega
              have hq1 : q < room + 2 := by omega
              obtain ⟨o, HA1, HA2⟩ := HP.out.handles (by omega) ((q : Int) - 1) (by omega) (by omega)
              clear hq0
              cases o
              all_goals
                go_wp2_with fail
                refine (HA1.out _ HP.out).mono ?_
                rintro e w3 ⟨rfl, g3⟩
                have HP3 := Lib.hid (HP.out.below g3)
                obtain ⟨e0, e1, e2, e3⟩ := HP3.out.box.cells
                clear g3 c0 c1 c2 c3
                unfold HdOut
                simp only [Option.getD_none, Option.getD_some, Option.isSome_none, Option.isSome_some]
                go_wp2_with fail
                refine (HA2.out _ HP3.out).mono ?_
                rintro e w4 ⟨rfl, g4⟩
                have HP4 := Lib.hid (HP3.out.below g4)
                clear g4 e0 e1 e2 e3
                unfold HdOut
                simp only [Option.getD_none, Option.getD_some, Option.isSome_none, Option.isSome_some]
                go_wp2_with fail
                go_roundg (room + 2 - (q + 1))
                case measure => omega
                case rel => exact ⟨q + 1, rfl, by omega, by go_num, HP4⟩

theorem arenaTells_of (K : ArenaK) (HA : Awake) (a0 : Int) (a1 : Option Addr) (len1 cap1 : Nat) (z1 : List (List Value)) (w : World) (w0 : (Lit.int .i64 a0).wf = true) (w1 : RowOf [some .u8, some .i64, some .u64] w a1 len1 cap1 z1) :
    Calls Try.prog 3 #[.int .i64 a0, .slice a1 len1 cap1] w fun e w' => e = .returned (.bool true) ∧ Below w.heap.size w w' := by
  by_cases h : a0 < 1 ∨ 65536 < a0
  · exact tells_none K HA a0 a1 len1 cap1 w h
  · obtain ⟨room, rfl⟩ : ∃ n : Nat, a0 = (n : Int) := ⟨a0.toNat, by omega⟩
    by_cases h2 : 40 < room ∨ 60 < len1
    · exact tells_far K HA room a1 len1 cap1 w (by omega) (by omega) h2
    · exact tells_played K HA room a1 len1 cap1 z1 w (by omega) (by omega) (by omega) w1

end Go.Proofs.Ytacienpjoegclaa
