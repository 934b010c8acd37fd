/-
  TreeBack's walk, over whatever the program's tree is (TreeK).
-/
import Derived.Test.YtagjgfmkfljneaaTreeBackSteps
namespace Go.Proofs.Ytagjgfmkfljneaa
open Go.RowKit
set_option linter.unusedVariables false

/-- The tree and what is left of it are the same entries. -/
structure LeftAt (K : TreeK) (w W : World) (a : Addr) (p : Option Addr) (n c : Nat) (N : Nat → Prop) (g : Tg) : Prop where
  back : BackR K w W a N g p n c g.l
  len : g.l.length = n
  room : g.room = 60
  small : n ≤ 60
/-- The tree, and its entries as they were told. -/
structure BackO (K : TreeK) (w W : World) (a : Addr) (N : Nat → Prop) (g : Tg) (p : Option Addr) (n c : Nat) (l : List En) : Prop where
  own : OwnT K w W a N g
  row : MineT w W N 44 3 (.slice p n c) n (l.flatMap enC)
theorem BackO.below {K : TreeK} {w W W' : World} {a : Addr} {N : Nat → Prop} {g : Tg} {p : Option Addr} {n c : Nat} {l : List En} (h : BackO K w W a N g p n c l) (b : Below W.heap.size W W') : BackO K w W' a N g p n c l := ⟨h.own.below b, h.row.below b⟩
theorem BackO.step {K : TreeK} {w W W' : World} {a : Addr} {N N' : Nat → Prop} {g g' : Tg} {p : Option Addr} {n c : Nat} {l : List En} (h : BackO K w W a N g p n c l) (o : OwnT K w W' a N' g') (s : SteppedT W W' N N') : BackO K w W' a N' g' p n c l := ⟨o, h.row.step s⟩
/-- The entries, copied into a row of their own. -/
theorem BackO.copied {K : TreeK} {w W w5 : World} {a : Addr} {N : Nat → Prop} {g : Tg} {p p5 : Option Addr} {n c c5 : Nat} {l : List En} (h : BackO K w W a N g p n c l) (hg : g.l = l) (hn : l.length = n) (hr : g.room = 60) (own5 : w5.ownsRow W.heap.size 44 3 (.slice p5 n c5) n (l.flatMap enC)) (gr5 : (W.alloc (.cells #[] 44)).grownBy w5 (some W.heap.size)) (hs : n ≤ 60) : LeftAt K w w5 a p5 n c5 N g := by
  have bl : Below W.heap.size W (W.alloc (.cells #[] 44)) := (Below.refl _ _).alloc (Nat.le_refl _) _
  have b : Below W.heap.size W w5 := ⟨gr5.os.trans bl.os, gr5.tape.trans bl.tape, gr5.output.trans bl.output, Nat.le_trans bl.size gr5.size, fun k hk => (gr5.block k (Nat.lt_of_lt_of_le hk bl.size) (by intro e; have := Option.some.inj e; omega)).trans (bl.block k hk)⟩
  subst hg
  refine ⟨⟨h.own.below b, .inl (own_low own5 h.own.lo.size), fun k hk e => ?_⟩, hn, hr, hs⟩
  have h1 := (own5.lt k e).1
  have h2 := K.lt h.own.at_ k hk
  omega
/-- The shape of a tree that is in order is walked. -/
theorem shape_walk {K : TreeK} {w W : World} {a : Addr} {N : Nat → Prop} {g : Tg} {p : Option Addr} {c m : Nat} (o : OwnT K w W a N g) (hm : g.l.length = m) (hs : m ≤ 60) (h : W.ownsRow w.heap.size 56 4 (.slice p m c) m ((g.t.twigs 0 (-1)).flatMap twC)) :
    ∃ bh : Nat, Calls Try.prog 28 #[.slice p m c, .int .i64 0, .int .i64 (m : Int), .int .i64 (-1)] W fun e w' => e = .returned (.int .i64 (bh : Int)) ∧ w' = W := by
  obtain ⟨bh, hbal⟩ := o.ok.bal
  have e1 : (g.t.twigs 0 (-1)).length = m := by rw [Tg.len, hm]
  have h3 : g.t.size = m := by rw [← RB.size_toL, show g.t.toL = g.l from rfl, hm]
  refine ⟨bh, ?_⟩
  rw [← e1] at h ⊢
  have h4 := law_walk p c _ (g.t.twigs 0 (-1)) W (by omega) h g.t 0 (-1) true bh (fun i x hx => by rw [Nat.zero_add]; exact hx) (by omega) hbal (.inl ⟨rfl, rfl⟩)
  rw [show 0 + g.t.size = (g.t.twigs 0 (-1)).length by omega] at h4
  exact h4
/-- As many keys have come again. -/
structure AgainAt (K : TreeK) (w W : World) (a : Addr) (j : Nat) (N : Nat → Prop) (g : Tg) : Prop where
  own : OwnT K w W a N g
  room : g.room = 60
  len : g.l.length = j
  keys : ∀ e, e ∈ g.l → ∃ i, i < j ∧ e.key = ⟨i * 7 % 60, 0⟩
theorem again_none {l : List En} {j : Nat} (h : ∀ e, e ∈ l → ∃ i, i < j ∧ e.key = ⟨i * 7 % 60, 0⟩) (k : Ky) (hk : ∀ i, i < j → k ≠ ⟨i * 7 % 60, 0⟩) : getL k l = none := by
  cases hg : getL k l with
  | none => rfl
  | some v =>
    obtain ⟨i, h1, h2⟩ := h _ (getL_some hg)
    exact absurd h2 (hk i h1)
set_option maxHeartbeats 16000000 in
set_option maxRecDepth 100000 in
theorem treeBack_of (K : TreeK) (HA : Hid Awake) (A : Option Addr) (len cap : Nat) (z0 : List (List Value)) (k : Ky) (hk : k.Fits) (A2 : Option Addr) (len2 cap2 : Nat) (z2 : List (List Value)) (w : World) (HR : Hid (RowOf [some .u8, some .u64, some .u64, some .i64] w A len cap z0)) (HR2 : Hid (RowOf [some .u8] w A2 len2 cap2 z2)) :
    Calls Try.prog 7 #[.slice A len cap, kyV k, .slice A2 len2 cap2] w fun e w' => e = .returned (.bool true) ∧ Below w.heap.size w w' := by
  unfold kyV
  obtain ⟨kb, HKB⟩ : ∃ kb, Hid (w.heap.size = kb) := ⟨_, Lib.hid rfl⟩
  obtain ⟨W0, HW0⟩ : ∃ W, Hid (w.alloc (.cells #[.int .u64 (k.at_ : Int), .int .u64 (k.seq : Int)] 33) = W) := ⟨_, Lib.hid rfl⟩
  have B0 : Hid (Below w.heap.size w W0) := by
    rw [← HW0.out]
    exact Lib.hid ((Below.refl _ w).alloc (Nat.le_refl _) _)
  have X0 : Hid (Box W0 kb 33 #[.int .u64 (k.at_ : Int), .int .u64 (k.seq : Int)]) := by
    rw [← HW0.out, ← HKB.out]
    exact Lib.hid (Box.new _ _ _)
  have R1 := Lib.hid (law_played K A len cap z0 W0 (Lib.hid (HR.out.below B0.out)))
  have HR3 : Hid (RowOf [some .u8] W0 A2 len2 cap2 z2) := Lib.hid (HR2.out.below B0.out)
  have hlc2 := (row_fit HR2.out).1
  have hcap2 := (row_fit HR2.out).2
  have HC : Hid (∀ W, Below W0.heap.size W0 W → W.cell? ⟨kb, 0, none⟩ = some (.int .u64 (k.at_ : Int)) ∧ W.cell? ⟨kb, 1, none⟩ = some (.int .u64 (k.seq : Int))) := Lib.hid fun W b => ⟨(X0.out.below b X0.out.lt).cell 0, (X0.out.below b X0.out.lt).cell 1⟩
  have HX : Hid (∀ k1 : Ky, kyV k1 = .agg #[.int .u64 (k1.at_ : Int), .int .u64 (k1.seq : Int)]) := Lib.hid fun _ => rfl
  go_enter Try.func7, Try.ntmps7
  go_upto_region 1 with fail
  rw [HW0.out, HKB.out]
  clear HR HR2 X0
  go_wp2_with fail
  refine R1.out.mono ?_
  rintro e w1 ⟨a, rfl, N, g, O1, hroom⟩
  obtain ⟨l, HL⟩ : ∃ l, Hid (g.l = l) := ⟨_, Lib.hid rfl⟩
  obtain ⟨n, hn⟩ : ∃ n, l.length = n := ⟨_, rfl⟩
  have hn60 : n ≤ 60 := by rw [← hn, ← HL.out, ← hroom]; exact O1.ok.room
  have KA := Lib.hid O1.all
  rw [HL.out, hn] at KA
  have HNN := Lib.hid hn
  have Hroom := Lib.hid hroom
  clear R1 O1 hroom hn HW0 HKB
  go_wp2_with fail
  refine KA.out.mono ?_
  rintro e w2 ⟨p, c, rfl, M2, O2, b2⟩
  obtain ⟨q0, q1⟩ := HC.out w2 O2.lo
  have KG := Lib.hid (O2.get k hk)
  rw [HL.out] at KG
  unfold kyV outI at KG
  have HM2 := Lib.hid M2
  clear M2 O2 b2 KA
  go_wp2_with fail
  refine KG.out.mono ?_
  rintro e w3 ⟨rfl, O3, b3⟩
  have HB3 : Hid (BackO K W0 w3 a N g p n c l) := Lib.hid ⟨O3, HM2.out.below b3⟩
  have KL := Lib.hid O3.len
  rw [HL.out, HNN.out] at KL
  obtain ⟨gv, hgv⟩ : ∃ gv, (getL k l).getD 0 = gv := ⟨_, rfl⟩
  obtain ⟨gb, hgb⟩ : ∃ gb, (getL k l).isSome = gb := ⟨_, rfl⟩
  rw [hgv, hgb]
  have HGB := Lib.hid hgb
  clear O3 b3 KG HM2 q0 q1 hgv hgb
  go_upto_region 4 with fail
  go_cut [40] (fun v40 wx => ∃ bb : Bool, v40 = .bool bb ∧ Hid (bb = true → getL k l = none ∧ n < 60) ∧ Hid (BackO K W0 wx a N g p n c l))
  case first =>
    cases gb with
    | true =>
      clear KL
      go_wp2_with fail
      go_meet
      exact ⟨false, rfl, Lib.hid (fun h => (by cases h)), HB3⟩
    | false =>
      have HN0 : Hid (getL k l = none) := by
        refine Lib.hid ?_
        cases hh : getL k l with
        | none => rfl
        | some v => have := HGB.out; rw [hh] at this; cases this
      by_cases h60 : n < 60
      · have hz : (n : Int) < 60 := by omega
        go_wp2_with fail
        refine KL.out.mono ?_
        rintro e w4 ⟨rfl, O4, b4⟩
        have HB4 := Lib.hid (HB3.out.below b4)
        clear O4 b4 KL
        go_wp2_with fail
        go_meet
        exact ⟨true, rfl, Lib.hid fun _ => ⟨HN0.out, h60⟩, HB4⟩
      · have hz : ¬ (n : Int) < 60 := by omega
        go_wp2_with fail
        refine KL.out.mono ?_
        rintro e w4 ⟨rfl, O4, b4⟩
        have HB4 := Lib.hid (HB3.out.below b4)
        clear O4 b4 KL
        go_wp2_with fail
        go_meet
        exact ⟨false, congrArg Value.bool (decide_eq_false (by omega)), Lib.hid (fun h => (by cases h)), HB4⟩
  case rest =>
    obtain ⟨bb, rfl, HBB, HB4⟩ := hcut
    clear HB3 KL HGB
    go_upto_if 40 with fail
    go_cut [6] (fun v6 wx => v6 = .bool false ∧ ∃ (N5 : Nat → Prop) (g5 : Tg), Hid (g5.l = l ∧ g5.room = 60) ∧ Hid (BackO K W0 wx a N5 g5 p n c l))
    case first =>
      cases bb with
      | false =>
        clear HBB
        go_wp2_with fail
        go_meet
        exact ⟨rfl, N, g, Lib.hid ⟨HL.out, Hroom.out⟩, HB4⟩
      | true =>
        obtain ⟨hg0, hn6⟩ := HBB.out rfl
        obtain ⟨q0, q1⟩ := HC.out _ HB4.out.own.lo
        have hE0 : putE 60 l k = 0 := by
          unfold putE
          rw [hg0, HNN.out]
          simp [hn6]
        have hP0 : putL 60 l k 7 = insL k 7 l := by
          unfold putL
          rw [hE0]
          rfl
        have hrl : Rises l := by rw [← HL.out]; exact HB4.out.own.ok.rises
        have KP := Lib.hid (HB4.out.own.put k 7 hk ⟨by omega, by omega⟩)
        rw [HL.out, Hroom.out, hE0, hP0] at KP
        unfold kyV at KP
        have HG0 := Lib.hid hg0
        have HRL := Lib.hid hrl
        have hget : getL k (insL k 7 l) = some 7 := by
          have := getL_of (hrl.ins (k := k) (v := 7) (getL_none hg0)) (e := ⟨k, 7⟩) (insL_mem.2 (.inl rfl))
          exact this
        have hdel : delL k (insL k 7 l) = l := del_ins (getL_none hg0)
        have HGE := Lib.hid hget
        have HDE := Lib.hid hdel
        have HDS := Lib.hid (del_same hg0)
        clear HBB hg0 hE0 hP0 hrl hget hdel
        go_wp2_with fail
        refine KP.out.mono ?_
        rintro e w5 ⟨rfl, N5, g5, hr5, hl5, O5, S5⟩
        have HB5 := Lib.hid (HB4.out.step O5 S5)
        obtain ⟨q0', q1'⟩ := HC.out _ O5.lo
        have KD := Lib.hid (O5.drop k hk)
        rw [hl5, HGE.out, HDE.out, hr5] at KD
        unfold kyV outI at KD
        clear O5 S5 KP HB4 q0 q1 hr5 hl5
        go_wp2_with fail
        refine KD.out.mono ?_
        rintro e w6 ⟨rfl, N6, g6, hr6, hl6, O6, S6⟩
        have HB6 := Lib.hid (HB5.out.step O6 S6)
        obtain ⟨q0, q1⟩ := HC.out _ O6.lo
        have KD2 := Lib.hid (O6.drop k hk)
        rw [hl6, HG0.out, HDS.out, hr6] at KD2
        unfold kyV outI at KD2
        clear O6 S6 KD HB5 q0' q1' hr6 hl6
        go_wp2_with fail
        refine KD2.out.mono ?_
        rintro e w7 ⟨rfl, N7, g7, hr7, hl7, O7, S7⟩
        have HB7 := Lib.hid (HB6.out.step O7 S7)
        have KA7 := Lib.hid O7.all
        rw [hl7, HNN.out] at KA7
        have H7 : Hid (g7.l = l ∧ g7.room = 60) := Lib.hid ⟨hl7, hr7⟩
        clear O7 S7 KD2 HB6 q0 q1 hr7 hl7
        go_wp2_with fail
        refine KA7.out.mono ?_
        rintro e w8 ⟨p8, c8, rfl, M8, O8, b8⟩
        have HB8 := Lib.hid (HB7.out.below b8)
        have KS : Hid (Calls Try.prog 21 #[.slice p8 n c8, .slice p n c] w8 fun e w' => e = .returned (.bool true) ∧ Below w8.heap.size w8 w') := by
          have := law_same p8 p c8 c _ _ l l w8 (by rw [HNN.out]; omega) (by rw [HNN.out]; omega) (by rw [HNN.out]; exact M8.row) (by rw [HNN.out]; exact HB8.out.row.row)
          rw [HNN.out] at this
          refine Lib.hid (this.mono fun e w' h => ⟨?_, h.2⟩)
          rw [h.1]
          simp
        clear M8 O8 b8 KA7 HB7
        go_wp2_with fail
        refine KS.out.mono ?_
        rintro e w9 ⟨rfl, b9⟩
        have HB9 := Lib.hid (HB8.out.below b9)
        clear b9 KS HB8
        go_wp2_with fail
        go_meet
        exact ⟨rfl, N7, g7, H7, HB9⟩
    case rest =>
      obtain ⟨rfl, N5, g5, H5, HB5⟩ := hcut
      clear HBB HB4
      obtain ⟨inf, hi1, hi2, hi3, hi4⟩ := info_parts (P := Try.prog) (e := 44) (z := .agg #[.int .u64 0, .int .u64 0, .int .i64 0]) (size := 3) (bytes := 24) (by kernel_rfl)
      have bl : Below wc.heap.size wc (wc.alloc (.cells #[] 44)) := (Below.refl _ _).alloc (Nat.le_refl _) _
      have olit : (wc.alloc (.cells #[] 44)).ownsRow wc.heap.size 44 3 (.slice (some ⟨wc.heap.size, 0, none⟩) 0 0) 0 [] := World.ownsRow_lit (base := wc.heap.size) (e := 44) (size := 3) wc #[] 0 (Nat.le_refl _) (by decide) rfl
      have osrc := (HB5.out.row.below bl).row
      have hml : 0 + n ≤ maxLen := by simp [maxLen]; omega
      have hbz : wc.heap.size ≤ (wc.alloc (.cells #[] 44)).heap.size := by rw [World.size_alloc]; omega
      have hone : ∀ u ∈ l.flatMap enC, u.oneCell' = true := by
        intro u hu
        obtain ⟨a, _, hu⟩ := List.mem_flatMap.1 hu
        simp [enC] at hu
        rcases hu with rfl | rfl | rfl <;> rfl
      go_upto_region 12 with (first | (at_builtin; (refine wpList_append_any _ rfl (.tmp 73) (.tmp 74) 28 rfl wc.heap.size 44 inf (.agg #[.int .u64 0, .int .u64 0, .int .i64 0]) 3 24 Try.underlying28 hi1 hi2 hi3 hi4 rfl (by decide) (.slice (some ⟨wc.heap.size, 0, none⟩) 0 0) 0 [] rfl olit _ _ n (l.flatMap enC) rfl osrc hone hml (by omega) hbz ?_; intro p5 c5 w5 own5 gr5 loc5; have HO5 := Lib.hid own5; have HG5 := Lib.hid gr5; clear own5 gr5 loc5)))
      have HLA : Hid (LeftAt K W0 w5 a p5 n c5 N5 g5) := Lib.hid (HB5.out.copied H5.out.1 HNN.out H5.out.2 (by simpa using HO5.out) HG5.out hn60)
      clear HB5 H5 HO5 HG5 bl olit osrc hone hi1 hi2 hi3 hi4 hml hbz
      go_wp2_with fail
      go_loopg [15, 16] n (fun kk v15 v16 wx => ∃ (N : Nat → Prop) (g : Tg) (p : Option Addr) (n' c' i : Nat), n' = kk ∧ v15 = .slice p n' c' ∧ v16 = .int .i64 (i : Int) ∧ i + n' ≤ 60 ∧ Hid (LeftAt K W0 wx a p n' c' N g))
      case atStart => exact ⟨N5, g5, p5, n, c5, 0, rfl, rfl, rfl, by omega, HLA⟩
      case round =>
        obtain ⟨N6, g6, p6, n', c6, i, rfl, rfl, rfl, hi, HL6⟩ := hrel
        clear HLA HL HNN Hroom
        by_cases hn0 : n' = 0
        · subst hn0
          have hl0 : g6.l = [] := List.length_eq_zero_iff.1 HL6.out.len
          have KF := Lib.hid HL6.out.back.own.first
          rw [hl0] at KF
          unfold outE enV at KF
          have H6 : Hid (AgainAt K W0 wr a 0 N6 g6) := Lib.hid ⟨HL6.out.back.own, HL6.out.room, HL6.out.len, fun e he => absurd he (by rw [hl0]; simp)⟩
          clear HL6 hl0
          go_wp2_with fail
          refine KF.out.mono ?_
          rintro e w7 ⟨rfl, O7, b7⟩
          have HA7 : Hid (∀ W, Below w7.heap.size w7 W → AgainAt K W0 W a 0 N6 g6) := Lib.hid fun W b => ⟨O7.below b, H6.out.room, H6.out.len, H6.out.keys⟩
          simp only [Option.getD, List.head?, Option.isSome, noEn]
          clear O7 b7 KF H6
          go_upto_region 24 with fail
          obtain ⟨W8, HW8⟩ : ∃ W, Hid (w7.alloc (.cells #[.int .u64 0, .int .u64 0, .int .i64 0] 44) = W) := ⟨_, Lib.hid rfl⟩
          have HA8 : Hid (AgainAt K W0 W8 a 0 N6 g6) := by
            refine Lib.hid (HA7.out W8 ?_)
            rw [← HW8.out]
            exact (Below.refl _ _).alloc (Nat.le_refl _) _
          rw [HW8.out]
          obtain ⟨xb, HXB⟩ : ∃ xb, Hid (w7.heap.size = xb) := ⟨_, Lib.hid rfl⟩
          rw [HXB.out]
          clear HW8 HA7 HXB
          go_wp2_with fail
          go_loopg [147] 60 (fun kk v147 wx => ∃ j : Nat, 60 - j = kk ∧ j ≤ 60 ∧ v147 = .int .u64 (j : Int) ∧ ∃ (N : Nat → Prop) (g : Tg), Hid (AgainAt K W0 wx a j N g))
          case atStart => exact ⟨0, rfl, by omega, rfl, N6, g6, HA8⟩
          case round =>
            obtain ⟨j, rfl, hj, rfl, N9, g9, H9⟩ := hrel
            clear HA8
            by_cases hj60 : j = 60
            · subst hj60
              have hg0 : getL ⟨99, 0⟩ g9.l = none := again_none H9.out.keys _ (fun i hi e => by
                have := congrArg Ky.at_ e
                simp at this
                omega)
              have hE : putE 60 g9.l ⟨99, 0⟩ = 4 := by
                unfold putE
                rw [hg0, H9.out.len]
                rfl
              have hP : putL 60 g9.l ⟨99, 0⟩ 0 = g9.l := by
                unfold putL
                rw [hE]
                rfl
              have KP := Lib.hid (H9.out.own.put ⟨99, 0⟩ 0 ⟨by decide, by decide⟩ ⟨by decide, by decide⟩)
              rw [H9.out.room, hE, hP] at KP
              unfold kyV at KP
              have H9L := Lib.hid H9.out.len
              clear H9 hg0 hE hP
              go_wp2_with fail
              refine KP.out.mono ?_
              rintro e w10 ⟨rfl, N10, g10, hr10, hl10, O10, S10⟩
              have KLn := Lib.hid O10.len
              rw [hl10, H9L.out] at KLn
              clear O10 S10 KP hr10 hl10
              go_wp2_with fail
              refine KLn.out.mono ?_
              rintro e w11 ⟨rfl, O11, b11⟩
              have HLo := Lib.hid O11.lo
              clear O11 b11 KLn
              go_wp2_with fail
              refine (HA.out _).mono ?_
              rintro e w12 ⟨rfl, b12⟩
              have HFin := Lib.hid (below_tr B0.out (below_tr HLo.out b12))
              clear b12 HLo
              go_wp2_with fail
              go_ret
              exact ⟨rfl, HFin.out⟩
            · have hjl : j < 60 := by omega
              obtain ⟨x, Hx⟩ : ∃ x, Hid (j * 7 % 60 = x) := ⟨_, Lib.hid rfl⟩
              have hxs : x < 60 := by rw [← Hx.out]; omega
              have hjz : (j : Int) < 60 := by omega
              have hg0 : getL ⟨x, 0⟩ g9.l = none := again_none H9.out.keys _ (fun i hi e => by
                have h1 := congrArg Ky.at_ e
                have h2 := Hx.out
                simp at h1
                omega)
              have hE : putE 60 g9.l ⟨x, 0⟩ = 0 := by
                unfold putE
                rw [hg0, H9.out.len]
                simp [hjl]
              have hP : putL 60 g9.l ⟨x, 0⟩ 0 = insL ⟨x, 0⟩ 0 g9.l := by
                unfold putL
                rw [hE]
                rfl
              have KP := Lib.hid (H9.out.own.put ⟨x, 0⟩ 0 ⟨by show x < _; omega, by show (0 : Nat) < _; omega⟩ ⟨by decide, by decide⟩)
              rw [H9.out.room, hE, hP] at KP
              unfold kyV at KP
              have HKeys : Hid (∀ e, e ∈ insL ⟨x, 0⟩ 0 g9.l → ∃ i, i < j + 1 ∧ e.key = ⟨i * 7 % 60, 0⟩) := by
                refine Lib.hid fun e he => ?_
                rcases insL_mem.1 he with rfl | he
                · exact ⟨j, by omega, by rw [Hx.out]⟩
                · obtain ⟨i, h1, h2⟩ := H9.out.keys e he
                  exact ⟨i, by omega, h2⟩
              have HLn : Hid ((insL ⟨x, 0⟩ 0 g9.l).length = j + 1) := Lib.hid (by rw [insL_length, H9.out.len])
              have hjx : (j : Int) * 7 % 60 = (x : Int) := by have := Hx.out; omega
              have hwr : IntKind.u64.wrap ((j : Int) * 7) = (j : Int) * 7 := by rw [IntKind.wrap_u64]; omega
              have hjx2 : Int.tmod ((j : Int) * 7) 60 = (x : Int) := by rw [Int.tmod_eq_emod_of_nonneg (by omega)]; exact hjx
              clear H9 hg0 hE hP hj60
              go_wp2_with fail
              refine KP.out.mono ?_
              rintro e w10 ⟨rfl, N10, g10, hr10, hl10, O10, S10⟩
              have HN10 : Hid (AgainAt K W0 w10 a (j + 1) N10 g10) := Lib.hid ⟨O10, hr10, by rw [hl10]; exact HLn.out, by rw [hl10]; exact HKeys.out⟩
              clear O10 S10 KP hr10 hl10 HKeys HLn hjx hwr hjx2
              go_wp2_with fail
              go_roundg (60 - (j + 1))
              case measure => omega
              case rel => exact ⟨j + 1, rfl, by omega, by go_num, N10, g10, HN10⟩
        · obtain ⟨m, rfl⟩ : ∃ m, n' = m + 1 := ⟨n' - 1, by omega⟩
          have hz0 : (0 : Int) < (m : Int) + 1 := by omega
          clear hn0
          go_upto_if 83 with fail
          go_cut [17] (fun v17 wx => ∃ at_ : Nat, v17 = .int .i64 (at_ : Int) ∧ at_ < m + 1 ∧ wr = wx)
          case first =>
            by_cases hl2 : 0 < len2
            · obtain ⟨j, Hj⟩ : ∃ j, Hid (i % len2 = j) := ⟨_, Lib.hid rfl⟩
              have hjl : j < len2 := by rw [← Hj.out]; exact Nat.mod_lt _ hl2
              have hjz : (i : Int) % (len2 : Int) = (j : Int) := by rw [← Hj.out]; simp
              have hjz2 : Int.tmod (i : Int) (len2 : Int) = (j : Int) := by rw [Int.tmod_eq_emod_of_nonneg (by omega)]; exact hjz
              obtain ⟨ad, x, rfl, hx, HO⟩ := u8_cell HR3.out hjl
              have d0 := HO wr HL6.out.back.own.lo
              obtain ⟨at_, Hat⟩ : ∃ q, Hid (x % (m + 1) = q) := ⟨_, Lib.hid rfl⟩
              have hatl : at_ < m + 1 := by rw [← Hat.out]; exact Nat.mod_lt _ (by omega)
              have haz : (x : Int) % ((m : Int) + 1) = (at_ : Int) := by rw [← Hat.out]; simp
              have haz2 : Int.tmod (x : Int) ((m : Int) + 1) = (at_ : Int) := by rw [Int.tmod_eq_emod_of_nonneg (by omega)]; exact haz
              have hl2z : (0 : Int) < (len2 : Int) := by omega
              have hjlz : (j : Int) < (len2 : Int) := by omega
              have hl2n : ((len2 : Int) == 0) = false := by rw [beq_eq_false_iff_ne]; omega
              have hmz : ((m : Int) + 1 == 0) = false := by rw [beq_eq_false_iff_ne]; omega
              clear HO hl2
              go_wp2_with fail
              go_meet
              exact ⟨at_, rfl, hatl, rfl⟩
            · have hl2z : ¬ (0 : Int) < (len2 : Int) := by omega
              clear hl2
              go_wp2_with fail
              go_meet
              exact ⟨0, rfl, by omega, rfl⟩
          case rest =>
            obtain ⟨at_, rfl, hat, rfl⟩ := hcut
            have hlen := HL6.out.len
            obtain ⟨e, he⟩ : ∃ e, g6.l[at_]? = some e := ⟨g6.l[at_]'(by omega), List.getElem?_eq_getElem _⟩
            obtain ⟨L, hL⟩ : ∃ L, g6.l = L := ⟨_, rfl⟩
            have hrL : Rises L := by rw [← hL]; exact HL6.out.back.own.ok.rises
            have hme : e ∈ g6.l := List.mem_of_getElem? he
            have hfe := HL6.out.back.own.ok.fits e hme
            have KD := Lib.hid (HL6.out.back.own.drop e.key hfe.1)
            have hget := getL_of HL6.out.back.own.ok.rises hme
            have hdel := del_nth HL6.out.back.own.ok.rises he
            rw [hget, hdel, HL6.out.room] at KD
            unfold kyV outI at KD
            obtain ⟨gT, rfl, hcell⟩ := HL6.out.back.row.cell hlen (by omega)
            obtain ⟨x0, x1, x2⟩ := ERow.at_ hcell he
            obtain ⟨hca1, hca2⟩ := HL6.out.back.row.cap (by omega)
            have hatz : (at_ : Int) < (m : Int) + 1 := by omega
            have HBR := Lib.hid HL6.out.back
            rw [hL] at HBR KD he hlen
            have HE := Lib.hid he
            have HLen := Lib.hid hlen
            clear hcell hget hdel hme hfe HL6 hL he hlen
            go_wp2_with fail
            refine KD.out.mono ?_
            rintro e' w7 ⟨rfl, N7, g7, hr7, hl7, O7, S7⟩
            have HB7 := Lib.hid (HBR.out.step O7 S7)
            have hl7m : g7.l.length = m := by
              rw [hl7]
              have := HLen.out
              simp
              omega
            have KSh := Lib.hid O7.shape
            rw [Tg.len, hl7m] at KSh
            have H7 : Hid (g7.l = L.take at_ ++ L.drop (at_ + 1) ∧ g7.room = 60 ∧ g7.l.length = m) := Lib.hid ⟨hl7, hr7, hl7m⟩
            clear O7 S7 KD HBR x0 x1 x2 hr7 hl7 hl7m
            go_wp2_with fail
            refine KSh.out.mono ?_
            rintro e' w8 ⟨p8, c8, rfl, M8, O8, b8⟩
            obtain ⟨bh, hwk⟩ := shape_walk O8 H7.out.2.2 (by omega) M8.row
            have KW := Lib.hid hwk
            have HB8 := Lib.hid (HB7.out.below b8)
            obtain ⟨gT', eT, hcell8⟩ := HB8.out.row.cell HLen.out (by omega)
            obtain rfl : gT = gT' := congrArg Addr.block (Option.some.inj eT)
            obtain ⟨x0, x1, x2⟩ := ERow.at_ hcell8 HE.out
            have hv : ((e.val : Int) != e.val) = false := by simp
            have hmm : ((m : Int) != (m : Int)) = false := by simp
            have hbz : ¬ (bh : Int) < 0 := by omega
            clear M8 O8 b8 KSh HB7 hwk eT hcell8
            go_wp2_with fail
            refine KW.out.mono ?_
            rintro e' w9 ⟨rfl, rfl⟩
            clear KW
            go_upto_region 22 with fail
            clear x0 x1 x2 hv hmm hbz
            have HB9 := Lib.hid (HB8.out.below (Below.refl _ w9).drew)
            obtain ⟨g1, e1, hc3⟩ := HB9.out.row.cell HLen.out (by omega)
            obtain rfl : gT = g1 := congrArg Addr.block (Option.some.inj e1)
            have HC3 := Lib.hid hc3
            clear e1 hc3 HB8
            have hsum : IntKind.i64.wrap ((at_ : Int) + 1) = ((at_ + 1 : Nat) : Int) := by rw [IntKind.wrap_i64]; omega
            have hkc : at_ ≤ c6 := by omega
            have hkc1 : at_ + 1 ≤ c6 := by omega
            have hkc2 : at_ + 1 ≤ m + 1 := by omega
            have hkz3 : 0 ≤ (at_ : Int) + 1 := by omega
            have hkz4 : (at_ : Int) + 1 ≤ (m : Int) + 1 := by omega
            have hkz5 : (at_ : Int) ≤ (m : Int) + 1 := by omega
            have hkz7 : (at_ : Int) ≤ (c6 : Int) := by omega
            have hkz8 : (at_ : Int) + 1 ≤ (c6 : Int) := by omega
            by_cases hlast : at_ = m
            · subst hlast
              have HE2 : Hid (LeftAt K W0 w9.drew a (some ⟨gT, 0, none⟩) at_ at_ N7 g7) := by
                have e1 : L.take at_ ++ L.drop (at_ + 1) = L.take at_ := by rw [List.drop_eq_nil_of_le (by have := HLen.out; omega), List.append_nil]
                refine Lib.hid ⟨?_, H7.out.2.2, H7.out.2.1, by omega⟩
                rw [H7.out.1, e1]
                exact HB9.out.cut HLen.out at_ (by omega)
              have hz9 : at_ + 1 - (at_ + 1) = 0 := by omega
              by_cases hce : c6 = at_ + 1
              · subst hce
                go_still_tail 8, (by kernel_rfl)
                change wpList _ _ _ _ _ w9.drew
                refine wpList_append_last (s := .tmp 136) (x := .tmp 140) (Eq.refl _) (Eq.refl _) gT at_ 0 (some ⟨gT, 0, none⟩) ?hs ?hx ?_
                case hs => go_simp
                case hx => go_simp
                go_wp2_with fail
                go_roundg at_
                case measure => omega
                case rel => exact ⟨N7, g7, _, at_, _, i + 1, rfl, rfl, by go_num, by omega, HE2⟩
              · go_still_tail 8, (by kernel_rfl)
                change wpList _ _ _ _ _ w9.drew
                refine wpList_append_last (s := .tmp 136) (x := .tmp 140) (Eq.refl _) (Eq.refl _) gT at_ (c6 - (at_ + 1)) (some ⟨gT, (at_ + 1) * 3, none⟩) ?hs ?hx ?_
                case hs => go_simp
                case hx => go_simp
                go_wp2_with fail
                go_roundg at_
                case measure => omega
                case rel => exact ⟨N7, g7, _, at_, _, i + 1, rfl, rfl, by go_num, by omega, HE2⟩
            · have hkc3 : ¬ c6 = at_ + 1 := by omega
              have Hm2 : Hid (at_ + 1 + (m + 1 - (at_ + 1)) = L.length) := by show _ = _; have := HLen.out; omega
              have hm2 : 0 < m + 1 - (at_ + 1) := by omega
              have hl1000 : L.length ≤ 1000 := by have := HLen.out; omega
              go_still_tail 8, (by kernel_rfl)
              change wpList _ _ _ _ _ w9.drew
              refine wpList_append_drop (s := .tmp 136) (x := .tmp 140) (Eq.refl _) (Eq.refl _) gT at_ (m + 1 - (at_ + 1)) (c6 - (at_ + 1)) L Hm2.out hm2 ?hs ?hx HC3.out hl1000 ?_
              case hs => go_simp
              case hx => go_simp
              intro p5 c5 w5 own5 gr5
              have HE2 : Hid (LeftAt K W0 w5 a p5 m c5 N7 g7) := by
                have hl : at_ + (m + 1 - (at_ + 1)) = m := by omega
                rw [hl] at own5
                refine Lib.hid ⟨?_, H7.out.2.2, H7.out.2.1, by omega⟩
                rw [H7.out.1]
                exact HB9.out.put own5 gr5
              have hl : at_ + (m + 1 - (at_ + 1)) = m := by omega
              rw [hl]
              clear own5 gr5 hl
              go_wp2_with fail
              go_roundg m
              case measure => omega
              case rel => exact ⟨N7, g7, _, m, _, i + 1, rfl, rfl, by go_num, by omega, HE2⟩

end Go.Proofs.Ytagjgfmkfljneaa
