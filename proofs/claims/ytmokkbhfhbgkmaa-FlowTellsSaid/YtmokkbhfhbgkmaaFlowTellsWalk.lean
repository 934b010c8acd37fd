/-
  FlowTells' walk.
-/
import Derived.Test.YtmokkbhfhbgkmaaFlowBorn
import Derived.Test.YtmokkbhfhbgkmaaFlowWaitsFacts
import Derived.Test.YtmokkbhfhbgkmaaTake
namespace Go.Proofs.Ytmokkbhfhbgkmaa
open Go.RowKit
set_option linter.unusedVariables false
set_option linter.unusedSimpArgs false
set_option maxRecDepth 100000

/-- Both flows, the program's and the document's, and the pace, in memory. -/
structure TlW (w W : World) (b6 b11 b12 : Nat) (p : Pc) (f g : Fl) : Prop where
  pc : PBox W b6 p
  fl : FBox W b11 63 f
  rf : FBox W b12 63 g
  lo : Below w.heap.size w W
  l1 : w.heap.size ≤ b6
  l2 : b6 < b11
  l3 : b6 < b12
  ne : b11 ≠ b12
section
variable {w W W' : World} {b6 b11 b12 : Nat} {p : Pc} {f g f' : Fl}
theorem TlW.below (h : TlW w W b6 b11 b12 p f g) (b : Below W.heap.size W W') : TlW w W' b6 b11 b12 p f g :=
  ⟨h.pc.below b h.pc.lt, h.fl.below b h.fl.lt, h.rf.below b h.rf.lt, below_tr h.lo b, h.l1, h.l2, h.l3, h.ne⟩
theorem TlW.put1 (h : TlW w W b6 b11 b12 p f g) (f' : Fl) : TlW w (putF W b11 f') b6 b11 b12 p f' g := by
  have h1 := h.l1
  have h2 := h.l2
  exact ⟨putF_other (show Box W b6 _ _ from h.pc) (by omega) f', putF_box h.fl f', putF_other (show Box W b12 _ _ from h.rf) (Ne.symm h.ne) f', putF_below h.lo (by omega) f', h.l1, h.l2, h.l3, h.ne⟩
theorem TlW.put2 (h : TlW w W b6 b11 b12 p f g) (f' : Fl) : TlW w (putF W b12 f') b6 b11 b12 p f f' := by
  have h1 := h.l1
  have h3 := h.l3
  exact ⟨putF_other (show Box W b6 _ _ from h.pc) (by omega) f', putF_other (show Box W b11 _ _ from h.fl) h.ne f', putF_box h.rf f', putF_below h.lo (by omega) f', h.l1, h.l2, h.l3, h.ne⟩
end
theorem Box.newk {W : World} {k : Nat} {t : TypeId} {cs : Array Value} (h : W.heap.size = k) : Box (W.alloc (.cells cs t)) k t cs := h ▸ Box.new W t cs
theorem Box.drewk {W : World} {k : Nat} {t : TypeId} {cs : Array Value} (h : Box W k t cs) : Box W.drew k t cs := h
theorem wake_db (f : Fl) (tv : Int) (p : Pc) (h : 0 ≤ f.db) : (f.wake tv p).db ≤ f.db := by
  unfold Fl.wake
  split
  · exact Int.le_refl _
  · split
    · exact h
    · exact h
theorem charge_db (f : Fl) (n tv : Int) (p : Pc) (h : 0 ≤ f.db) (hn : 1 ≤ n) (hd : f.db + n < 18446744073709551616) : (f.charge n tv p).db ≤ f.db + n := by
  have e : Num.add f.db n = f.db + n := by unfold Num.add Num.kept; rw [if_pos hd]
  unfold Fl.charge
  split
  · show f.db ≤ f.db + n; omega
  · split
    · show (0 : Int) ≤ f.db + n; omega
    · split
      · show Num.add f.db n ≤ _; omega
      · show (0 : Int) ≤ f.db + n; omega
/-- A step of the law. -/
theorem op12_cells {w : World} {A : Option Addr} {len cap : Nat} {rows : List (List Value)} (h : RowOf [some .u8, some .i64, some .u64] w A len cap rows) {j : Nat} (hj : j < len) :
    ∃ (a : Addr) (kd nv tv : Int), A = some a ∧ (0 ≤ kd ∧ kd < 256) ∧ Half nv ∧ Num.Word tv ∧ ∀ W, Below w.heap.size w W → W.cell? (a.add (j * 3)) = some (.int .u8 kd) ∧ W.cell? ⟨(a.add (j * 3)).block, (a.add (j * 3)).off + 1, none⟩ = some (.int .i64 nv) ∧ W.cell? ⟨(a.add (j * 3)).block, (a.add (j * 3)).off + 2, none⟩ = some (.int .u64 tv) := by
  obtain ⟨h1, _, h3⟩ := h
  obtain ⟨hf, a, rfl, hc⟩ := h3 j (by omega)
  obtain ⟨v0, v1, v2, e⟩ : ∃ v0 v1 v2, rows[j] = [v0, v1, v2] := by
    have := hf.length
    match hr : rows[j], this with
    | [v0, v1, v2], _ => exact ⟨v0, v1, v2, rfl⟩
  rw [e] at hf hc
  obtain ⟨⟨n0, rfl, w0⟩, ⟨n1, rfl, w1⟩, ⟨n2, rfl, w2⟩, _⟩ := hf
  have c0 := hc 0 _ rfl
  have c1 := hc 1 _ rfl
  have c2 := hc 2 _ rfl
  simp only [List.length_cons, List.length_nil, Nat.zero_add, Nat.add_zero, Nat.reduceAdd] at c0 c1 c2
  rw [add_at] at c1 c2
  refine ⟨a, n0, n1, n2, rfl, u8_of w0, half_of w1, word_of_wf w2, fun W b => ?_⟩
  exact ⟨(b.cell (World.block_lt_of_cell? w _ c0)).trans c0, (b.cell (World.block_lt_of_cell? w _ c1)).trans c1, (b.cell (World.block_lt_of_cell? w _ c2)).trans c2⟩

set_option pp.deepTerms true in
set_option pp.maxSteps 100000 in
set_option maxHeartbeats 8000000 in
/-- Below w.heap.size w w' -/
theorem flowTells_walk (a0 a1 : List Value) (a2 a3 : Int) (a4 : Option Addr) (len4 cap4 : Nat) (z4 : List (List Value)) (w : World) (w0 : Fits [some .i64, some .i64, some .u64, some .u64, some .u64] a0) (w1 : Fits [some .i64, some .i64, some .u64, some .u64, some .u64] a1) (w2 : (Lit.int .u64 a2).wf = true) (w3 : (Lit.int .u64 a3).wf = true) (w4 : RowOf [some .u8, some .i64, some .u64] w a4 len4 cap4 z4) :
    Calls Try.prog 5 #[.agg a0.toArray, .agg a1.toArray, .int .u64 a2, .int .u64 a3, .slice a4 len4 cap4] w fun e w' => e = .returned (.bool true) ∧ Below w.heap.size w w' := by
  obtain ⟨p0, hp0, e⟩ := pc_of w0
  obtain ⟨p, hp, e'⟩ := pc_of w1
  rw [e, e']
  clear e e' w0 w1 hp0
  have h2 := word_of_wf w2
  have h3 := word_of_wf w3
  clear w2 w3
  have hcap := row_fit w4
  have HR4 := Lib.hid w4
  clear w4
  have LO := Lib.hid (Below.refl w.heap.size w)
  have KA := Lib.hid fun W => awake12 W
  have K1 := Lib.hid fun W => flow_right p0 W
  have K2 := Lib.hid fun W => ref12_right p0 W
  obtain ⟨ba, Hba⟩ : ∃ ba, Hid (p0.right = ba) := ⟨_, Lib.hid rfl⟩
  rw [Hba.out] at K1 K2
  have hbb : (ba != ba) = false := by cases ba <;> rfl
  have K3 := Lib.hid fun W => ref12_right p W
  have KB1 := Lib.hid fun W => flow_born_x a2 a3 p W
  have KB2 := Lib.hid fun W => ref12_born_x a2 a3 p W
  have HF0 := Lib.hid (Fl.Fits.born h2 h3 hp)
  obtain ⟨F0, hF0⟩ : ∃ F0, Hid (Fl.born a2 a3 p = F0) := ⟨_, Lib.hid rfl⟩
  have hd0 : Hid (F0.db = 0) := by rw [← hF0.out]; exact Lib.hid rfl
  rw [hF0.out] at KB1 KB2 HF0
  have HP := Lib.hid hp
  simp only [Fl.v, Pc.v, Fl.c, Pc.c] at K1 K2 K3 KB1 KB2
  simp only [Pc.c]
  clear hp h2 h3 Hba hF0
  obtain ⟨W1, b5, hW, hb, XA, LO5⟩ := one_more w (Pc.c p0) 59
  obtain ⟨W2, b6, hW2, hb2, XP, LO6⟩ := one_more W1 (Pc.c p) 59
  simp only [Pc.c] at hW hW2
  have hbf : Hid (b5 + 1 = b6) := by
    refine Lib.hid ?_
    rw [← hb2.out, ← hb.out, ← hW.out, World.size_alloc]
  have BA : Hid (PBox W2 b5 p0) := Lib.hid ((show PBox W1 b5 p0 from XA.out).below LO6.out (show PBox W1 b5 p0 from XA.out).lt)
  have BP : Hid (PBox W2 b6 p) := XP
  have hl1 : Hid (w.heap.size ≤ b6) := Lib.hid (by have := hb.out; have := hbf.out; omega)
  replace LO := Lib.hid (below_tr LO5.out LO6.out)
  go_enter Try.func5, Try.ntmps5
  go_upto_region 1 with fail
  rw [hW.out, hW2.out, hb.out, hbf.out]
  clear hW hW2 hb hb2 hbf XA XP LO5 LO6
  obtain ⟨c0, c1, c2, c3, c4⟩ := BA.out.cells
  go_cut [21] (fun v21 wx => ∃ V, V = wx ∧ v21 = .bool false ∧ Hid (PBox V b6 p ∧ Below w.heap.size w V))
  case first =>
    go_region_held3 (fun w' => w'.cell? ⟨b5, 0, none⟩ = some (.int .i64 p0.q) ∧ w'.cell? ⟨b5, 1, none⟩ = some (.int .i64 p0.first) ∧ w'.cell? ⟨b5, 2, none⟩ = some (.int .u64 p0.refill) ∧ w'.cell? ⟨b5, 3, none⟩ = some (.int .u64 p0.most) ∧ w'.cell? ⟨b5, 4, none⟩ = some (.int .u64 p0.low)) (first | exact ⟨c0, c1, c2, c3, c4⟩ | exact (BA.out.below G8.out BA.out.lt).cells | exact (BA.out.below G7.out BA.out.lt).cells)
      (first
        | (go_at_call 21; refine (K1.out _).mono ?_; rintro e W7 ⟨rfl, g7⟩; first | have G8 := Lib.hid (below_tr G7.out g7) | have G7 := Lib.hid (below_tr (Below.refl _ _).drew g7))
        | (go_at_call 22; refine (K2.out _).mono ?_; rintro e W8 ⟨rfl, g7⟩; first | have G8 := Lib.hid (below_tr G7.out g7) | have G7 := Lib.hid (below_tr (Below.refl _ _).drew g7)))
    all_goals
      go_wp2_with fail
      go_meet
      exact ⟨_, rfl, rfl, Lib.hid ⟨BP.out.below G8.out BP.out.lt, below_tr LO.out G8.out⟩⟩
  case rest =>
    obtain ⟨V, rfl, rfl, HV⟩ := hcut
    clear BA BP LO c0 c1 c2 c3 c4 K1 K2 hbb
    have BP := Lib.hid HV.out.1
    have LO := Lib.hid HV.out.2
    clear HV
    obtain ⟨cP0, cP1, cP2, cP3, cP4⟩ := BP.out.cells
    cases hr : p.right with
    | false =>
      rw [hr] at K3
      go_wp2_with (first | (go_at_call 22; refine (K3.out _).mono ?_; rintro e W5 ⟨rfl, g5⟩; replace LO := Lib.hid (below_tr LO.out g5); clear g5) | (go_at_call 23; refine (KA.out _).mono ?_; rintro e W6 ⟨rfl, g6⟩; replace LO := Lib.hid (below_tr LO.out g6); clear g6))
      go_ret
      exact ⟨rfl, LO.out⟩
    | true =>
      rw [hr] at K3
      clear hr
      by_cases h60 : 60 < len4
      · have h60z : (60 : Int) < (len4 : Int) := by omega
        go_wp2_with (first | (go_at_call 22; refine (K3.out _).mono ?_; rintro e W5 ⟨rfl, g5⟩; replace LO := Lib.hid (below_tr LO.out g5); clear g5) | (go_at_call 23; refine (KA.out _).mono ?_; rintro e W6 ⟨rfl, g6⟩; replace LO := Lib.hid (below_tr LO.out g6); clear g6))
        go_ret
        exact ⟨rfl, LO.out⟩
      · have h60z : ¬ (60 : Int) < (len4 : Int) := by omega
        have h60y : decide ((60 : Int) < (len4 : Int)) = false := by simpa using h60z
        go_upto_region 5 with (go_at_call 22; refine (K3.out _).mono ?_; rintro e W5 ⟨rfl, g5⟩; replace LO := Lib.hid (below_tr LO.out g5); replace BP := Lib.hid (BP.out.below g5 BP.out.lt); clear g5)
        clear cP0 cP1 cP2 cP3 cP4 K3 h60z h60y
        obtain ⟨cP0, cP1, cP2, cP3, cP4⟩ := BP.out.cells
        have hz0 : W5.heap.size ≠ b6 := by have := BP.out.lt; omega
        go_cut [11, 12] (fun v11 v12 wx => ∃ V b11 b12, V = wx ∧ v11 = .pointer (some ⟨b11, 0, none⟩) ∧ v12 = .pointer (some ⟨b12, 0, none⟩) ∧ Hid (TlW w V b6 b11 b12 p F0 F0))
        case first =>
          go_region_held3 (fun w' => w'.cell? ⟨b6, 0, none⟩ = some (.int .i64 p.q) ∧ w'.cell? ⟨b6, 1, none⟩ = some (.int .i64 p.first) ∧ w'.cell? ⟨b6, 2, none⟩ = some (.int .u64 p.refill) ∧ w'.cell? ⟨b6, 3, none⟩ = some (.int .u64 p.most) ∧ w'.cell? ⟨b6, 4, none⟩ = some (.int .u64 p.low)) (exact (PBox.cells (Box.below (show Box W5 b6 _ _ from BP.out) (B := W5.heap.size) (by (repeat first | exact Below.refl _ _ | refine Below.drew ?_ | refine Below.alloc ?_ (by simp; try omega) _ | refine Below.setCell ?_ (by simp; try omega) _)) BP.out.lt)))
            (first
              | (go_at_call 24; refine (KB1.out _).mono ?_; rintro e w' ⟨rfl, rfl⟩)
              | (go_at_call 25; refine (KB2.out _).mono ?_; rintro e w' ⟨rfl, rfl⟩))
          all_goals
            go_wp2_with fail
            go_meet
            refine ⟨_, _, _, rfl, rfl, rfl, Lib.hid ⟨Box.below (show Box W5 b6 _ _ from BP.out) (B := W5.heap.size) (by (repeat first | exact Below.refl _ _ | refine Below.drew ?_ | refine Below.alloc ?_ (by simp; try omega) _)) BP.out.lt, ?_, ?_, below_tr LO.out (by (repeat first | exact Below.refl _ _ | refine Below.drew ?_ | refine Below.alloc ?_ (by simp; try omega) _)), hl1.out, ?_, ?_, ?_⟩⟩
            · show Box _ _ _ F0.c
              repeat first | (refine Box.newk ?_; first | (simp; done)) | refine Box.drewk ?_ | refine Box.alloc ?_ _
            · show Box _ _ _ F0.c
              repeat first | (refine Box.newk ?_; first | (simp; done)) | refine Box.drewk ?_ | refine Box.alloc ?_ _
            · have := BP.out.lt; first | omega | (simp; omega)
            · have := BP.out.lt; first | omega | (simp; omega)
            · first | omega | (simp; done) | (simp; omega)
        case rest =>
          obtain ⟨V, b11, b12, rfl, rfl, rfl, HT⟩ := hcut
          clear BP LO cP0 cP1 cP2 cP3 cP4 hz0 KB1 KB2 hl1
          go_wp2_with fail
          go_loopg [41] len4 (fun k v41 wx => ∃ (i : Nat) (f : Fl), i + k = len4 ∧ v41 = .int .i64 (i : Int) ∧ Hid (f.Fits ∧ f.db ≤ (i : Int) * 65536) ∧ Hid (TlW w wx b6 b11 b12 p f f))
          case atStart => exact ⟨0, F0, by omega, rfl, Lib.hid ⟨HF0.out, by rw [hd0.out]; simp⟩, HT⟩
          case round =>
            clear HT HF0 hd0 F0
            obtain ⟨i, f, hik, rfl, HF, HT⟩ := hrel
            by_cases hin : i = len4
            · have hiz : ¬ (i : Int) < (len4 : Int) := by omega
              clear hin
              go_wp2_with (go_at_call 23; refine (KA.out _).mono ?_; rintro e W6 ⟨rfl, g6⟩; replace HT := Lib.hid (HT.out.below g6); clear g6)
              go_ret
              exact ⟨rfl, HT.out.lo⟩
            · have hiz : (i : Int) < (len4 : Int) := by omega
              obtain ⟨A, kd, nv, tv, rfl, ⟨hk0, hk1⟩, hnv, htv, hop⟩ := op12_cells HR4.out (show i < len4 by omega)
              obtain ⟨o0, o1, o2⟩ := hop _ HT.out.lo
              have HNV := Lib.hid hnv
              have HTV := Lib.hid htv
              clear hop hin hnv htv
              go_upto_region 9 with fail
              obtain ⟨W9, b14, hW9, hb9, BO, LO9⟩ := one_more wr #[.int .u8 kd, .int .i64 nv, .int .u64 tv] 66
              rw [hW9.out, hb9.out]
              have hb14 : Hid (b11 < b14 ∧ b12 < b14) := Lib.hid (by have h1 := HT.out.fl.lt; have h2 := HT.out.rf.lt; have h3 := hb9.out; omega)
              replace HT := Lib.hid (HT.out.below LO9.out)
              clear hW9 hb9 LO9 o0 o1 o2
              have o0 : W9.cell? ⟨b14, 0, none⟩ = some (.int .u8 kd) := BO.out.cell 0
              have o1 : W9.cell? ⟨b14, 1, none⟩ = some (.int .i64 nv) := BO.out.cell 1
              have o2 : W9.cell? ⟨b14, 2, none⟩ = some (.int .u64 tv) := BO.out.cell 2
              go_upto_block 2 with fail
              have hdb0 := HF.out.1.db.1
              have hi60 : (i : Int) * 65536 ≤ 59 * 65536 := Int.mul_le_mul_of_nonneg_right (by omega) (by omega)
              have hne1 : b11 ≠ b12 := HT.out.ne
              have hne2 : b12 ≠ b11 := Ne.symm HT.out.ne
              have hcast : ((i + 1 : Nat) : Int) * 65536 = (i : Int) * 65536 + 65536 := by rw [Int.natCast_succ, Int.add_mul, Int.one_mul]
              have HCast := Lib.hid hcast
              have hdbu : f.db ≤ (i : Int) * 65536 := HF.out.2
              have HDU := Lib.hid hdbu
              have HI60 := Lib.hid hi60
              clear hcast hdbu hi60
              clear o0 o1 o2
              go_cut [15, 16] (fun v15 v16 wx => ∃ (V : World) (f' : Fl) (er : Int), V = wx ∧ v15 = .int .i64 er ∧ v16 = .int .i64 er ∧ Hid (f'.Fits ∧ f'.db ≤ ((i + 1 : Nat) : Int) * 65536) ∧ Hid (TlW w V b6 b11 b12 p f' f') ∧ Hid (Box V b14 66 #[.int .u8 kd, .int .i64 nv, .int .u64 tv]))
              case first =>
                by_cases hk1' : kd = 1
                · subst hk1'
                  by_cases hn : 1 ≤ nv ∧ nv ≤ 65536
                  · have hdd : f.db + nv < 18446744073709551616 := by have := HDU.out; have := HI60.out; omega
                    have hnw : Num.Word nv := ⟨by omega, by omega⟩
                    have KX := Lib.hid fun W => flow_charge f nv tv p HF.out.1 HP.out hn HTV.out W
                    have KY := Lib.hid fun W => ref12_charge f nv tv p HF.out.1 HP.out hn hdd HTV.out W
                    obtain ⟨G, hG⟩ : ∃ G, Hid (f.charge nv tv p = G) := ⟨_, Lib.hid rfl⟩
                    have HFN : Hid (G.Fits ∧ G.db ≤ ((i + 1 : Nat) : Int) * 65536) := by rw [← hG.out]; exact Lib.hid ⟨HF.out.1.charge HP.out hnw HTV.out, by have h1 := charge_db f nv tv p hdb0 hn.1 hdd; have := HCast.out; have := HDU.out; omega⟩
                    rw [hG.out] at KX KY
                    simp only [Fl.v, Pc.v, Fl.c, Pc.c] at KX KY
                    clear hG
                    clear hn hdd hnw
                    obtain ⟨a0, a1, a2, a3, a4, a5, a6⟩ := HT.out.fl.cells
                    obtain ⟨z0, z1, z2, z3, z4, z5, z6⟩ := HT.out.fl.frozen
                    obtain ⟨r0, r1, r2, r3, r4, r5, r6⟩ := HT.out.rf.cells
                    obtain ⟨x0, x1, x2, x3, x4, x5, x6⟩ := HT.out.rf.frozen
                    obtain ⟨p0, p1, p2, p3, p4⟩ := HT.out.pc.cells
                    have o0 : W9.cell? ⟨b14, 0, none⟩ = some (.int .u8 1) := BO.out.cell 0
                    have o1 : W9.cell? ⟨b14, 1, none⟩ = some (.int .i64 nv) := BO.out.cell 1
                    have o2 : W9.cell? ⟨b14, 2, none⟩ = some (.int .u64 tv) := BO.out.cell 2
                    go_upto_region 13 with (go_at_call 26; refine (KX.out _).mono ?_; rintro e W7 ⟨rfl, g7⟩; clear a0 a1 a2 a3 a4 a5 a6 z0 z1 z2 z3 z4 z5 z6 r0 r1 r2 r3 r4 r5 r6 x0 x1 x2 x3 x4 x5 x6 p0 p1 p2 p3 p4 o0 o1 o2; replace HT := Lib.hid (HT.out.below g7); replace BO := Lib.hid (BO.out.below g7 BO.out.lt); clear g7; obtain ⟨a0, a1, a2, a3, a4, a5, a6⟩ := HT.out.fl.cells; obtain ⟨z0, z1, z2, z3, z4, z5, z6⟩ := HT.out.fl.frozen)
                    clear a0 a1 a2 a3 a4 a5 a6 z0 z1 z2 z3 z4 z5 z6
                    replace HT := Lib.hid (HT.out.put1 G)
                    replace BO := Lib.hid (putF_other (b := b11) (show Box W7 b14 _ _ from BO.out) (by have := hb14.out; omega) G)
                    obtain ⟨V8, hV6⟩ : ∃ V8, Hid (putF W7 b11 G = V8) := ⟨_, Lib.hid rfl⟩
                    rw [hV6.out] at HT BO
                    have hV7 := hV6.out
                    unfold putF at hV7
                    rw [hV7]
                    clear hV7 hV6
                    obtain ⟨a0, a1, a2, a3, a4, a5, a6⟩ := HT.out.fl.cells
                    obtain ⟨z0, z1, z2, z3, z4, z5, z6⟩ := HT.out.fl.frozen
                    obtain ⟨r0, r1, r2, r3, r4, r5, r6⟩ := HT.out.rf.cells
                    obtain ⟨x0, x1, x2, x3, x4, x5, x6⟩ := HT.out.rf.frozen
                    obtain ⟨p0, p1, p2, p3, p4⟩ := HT.out.pc.cells
                    have o0 : V8.cell? ⟨b14, 0, none⟩ = some (.int .u8 1) := BO.out.cell 0
                    have o1 : V8.cell? ⟨b14, 1, none⟩ = some (.int .i64 nv) := BO.out.cell 1
                    have o2 : V8.cell? ⟨b14, 2, none⟩ = some (.int .u64 tv) := BO.out.cell 2
                    go_wp2_with (go_at_call 27; refine (KY.out _).mono ?_; rintro e W8 ⟨rfl, g8⟩; clear a0 a1 a2 a3 a4 a5 a6 z0 z1 z2 z3 z4 z5 z6 r0 r1 r2 r3 r4 r5 r6 x0 x1 x2 x3 x4 x5 x6 p0 p1 p2 p3 p4 o0 o1 o2; replace HT := Lib.hid (HT.out.below g8); replace BO := Lib.hid (BO.out.below g8 BO.out.lt); clear g8; obtain ⟨r0, r1, r2, r3, r4, r5, r6⟩ := HT.out.rf.cells; obtain ⟨x0, x1, x2, x3, x4, x5, x6⟩ := HT.out.rf.frozen)
                    go_meet
                    exact ⟨_, G, 0, rfl, rfl, rfl, HFN, Lib.hid (HT.out.put2 G), Lib.hid (putF_other (show Box W8 b14 _ _ from BO.out) (by have := hb14.out; omega) G)⟩
                  · skip
                    have KX := Lib.hid fun W => flow_refused f nv tv p hn W
                    have KY := Lib.hid fun W => ref12_refused f nv tv p hn W
                    have HFN : Hid (f.Fits ∧ f.db ≤ ((i + 1 : Nat) : Int) * 65536) := Lib.hid ⟨HF.out.1, by have := HCast.out; have := HDU.out; omega⟩
                    simp only [Fl.v, Pc.v, Fl.c, Pc.c] at KX KY
                    clear hn
                    obtain ⟨a0, a1, a2, a3, a4, a5, a6⟩ := HT.out.fl.cells
                    obtain ⟨z0, z1, z2, z3, z4, z5, z6⟩ := HT.out.fl.frozen
                    obtain ⟨r0, r1, r2, r3, r4, r5, r6⟩ := HT.out.rf.cells
                    obtain ⟨x0, x1, x2, x3, x4, x5, x6⟩ := HT.out.rf.frozen
                    obtain ⟨p0, p1, p2, p3, p4⟩ := HT.out.pc.cells
                    have o0 : W9.cell? ⟨b14, 0, none⟩ = some (.int .u8 1) := BO.out.cell 0
                    have o1 : W9.cell? ⟨b14, 1, none⟩ = some (.int .i64 nv) := BO.out.cell 1
                    have o2 : W9.cell? ⟨b14, 2, none⟩ = some (.int .u64 tv) := BO.out.cell 2
                    go_upto_region 13 with (go_at_call 26; refine (KX.out _).mono ?_; rintro e W7 ⟨rfl, g7⟩; clear a0 a1 a2 a3 a4 a5 a6 z0 z1 z2 z3 z4 z5 z6 r0 r1 r2 r3 r4 r5 r6 x0 x1 x2 x3 x4 x5 x6 p0 p1 p2 p3 p4 o0 o1 o2; replace HT := Lib.hid (HT.out.below g7); replace BO := Lib.hid (BO.out.below g7 BO.out.lt); clear g7; obtain ⟨a0, a1, a2, a3, a4, a5, a6⟩ := HT.out.fl.cells; obtain ⟨z0, z1, z2, z3, z4, z5, z6⟩ := HT.out.fl.frozen)
                    clear a0 a1 a2 a3 a4 a5 a6 z0 z1 z2 z3 z4 z5 z6
                    replace HT := Lib.hid (HT.out.put1 f)
                    replace BO := Lib.hid (putF_other (b := b11) (show Box W7 b14 _ _ from BO.out) (by have := hb14.out; omega) f)
                    obtain ⟨V8, hV6⟩ : ∃ V8, Hid (putF W7 b11 f = V8) := ⟨_, Lib.hid rfl⟩
                    rw [hV6.out] at HT BO
                    have hV7 := hV6.out
                    unfold putF at hV7
                    rw [hV7]
                    clear hV7 hV6
                    obtain ⟨a0, a1, a2, a3, a4, a5, a6⟩ := HT.out.fl.cells
                    obtain ⟨z0, z1, z2, z3, z4, z5, z6⟩ := HT.out.fl.frozen
                    obtain ⟨r0, r1, r2, r3, r4, r5, r6⟩ := HT.out.rf.cells
                    obtain ⟨x0, x1, x2, x3, x4, x5, x6⟩ := HT.out.rf.frozen
                    obtain ⟨p0, p1, p2, p3, p4⟩ := HT.out.pc.cells
                    have o0 : V8.cell? ⟨b14, 0, none⟩ = some (.int .u8 1) := BO.out.cell 0
                    have o1 : V8.cell? ⟨b14, 1, none⟩ = some (.int .i64 nv) := BO.out.cell 1
                    have o2 : V8.cell? ⟨b14, 2, none⟩ = some (.int .u64 tv) := BO.out.cell 2
                    go_wp2_with (go_at_call 27; refine (KY.out _).mono ?_; rintro e W8 ⟨rfl, g8⟩; clear a0 a1 a2 a3 a4 a5 a6 z0 z1 z2 z3 z4 z5 z6 r0 r1 r2 r3 r4 r5 r6 x0 x1 x2 x3 x4 x5 x6 p0 p1 p2 p3 p4 o0 o1 o2; replace HT := Lib.hid (HT.out.below g8); replace BO := Lib.hid (BO.out.below g8 BO.out.lt); clear g8; obtain ⟨r0, r1, r2, r3, r4, r5, r6⟩ := HT.out.rf.cells; obtain ⟨x0, x1, x2, x3, x4, x5, x6⟩ := HT.out.rf.frozen)
                    go_meet
                    exact ⟨_, f, 2, rfl, rfl, rfl, HFN, Lib.hid (HT.out.put2 f), Lib.hid (putF_other (show Box W8 b14 _ _ from BO.out) (by have := hb14.out; omega) f)⟩
                by_cases hk2' : kd = 2
                · subst hk2'
                  have KX := Lib.hid fun W => flow_fill f p HF.out.1 HP.out W
                  have KY := Lib.hid fun W => ref12_fill f p W
                  obtain ⟨G, hG⟩ : ∃ G, Hid (f.fill p = G) := ⟨_, Lib.hid rfl⟩
                  have HFN : Hid (G.Fits ∧ G.db ≤ ((i + 1 : Nat) : Int) * 65536) := by rw [← hG.out]; exact Lib.hid ⟨HF.out.1.fill p, by show f.db ≤ _; have := HCast.out; have := HDU.out; omega⟩
                  rw [hG.out] at KX KY
                  simp only [Fl.v, Pc.v, Fl.c, Pc.c] at KX KY
                  clear hG
                  obtain ⟨a0, a1, a2, a3, a4, a5, a6⟩ := HT.out.fl.cells
                  obtain ⟨z0, z1, z2, z3, z4, z5, z6⟩ := HT.out.fl.frozen
                  obtain ⟨r0, r1, r2, r3, r4, r5, r6⟩ := HT.out.rf.cells
                  obtain ⟨x0, x1, x2, x3, x4, x5, x6⟩ := HT.out.rf.frozen
                  obtain ⟨p0, p1, p2, p3, p4⟩ := HT.out.pc.cells
                  have o0 : W9.cell? ⟨b14, 0, none⟩ = some (.int .u8 2) := BO.out.cell 0
                  have o1 : W9.cell? ⟨b14, 1, none⟩ = some (.int .i64 nv) := BO.out.cell 1
                  have o2 : W9.cell? ⟨b14, 2, none⟩ = some (.int .u64 tv) := BO.out.cell 2
                  go_upto_region 15 with fail
                  refine wp_region_noPanic ?_
                  refine wp_region_held_drew (S := fun w' => w'.cell? ⟨b6, 0, none⟩ = some (.int .i64 p.q) ∧ w'.cell? ⟨b6, 1, none⟩ = some (.int .i64 p.first) ∧ w'.cell? ⟨b6, 2, none⟩ = some (.int .u64 p.refill) ∧ w'.cell? ⟨b6, 3, none⟩ = some (.int .u64 p.most) ∧ w'.cell? ⟨b6, 4, none⟩ = some (.int .u64 p.low)) (by kernel_rfl) ?_ (fun hHeld => ?_)
                  · exact ⟨p0, p1, p2, p3, p4⟩
                  refine tk (i := 1) (oi := _) (v := ?_) rfl (by kernel_rfl) (by kernel_rfl) (by kernel_rfl) (fun _ _ _ h => h) (Or.inl ⟨by rfl, ?_⟩) (by assumption) ?_
                  rotate_left
                  · intro w hSw; (try dsimp only at hSw); go_simp; try with_reducible rfl
                  try simp only [Act.put, List.setIfInBounds_toArray, List.set_cons_zero, List.set_cons_succ]
                  refine tk (i := 4) (oi := _) (v := ?_) rfl (by kernel_rfl) (by kernel_rfl) (by kernel_rfl) (fun _ _ _ h => h) (Or.inl ⟨by rfl, ?_⟩) (by assumption) ?_
                  rotate_left
                  · intro w hSw; (try dsimp only at hSw); go_simp; try with_reducible rfl
                  try simp only [Act.put, List.setIfInBounds_toArray, List.set_cons_zero, List.set_cons_succ]
                  refine wpAnyH_ready (rs := [0, 3]) (by kernel_rfl) (by simp) ?_
                  refine tcons (o := _) rfl (fun K hK => ?_) ?_
                  · skip
                    go_simp
                    refine hK.out _ _ ?_ (fun hHeld => ?_)
                    · exact ⟨p0, p1, p2, p3, p4⟩
                    clear hK K
                    try simp only [Act.put, List.setIfInBounds_toArray, List.set_cons_zero, List.set_cons_succ]
                    refine wpAnyH_ready (rs := [2, 3]) (by kernel_rfl) (by simp) ?_
                    refine tcons (o := _) rfl (fun K hK => ?_) ?_
                    · skip
                      go_simp
                      refine (KX.out _).mono ?_
                      rintro e W7 ⟨rfl, g7⟩
                      have gg := below_tr (Below.refl _ W9).drew g7
                      clear a0 a1 a2 a3 a4 a5 a6 z0 z1 z2 z3 z4 z5 z6 r0 r1 r2 r3 r4 r5 r6 x0 x1 x2 x3 x4 x5 x6 p0 p1 p2 p3 p4 o0 o1 o2
                      replace HT := Lib.hid (HT.out.below gg)
                      replace BO := Lib.hid (BO.out.below gg BO.out.lt)
                      clear gg g7
                      obtain ⟨a0, a1, a2, a3, a4, a5, a6⟩ := HT.out.fl.cells
                      obtain ⟨z0, z1, z2, z3, z4, z5, z6⟩ := HT.out.fl.frozen
                      obtain ⟨r0, r1, r2, r3, r4, r5, r6⟩ := HT.out.rf.cells
                      obtain ⟨x0, x1, x2, x3, x4, x5, x6⟩ := HT.out.rf.frozen
                      obtain ⟨p0, p1, p2, p3, p4⟩ := HT.out.pc.cells
                      have o0 : W7.cell? ⟨b14, 0, none⟩ = some (.int .u8 2) := BO.out.cell 0
                      have o1 : W7.cell? ⟨b14, 1, none⟩ = some (.int .i64 nv) := BO.out.cell 1
                      have o2 : W7.cell? ⟨b14, 2, none⟩ = some (.int .u64 tv) := BO.out.cell 2
                      refine hK.out _ _ ?_ (fun hHeld => ?_)
                      · exact ⟨p0, p1, p2, p3, p4⟩
                      clear hK K
                      try simp only [Act.put, List.setIfInBounds_toArray, List.set_cons_zero, List.set_cons_succ]
                      refine wpAnyH_ready (rs := [3]) (by kernel_rfl) (by simp) ?_
                      refine tcons (o := _) rfl (fun K hK => ?_) AllReadyH.nil
                      go_simp
                      refine hK.out _ _ ?_ (fun hHeld => ?_)
                      · exact ⟨p0, p1, p2, p3, p4⟩
                      clear hK K
                      try simp only [Act.put, List.setIfInBounds_toArray, List.set_cons_zero, List.set_cons_succ]
                      refine wpAnyH_ready (rs := [5]) (by kernel_rfl) (by simp) ?_
                      refine tcons (o := _) rfl (fun K hK => ?_) AllReadyH.nil
                      go_simp
                      refine (KY.out _).mono ?_
                      rintro e W8 ⟨rfl, g8⟩
                      have gg := g8
                      clear a0 a1 a2 a3 a4 a5 a6 z0 z1 z2 z3 z4 z5 z6 r0 r1 r2 r3 r4 r5 r6 x0 x1 x2 x3 x4 x5 x6 p0 p1 p2 p3 p4 o0 o1 o2
                      replace HT := Lib.hid (HT.out.below gg)
                      replace BO := Lib.hid (BO.out.below gg BO.out.lt)
                      clear gg g8
                      obtain ⟨a0, a1, a2, a3, a4, a5, a6⟩ := HT.out.fl.cells
                      obtain ⟨z0, z1, z2, z3, z4, z5, z6⟩ := HT.out.fl.frozen
                      obtain ⟨r0, r1, r2, r3, r4, r5, r6⟩ := HT.out.rf.cells
                      obtain ⟨x0, x1, x2, x3, x4, x5, x6⟩ := HT.out.rf.frozen
                      obtain ⟨p0, p1, p2, p3, p4⟩ := HT.out.pc.cells
                      have o0 : W8.cell? ⟨b14, 0, none⟩ = some (.int .u8 2) := BO.out.cell 0
                      have o1 : W8.cell? ⟨b14, 1, none⟩ = some (.int .i64 nv) := BO.out.cell 1
                      have o2 : W8.cell? ⟨b14, 2, none⟩ = some (.int .u64 tv) := BO.out.cell 2
                      refine hK.out _ _ ?_ (fun hHeld => ?_)
                      · exact ⟨p0, p1, p2, p3, p4⟩
                      clear hK K
                      try simp only [Act.put, List.setIfInBounds_toArray, List.set_cons_zero, List.set_cons_succ]
                      refine wpAnyH_ready (rs := [6]) (by kernel_rfl) (by simp) ?_
                      refine tcons (o := _) rfl (fun K hK => ?_) AllReadyH.nil
                      go_simp
                      refine hK.out _ _ ?_ (fun hHeld => ?_)
                      · exact (by obtain ⟨k0, k1, k2, k3, k4⟩ := (HT.out.put1 G).pc.cells; exact ⟨k0, k1, k2, k3, k4⟩)
                      clear hK K
                      try simp only [Act.put, List.setIfInBounds_toArray, List.set_cons_zero, List.set_cons_succ]
                      refine wpAnyH_ready (rs := [7]) (by kernel_rfl) (by simp) ?_
                      refine tcons (o := _) rfl (fun K hK => ?_) AllReadyH.nil
                      go_simp
                      refine hK.out _ _ ?_ (fun hHeld => ?_)
                      · exact (by obtain ⟨k0, k1, k2, k3, k4⟩ := ((HT.out.put1 G).put2 G).pc.cells; exact ⟨k0, k1, k2, k3, k4⟩)
                      clear hK K
                      try simp only [Act.put, List.setIfInBounds_toArray, List.set_cons_zero, List.set_cons_succ]
                      refine wpAnyH_done (by kernel_rfl) ?_ _
                      refine NoPanic.normal ?_
                      go_wp2_with fail
                      go_meet
                      exact ⟨_, G, 0, rfl, rfl, rfl, HFN, Lib.hid ((HT.out.put1 G).put2 G), Lib.hid (putF_other (putF_other (show Box W8 b14 _ _ from BO.out) (by have := hb14.out; omega) G) (by have := hb14.out; omega) G)⟩
                    refine tcons (o := _) rfl (fun K hK => ?_) AllReadyH.nil
                    go_simp
                    refine hK.out _ _ ?_ (fun hHeld => ?_)
                    · exact ⟨p0, p1, p2, p3, p4⟩
                    clear hK K
                    try simp only [Act.put, List.setIfInBounds_toArray, List.set_cons_zero, List.set_cons_succ]
                    refine wpAnyH_ready (rs := [2]) (by kernel_rfl) (by simp) ?_
                    refine tcons (o := _) rfl (fun K hK => ?_) AllReadyH.nil
                    go_simp
                    refine (KX.out _).mono ?_
                    rintro e W7 ⟨rfl, g7⟩
                    have gg := below_tr (Below.refl _ W9).drew g7
                    clear a0 a1 a2 a3 a4 a5 a6 z0 z1 z2 z3 z4 z5 z6 r0 r1 r2 r3 r4 r5 r6 x0 x1 x2 x3 x4 x5 x6 p0 p1 p2 p3 p4 o0 o1 o2
                    replace HT := Lib.hid (HT.out.below gg)
                    replace BO := Lib.hid (BO.out.below gg BO.out.lt)
                    clear gg g7
                    obtain ⟨a0, a1, a2, a3, a4, a5, a6⟩ := HT.out.fl.cells
                    obtain ⟨z0, z1, z2, z3, z4, z5, z6⟩ := HT.out.fl.frozen
                    obtain ⟨r0, r1, r2, r3, r4, r5, r6⟩ := HT.out.rf.cells
                    obtain ⟨x0, x1, x2, x3, x4, x5, x6⟩ := HT.out.rf.frozen
                    obtain ⟨p0, p1, p2, p3, p4⟩ := HT.out.pc.cells
                    have o0 : W7.cell? ⟨b14, 0, none⟩ = some (.int .u8 2) := BO.out.cell 0
                    have o1 : W7.cell? ⟨b14, 1, none⟩ = some (.int .i64 nv) := BO.out.cell 1
                    have o2 : W7.cell? ⟨b14, 2, none⟩ = some (.int .u64 tv) := BO.out.cell 2
                    refine hK.out _ _ ?_ (fun hHeld => ?_)
                    · exact ⟨p0, p1, p2, p3, p4⟩
                    clear hK K
                    try simp only [Act.put, List.setIfInBounds_toArray, List.set_cons_zero, List.set_cons_succ]
                    refine wpAnyH_ready (rs := [5]) (by kernel_rfl) (by simp) ?_
                    refine tcons (o := _) rfl (fun K hK => ?_) AllReadyH.nil
                    go_simp
                    refine (KY.out _).mono ?_
                    rintro e W8 ⟨rfl, g8⟩
                    have gg := g8
                    clear a0 a1 a2 a3 a4 a5 a6 z0 z1 z2 z3 z4 z5 z6 r0 r1 r2 r3 r4 r5 r6 x0 x1 x2 x3 x4 x5 x6 p0 p1 p2 p3 p4 o0 o1 o2
                    replace HT := Lib.hid (HT.out.below gg)
                    replace BO := Lib.hid (BO.out.below gg BO.out.lt)
                    clear gg g8
                    obtain ⟨a0, a1, a2, a3, a4, a5, a6⟩ := HT.out.fl.cells
                    obtain ⟨z0, z1, z2, z3, z4, z5, z6⟩ := HT.out.fl.frozen
                    obtain ⟨r0, r1, r2, r3, r4, r5, r6⟩ := HT.out.rf.cells
                    obtain ⟨x0, x1, x2, x3, x4, x5, x6⟩ := HT.out.rf.frozen
                    obtain ⟨p0, p1, p2, p3, p4⟩ := HT.out.pc.cells
                    have o0 : W8.cell? ⟨b14, 0, none⟩ = some (.int .u8 2) := BO.out.cell 0
                    have o1 : W8.cell? ⟨b14, 1, none⟩ = some (.int .i64 nv) := BO.out.cell 1
                    have o2 : W8.cell? ⟨b14, 2, none⟩ = some (.int .u64 tv) := BO.out.cell 2
                    refine hK.out _ _ ?_ (fun hHeld => ?_)
                    · exact ⟨p0, p1, p2, p3, p4⟩
                    clear hK K
                    try simp only [Act.put, List.setIfInBounds_toArray, List.set_cons_zero, List.set_cons_succ]
                    refine wpAnyH_ready (rs := [6]) (by kernel_rfl) (by simp) ?_
                    refine tcons (o := _) rfl (fun K hK => ?_) AllReadyH.nil
                    go_simp
                    refine hK.out _ _ ?_ (fun hHeld => ?_)
                    · exact (by obtain ⟨k0, k1, k2, k3, k4⟩ := (HT.out.put1 G).pc.cells; exact ⟨k0, k1, k2, k3, k4⟩)
                    clear hK K
                    try simp only [Act.put, List.setIfInBounds_toArray, List.set_cons_zero, List.set_cons_succ]
                    refine wpAnyH_ready (rs := [7]) (by kernel_rfl) (by simp) ?_
                    refine tcons (o := _) rfl (fun K hK => ?_) AllReadyH.nil
                    go_simp
                    refine hK.out _ _ ?_ (fun hHeld => ?_)
                    · exact (by obtain ⟨k0, k1, k2, k3, k4⟩ := ((HT.out.put1 G).put2 G).pc.cells; exact ⟨k0, k1, k2, k3, k4⟩)
                    clear hK K
                    try simp only [Act.put, List.setIfInBounds_toArray, List.set_cons_zero, List.set_cons_succ]
                    refine wpAnyH_done (by kernel_rfl) ?_ _
                    refine NoPanic.normal ?_
                    go_wp2_with fail
                    go_meet
                    exact ⟨_, G, 0, rfl, rfl, rfl, HFN, Lib.hid ((HT.out.put1 G).put2 G), Lib.hid (putF_other (putF_other (show Box W8 b14 _ _ from BO.out) (by have := hb14.out; omega) G) (by have := hb14.out; omega) G)⟩
                  refine tcons (o := _) rfl (fun K hK => ?_) AllReadyH.nil
                  go_simp
                  refine hK.out _ _ ?_ (fun hHeld => ?_)
                  · exact ⟨p0, p1, p2, p3, p4⟩
                  clear hK K
                  try simp only [Act.put, List.setIfInBounds_toArray, List.set_cons_zero, List.set_cons_succ]
                  refine wpAnyH_ready (rs := [0]) (by kernel_rfl) (by simp) ?_
                  refine tcons (o := _) rfl (fun K hK => ?_) AllReadyH.nil
                  go_simp
                  refine hK.out _ _ ?_ (fun hHeld => ?_)
                  · exact ⟨p0, p1, p2, p3, p4⟩
                  clear hK K
                  try simp only [Act.put, List.setIfInBounds_toArray, List.set_cons_zero, List.set_cons_succ]
                  refine wpAnyH_ready (rs := [2]) (by kernel_rfl) (by simp) ?_
                  refine tcons (o := _) rfl (fun K hK => ?_) AllReadyH.nil
                  go_simp
                  refine (KX.out _).mono ?_
                  rintro e W7 ⟨rfl, g7⟩
                  have gg := below_tr (Below.refl _ W9).drew g7
                  clear a0 a1 a2 a3 a4 a5 a6 z0 z1 z2 z3 z4 z5 z6 r0 r1 r2 r3 r4 r5 r6 x0 x1 x2 x3 x4 x5 x6 p0 p1 p2 p3 p4 o0 o1 o2
                  replace HT := Lib.hid (HT.out.below gg)
                  replace BO := Lib.hid (BO.out.below gg BO.out.lt)
                  clear gg g7
                  obtain ⟨a0, a1, a2, a3, a4, a5, a6⟩ := HT.out.fl.cells
                  obtain ⟨z0, z1, z2, z3, z4, z5, z6⟩ := HT.out.fl.frozen
                  obtain ⟨r0, r1, r2, r3, r4, r5, r6⟩ := HT.out.rf.cells
                  obtain ⟨x0, x1, x2, x3, x4, x5, x6⟩ := HT.out.rf.frozen
                  obtain ⟨p0, p1, p2, p3, p4⟩ := HT.out.pc.cells
                  have o0 : W7.cell? ⟨b14, 0, none⟩ = some (.int .u8 2) := BO.out.cell 0
                  have o1 : W7.cell? ⟨b14, 1, none⟩ = some (.int .i64 nv) := BO.out.cell 1
                  have o2 : W7.cell? ⟨b14, 2, none⟩ = some (.int .u64 tv) := BO.out.cell 2
                  refine hK.out _ _ ?_ (fun hHeld => ?_)
                  · exact ⟨p0, p1, p2, p3, p4⟩
                  clear hK K
                  try simp only [Act.put, List.setIfInBounds_toArray, List.set_cons_zero, List.set_cons_succ]
                  refine wpAnyH_ready (rs := [5]) (by kernel_rfl) (by simp) ?_
                  refine tcons (o := _) rfl (fun K hK => ?_) AllReadyH.nil
                  go_simp
                  refine (KY.out _).mono ?_
                  rintro e W8 ⟨rfl, g8⟩
                  have gg := g8
                  clear a0 a1 a2 a3 a4 a5 a6 z0 z1 z2 z3 z4 z5 z6 r0 r1 r2 r3 r4 r5 r6 x0 x1 x2 x3 x4 x5 x6 p0 p1 p2 p3 p4 o0 o1 o2
                  replace HT := Lib.hid (HT.out.below gg)
                  replace BO := Lib.hid (BO.out.below gg BO.out.lt)
                  clear gg g8
                  obtain ⟨a0, a1, a2, a3, a4, a5, a6⟩ := HT.out.fl.cells
                  obtain ⟨z0, z1, z2, z3, z4, z5, z6⟩ := HT.out.fl.frozen
                  obtain ⟨r0, r1, r2, r3, r4, r5, r6⟩ := HT.out.rf.cells
                  obtain ⟨x0, x1, x2, x3, x4, x5, x6⟩ := HT.out.rf.frozen
                  obtain ⟨p0, p1, p2, p3, p4⟩ := HT.out.pc.cells
                  have o0 : W8.cell? ⟨b14, 0, none⟩ = some (.int .u8 2) := BO.out.cell 0
                  have o1 : W8.cell? ⟨b14, 1, none⟩ = some (.int .i64 nv) := BO.out.cell 1
                  have o2 : W8.cell? ⟨b14, 2, none⟩ = some (.int .u64 tv) := BO.out.cell 2
                  refine hK.out _ _ ?_ (fun hHeld => ?_)
                  · exact ⟨p0, p1, p2, p3, p4⟩
                  clear hK K
                  try simp only [Act.put, List.setIfInBounds_toArray, List.set_cons_zero, List.set_cons_succ]
                  refine wpAnyH_ready (rs := [6]) (by kernel_rfl) (by simp) ?_
                  refine tcons (o := _) rfl (fun K hK => ?_) AllReadyH.nil
                  go_simp
                  refine hK.out _ _ ?_ (fun hHeld => ?_)
                  · exact (by obtain ⟨k0, k1, k2, k3, k4⟩ := (HT.out.put1 G).pc.cells; exact ⟨k0, k1, k2, k3, k4⟩)
                  clear hK K
                  try simp only [Act.put, List.setIfInBounds_toArray, List.set_cons_zero, List.set_cons_succ]
                  refine wpAnyH_ready (rs := [7]) (by kernel_rfl) (by simp) ?_
                  refine tcons (o := _) rfl (fun K hK => ?_) AllReadyH.nil
                  go_simp
                  refine hK.out _ _ ?_ (fun hHeld => ?_)
                  · exact (by obtain ⟨k0, k1, k2, k3, k4⟩ := ((HT.out.put1 G).put2 G).pc.cells; exact ⟨k0, k1, k2, k3, k4⟩)
                  clear hK K
                  try simp only [Act.put, List.setIfInBounds_toArray, List.set_cons_zero, List.set_cons_succ]
                  refine wpAnyH_done (by kernel_rfl) ?_ _
                  refine NoPanic.normal ?_
                  go_wp2_with fail
                  go_meet
                  exact ⟨_, G, 0, rfl, rfl, rfl, HFN, Lib.hid ((HT.out.put1 G).put2 G), Lib.hid (putF_other (putF_other (show Box W8 b14 _ _ from BO.out) (by have := hb14.out; omega) G) (by have := hb14.out; omega) G)⟩
                by_cases hk3' : kd = 3
                · subst hk3'
                  have KX := Lib.hid fun W => flow_rest f tv HF.out.1 HTV.out W
                  have KY := Lib.hid fun W => ref12_rest f tv W
                  obtain ⟨G, hG⟩ : ∃ G, Hid (f.rest tv = G) := ⟨_, Lib.hid rfl⟩
                  have HFN : Hid (G.Fits ∧ G.db ≤ ((i + 1 : Nat) : Int) * 65536) := by rw [← hG.out]; exact Lib.hid ⟨HF.out.1.rest HTV.out, by show f.db ≤ _; have := HCast.out; have := HDU.out; omega⟩
                  rw [hG.out] at KX KY
                  simp only [Fl.v, Pc.v, Fl.c, Pc.c] at KX KY
                  clear hG
                  obtain ⟨a0, a1, a2, a3, a4, a5, a6⟩ := HT.out.fl.cells
                  obtain ⟨z0, z1, z2, z3, z4, z5, z6⟩ := HT.out.fl.frozen
                  obtain ⟨r0, r1, r2, r3, r4, r5, r6⟩ := HT.out.rf.cells
                  obtain ⟨x0, x1, x2, x3, x4, x5, x6⟩ := HT.out.rf.frozen
                  obtain ⟨p0, p1, p2, p3, p4⟩ := HT.out.pc.cells
                  have o0 : W9.cell? ⟨b14, 0, none⟩ = some (.int .u8 3) := BO.out.cell 0
                  have o1 : W9.cell? ⟨b14, 1, none⟩ = some (.int .i64 nv) := BO.out.cell 1
                  have o2 : W9.cell? ⟨b14, 2, none⟩ = some (.int .u64 tv) := BO.out.cell 2
                  go_upto_region 17 with fail
                  refine wp_region_noPanic ?_
                  refine wp_region_held_drew (S := fun w' => w'.cell? ⟨b6, 0, none⟩ = some (.int .i64 p.q) ∧ w'.cell? ⟨b6, 1, none⟩ = some (.int .i64 p.first) ∧ w'.cell? ⟨b6, 2, none⟩ = some (.int .u64 p.refill) ∧ w'.cell? ⟨b6, 3, none⟩ = some (.int .u64 p.most) ∧ w'.cell? ⟨b6, 4, none⟩ = some (.int .u64 p.low) ∧ w'.cell? ⟨b14, 2, none⟩ = some (.int .u64 tv)) (by kernel_rfl) ?_ (fun hHeld => ?_)
                  · exact ⟨p0, p1, p2, p3, p4, o2⟩
                  refine tk (i := 1) (oi := _) (v := ?_) rfl (by kernel_rfl) (by kernel_rfl) (by kernel_rfl) (fun _ _ _ h => h) (Or.inl ⟨by rfl, ?_⟩) (by assumption) ?_
                  rotate_left
                  · intro w hSw; (try dsimp only at hSw); go_simp; try with_reducible rfl
                  try simp only [Act.put, List.setIfInBounds_toArray, List.set_cons_zero, List.set_cons_succ]
                  refine tk (i := 2) (oi := _) (v := ?_) rfl (by kernel_rfl) (by kernel_rfl) (by kernel_rfl) (fun _ _ _ h => h) (Or.inl ⟨by rfl, ?_⟩) (by assumption) ?_
                  rotate_left
                  · intro w hSw; (try dsimp only at hSw); go_simp; try with_reducible rfl
                  try simp only [Act.put, List.setIfInBounds_toArray, List.set_cons_zero, List.set_cons_succ]
                  refine tk (i := 5) (oi := _) (v := ?_) rfl (by kernel_rfl) (by kernel_rfl) (by kernel_rfl) (fun _ _ _ h => h) (Or.inl ⟨by rfl, ?_⟩) (by assumption) ?_
                  rotate_left
                  · intro w hSw; (try dsimp only at hSw); go_simp; try with_reducible rfl
                  try simp only [Act.put, List.setIfInBounds_toArray, List.set_cons_zero, List.set_cons_succ]
                  refine tk (i := 6) (oi := _) (v := ?_) rfl (by kernel_rfl) (by kernel_rfl) (by kernel_rfl) (fun _ _ _ h => h) (Or.inl ⟨by rfl, ?_⟩) (by assumption) ?_
                  rotate_left
                  · intro w hSw; (try dsimp only at hSw); go_simp; try with_reducible rfl
                  try simp only [Act.put, List.setIfInBounds_toArray, List.set_cons_zero, List.set_cons_succ]
                  refine wpAnyH_ready (rs := [0, 4]) (by kernel_rfl) (by simp) ?_
                  refine tcons (o := _) rfl (fun K hK => ?_) ?_
                  · skip
                    go_simp
                    refine hK.out _ _ ?_ (fun hHeld => ?_)
                    · exact ⟨p0, p1, p2, p3, p4, o2⟩
                    clear hK K
                    try simp only [Act.put, List.setIfInBounds_toArray, List.set_cons_zero, List.set_cons_succ]
                    refine wpAnyH_ready (rs := [3, 4]) (by kernel_rfl) (by simp) ?_
                    refine tcons (o := _) rfl (fun K hK => ?_) ?_
                    · skip
                      go_simp
                      refine (KX.out _).mono ?_
                      rintro e W7 ⟨rfl, g7⟩
                      have gg := below_tr (Below.refl _ W9).drew g7
                      clear a0 a1 a2 a3 a4 a5 a6 z0 z1 z2 z3 z4 z5 z6 r0 r1 r2 r3 r4 r5 r6 x0 x1 x2 x3 x4 x5 x6 p0 p1 p2 p3 p4 o0 o1 o2
                      replace HT := Lib.hid (HT.out.below gg)
                      replace BO := Lib.hid (BO.out.below gg BO.out.lt)
                      clear gg g7
                      obtain ⟨a0, a1, a2, a3, a4, a5, a6⟩ := HT.out.fl.cells
                      obtain ⟨z0, z1, z2, z3, z4, z5, z6⟩ := HT.out.fl.frozen
                      obtain ⟨r0, r1, r2, r3, r4, r5, r6⟩ := HT.out.rf.cells
                      obtain ⟨x0, x1, x2, x3, x4, x5, x6⟩ := HT.out.rf.frozen
                      obtain ⟨p0, p1, p2, p3, p4⟩ := HT.out.pc.cells
                      have o0 : W7.cell? ⟨b14, 0, none⟩ = some (.int .u8 3) := BO.out.cell 0
                      have o1 : W7.cell? ⟨b14, 1, none⟩ = some (.int .i64 nv) := BO.out.cell 1
                      have o2 : W7.cell? ⟨b14, 2, none⟩ = some (.int .u64 tv) := BO.out.cell 2
                      refine hK.out _ _ ?_ (fun hHeld => ?_)
                      · exact ⟨p0, p1, p2, p3, p4, o2⟩
                      clear hK K
                      try simp only [Act.put, List.setIfInBounds_toArray, List.set_cons_zero, List.set_cons_succ]
                      refine wpAnyH_ready (rs := [4]) (by kernel_rfl) (by simp) ?_
                      refine tcons (o := _) rfl (fun K hK => ?_) AllReadyH.nil
                      go_simp
                      refine hK.out _ _ ?_ (fun hHeld => ?_)
                      · exact ⟨p0, p1, p2, p3, p4, o2⟩
                      clear hK K
                      try simp only [Act.put, List.setIfInBounds_toArray, List.set_cons_zero, List.set_cons_succ]
                      refine wpAnyH_ready (rs := [7]) (by kernel_rfl) (by simp) ?_
                      refine tcons (o := _) rfl (fun K hK => ?_) AllReadyH.nil
                      go_simp
                      refine (KY.out _).mono ?_
                      rintro e W8 ⟨rfl, g8⟩
                      have gg := g8
                      clear a0 a1 a2 a3 a4 a5 a6 z0 z1 z2 z3 z4 z5 z6 r0 r1 r2 r3 r4 r5 r6 x0 x1 x2 x3 x4 x5 x6 p0 p1 p2 p3 p4 o0 o1 o2
                      replace HT := Lib.hid (HT.out.below gg)
                      replace BO := Lib.hid (BO.out.below gg BO.out.lt)
                      clear gg g8
                      obtain ⟨a0, a1, a2, a3, a4, a5, a6⟩ := HT.out.fl.cells
                      obtain ⟨z0, z1, z2, z3, z4, z5, z6⟩ := HT.out.fl.frozen
                      obtain ⟨r0, r1, r2, r3, r4, r5, r6⟩ := HT.out.rf.cells
                      obtain ⟨x0, x1, x2, x3, x4, x5, x6⟩ := HT.out.rf.frozen
                      obtain ⟨p0, p1, p2, p3, p4⟩ := HT.out.pc.cells
                      have o0 : W8.cell? ⟨b14, 0, none⟩ = some (.int .u8 3) := BO.out.cell 0
                      have o1 : W8.cell? ⟨b14, 1, none⟩ = some (.int .i64 nv) := BO.out.cell 1
                      have o2 : W8.cell? ⟨b14, 2, none⟩ = some (.int .u64 tv) := BO.out.cell 2
                      refine hK.out _ _ ?_ (fun hHeld => ?_)
                      · exact ⟨p0, p1, p2, p3, p4, o2⟩
                      clear hK K
                      try simp only [Act.put, List.setIfInBounds_toArray, List.set_cons_zero, List.set_cons_succ]
                      refine wpAnyH_ready (rs := [8]) (by kernel_rfl) (by simp) ?_
                      refine tcons (o := _) rfl (fun K hK => ?_) AllReadyH.nil
                      go_simp
                      refine hK.out _ _ ?_ (fun hHeld => ?_)
                      · exact (by obtain ⟨k0, k1, k2, k3, k4⟩ := (HT.out.put1 G).pc.cells; exact ⟨k0, k1, k2, k3, k4, (putF_other (show Box W8 b14 _ _ from BO.out) (by have := hb14.out; omega) G).cell 2⟩)
                      clear hK K
                      try simp only [Act.put, List.setIfInBounds_toArray, List.set_cons_zero, List.set_cons_succ]
                      refine wpAnyH_ready (rs := [9]) (by kernel_rfl) (by simp) ?_
                      refine tcons (o := _) rfl (fun K hK => ?_) AllReadyH.nil
                      go_simp
                      refine hK.out _ _ ?_ (fun hHeld => ?_)
                      · exact (by obtain ⟨k0, k1, k2, k3, k4⟩ := ((HT.out.put1 G).put2 G).pc.cells; exact ⟨k0, k1, k2, k3, k4, (putF_other (putF_other (show Box W8 b14 _ _ from BO.out) (by have := hb14.out; omega) G) (by have := hb14.out; omega) G).cell 2⟩)
                      clear hK K
                      try simp only [Act.put, List.setIfInBounds_toArray, List.set_cons_zero, List.set_cons_succ]
                      refine wpAnyH_done (by kernel_rfl) ?_ _
                      refine NoPanic.normal ?_
                      go_wp2_with fail
                      go_meet
                      exact ⟨_, G, 0, rfl, rfl, rfl, HFN, Lib.hid ((HT.out.put1 G).put2 G), Lib.hid (putF_other (putF_other (show Box W8 b14 _ _ from BO.out) (by have := hb14.out; omega) G) (by have := hb14.out; omega) G)⟩
                    refine tcons (o := _) rfl (fun K hK => ?_) AllReadyH.nil
                    go_simp
                    refine hK.out _ _ ?_ (fun hHeld => ?_)
                    · exact ⟨p0, p1, p2, p3, p4, o2⟩
                    clear hK K
                    try simp only [Act.put, List.setIfInBounds_toArray, List.set_cons_zero, List.set_cons_succ]
                    refine wpAnyH_ready (rs := [3]) (by kernel_rfl) (by simp) ?_
                    refine tcons (o := _) rfl (fun K hK => ?_) AllReadyH.nil
                    go_simp
                    refine (KX.out _).mono ?_
                    rintro e W7 ⟨rfl, g7⟩
                    have gg := below_tr (Below.refl _ W9).drew g7
                    clear a0 a1 a2 a3 a4 a5 a6 z0 z1 z2 z3 z4 z5 z6 r0 r1 r2 r3 r4 r5 r6 x0 x1 x2 x3 x4 x5 x6 p0 p1 p2 p3 p4 o0 o1 o2
                    replace HT := Lib.hid (HT.out.below gg)
                    replace BO := Lib.hid (BO.out.below gg BO.out.lt)
                    clear gg g7
                    obtain ⟨a0, a1, a2, a3, a4, a5, a6⟩ := HT.out.fl.cells
                    obtain ⟨z0, z1, z2, z3, z4, z5, z6⟩ := HT.out.fl.frozen
                    obtain ⟨r0, r1, r2, r3, r4, r5, r6⟩ := HT.out.rf.cells
                    obtain ⟨x0, x1, x2, x3, x4, x5, x6⟩ := HT.out.rf.frozen
                    obtain ⟨p0, p1, p2, p3, p4⟩ := HT.out.pc.cells
                    have o0 : W7.cell? ⟨b14, 0, none⟩ = some (.int .u8 3) := BO.out.cell 0
                    have o1 : W7.cell? ⟨b14, 1, none⟩ = some (.int .i64 nv) := BO.out.cell 1
                    have o2 : W7.cell? ⟨b14, 2, none⟩ = some (.int .u64 tv) := BO.out.cell 2
                    refine hK.out _ _ ?_ (fun hHeld => ?_)
                    · exact ⟨p0, p1, p2, p3, p4, o2⟩
                    clear hK K
                    try simp only [Act.put, List.setIfInBounds_toArray, List.set_cons_zero, List.set_cons_succ]
                    refine wpAnyH_ready (rs := [7]) (by kernel_rfl) (by simp) ?_
                    refine tcons (o := _) rfl (fun K hK => ?_) AllReadyH.nil
                    go_simp
                    refine (KY.out _).mono ?_
                    rintro e W8 ⟨rfl, g8⟩
                    have gg := g8
                    clear a0 a1 a2 a3 a4 a5 a6 z0 z1 z2 z3 z4 z5 z6 r0 r1 r2 r3 r4 r5 r6 x0 x1 x2 x3 x4 x5 x6 p0 p1 p2 p3 p4 o0 o1 o2
                    replace HT := Lib.hid (HT.out.below gg)
                    replace BO := Lib.hid (BO.out.below gg BO.out.lt)
                    clear gg g8
                    obtain ⟨a0, a1, a2, a3, a4, a5, a6⟩ := HT.out.fl.cells
                    obtain ⟨z0, z1, z2, z3, z4, z5, z6⟩ := HT.out.fl.frozen
                    obtain ⟨r0, r1, r2, r3, r4, r5, r6⟩ := HT.out.rf.cells
                    obtain ⟨x0, x1, x2, x3, x4, x5, x6⟩ := HT.out.rf.frozen
                    obtain ⟨p0, p1, p2, p3, p4⟩ := HT.out.pc.cells
                    have o0 : W8.cell? ⟨b14, 0, none⟩ = some (.int .u8 3) := BO.out.cell 0
                    have o1 : W8.cell? ⟨b14, 1, none⟩ = some (.int .i64 nv) := BO.out.cell 1
                    have o2 : W8.cell? ⟨b14, 2, none⟩ = some (.int .u64 tv) := BO.out.cell 2
                    refine hK.out _ _ ?_ (fun hHeld => ?_)
                    · exact ⟨p0, p1, p2, p3, p4, o2⟩
                    clear hK K
                    try simp only [Act.put, List.setIfInBounds_toArray, List.set_cons_zero, List.set_cons_succ]
                    refine wpAnyH_ready (rs := [8]) (by kernel_rfl) (by simp) ?_
                    refine tcons (o := _) rfl (fun K hK => ?_) AllReadyH.nil
                    go_simp
                    refine hK.out _ _ ?_ (fun hHeld => ?_)
                    · exact (by obtain ⟨k0, k1, k2, k3, k4⟩ := (HT.out.put1 G).pc.cells; exact ⟨k0, k1, k2, k3, k4, (putF_other (show Box W8 b14 _ _ from BO.out) (by have := hb14.out; omega) G).cell 2⟩)
                    clear hK K
                    try simp only [Act.put, List.setIfInBounds_toArray, List.set_cons_zero, List.set_cons_succ]
                    refine wpAnyH_ready (rs := [9]) (by kernel_rfl) (by simp) ?_
                    refine tcons (o := _) rfl (fun K hK => ?_) AllReadyH.nil
                    go_simp
                    refine hK.out _ _ ?_ (fun hHeld => ?_)
                    · exact (by obtain ⟨k0, k1, k2, k3, k4⟩ := ((HT.out.put1 G).put2 G).pc.cells; exact ⟨k0, k1, k2, k3, k4, (putF_other (putF_other (show Box W8 b14 _ _ from BO.out) (by have := hb14.out; omega) G) (by have := hb14.out; omega) G).cell 2⟩)
                    clear hK K
                    try simp only [Act.put, List.setIfInBounds_toArray, List.set_cons_zero, List.set_cons_succ]
                    refine wpAnyH_done (by kernel_rfl) ?_ _
                    refine NoPanic.normal ?_
                    go_wp2_with fail
                    go_meet
                    exact ⟨_, G, 0, rfl, rfl, rfl, HFN, Lib.hid ((HT.out.put1 G).put2 G), Lib.hid (putF_other (putF_other (show Box W8 b14 _ _ from BO.out) (by have := hb14.out; omega) G) (by have := hb14.out; omega) G)⟩
                  refine tcons (o := _) rfl (fun K hK => ?_) AllReadyH.nil
                  go_simp
                  refine hK.out _ _ ?_ (fun hHeld => ?_)
                  · exact ⟨p0, p1, p2, p3, p4, o2⟩
                  clear hK K
                  try simp only [Act.put, List.setIfInBounds_toArray, List.set_cons_zero, List.set_cons_succ]
                  refine wpAnyH_ready (rs := [0]) (by kernel_rfl) (by simp) ?_
                  refine tcons (o := _) rfl (fun K hK => ?_) AllReadyH.nil
                  go_simp
                  refine hK.out _ _ ?_ (fun hHeld => ?_)
                  · exact ⟨p0, p1, p2, p3, p4, o2⟩
                  clear hK K
                  try simp only [Act.put, List.setIfInBounds_toArray, List.set_cons_zero, List.set_cons_succ]
                  refine wpAnyH_ready (rs := [3]) (by kernel_rfl) (by simp) ?_
                  refine tcons (o := _) rfl (fun K hK => ?_) AllReadyH.nil
                  go_simp
                  refine (KX.out _).mono ?_
                  rintro e W7 ⟨rfl, g7⟩
                  have gg := below_tr (Below.refl _ W9).drew g7
                  clear a0 a1 a2 a3 a4 a5 a6 z0 z1 z2 z3 z4 z5 z6 r0 r1 r2 r3 r4 r5 r6 x0 x1 x2 x3 x4 x5 x6 p0 p1 p2 p3 p4 o0 o1 o2
                  replace HT := Lib.hid (HT.out.below gg)
                  replace BO := Lib.hid (BO.out.below gg BO.out.lt)
                  clear gg g7
                  obtain ⟨a0, a1, a2, a3, a4, a5, a6⟩ := HT.out.fl.cells
                  obtain ⟨z0, z1, z2, z3, z4, z5, z6⟩ := HT.out.fl.frozen
                  obtain ⟨r0, r1, r2, r3, r4, r5, r6⟩ := HT.out.rf.cells
                  obtain ⟨x0, x1, x2, x3, x4, x5, x6⟩ := HT.out.rf.frozen
                  obtain ⟨p0, p1, p2, p3, p4⟩ := HT.out.pc.cells
                  have o0 : W7.cell? ⟨b14, 0, none⟩ = some (.int .u8 3) := BO.out.cell 0
                  have o1 : W7.cell? ⟨b14, 1, none⟩ = some (.int .i64 nv) := BO.out.cell 1
                  have o2 : W7.cell? ⟨b14, 2, none⟩ = some (.int .u64 tv) := BO.out.cell 2
                  refine hK.out _ _ ?_ (fun hHeld => ?_)
                  · exact ⟨p0, p1, p2, p3, p4, o2⟩
                  clear hK K
                  try simp only [Act.put, List.setIfInBounds_toArray, List.set_cons_zero, List.set_cons_succ]
                  refine wpAnyH_ready (rs := [7]) (by kernel_rfl) (by simp) ?_
                  refine tcons (o := _) rfl (fun K hK => ?_) AllReadyH.nil
                  go_simp
                  refine (KY.out _).mono ?_
                  rintro e W8 ⟨rfl, g8⟩
                  have gg := g8
                  clear a0 a1 a2 a3 a4 a5 a6 z0 z1 z2 z3 z4 z5 z6 r0 r1 r2 r3 r4 r5 r6 x0 x1 x2 x3 x4 x5 x6 p0 p1 p2 p3 p4 o0 o1 o2
                  replace HT := Lib.hid (HT.out.below gg)
                  replace BO := Lib.hid (BO.out.below gg BO.out.lt)
                  clear gg g8
                  obtain ⟨a0, a1, a2, a3, a4, a5, a6⟩ := HT.out.fl.cells
                  obtain ⟨z0, z1, z2, z3, z4, z5, z6⟩ := HT.out.fl.frozen
                  obtain ⟨r0, r1, r2, r3, r4, r5, r6⟩ := HT.out.rf.cells
                  obtain ⟨x0, x1, x2, x3, x4, x5, x6⟩ := HT.out.rf.frozen
                  obtain ⟨p0, p1, p2, p3, p4⟩ := HT.out.pc.cells
                  have o0 : W8.cell? ⟨b14, 0, none⟩ = some (.int .u8 3) := BO.out.cell 0
                  have o1 : W8.cell? ⟨b14, 1, none⟩ = some (.int .i64 nv) := BO.out.cell 1
                  have o2 : W8.cell? ⟨b14, 2, none⟩ = some (.int .u64 tv) := BO.out.cell 2
                  refine hK.out _ _ ?_ (fun hHeld => ?_)
                  · exact ⟨p0, p1, p2, p3, p4, o2⟩
                  clear hK K
                  try simp only [Act.put, List.setIfInBounds_toArray, List.set_cons_zero, List.set_cons_succ]
                  refine wpAnyH_ready (rs := [8]) (by kernel_rfl) (by simp) ?_
                  refine tcons (o := _) rfl (fun K hK => ?_) AllReadyH.nil
                  go_simp
                  refine hK.out _ _ ?_ (fun hHeld => ?_)
                  · exact (by obtain ⟨k0, k1, k2, k3, k4⟩ := (HT.out.put1 G).pc.cells; exact ⟨k0, k1, k2, k3, k4, (putF_other (show Box W8 b14 _ _ from BO.out) (by have := hb14.out; omega) G).cell 2⟩)
                  clear hK K
                  try simp only [Act.put, List.setIfInBounds_toArray, List.set_cons_zero, List.set_cons_succ]
                  refine wpAnyH_ready (rs := [9]) (by kernel_rfl) (by simp) ?_
                  refine tcons (o := _) rfl (fun K hK => ?_) AllReadyH.nil
                  go_simp
                  refine hK.out _ _ ?_ (fun hHeld => ?_)
                  · exact (by obtain ⟨k0, k1, k2, k3, k4⟩ := ((HT.out.put1 G).put2 G).pc.cells; exact ⟨k0, k1, k2, k3, k4, (putF_other (putF_other (show Box W8 b14 _ _ from BO.out) (by have := hb14.out; omega) G) (by have := hb14.out; omega) G).cell 2⟩)
                  clear hK K
                  try simp only [Act.put, List.setIfInBounds_toArray, List.set_cons_zero, List.set_cons_succ]
                  refine wpAnyH_done (by kernel_rfl) ?_ _
                  refine NoPanic.normal ?_
                  go_wp2_with fail
                  go_meet
                  exact ⟨_, G, 0, rfl, rfl, rfl, HFN, Lib.hid ((HT.out.put1 G).put2 G), Lib.hid (putF_other (putF_other (show Box W8 b14 _ _ from BO.out) (by have := hb14.out; omega) G) (by have := hb14.out; omega) G)⟩
                by_cases hk4' : kd = 4
                · subst hk4'
                  have KX := Lib.hid fun W => flow_wake f tv p HF.out.1 HP.out HTV.out W
                  have KY := Lib.hid fun W => ref12_wake f tv p HF.out.1 HP.out HTV.out W
                  obtain ⟨G, hG⟩ : ∃ G, Hid (f.wake tv p = G) := ⟨_, Lib.hid rfl⟩
                  have HFN : Hid (G.Fits ∧ G.db ≤ ((i + 1 : Nat) : Int) * 65536) := by rw [← hG.out]; exact Lib.hid ⟨HF.out.1.wake HP.out tv, by have h1 := wake_db f tv p hdb0; have := HCast.out; have := HDU.out; omega⟩
                  rw [hG.out] at KX KY
                  simp only [Fl.v, Pc.v, Fl.c, Pc.c] at KX KY
                  clear hG
                  obtain ⟨a0, a1, a2, a3, a4, a5, a6⟩ := HT.out.fl.cells
                  obtain ⟨z0, z1, z2, z3, z4, z5, z6⟩ := HT.out.fl.frozen
                  obtain ⟨r0, r1, r2, r3, r4, r5, r6⟩ := HT.out.rf.cells
                  obtain ⟨x0, x1, x2, x3, x4, x5, x6⟩ := HT.out.rf.frozen
                  obtain ⟨p0, p1, p2, p3, p4⟩ := HT.out.pc.cells
                  have o0 : W9.cell? ⟨b14, 0, none⟩ = some (.int .u8 4) := BO.out.cell 0
                  have o1 : W9.cell? ⟨b14, 1, none⟩ = some (.int .i64 nv) := BO.out.cell 1
                  have o2 : W9.cell? ⟨b14, 2, none⟩ = some (.int .u64 tv) := BO.out.cell 2
                  go_upto_region 19 with fail
                  refine wp_region_noPanic ?_
                  refine wp_region_held_drew (S := fun w' => w'.cell? ⟨b6, 0, none⟩ = some (.int .i64 p.q) ∧ w'.cell? ⟨b6, 1, none⟩ = some (.int .i64 p.first) ∧ w'.cell? ⟨b6, 2, none⟩ = some (.int .u64 p.refill) ∧ w'.cell? ⟨b6, 3, none⟩ = some (.int .u64 p.most) ∧ w'.cell? ⟨b6, 4, none⟩ = some (.int .u64 p.low) ∧ w'.cell? ⟨b14, 2, none⟩ = some (.int .u64 tv)) (by kernel_rfl) ?_ (fun hHeld => ?_)
                  · exact ⟨p0, p1, p2, p3, p4, o2⟩
                  refine tk (i := 1) (oi := _) (v := ?_) rfl (by kernel_rfl) (by kernel_rfl) (by kernel_rfl) (fun _ _ _ h => h) (Or.inl ⟨by rfl, ?_⟩) (by assumption) ?_
                  rotate_left
                  · intro w hSw; (try dsimp only at hSw); go_simp; try with_reducible rfl
                  try simp only [Act.put, List.setIfInBounds_toArray, List.set_cons_zero, List.set_cons_succ]
                  refine tk (i := 2) (oi := _) (v := ?_) rfl (by kernel_rfl) (by kernel_rfl) (by kernel_rfl) (fun _ _ _ h => h) (Or.inl ⟨by rfl, ?_⟩) (by assumption) ?_
                  rotate_left
                  · intro w hSw; (try dsimp only at hSw); go_simp; try with_reducible rfl
                  try simp only [Act.put, List.setIfInBounds_toArray, List.set_cons_zero, List.set_cons_succ]
                  refine tk (i := 3) (oi := _) (v := ?_) rfl (by kernel_rfl) (by kernel_rfl) (by kernel_rfl) (fun _ _ _ h => h) (Or.inl ⟨by rfl, ?_⟩) (by assumption) ?_
                  rotate_left
                  · intro w hSw; (try dsimp only at hSw); go_simp; try with_reducible rfl
                  try simp only [Act.put, List.setIfInBounds_toArray, List.set_cons_zero, List.set_cons_succ]
                  refine tk (i := 6) (oi := _) (v := ?_) rfl (by kernel_rfl) (by kernel_rfl) (by kernel_rfl) (fun _ _ _ h => h) (Or.inl ⟨by rfl, ?_⟩) (by assumption) ?_
                  rotate_left
                  · intro w hSw; (try dsimp only at hSw); go_simp; try with_reducible rfl
                  try simp only [Act.put, List.setIfInBounds_toArray, List.set_cons_zero, List.set_cons_succ]
                  refine tk (i := 7) (oi := _) (v := ?_) rfl (by kernel_rfl) (by kernel_rfl) (by kernel_rfl) (fun _ _ _ h => h) (Or.inl ⟨by rfl, ?_⟩) (by assumption) ?_
                  rotate_left
                  · intro w hSw; (try dsimp only at hSw); go_simp; try with_reducible rfl
                  try simp only [Act.put, List.setIfInBounds_toArray, List.set_cons_zero, List.set_cons_succ]
                  refine tk (i := 8) (oi := _) (v := ?_) rfl (by kernel_rfl) (by kernel_rfl) (by kernel_rfl) (fun _ _ _ h => h) (Or.inl ⟨by rfl, ?_⟩) (by assumption) ?_
                  rotate_left
                  · intro w hSw; (try dsimp only at hSw); go_simp; try with_reducible rfl
                  try simp only [Act.put, List.setIfInBounds_toArray, List.set_cons_zero, List.set_cons_succ]
                  refine wpAnyH_ready (rs := [0, 5]) (by kernel_rfl) (by simp) ?_
                  refine tcons (o := _) rfl (fun K hK => ?_) ?_
                  · skip
                    go_simp
                    refine hK.out _ _ ?_ (fun hHeld => ?_)
                    · exact ⟨p0, p1, p2, p3, p4, o2⟩
                    clear hK K
                    try simp only [Act.put, List.setIfInBounds_toArray, List.set_cons_zero, List.set_cons_succ]
                    refine wpAnyH_ready (rs := [4, 5]) (by kernel_rfl) (by simp) ?_
                    refine tcons (o := _) rfl (fun K hK => ?_) ?_
                    · skip
                      go_simp
                      refine (KX.out _).mono ?_
                      rintro e W7 ⟨rfl, g7⟩
                      have gg := below_tr (Below.refl _ W9).drew g7
                      clear a0 a1 a2 a3 a4 a5 a6 z0 z1 z2 z3 z4 z5 z6 r0 r1 r2 r3 r4 r5 r6 x0 x1 x2 x3 x4 x5 x6 p0 p1 p2 p3 p4 o0 o1 o2
                      replace HT := Lib.hid (HT.out.below gg)
                      replace BO := Lib.hid (BO.out.below gg BO.out.lt)
                      clear gg g7
                      obtain ⟨a0, a1, a2, a3, a4, a5, a6⟩ := HT.out.fl.cells
                      obtain ⟨z0, z1, z2, z3, z4, z5, z6⟩ := HT.out.fl.frozen
                      obtain ⟨r0, r1, r2, r3, r4, r5, r6⟩ := HT.out.rf.cells
                      obtain ⟨x0, x1, x2, x3, x4, x5, x6⟩ := HT.out.rf.frozen
                      obtain ⟨p0, p1, p2, p3, p4⟩ := HT.out.pc.cells
                      have o0 : W7.cell? ⟨b14, 0, none⟩ = some (.int .u8 4) := BO.out.cell 0
                      have o1 : W7.cell? ⟨b14, 1, none⟩ = some (.int .i64 nv) := BO.out.cell 1
                      have o2 : W7.cell? ⟨b14, 2, none⟩ = some (.int .u64 tv) := BO.out.cell 2
                      refine hK.out _ _ ?_ (fun hHeld => ?_)
                      · exact ⟨p0, p1, p2, p3, p4, o2⟩
                      clear hK K
                      try simp only [Act.put, List.setIfInBounds_toArray, List.set_cons_zero, List.set_cons_succ]
                      refine wpAnyH_ready (rs := [5]) (by kernel_rfl) (by simp) ?_
                      refine tcons (o := _) rfl (fun K hK => ?_) AllReadyH.nil
                      go_simp
                      refine hK.out _ _ ?_ (fun hHeld => ?_)
                      · exact ⟨p0, p1, p2, p3, p4, o2⟩
                      clear hK K
                      try simp only [Act.put, List.setIfInBounds_toArray, List.set_cons_zero, List.set_cons_succ]
                      refine wpAnyH_ready (rs := [9]) (by kernel_rfl) (by simp) ?_
                      refine tcons (o := _) rfl (fun K hK => ?_) AllReadyH.nil
                      go_simp
                      refine (KY.out _).mono ?_
                      rintro e W8 ⟨rfl, g8⟩
                      have gg := g8
                      clear a0 a1 a2 a3 a4 a5 a6 z0 z1 z2 z3 z4 z5 z6 r0 r1 r2 r3 r4 r5 r6 x0 x1 x2 x3 x4 x5 x6 p0 p1 p2 p3 p4 o0 o1 o2
                      replace HT := Lib.hid (HT.out.below gg)
                      replace BO := Lib.hid (BO.out.below gg BO.out.lt)
                      clear gg g8
                      obtain ⟨a0, a1, a2, a3, a4, a5, a6⟩ := HT.out.fl.cells
                      obtain ⟨z0, z1, z2, z3, z4, z5, z6⟩ := HT.out.fl.frozen
                      obtain ⟨r0, r1, r2, r3, r4, r5, r6⟩ := HT.out.rf.cells
                      obtain ⟨x0, x1, x2, x3, x4, x5, x6⟩ := HT.out.rf.frozen
                      obtain ⟨p0, p1, p2, p3, p4⟩ := HT.out.pc.cells
                      have o0 : W8.cell? ⟨b14, 0, none⟩ = some (.int .u8 4) := BO.out.cell 0
                      have o1 : W8.cell? ⟨b14, 1, none⟩ = some (.int .i64 nv) := BO.out.cell 1
                      have o2 : W8.cell? ⟨b14, 2, none⟩ = some (.int .u64 tv) := BO.out.cell 2
                      refine hK.out _ _ ?_ (fun hHeld => ?_)
                      · exact ⟨p0, p1, p2, p3, p4, o2⟩
                      clear hK K
                      try simp only [Act.put, List.setIfInBounds_toArray, List.set_cons_zero, List.set_cons_succ]
                      refine wpAnyH_ready (rs := [10]) (by kernel_rfl) (by simp) ?_
                      refine tcons (o := _) rfl (fun K hK => ?_) AllReadyH.nil
                      go_simp
                      refine hK.out _ _ ?_ (fun hHeld => ?_)
                      · exact (by obtain ⟨k0, k1, k2, k3, k4⟩ := (HT.out.put1 G).pc.cells; exact ⟨k0, k1, k2, k3, k4, (putF_other (show Box W8 b14 _ _ from BO.out) (by have := hb14.out; omega) G).cell 2⟩)
                      clear hK K
                      try simp only [Act.put, List.setIfInBounds_toArray, List.set_cons_zero, List.set_cons_succ]
                      refine wpAnyH_ready (rs := [11]) (by kernel_rfl) (by simp) ?_
                      refine tcons (o := _) rfl (fun K hK => ?_) AllReadyH.nil
                      go_simp
                      refine hK.out _ _ ?_ (fun hHeld => ?_)
                      · exact (by obtain ⟨k0, k1, k2, k3, k4⟩ := ((HT.out.put1 G).put2 G).pc.cells; exact ⟨k0, k1, k2, k3, k4, (putF_other (putF_other (show Box W8 b14 _ _ from BO.out) (by have := hb14.out; omega) G) (by have := hb14.out; omega) G).cell 2⟩)
                      clear hK K
                      try simp only [Act.put, List.setIfInBounds_toArray, List.set_cons_zero, List.set_cons_succ]
                      refine wpAnyH_done (by kernel_rfl) ?_ _
                      refine NoPanic.normal ?_
                      go_wp2_with fail
                      go_meet
                      exact ⟨_, G, 0, rfl, rfl, rfl, HFN, Lib.hid ((HT.out.put1 G).put2 G), Lib.hid (putF_other (putF_other (show Box W8 b14 _ _ from BO.out) (by have := hb14.out; omega) G) (by have := hb14.out; omega) G)⟩
                    refine tcons (o := _) rfl (fun K hK => ?_) AllReadyH.nil
                    go_simp
                    refine hK.out _ _ ?_ (fun hHeld => ?_)
                    · exact ⟨p0, p1, p2, p3, p4, o2⟩
                    clear hK K
                    try simp only [Act.put, List.setIfInBounds_toArray, List.set_cons_zero, List.set_cons_succ]
                    refine wpAnyH_ready (rs := [4]) (by kernel_rfl) (by simp) ?_
                    refine tcons (o := _) rfl (fun K hK => ?_) AllReadyH.nil
                    go_simp
                    refine (KX.out _).mono ?_
                    rintro e W7 ⟨rfl, g7⟩
                    have gg := below_tr (Below.refl _ W9).drew g7
                    clear a0 a1 a2 a3 a4 a5 a6 z0 z1 z2 z3 z4 z5 z6 r0 r1 r2 r3 r4 r5 r6 x0 x1 x2 x3 x4 x5 x6 p0 p1 p2 p3 p4 o0 o1 o2
                    replace HT := Lib.hid (HT.out.below gg)
                    replace BO := Lib.hid (BO.out.below gg BO.out.lt)
                    clear gg g7
                    obtain ⟨a0, a1, a2, a3, a4, a5, a6⟩ := HT.out.fl.cells
                    obtain ⟨z0, z1, z2, z3, z4, z5, z6⟩ := HT.out.fl.frozen
                    obtain ⟨r0, r1, r2, r3, r4, r5, r6⟩ := HT.out.rf.cells
                    obtain ⟨x0, x1, x2, x3, x4, x5, x6⟩ := HT.out.rf.frozen
                    obtain ⟨p0, p1, p2, p3, p4⟩ := HT.out.pc.cells
                    have o0 : W7.cell? ⟨b14, 0, none⟩ = some (.int .u8 4) := BO.out.cell 0
                    have o1 : W7.cell? ⟨b14, 1, none⟩ = some (.int .i64 nv) := BO.out.cell 1
                    have o2 : W7.cell? ⟨b14, 2, none⟩ = some (.int .u64 tv) := BO.out.cell 2
                    refine hK.out _ _ ?_ (fun hHeld => ?_)
                    · exact ⟨p0, p1, p2, p3, p4, o2⟩
                    clear hK K
                    try simp only [Act.put, List.setIfInBounds_toArray, List.set_cons_zero, List.set_cons_succ]
                    refine wpAnyH_ready (rs := [9]) (by kernel_rfl) (by simp) ?_
                    refine tcons (o := _) rfl (fun K hK => ?_) AllReadyH.nil
                    go_simp
                    refine (KY.out _).mono ?_
                    rintro e W8 ⟨rfl, g8⟩
                    have gg := g8
                    clear a0 a1 a2 a3 a4 a5 a6 z0 z1 z2 z3 z4 z5 z6 r0 r1 r2 r3 r4 r5 r6 x0 x1 x2 x3 x4 x5 x6 p0 p1 p2 p3 p4 o0 o1 o2
                    replace HT := Lib.hid (HT.out.below gg)
                    replace BO := Lib.hid (BO.out.below gg BO.out.lt)
                    clear gg g8
                    obtain ⟨a0, a1, a2, a3, a4, a5, a6⟩ := HT.out.fl.cells
                    obtain ⟨z0, z1, z2, z3, z4, z5, z6⟩ := HT.out.fl.frozen
                    obtain ⟨r0, r1, r2, r3, r4, r5, r6⟩ := HT.out.rf.cells
                    obtain ⟨x0, x1, x2, x3, x4, x5, x6⟩ := HT.out.rf.frozen
                    obtain ⟨p0, p1, p2, p3, p4⟩ := HT.out.pc.cells
                    have o0 : W8.cell? ⟨b14, 0, none⟩ = some (.int .u8 4) := BO.out.cell 0
                    have o1 : W8.cell? ⟨b14, 1, none⟩ = some (.int .i64 nv) := BO.out.cell 1
                    have o2 : W8.cell? ⟨b14, 2, none⟩ = some (.int .u64 tv) := BO.out.cell 2
                    refine hK.out _ _ ?_ (fun hHeld => ?_)
                    · exact ⟨p0, p1, p2, p3, p4, o2⟩
                    clear hK K
                    try simp only [Act.put, List.setIfInBounds_toArray, List.set_cons_zero, List.set_cons_succ]
                    refine wpAnyH_ready (rs := [10]) (by kernel_rfl) (by simp) ?_
                    refine tcons (o := _) rfl (fun K hK => ?_) AllReadyH.nil
                    go_simp
                    refine hK.out _ _ ?_ (fun hHeld => ?_)
                    · exact (by obtain ⟨k0, k1, k2, k3, k4⟩ := (HT.out.put1 G).pc.cells; exact ⟨k0, k1, k2, k3, k4, (putF_other (show Box W8 b14 _ _ from BO.out) (by have := hb14.out; omega) G).cell 2⟩)
                    clear hK K
                    try simp only [Act.put, List.setIfInBounds_toArray, List.set_cons_zero, List.set_cons_succ]
                    refine wpAnyH_ready (rs := [11]) (by kernel_rfl) (by simp) ?_
                    refine tcons (o := _) rfl (fun K hK => ?_) AllReadyH.nil
                    go_simp
                    refine hK.out _ _ ?_ (fun hHeld => ?_)
                    · exact (by obtain ⟨k0, k1, k2, k3, k4⟩ := ((HT.out.put1 G).put2 G).pc.cells; exact ⟨k0, k1, k2, k3, k4, (putF_other (putF_other (show Box W8 b14 _ _ from BO.out) (by have := hb14.out; omega) G) (by have := hb14.out; omega) G).cell 2⟩)
                    clear hK K
                    try simp only [Act.put, List.setIfInBounds_toArray, List.set_cons_zero, List.set_cons_succ]
                    refine wpAnyH_done (by kernel_rfl) ?_ _
                    refine NoPanic.normal ?_
                    go_wp2_with fail
                    go_meet
                    exact ⟨_, G, 0, rfl, rfl, rfl, HFN, Lib.hid ((HT.out.put1 G).put2 G), Lib.hid (putF_other (putF_other (show Box W8 b14 _ _ from BO.out) (by have := hb14.out; omega) G) (by have := hb14.out; omega) G)⟩
                  refine tcons (o := _) rfl (fun K hK => ?_) AllReadyH.nil
                  go_simp
                  refine hK.out _ _ ?_ (fun hHeld => ?_)
                  · exact ⟨p0, p1, p2, p3, p4, o2⟩
                  clear hK K
                  try simp only [Act.put, List.setIfInBounds_toArray, List.set_cons_zero, List.set_cons_succ]
                  refine wpAnyH_ready (rs := [0]) (by kernel_rfl) (by simp) ?_
                  refine tcons (o := _) rfl (fun K hK => ?_) AllReadyH.nil
                  go_simp
                  refine hK.out _ _ ?_ (fun hHeld => ?_)
                  · exact ⟨p0, p1, p2, p3, p4, o2⟩
                  clear hK K
                  try simp only [Act.put, List.setIfInBounds_toArray, List.set_cons_zero, List.set_cons_succ]
                  refine wpAnyH_ready (rs := [4]) (by kernel_rfl) (by simp) ?_
                  refine tcons (o := _) rfl (fun K hK => ?_) AllReadyH.nil
                  go_simp
                  refine (KX.out _).mono ?_
                  rintro e W7 ⟨rfl, g7⟩
                  have gg := below_tr (Below.refl _ W9).drew g7
                  clear a0 a1 a2 a3 a4 a5 a6 z0 z1 z2 z3 z4 z5 z6 r0 r1 r2 r3 r4 r5 r6 x0 x1 x2 x3 x4 x5 x6 p0 p1 p2 p3 p4 o0 o1 o2
                  replace HT := Lib.hid (HT.out.below gg)
                  replace BO := Lib.hid (BO.out.below gg BO.out.lt)
                  clear gg g7
                  obtain ⟨a0, a1, a2, a3, a4, a5, a6⟩ := HT.out.fl.cells
                  obtain ⟨z0, z1, z2, z3, z4, z5, z6⟩ := HT.out.fl.frozen
                  obtain ⟨r0, r1, r2, r3, r4, r5, r6⟩ := HT.out.rf.cells
                  obtain ⟨x0, x1, x2, x3, x4, x5, x6⟩ := HT.out.rf.frozen
                  obtain ⟨p0, p1, p2, p3, p4⟩ := HT.out.pc.cells
                  have o0 : W7.cell? ⟨b14, 0, none⟩ = some (.int .u8 4) := BO.out.cell 0
                  have o1 : W7.cell? ⟨b14, 1, none⟩ = some (.int .i64 nv) := BO.out.cell 1
                  have o2 : W7.cell? ⟨b14, 2, none⟩ = some (.int .u64 tv) := BO.out.cell 2
                  refine hK.out _ _ ?_ (fun hHeld => ?_)
                  · exact ⟨p0, p1, p2, p3, p4, o2⟩
                  clear hK K
                  try simp only [Act.put, List.setIfInBounds_toArray, List.set_cons_zero, List.set_cons_succ]
                  refine wpAnyH_ready (rs := [9]) (by kernel_rfl) (by simp) ?_
                  refine tcons (o := _) rfl (fun K hK => ?_) AllReadyH.nil
                  go_simp
                  refine (KY.out _).mono ?_
                  rintro e W8 ⟨rfl, g8⟩
                  have gg := g8
                  clear a0 a1 a2 a3 a4 a5 a6 z0 z1 z2 z3 z4 z5 z6 r0 r1 r2 r3 r4 r5 r6 x0 x1 x2 x3 x4 x5 x6 p0 p1 p2 p3 p4 o0 o1 o2
                  replace HT := Lib.hid (HT.out.below gg)
                  replace BO := Lib.hid (BO.out.below gg BO.out.lt)
                  clear gg g8
                  obtain ⟨a0, a1, a2, a3, a4, a5, a6⟩ := HT.out.fl.cells
                  obtain ⟨z0, z1, z2, z3, z4, z5, z6⟩ := HT.out.fl.frozen
                  obtain ⟨r0, r1, r2, r3, r4, r5, r6⟩ := HT.out.rf.cells
                  obtain ⟨x0, x1, x2, x3, x4, x5, x6⟩ := HT.out.rf.frozen
                  obtain ⟨p0, p1, p2, p3, p4⟩ := HT.out.pc.cells
                  have o0 : W8.cell? ⟨b14, 0, none⟩ = some (.int .u8 4) := BO.out.cell 0
                  have o1 : W8.cell? ⟨b14, 1, none⟩ = some (.int .i64 nv) := BO.out.cell 1
                  have o2 : W8.cell? ⟨b14, 2, none⟩ = some (.int .u64 tv) := BO.out.cell 2
                  refine hK.out _ _ ?_ (fun hHeld => ?_)
                  · exact ⟨p0, p1, p2, p3, p4, o2⟩
                  clear hK K
                  try simp only [Act.put, List.setIfInBounds_toArray, List.set_cons_zero, List.set_cons_succ]
                  refine wpAnyH_ready (rs := [10]) (by kernel_rfl) (by simp) ?_
                  refine tcons (o := _) rfl (fun K hK => ?_) AllReadyH.nil
                  go_simp
                  refine hK.out _ _ ?_ (fun hHeld => ?_)
                  · exact (by obtain ⟨k0, k1, k2, k3, k4⟩ := (HT.out.put1 G).pc.cells; exact ⟨k0, k1, k2, k3, k4, (putF_other (show Box W8 b14 _ _ from BO.out) (by have := hb14.out; omega) G).cell 2⟩)
                  clear hK K
                  try simp only [Act.put, List.setIfInBounds_toArray, List.set_cons_zero, List.set_cons_succ]
                  refine wpAnyH_ready (rs := [11]) (by kernel_rfl) (by simp) ?_
                  refine tcons (o := _) rfl (fun K hK => ?_) AllReadyH.nil
                  go_simp
                  refine hK.out _ _ ?_ (fun hHeld => ?_)
                  · exact (by obtain ⟨k0, k1, k2, k3, k4⟩ := ((HT.out.put1 G).put2 G).pc.cells; exact ⟨k0, k1, k2, k3, k4, (putF_other (putF_other (show Box W8 b14 _ _ from BO.out) (by have := hb14.out; omega) G) (by have := hb14.out; omega) G).cell 2⟩)
                  clear hK K
                  try simp only [Act.put, List.setIfInBounds_toArray, List.set_cons_zero, List.set_cons_succ]
                  refine wpAnyH_done (by kernel_rfl) ?_ _
                  refine NoPanic.normal ?_
                  go_wp2_with fail
                  go_meet
                  exact ⟨_, G, 0, rfl, rfl, rfl, HFN, Lib.hid ((HT.out.put1 G).put2 G), Lib.hid (putF_other (putF_other (show Box W8 b14 _ _ from BO.out) (by have := hb14.out; omega) G) (by have := hb14.out; omega) G)⟩
                by_cases hk5' : kd = 5
                · subst hk5'
                  obtain ⟨rt, Hrt⟩ : ∃ rt, Hid (max nv 0 % 1099511627777 = rt) := ⟨_, Lib.hid rfl⟩
                  have hrt : Num.Word rt := by rw [← Hrt.out]; unfold Num.Word; omega
                  have HFN : Hid ((⟨f.so, f.ck, rt, f.cr, f.nx, f.db, f.ag⟩ : Fl).Fits ∧ f.db ≤ ((i + 1 : Nat) : Int) * 65536) := Lib.hid ⟨HF.out.1.rated hrt, by have := HCast.out; have := HDU.out; omega⟩
                  have hnv1 := HNV.out.1
                  have hnv2 := HNV.out.2
                  have hrem : max nv 0 % 1099511627777 = rt := Hrt.out
                  clear hrt Hrt
                  obtain ⟨a0, a1, a2, a3, a4, a5, a6⟩ := HT.out.fl.cells
                  obtain ⟨z0, z1, z2, z3, z4, z5, z6⟩ := HT.out.fl.frozen
                  obtain ⟨r0, r1, r2, r3, r4, r5, r6⟩ := HT.out.rf.cells
                  obtain ⟨x0, x1, x2, x3, x4, x5, x6⟩ := HT.out.rf.frozen
                  obtain ⟨p0, p1, p2, p3, p4⟩ := HT.out.pc.cells
                  have o0 : W9.cell? ⟨b14, 0, none⟩ = some (.int .u8 5) := BO.out.cell 0
                  have o1 : W9.cell? ⟨b14, 1, none⟩ = some (.int .i64 nv) := BO.out.cell 1
                  have o2 : W9.cell? ⟨b14, 2, none⟩ = some (.int .u64 tv) := BO.out.cell 2
                  go_wp2_with fail
                  go_meet
                  refine ⟨_, ⟨f.so, f.ck, rt, f.cr, f.nx, f.db, f.ag⟩, 0, rfl, rfl, rfl, HFN, Lib.hid ⟨?_, ?_, ?_, ?_, HT.out.l1, HT.out.l2, HT.out.l3, HT.out.ne⟩, ?_⟩
                  · exact Box.other (Box.other (show Box W9 b6 _ _ from HT.out.pc) (c := b11) (by have := HT.out.l2; omega) _) (c := b12) (by have := HT.out.l3; omega) _
                  · exact Box.other ((show Box W9 b11 _ _ from HT.out.fl).set 2 (.int .u64 rt)) (c := b12) hne1 _
                  · exact (Box.other (show Box W9 b12 _ _ from HT.out.rf) (c := b11) hne2 _).set 2 (.int .u64 rt)
                  · exact (HT.out.lo.setCell (p := ⟨b11, 2, none⟩) (by simp; have := HT.out.l1; have := HT.out.l2; omega) _).setCell (p := ⟨b12, 2, none⟩) (by simp; have := HT.out.l1; have := HT.out.l3; omega) _
                  · exact Lib.hid (Box.other (Box.other BO.out (c := b11) (by have := hb14.out; omega) _) (c := b12) (by have := hb14.out; omega) _)
                have hq1 : (kd == 1) = false := by rw [beq_eq_false_iff_ne]; exact hk1'
                have hq2 : (kd == 2) = false := by rw [beq_eq_false_iff_ne]; exact hk2'
                have hq3 : (kd == 3) = false := by rw [beq_eq_false_iff_ne]; exact hk3'
                have hq4 : (kd == 4) = false := by rw [beq_eq_false_iff_ne]; exact hk4'
                have hq5 : (kd == 5) = false := by rw [beq_eq_false_iff_ne]; exact hk5'
                go_wp2_with fail
                go_meet
                exact ⟨_, f, 0, rfl, rfl, rfl, Lib.hid ⟨HF.out.1, by have := HCast.out; have := HDU.out; omega⟩, HT, BO⟩
              case rest =>
                clear HF HT BO f HCast HDU HI60 hdb0
                obtain ⟨V, f, er, rfl, rfl, rfl, HFN, HT, BO⟩ := hcut
                have KR1 := Lib.hid fun W => flow_rate_b f p HFN.out.1 HP.out W
                have KR2 := Lib.hid fun W => ref12_rate f p HFN.out.1 HP.out W
                have KY1 := Lib.hid fun W => flow_ready f tv HFN.out.1 HTV.out W
                have KY2 := Lib.hid fun W => ref12_ready f tv HFN.out.1 HTV.out W
                obtain ⟨rr, Hrr⟩ : ∃ rr, Hid (f.by p = rr) := ⟨_, Lib.hid rfl⟩
                obtain ⟨yy, Hyy⟩ : ∃ yy, Hid (max tv f.nx = yy) := ⟨_, Lib.hid rfl⟩
                rw [Hrr.out] at KR1 KR2
                rw [Hyy.out] at KY1 KY2
                simp only [Fl.v, Pc.v, Fl.c, Pc.c] at KR1 KR2 KY1 KY2
                clear Hrr Hyy
                have heq1 : (er != er) = false := by simp
                have heq2 : (rr != rr) = false := by simp
                have heq3 : (yy != yy) = false := by simp
                have HNq := fun w => fl_neq f w
                have HK : Hid (∀ V : World, TlW w V b6 b11 b12 p f f → Box V b14 66 #[.int .u8 kd, .int .i64 nv, .int .u64 tv] → (V.cell? ⟨b11, 0, none⟩ = some (.int .u64 f.so) ∧ V.cell? ⟨b11, 1, none⟩ = some (.int .u64 f.ck) ∧ V.cell? ⟨b11, 2, none⟩ = some (.int .u64 f.rate) ∧ V.cell? ⟨b11, 3, none⟩ = some (.int .i64 f.cr) ∧ V.cell? ⟨b11, 4, none⟩ = some (.int .u64 f.nx) ∧ V.cell? ⟨b11, 5, none⟩ = some (.int .u64 f.db) ∧ V.cell? ⟨b11, 6, none⟩ = some (.int .u64 f.ag) ∧ V.cell? ⟨b12, 0, none⟩ = some (.int .u64 f.so) ∧ V.cell? ⟨b12, 1, none⟩ = some (.int .u64 f.ck) ∧ V.cell? ⟨b12, 2, none⟩ = some (.int .u64 f.rate) ∧ V.cell? ⟨b12, 3, none⟩ = some (.int .i64 f.cr) ∧ V.cell? ⟨b12, 4, none⟩ = some (.int .u64 f.nx) ∧ V.cell? ⟨b12, 5, none⟩ = some (.int .u64 f.db) ∧ V.cell? ⟨b12, 6, none⟩ = some (.int .u64 f.ag) ∧ V.cell? ⟨b6, 0, none⟩ = some (.int .i64 p.q) ∧ V.cell? ⟨b6, 1, none⟩ = some (.int .i64 p.first) ∧ V.cell? ⟨b6, 2, none⟩ = some (.int .u64 p.refill) ∧ V.cell? ⟨b6, 3, none⟩ = some (.int .u64 p.most) ∧ V.cell? ⟨b6, 4, none⟩ = some (.int .u64 p.low) ∧ V.cell? ⟨b14, 2, none⟩ = some (.int .u64 tv))) := Lib.hid fun V h1 h2 => by
                  obtain ⟨a0, a1, a2, a3, a4, a5, a6⟩ := h1.fl.cells
                  obtain ⟨r0, r1, r2, r3, r4, r5, r6⟩ := h1.rf.cells
                  obtain ⟨p0, p1, p2, p3, p4⟩ := h1.pc.cells
                  exact ⟨a0, a1, a2, a3, a4, a5, a6, r0, r1, r2, r3, r4, r5, r6, p0, p1, p2, p3, p4, h2.cell 2⟩
                obtain ⟨a0, a1, a2, a3, a4, a5, a6, r0, r1, r2, r3, r4, r5, r6, p0, p1, p2, p3, p4, o2⟩ := HK.out _ HT.out BO.out
                go_upto_region 23 with fail
                go_region_held3 (fun w' => w'.cell? ⟨b11, 0, none⟩ = some (.int .u64 f.so) ∧ w'.cell? ⟨b11, 1, none⟩ = some (.int .u64 f.ck) ∧ w'.cell? ⟨b11, 2, none⟩ = some (.int .u64 f.rate) ∧ w'.cell? ⟨b11, 3, none⟩ = some (.int .i64 f.cr) ∧ w'.cell? ⟨b11, 4, none⟩ = some (.int .u64 f.nx) ∧ w'.cell? ⟨b11, 5, none⟩ = some (.int .u64 f.db) ∧ w'.cell? ⟨b11, 6, none⟩ = some (.int .u64 f.ag) ∧ w'.cell? ⟨b12, 0, none⟩ = some (.int .u64 f.so) ∧ w'.cell? ⟨b12, 1, none⟩ = some (.int .u64 f.ck) ∧ w'.cell? ⟨b12, 2, none⟩ = some (.int .u64 f.rate) ∧ w'.cell? ⟨b12, 3, none⟩ = some (.int .i64 f.cr) ∧ w'.cell? ⟨b12, 4, none⟩ = some (.int .u64 f.nx) ∧ w'.cell? ⟨b12, 5, none⟩ = some (.int .u64 f.db) ∧ w'.cell? ⟨b12, 6, none⟩ = some (.int .u64 f.ag) ∧ w'.cell? ⟨b6, 0, none⟩ = some (.int .i64 p.q) ∧ w'.cell? ⟨b6, 1, none⟩ = some (.int .i64 p.first) ∧ w'.cell? ⟨b6, 2, none⟩ = some (.int .u64 p.refill) ∧ w'.cell? ⟨b6, 3, none⟩ = some (.int .u64 p.most) ∧ w'.cell? ⟨b6, 4, none⟩ = some (.int .u64 p.low) ∧ w'.cell? ⟨b14, 2, none⟩ = some (.int .u64 tv)) (first | exact HK.out _ (HT.out.below (Below.refl _ _).drew) BO.out | exact HK.out _ HT1.out BO1.out | exact HK.out _ HT2.out BO2.out | exact HK.out _ HT3.out BO3.out | exact HK.out _ HT4.out BO4.out)
                  (first
                    | (go_at_call 34; refine (KR1.out _).mono ?_; rintro e W1' ⟨rfl, g7⟩; have HT1 := Lib.hid (HT.out.below (below_tr (Below.refl _ _).drew g7)); have BO1 := Lib.hid (BO.out.below (below_tr (Below.refl _ _).drew g7) BO.out.lt); clear g7)
                    | (go_at_call 35; refine (KR2.out _).mono ?_; rintro e W2' ⟨rfl, g7⟩; have HT2 := Lib.hid (HT1.out.below g7); have BO2 := Lib.hid (BO1.out.below g7 BO1.out.lt); clear g7)
                    | (go_at_call 36; refine (KY1.out _).mono ?_; rintro e W3' ⟨rfl, g7⟩; have HT3 := Lib.hid (HT2.out.below g7); have BO3 := Lib.hid (BO2.out.below g7 BO2.out.lt); clear g7)
                    | (go_at_call 37; refine (KY2.out _).mono ?_; rintro e W4' ⟨rfl, g7⟩; have HT4 := Lib.hid (HT3.out.below g7); have BO4 := Lib.hid (BO3.out.below g7 BO3.out.lt); clear g7))
                all_goals
                  clear heq1 heq2 heq3 HNq a0 a1 a2 a3 a4 a5 a6 r0 r1 r2 r3 r4 r5 r6 p0 p1 p2 p3 p4 o2
                  go_wp2_with fail
                  go_roundg (len4 - (i + 1))
                  case measure => omega
                  case rel => exact ⟨i + 1, f, by omega, by go_num, HFN, HT4⟩

end Go.Proofs.Ytmokkbhfhbgkmaa
