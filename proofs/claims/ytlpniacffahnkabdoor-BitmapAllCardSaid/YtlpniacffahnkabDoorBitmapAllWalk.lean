/-
  BitmapAll, walked.
-/
import Derived.Test.YtlpniacffahnkabDoorBitmapNextWalk
namespace Go.Proofs.YtlpniacffahnkabDoor
open Go.RowKit Go.Maps
set_option linter.unusedVariables false

theorem markL_rises (n : Nat) (m : Nat → Bool) : (markL n m).Pairwise (· < ·) := by
  unfold markL
  exact (List.pairwise_lt_range (n := n)).filter _
theorem markL_lt {n : Nat} {m : Nat → Bool} {k : Nat} (h : k + 1 < (markL n m).length) : (markL n m)[k]'(by omega) < (markL n m)[k + 1] := List.pairwise_iff_getElem.1 (markL_rises n m) k (k + 1) (by omega) h (by omega)
theorem markL_full (n : Nat) : markL n (fun p => decide (p < n)) = List.range n := by
  unfold markL
  rw [List.filter_eq_self]
  intro a ha
  simpa using List.mem_range.1 ha
/-- The first j of r places are marked. -/
def fullG (r j : Nat) : Bg := ⟨r, fun p => decide (p < j)⟩
theorem fullG_succ {r j : Nat} (h : j < r) : newB (fullG r j) (j : Int) = true ∧ setG (fullG r j) (j : Int) = fullG r (j + 1) := by
  have h1 : newB (fullG r j) (j : Int) = true := by simp [newB, fullG, h]
  refine ⟨h1, ?_⟩
  rw [setG_yes h1]
  unfold fullG setB
  congr 1
  funext p
  by_cases c : p = j
  · subst c; simp
  · simp [c]; omega

set_option maxHeartbeats 8000000 in
set_option maxRecDepth 100000 in
/-- Below w.heap.size w w' -/
theorem bitmapAll_walk (a0 : Int) (a1 : Option Addr) (len1 cap1 : Nat) (z1 : List (List Value)) (pl : Int) (a3 : Int) (w : World) (w0 : (Lit.int .u16 a0).wf = true) (w1 : RowOf [some .u16] w a1 len1 cap1 z1) (w2 : (Lit.int .i64 pl).wf = true) (w3 : (Lit.int .u16 a3).wf = true) (hT : Tab w) :
    Calls Tryd.prog 7 #[.int .u16 a0, .slice a1 len1 cap1, .int .i64 pl, .int .u16 a3] w fun e w' => e = .returned (.bool true) ∧ Below w.heap.size w w' := by
  obtain ⟨x, rfl, hx⟩ := nat_u16' w0
  obtain ⟨y, rfl, hy⟩ := nat_u16' w3
  obtain ⟨f, hf⟩ := u16_row w1
  have HP := Lib.hid (play x hx a1 len1 cap1 z1 w w1 f hf)
  have HT := Lib.hid hT
  clear w0 w3 hT hf w1 w2
  obtain ⟨q, hq⟩ : ∃ q, 1 + x = q := ⟨_, rfl⟩
  have hqx : (1 : Int) + (x : Int) = (q : Int) := by omega
  rw [hq] at HP
  have hq1 : 1 ≤ q := by omega
  have hq2 : q ≤ 65536 := by omega
  obtain ⟨r, hr⟩ : ∃ r, 1 + y % 300 = r := ⟨_, rfl⟩
  obtain ⟨e3, he3⟩ : ∃ e3, y % 300 = e3 := ⟨_, rfl⟩
  have hye : (y : Int) % 300 = (e3 : Int) := by omega
  have hre : (1 : Int) + (e3 : Int) = (r : Int) := by omega
  have hr1 : 1 ≤ r := by omega
  have hr3 : r ≤ 300 := by omega
  have he4 : e3 < 300 := by omega
  clear hq hr he3
  go_enter Tryd.func7, Tryd.ntmps7
  go_wp2_with fail
  refine HP.out.mono ?_
  rintro e W0 ⟨a, bm, D, rfl, h0, hM⟩
  have HM := Lib.hid hM
  have HAl := Lib.hid (h0.bst.all HT.out)
  have H0 := Lib.hid h0
  obtain ⟨n, HnD⟩ : ∃ n, Hid (min len1 60 = n) := ⟨_, Lib.hid rfl⟩
  obtain ⟨g, HGd⟩ : ∃ g, Hid (playG f q (min len1 60) = g) := ⟨_, Lib.hid rfl⟩
  have hgn : g.n = q := by rw [← HGd.out]; rfl
  rw [HGd.out] at HM HAl H0
  rw [HnD.out] at H0
  clear HP hM h0 HGd HnD
  go_wp2_with fail
  refine HAl.out.mono ?_
  rintro e W1 ⟨p1, c1, rfl, r1, b1⟩
  have H1 := Lib.hid (H0.out.below b1)
  have HR := Lib.hid r1
  clear r1 b1 H0 HAl
  have hle : g.l.length ≤ 65536 := Nat.le_trans (markL_le _ _) (by rw [hgn]; exact hq2)
  obtain ⟨l, HLl⟩ : ∃ l, Hid (g.l = l) := ⟨_, Lib.hid rfl⟩
  have HLt : Hid (∀ k (h : k + 1 < l.length), l[k]'(by omega) < l[k + 1]) := by
    rw [← HLl.out]
    exact Lib.hid fun k h => markL_lt h
  have HLm : Hid (∀ k (h : k < l.length), l[k] ≤ 65536 ∧ g.m l[k] = true) := by
    rw [← HLl.out]
    refine Lib.hid fun k h => ?_
    have := mem_markL.1 (List.getElem_mem (l := markL g.n g.m) h)
    exact ⟨by have := this.1; show (markL g.n g.m)[k] ≤ 65536; omega, this.2⟩
  rw [HLl.out] at HR hle
  go_upto_region 3 with fail
  rw [HLl.out]
  go_upto_region 4 with fail
  go_loopg [31] l.length (fun s v31 wx => ∃ j : Nat, l.length - j = s ∧ j ≤ l.length ∧ v31 = .int .i64 (j : Int) ∧ wx = W1)
  case atStart => exact ⟨0, rfl, by omega, rfl, rfl⟩
  case round =>
    obtain ⟨j, rfl, hj, rfl, rfl⟩ := hrel
    by_cases hjl : j = l.length
    · have hz : ¬ (j : Int) < (l.length : Int) := by omega
      have hml := fun ty => H1.out.map.len (t := 46) (e := 3) Tryd.underlying46 ty
      have hsz := HM.out.size
      rw [HLl.out] at hsz
      rw [hsz] at hml
      have HLn := Lib.hid (fun W (h : BSt w W a g) => h.len)
      rw [HLl.out] at HLn
      have H1b := Lib.hid H1.out.bst
      clear hsz HM HLm HLt HR H1
      subst hjl
      go_upto_region 9 with fail
      go_cut [89] (fun v89 wx => v89 = .bool false ∧ Hid (Below w.heap.size w wx))
      case first =>
        by_cases hin : 0 ≤ pl ∧ pl < (q : Int)
        · have h1 : ¬ pl < 0 := by omega
          have h2 : ¬ (q : Int) ≤ pl := by omega
          have K := Lib.hid (HLn.out _ H1b.out)
          have HL1 := Lib.hid H1b.out.lo
          clear HLn H1b hin
          go_wp2_with fail
          refine K.out.mono ?_
          rintro e W2 ⟨rfl, rfl⟩
          go_wp2_with fail
          go_meet
          exact ⟨rfl, HL1⟩
        · have hn0 : newB g pl = false := by
            simp only [newB, hgn, Bool.and_eq_false_iff, decide_eq_false_iff_not]
            by_cases c : 0 ≤ pl
            · exact .inl (.inr (fun h => hin ⟨c, h⟩))
            · exact .inl (.inl c)
          have hh0 : hasB g pl = false := by
            simp only [hasB, hgn, Bool.and_eq_false_iff, decide_eq_false_iff_not]
            by_cases c : 0 ≤ pl
            · exact .inl (.inr (fun h => hin ⟨c, h⟩))
            · exact .inl (.inl c)
          have K1 := Lib.hid (H1b.out.set pl)
          rw [hn0, setG_no hn0] at K1
          have KC := Lib.hid (fun W (h : BSt w W a g) => h.clear pl)
          have KH := Lib.hid (fun W (h : BSt w W a g) => h.has pl)
          rw [hh0] at KC KH
          rw [clearG_no hh0] at KC
          clear hn0 hh0 H1b
          by_cases c : pl < 0
          · clear hin
            go_wp2_with fail
            refine K1.out.mono ?_
            rintro e W2 ⟨rfl, h2⟩
            have K2 := Lib.hid (KC.out _ h2)
            clear h2 K1
            go_wp2_with fail
            refine K2.out.mono ?_
            rintro e W3 ⟨rfl, h3⟩
            have K3 := Lib.hid (KH.out _ h3)
            clear h3 K2
            go_wp2_with fail
            refine K3.out.mono ?_
            rintro e W4 ⟨rfl, h4⟩
            have K4 := Lib.hid (HLn.out _ h4)
            have HL4 := Lib.hid h4.lo
            clear h4 K3
            go_wp2_with fail
            refine K4.out.mono ?_
            rintro e W5 ⟨rfl, rfl⟩
            go_wp2_with fail
            go_meet
            exact ⟨rfl, HL4⟩
          · have c2 : (q : Int) ≤ pl := by omega
            clear hin
            go_wp2_with fail
            refine K1.out.mono ?_
            rintro e W2 ⟨rfl, h2⟩
            have K2 := Lib.hid (KC.out _ h2)
            clear h2 K1
            go_wp2_with fail
            refine K2.out.mono ?_
            rintro e W3 ⟨rfl, h3⟩
            have K3 := Lib.hid (KH.out _ h3)
            clear h3 K2
            go_wp2_with fail
            refine K3.out.mono ?_
            rintro e W4 ⟨rfl, h4⟩
            have K4 := Lib.hid (HLn.out _ h4)
            have HL4 := Lib.hid h4.lo
            clear h4 K3
            go_wp2_with fail
            refine K4.out.mono ?_
            rintro e W5 ⟨rfl, rfl⟩
            go_wp2_with fail
            go_meet
            exact ⟨rfl, HL4⟩
      case rest =>
        obtain ⟨rfl, HL⟩ := hcut
        clear HLn H1b hml HLl hgn
        have K1 := Lib.hid (s_new r hr1 (by omega) w wc HL.out)
        go_wp2_with fail
        refine K1.out.mono ?_
        rintro e W2 ⟨a2, rfl, h2⟩
        have H2 : Hid (BSt w W2 a2 (fullG r 0)) := by
          have e0 : (fullG r 0) = ⟨r, fun _ => false⟩ := by unfold fullG; congr 1
          rw [e0]
          exact Lib.hid h2
        clear h2 K1 HL
        go_upto_region 13 with fail
        simp only [hye]
        go_loopg [102] r (fun s v102 wx => ∃ j : Nat, r - j = s ∧ j ≤ r ∧ v102 = .int .i64 (j : Int) ∧ Hid (BSt w wx a2 (fullG r j)))
        case atStart => exact ⟨0, rfl, by omega, rfl, H2⟩
        case round =>
          clear H2
          obtain ⟨j, rfl, hj, rfl, H2⟩ := hrel
          by_cases hjr : j = r
          · have hz : ¬ (j : Int) < (r : Int) := by omega
            subst hjr
            have hfl : (fullG j j).l = List.range j := markL_full j
            have K1 := Lib.hid (fun W (h : BSt w W a2 (fullG j j)) => h.all HT.out)
            have K2 := Lib.hid (fun W (h : BSt w W a2 (fullG j j)) => h.len)
            rw [hfl, List.length_range] at K1 K2
            have K3 := Lib.hid (K1.out _ H2.out)
            clear hfl
            go_wp2_with fail
            refine K3.out.mono ?_
            rintro e W3 ⟨p3, c3, rfl, r3, b3⟩
            have H3 := Lib.hid (H2.out.below b3)
            have HR3 := Lib.hid (own_zero r3)
            clear r3 b3 K3 H2
            go_upto_region 19 with fail
            go_loopg [113] j (fun s v113 wx => ∃ k : Nat, j - k = s ∧ k ≤ j ∧ v113 = .int .i64 (k : Int) ∧ wx = W3)
            case atStart => exact ⟨0, rfl, by omega, rfl, rfl⟩
            case round =>
              obtain ⟨k, rfl, hk, rfl, rfl⟩ := hrel
              by_cases hkj : k = j
              · have hzk : ¬ (k : Int) < (j : Int) := by omega
                clear HR3
                subst hkj
                have K4 := Lib.hid (K2.out _ H3.out)
                have K5 := Lib.hid (K1.out _ H3.out)
                go_wp2_with fail
                refine K4.out.mono ?_
                rintro e W4 ⟨rfl, rfl⟩
                go_wp2_with fail
                refine K5.out.mono ?_
                rintro e W5 ⟨p5, c5, rfl, _, b5⟩
                have H5 := Lib.hid (H3.out.below b5)
                have K6 := Lib.hid (K2.out _ H5.out)
                clear b5 K4 K5 H3
                go_wp2_with fail
                refine K6.out.mono ?_
                rintro e W6 ⟨rfl, rfl⟩
                have K7 := Lib.hid (awake8 W6 (HT.out.below H5.out.lo))
                clear K6
                go_wp2_with fail
                refine K7.out.mono ?_
                rintro e W7 ⟨rfl, b7⟩
                go_wp2_with fail
                go_ret
                exact ⟨rfl, below_tr H5.out.lo b7⟩
              · have hzk : (k : Int) < (j : Int) := by omega
                have hkj' : k < j := by omega
                have hr3 : wr.ownsRow 0 3 1 (.slice p3 (List.range j).length c3) (List.range j).length ((List.range j).map natV) := by
                  rw [List.length_range]
                  exact HR3.out
                obtain ⟨_, hq3⟩ := owns_nat hr3
                rcases hq3 with ⟨_, e⟩ | ⟨gb, rfl, hg, hc⟩
                · have := congrArg List.length e
                  simp at this
                  omega
                have d0 := hc k (by simpa using hkj')
                rw [List.getElem_range] at d0
                clear hc hr3
                go_wp2_with fail
                go_roundg (j - (k + 1))
                case measure => omega
                case rel => exact ⟨k + 1, rfl, by omega, by go_num, rfl⟩
          · have hz : (j : Int) < (r : Int) := by omega
            obtain ⟨f1, f2⟩ := fullG_succ (r := r) (j := j) (by omega)
            have K1 := Lib.hid (H2.out.set (j : Int))
            rw [f1, f2] at K1
            clear H2 f1 f2
            go_wp2_with fail
            refine K1.out.mono ?_
            rintro e W3 ⟨rfl, h3⟩
            have H3 := Lib.hid h3
            clear h3 K1
            go_wp2_with fail
            go_roundg (r - (j + 1))
            case measure => omega
            case rel => exact ⟨j + 1, rfl, by omega, by go_num, H3⟩
    · have hz : (j : Int) < (l.length : Int) := by omega
      have hjl' : j < l.length := by omega
      obtain ⟨_, hq3⟩ := owns_nat HR.out
      rcases hq3 with ⟨_, e⟩ | ⟨gb, rfl, hg, hc⟩
      · rw [e] at hjl'; simp at hjl'
      have d0 := hc j hjl'
      obtain ⟨hl6, hlm⟩ := HLm.out j hjl'
      have hat0 := HM.out.at_ (l[j] : Int)
      rw [if_pos ⟨by omega, by simpa using hlm⟩] at hat0
      obtain ⟨cc, hrun1, hat1, _⟩ := H1.out.map.lookup_int lawP Tryd.underlying46 Tryd.underlying3 (zeroI _) (key_int (wf_small (x := l[j]) hl6))
      obtain rfl : cc = 1 := by
        have := hat1.symm.trans hat0
        simpa using this
      clear hat0 hat1 hlm
      by_cases hj0 : j = 0
      · subst hj0
        generalize l[0] = lj at *
        clear hc
        go_wp2_with fail
        go_roundg (l.length - (0 + 1))
        case measure => omega
        case rel => exact ⟨0 + 1, rfl, by omega, by go_num, rfl⟩
      · obtain ⟨j', rfl⟩ : ∃ j', j = j' + 1 := ⟨j - 1, by omega⟩
        have d1 := hc j' (by omega)
        have hlt : ¬ ((l[j' + 1] : Nat) : Int) ≤ ((l[j'] : Nat) : Int) := by have := HLt.out j' hjl'; omega
        have hjp : (0 : Int) < ((j' + 1 : Nat) : Int) := by omega
        have hji : (((j' + 1 : Nat) : Int)) - 1 = (j' : Int) := by omega
        generalize l[j' + 1] = lj at *
        generalize l[j'] = lk at *
        clear hc
        go_wp2_with fail
        go_roundg (l.length - (j' + 1 + 1))
        case measure => omega
        case rel => exact ⟨j' + 1 + 1, rfl, by omega, by go_num, rfl⟩

end Go.Proofs.YtlpniacffahnkabDoor
