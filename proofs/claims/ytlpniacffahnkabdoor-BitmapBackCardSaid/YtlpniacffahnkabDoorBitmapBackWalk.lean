/-
  BitmapBack, walked.
-/
import Derived.Test.YtlpniacffahnkabDoorBitmapNextWalk
import Derived.Test.YtlpniacffahnkabDoorInts
namespace Go.Proofs.YtlpniacffahnkabDoor
open Go.RowKit Go.Maps
set_option linter.unusedVariables false

/-- A bitmap, a map, and a row of the law's own. -/
def RSt (w W : World) (a : Addr) (g : Bg) (bm n : Nat) (D : DataW Unit) (v : Value) (L : Nat) (xs : List Value) : Prop := ∃ N, BmAt N W a g ∧ (∀ j, N j → w.heap.size ≤ j) ∧ Below w.heap.size w W ∧ MapAt W bm n D ∧ ¬ N bm ∧ w.heap.size ≤ bm ∧ W.ownsRow w.heap.size 3 1 v L xs ∧ OffV N v
section
variable {w W W' : World} {a : Addr} {g g' : Bg} {bm n L : Nat} {D D' : DataW Unit} {v : Value} {xs : List Value}
theorem PSt.row (h : PSt w W a g bm n D) (r : W'.ownsRow W.heap.size 3 1 v L xs) (b : Below W.heap.size W W') : RSt w W' a g bm n D v L xs := by
  obtain ⟨N, h1, h2, h3, h4, h5, h6⟩ := h
  exact ⟨N, h1.below b, h2, below_tr h3 b, map_below h4 b, h5, h6, own_low r h3.size, OffV.fresh h1.lt r⟩
theorem RSt.pst (h : RSt w W a g bm n D v L xs) : PSt w W a g bm n D := by
  obtain ⟨N, h1, h2, h3, h4, h5, h6, h7, h8⟩ := h
  exact ⟨N, h1, h2, h3, h4, h5, h6⟩
theorem RSt.own (h : RSt w W a g bm n D v L xs) : W.ownsRow w.heap.size 3 1 v L xs := by
  obtain ⟨N, h1, h2, h3, h4, h5, h6, h7, h8⟩ := h
  exact h7
theorem RSt.below (h : RSt w W a g bm n D v L xs) (b : Below W.heap.size W W') : RSt w W' a g bm n D v L xs := by
  obtain ⟨N, h1, h2, h3, h4, h5, h6, h7, h8⟩ := h
  exact ⟨N, h1.below b, h2, below_tr h3 b, map_below h4 b, h5, h6, owns_below h7 b, h8⟩
theorem RSt.set (h : RSt w W a g bm n D v L xs) (i : Int) : Calls Tryd.prog 13 #[.pointer (some a), .int .i64 i] W fun e W' => e = .returned (.bool (newB g i)) ∧ RSt w W' a (setG g i) bm n D v L xs := by
  obtain ⟨N, h1, h2, h3, h4, h5, h6, h7, h8⟩ := h
  refine (c_set h1 i).mono ?_
  rintro e W' ⟨rfl, k1, k2⟩
  exact ⟨rfl, N, k1, h2, below_turned k2 h3.size h2 h3, map_same h4 (k2.block bm h4.lt h5), h5, h6, own_turnedV h7 h8 k2, h8⟩
theorem RSt.clear (h : RSt w W a g bm n D v L xs) (i : Int) : Calls Tryd.prog 14 #[.pointer (some a), .int .i64 i] W fun e W' => e = .returned (.bool (hasB g i)) ∧ RSt w W' a (clearG g i) bm n D v L xs := by
  obtain ⟨N, h1, h2, h3, h4, h5, h6, h7, h8⟩ := h
  refine (c_clear h1 i).mono ?_
  rintro e W' ⟨rfl, k1, k2⟩
  exact ⟨rfl, N, k1, h2, below_turned k2 h3.size h2 h3, map_same h4 (k2.block bm h4.lt h5), h5, h6, own_turnedV h7 h8 k2, h8⟩
theorem RSt.has (h : RSt w W a g bm n D v L xs) (i : Int) : Calls Tryd.prog 19 #[.pointer (some a), .int .i64 i] W fun e W' => e = .returned (.bool (hasB g i)) ∧ RSt w W' a g bm n D v L xs := by
  have h' := h
  obtain ⟨N, h1, h2, h3, h4, h5, h6, h7, h8⟩ := h
  refine (c_has h1 i).mono ?_
  rintro e W' ⟨rfl, b⟩
  exact ⟨rfl, h'.below b⟩
end
theorem hasB_nat {g : Bg} {i : Nat} (hi : i < g.n) : hasB g (i : Int) = g.m i := by
  simp [hasB, hi]
theorem newB_nat {g : Bg} {i : Nat} (hi : i < g.n) : newB g (i : Int) = !g.m i := by
  simp [newB, hi]
theorem setB_same {m : Nat → Bool} {i : Nat} {t : Bool} (h : m i = t) : setB m i t = m := by
  funext j
  unfold setB
  by_cases c : j = i
  · rw [if_pos c, c, h]
  · rw [if_neg c]
theorem setB_twice (m : Nat → Bool) (i : Nat) (s t : Bool) : setB (setB m i s) i t = setB m i t := by
  funext j
  unfold setB
  by_cases c : j = i
  · rw [if_pos c, if_pos c]
  · rw [if_neg c, if_neg c, if_neg c]
theorem setG_nat {g : Bg} {i : Nat} (hi : i < g.n) : setG g (i : Int) = ⟨g.n, setB g.m i true⟩ := by
  cases c : g.m i
  · exact setG_yes (by rw [newB_nat hi, c]; rfl)
  · rw [setG_no (by rw [newB_nat hi, c]; rfl), setB_same c]
theorem clearG_nat {g : Bg} {i : Nat} (hi : i < g.n) : clearG g (i : Int) = ⟨g.n, setB g.m i false⟩ := by
  cases c : g.m i
  · rw [clearG_no (by rw [hasB_nat hi, c]), setB_same c]
  · exact clearG_yes (by rw [hasB_nat hi, c])
section
variable {w W W' : World} {a : Addr} {q bm n L i : Nat} {m : Nat → Bool} {D : DataW Unit} {v : Value} {xs : List Value} {t : Bool}
theorem RSt.set_mk (h : Hid (RSt w W a ⟨q, m⟩ bm n D v L xs)) (hi : i < q) (ht : m i = t) : Calls Tryd.prog 13 #[.pointer (some a), .int .i64 (i : Int)] W fun e W' => e = .returned (.bool (!t)) ∧ Hid (RSt w W' a ⟨q, setB m i true⟩ bm n D v L xs) := by
  refine (h.out.set (i : Int)).mono ?_
  rintro e W' ⟨rfl, k⟩
  rw [setG_nat (g := ⟨q, m⟩) hi] at k
  exact ⟨by rw [newB_nat (g := ⟨q, m⟩) hi]; simp [ht], k⟩
theorem RSt.clear_mk (h : Hid (RSt w W a ⟨q, m⟩ bm n D v L xs)) (hi : i < q) (ht : m i = t) : Calls Tryd.prog 14 #[.pointer (some a), .int .i64 (i : Int)] W fun e W' => e = .returned (.bool t) ∧ Hid (RSt w W' a ⟨q, setB m i false⟩ bm n D v L xs) := by
  refine (h.out.clear (i : Int)).mono ?_
  rintro e W' ⟨rfl, k⟩
  rw [clearG_nat (g := ⟨q, m⟩) hi] at k
  exact ⟨by rw [hasB_nat (g := ⟨q, m⟩) hi]; simp [ht], k⟩
theorem RSt.has_mk (h : Hid (RSt w W a ⟨q, m⟩ bm n D v L xs)) (hi : i < q) (ht : m i = t) : Calls Tryd.prog 19 #[.pointer (some a), .int .i64 (i : Int)] W fun e W' => e = .returned (.bool t) ∧ Hid (RSt w W' a ⟨q, m⟩ bm n D v L xs) := by
  refine (h.out.has (i : Int)).mono ?_
  rintro e W' ⟨rfl, k⟩
  exact ⟨by rw [hasB_nat (g := ⟨q, m⟩) hi]; simp [ht], k⟩
end
theorem setB_hit {m : Nat → Bool} {i : Nat} {t : Bool} : setB m i t i = t := by simp [setB]
/-- The map reads 1 of each marked place, 0 of the others. -/
def Reads1 (D : DataW Unit) (g : Bg) : Prop := IsMap D ∧ ∀ z : Nat, D.atKey (.int .i64 (z : Int)) (.lit (.int .i64 0)) = .lit (.int .i64 (if g.m z = true then 1 else 0))
theorem Marks.reads {D : DataW Unit} {g : Bg} (h : Marks D g) : Reads1 D g := ⟨h.tidy.isMap, fun z => by
  have := h.at_ (z : Int)
  simpa using this⟩
theorem reads_put {D : DataW Unit} {g : Bg} {i : Nat} (h : Reads1 D g) (hi : i < g.n) : Reads1 (D.put (.int .i64 (i : Int)) (.lit (.int .i64 0))) (clearG g (i : Int)) := by
  rw [clearG_nat hi]
  have hk : WideAt.IsKeyLit (.int .i64 (i : Int)) := trivial
  refine ⟨h.1.put _ _, fun z => ?_⟩
  by_cases c : z = i
  · subst c
    rw [atKey_put_same h.1 hk]
    simp [setB]
  · rw [atKey_put_other (fun e => c (by simp at e; omega)), h.2 z]
    simp [setB, c]
theorem reads_run {D : DataW Unit} {g : Bg} (h : Reads1 D g) {z : Nat} (hz : z ≤ 65536) {W : World} {bm n : Nat} (hm : MapAt W bm n D) : (Instr.lookup 46 (.map (some bm)) (.int .i64 (z : Int)) false).run Tryd.prog W = .ok (.int .i64 (if g.m z = true then 1 else 0)) W := by
  obtain ⟨c1, hrun1, hat1, _⟩ := hm.lookup_int lawP Tryd.underlying46 Tryd.underlying3 (zeroI _) (key_int (wf_small hz))
  have := hat1.symm.trans (h.2 z)
  simp at this
  rw [hrun1, this]
theorem reads_run1 {D : DataW Unit} {g : Bg} (h : Reads1 D g) {z : Nat} (hz : z ≤ 65536) (hm1 : g.m z = true) {W : World} {bm n : Nat} (hm : MapAt W bm n D) : (Instr.lookup 46 (.map (some bm)) (.int .i64 (z : Int)) false).run Tryd.prog W = .ok (.int .i64 1) W := by
  rw [reads_run h hz hm, if_pos hm1]
theorem reads_run0 {D : DataW Unit} {g : Bg} (h : Reads1 D g) {z : Nat} (hz : z ≤ 65536) (hm1 : g.m z = false) {W : World} {bm n : Nat} (hm : MapAt W bm n D) : (Instr.lookup 46 (.map (some bm)) (.int .i64 (z : Int)) false).run Tryd.prog W = .ok (.int .i64 0) W := by
  rw [reads_run h hz hm, if_neg (by simp [hm1])]
/-- Behind so many clearings. -/
def lessG (g : Bg) (l : List Nat) : Bg := ⟨g.n, fun p => g.m p && !l.contains p⟩
theorem lessG_nil (g : Bg) : lessG g [] = g := by simp [lessG]
theorem lessG_succ (g : Bg) (l : List Nat) {i : Nat} (hi : i < g.n) : clearG (lessG g l) (i : Int) = lessG g (l ++ [i]) := by
  rw [clearG_nat (by exact hi)]
  unfold lessG
  congr 1
  funext p
  unfold setB
  by_cases c : p = i
  · subst c; simp
  · simp [c]

set_option maxHeartbeats 8000000 in
set_option maxRecDepth 100000 in
/-- Below w.heap.size w w' -/
theorem bitmapBack_walk (a0 : Int) (a1 : Option Addr) (len1 cap1 : Nat) (z1 : List (List Value)) (pl : Int) (w : World) (w0 : (Lit.int .u16 a0).wf = true) (w1 : RowOf [some .u16] w a1 len1 cap1 z1) (w2 : (Lit.int .u16 pl).wf = true) (hT : Tab w) :
    Calls Tryd.prog 6 #[.int .u16 a0, .slice a1 len1 cap1, .int .u16 pl] w fun e w' => e = .returned (.bool true) ∧ Below w.heap.size w w' := by
  obtain ⟨x, rfl, hx⟩ := nat_u16' w0
  obtain ⟨y, rfl, hy⟩ := nat_u16' w2
  obtain ⟨f, hf⟩ := u16_row w1
  obtain ⟨hlc, hcm⟩ := row_fit w1
  have HP := Lib.hid (play x hx a1 len1 cap1 z1 w w1 f hf)
  have HF := Lib.hid hf
  have HT := Lib.hid hT
  clear w0 w2 hT hf w1
  obtain ⟨q, hq⟩ : ∃ q, 1 + x = q := ⟨_, rfl⟩
  have hqx : (1 : Int) + (x : Int) = (q : Int) := by omega
  rw [hq] at HP
  have hq1 : 1 ≤ q := by omega
  have hq2 : q ≤ 65536 := by omega
  have hq0 : ((q : Nat) : Int) ≠ 0 := by omega
  obtain ⟨i, hi⟩ : ∃ i, y % q = i := ⟨_, rfl⟩
  have hiq : i < q := by rw [← hi]; exact Nat.mod_lt _ (by omega)
  have hyi : (y : Int) % (q : Int) = (i : Int) := by rw [← hi]; simp
  obtain ⟨n, Hn⟩ : ∃ n, Hid (min len1 60 = n) := ⟨_, Lib.hid rfl⟩
  have hn60 : n ≤ 60 := by have := Hn.out; omega
  rw [Hn.out] at HP
  clear hi hq
  go_enter Tryd.func6, Tryd.ntmps6
  go_wp2_with fail
  refine HP.out.mono ?_
  rintro e W0 ⟨a, bm, D, rfl, h0, hM⟩
  have HM := Lib.hid hM
  have HAl := Lib.hid (h0.bst.all HT.out)
  have H0 := Lib.hid h0
  obtain ⟨g, HGd⟩ : ∃ g, Hid (playG f q n = g) := ⟨_, Lib.hid rfl⟩
  have hgn : g.n = q := by rw [← HGd.out]; rfl
  rw [HGd.out] at HM HAl H0
  clear HP hM h0
  go_wp2_with fail
  refine HAl.out.mono ?_
  rintro e W1 ⟨p1, c1, rfl, r1, b1⟩
  have H1 := Lib.hid (H0.out.row r1 b1)
  clear r1 b1 H0 HAl
  have hle : g.l.length ≤ 65536 := Nat.le_trans (markL_le _ _) (by rw [hgn]; exact hq2)
  have hin : i < g.n := by omega
  obtain ⟨m, rfl⟩ : ∃ m, g = ⟨q, m⟩ := ⟨g.m, by rw [← hgn]⟩
  obtain ⟨l, HLl⟩ : ∃ l, Hid (Bg.l ⟨q, m⟩ = l) := ⟨_, Lib.hid rfl⟩
  rw [HLl.out] at H1 hle
  clear hgn hin
  go_upto_region 4 with fail
  rw [HLl.out, hyi]
  clear hyi hq0
  go_cut [50] (fun v50 wx => v50 = .bool false ∧ Hid (RSt w wx a ⟨q, setB m i true⟩ bm n D (.slice p1 l.length c1) l.length (l.map natV)))
  case first =>
    cases c : m i with
    | true =>
      have hlk := reads_run1 HM.out.reads (z := i) (by omega) c H1.out.pst.map
      have H2 : Hid (RSt w W1 a ⟨q, setB m i true⟩ bm n D (.slice p1 l.length c1) l.length (l.map natV)) := by rw [setB_same c]; exact H1
      clear H1 c
      go_wp2_with fail
      go_meet
      exact ⟨rfl, H2⟩
    | false =>
      have hlk := reads_run0 HM.out.reads (z := i) (by omega) c H1.out.pst.map
      have K1 := Lib.hid (RSt.set_mk H1 hiq c)
      clear H1 c
      go_wp2_with fail
      refine K1.out.mono ?_
      rintro e W2 ⟨rfl, h2⟩
      have K2 := Lib.hid (RSt.set_mk h2 hiq setB_hit)
      rw [setB_twice] at K2
      clear h2 K1
      go_wp2_with fail
      refine K2.out.mono ?_
      rintro e W3 ⟨rfl, h3⟩
      have K3 := Lib.hid (RSt.has_mk h3 hiq setB_hit)
      clear h3 K2
      go_wp2_with fail
      refine K3.out.mono ?_
      rintro e W4 ⟨rfl, h4⟩
      clear K3
      go_wp2_with fail
      go_meet
      exact ⟨rfl, h4⟩
  case rest =>
    obtain ⟨rfl, H2⟩ := hcut
    clear H1
    have K1 := Lib.hid (RSt.clear_mk H2 hiq setB_hit)
    rw [setB_twice] at K1
    clear H2
    go_wp2_with fail
    refine K1.out.mono ?_
    rintro e W2 ⟨rfl, h2⟩
    have K2 := Lib.hid (RSt.clear_mk h2 hiq setB_hit)
    rw [setB_twice] at K2
    clear h2 K1
    go_wp2_with fail
    refine K2.out.mono ?_
    rintro e W3 ⟨rfl, h3⟩
    have K3 := Lib.hid (RSt.has_mk h3 hiq setB_hit)
    clear h3 K2
    go_upto_region 8 with (go_at_call 19; refine K3.out.mono ?_; rintro e W4 ⟨rfl, h4⟩)
    clear K3
    have hlk := reads_run HM.out.reads (z := i) (by omega) h4.out.pst.map
    obtain ⟨v, hv⟩ : ∃ v : Int, (if m i = true then 1 else 0) = v := ⟨_, rfl⟩
    have hlk' : (Instr.lookup 46 (.map (some bm)) (.int .i64 (i : Int)) false).run Tryd.prog W4 = .ok (.int .i64 v) W4 := by rw [← hv]; exact hlk
    have HV := Lib.hid hv
    clear hlk hv
    go_upto_if 68 with fail
    go_cut [69] (fun v69 wx => Hid (RSt w wx a ⟨q, m⟩ bm n D (.slice p1 l.length c1) l.length (l.map natV)))
    case first =>
      have hv := HV.out
      cases c : m i with
      | true =>
        rw [c] at hv
        obtain rfl : v = 1 := by simpa using hv.symm
        have K1 := Lib.hid (RSt.set_mk h4 hiq setB_hit)
        rw [setB_twice, setB_same c] at K1
        clear h4 c hv
        go_wp2_with fail
        refine K1.out.mono ?_
        rintro e W5 ⟨rfl, h5⟩
        clear K1
        go_wp2_with fail
        go_meet
        exact h5
      | false =>
        rw [c] at hv
        obtain rfl : v = 0 := by simpa using hv.symm
        rw [setB_same c] at h4
        clear c hv
        go_wp2_with fail
        go_meet
        exact h4
    case rest =>
      clear h4 HV hlk'
      have H5 := hcut
      clear hcut
      have HAl := Lib.hid (H5.out.pst.bst.all HT.out)
      rw [HLl.out] at HAl
      have hml := fun W (h : MapAt W bm n D) ty => h.len (t := 46) (e := 3) Tryd.underlying46 ty
      have hsz := HM.out.size
      rw [HLl.out] at hsz
      rw [hsz] at hml
      have HML := Lib.hid hml
      clear hml hsz
      go_wp2_with fail
      refine HAl.out.mono ?_
      rintro e W6 ⟨p2, c2, rfl, r2, b6⟩
      have H6 := Lib.hid (H5.out.below b6)
      have HIn := Lib.hid (law_ints p2 p1 c2 c1 _ _ l l W6 hle hle r2 H6.out.own)
      clear r2 b6 H5 HAl
      go_wp2_with fail
      refine HIn.out.mono ?_
      rintro e W7 ⟨rfl, b7⟩
      have H7 := Lib.hid (H6.out.below b7).pst
      have hml := HML.out _ H7.out.map
      simp only [decide_true]
      clear b7 H6 HIn HML
      go_upto_region 12 with fail
      clear hml
      go_cut [88, 89, 90] (fun s l i wx => s = .slice a1 n cap1 ∧ l = .int .i64 (n : Int) ∧ i = .int .i64 0 ∧ wx = W7)
      case first =>
        clear H7
        by_cases h60 : 60 < len1
        · have h60z : (60 : Int) < (len1 : Int) := by omega
          obtain rfl : n = 60 := by have := Hn.out; omega
          go_wp2_with fail
          go_meet
          exact ⟨rfl, rfl, rfl, rfl⟩
        · have h60z : ¬ (60 : Int) < (len1 : Int) := by omega
          obtain rfl : n = len1 := by have := Hn.out; omega
          go_wp2_with fail
          go_meet
          exact ⟨rfl, rfl, rfl, rfl⟩
      case rest =>
        obtain ⟨rfl, rfl, rfl, rfl⟩ := hcut
        go_wp2_with fail
        have HQ : Hid (PSt w wc a (lessG ⟨q, m⟩ (plc f q 0)) bm (n + 0) D) := by
          rw [show plc f q 0 = [] from rfl, lessG_nil]
          exact H7
        have HRd : Hid (Reads1 D (lessG ⟨q, m⟩ (plc f q 0))) := by
          rw [show plc f q 0 = [] from rfl, lessG_nil]
          exact Lib.hid HM.out.reads
        have hq0 : ((q : Nat) : Int) ≠ 0 := by omega
        clear H7
        go_loopg [90] n (fun s i wx => ∃ (j : Nat) (D : DataW Unit), n - j = s ∧ j ≤ n ∧ i = .int .i64 (j : Int) ∧ Hid (PSt w wx a (lessG ⟨q, m⟩ (plc f q j)) bm (n + j) D) ∧ Hid (Reads1 D (lessG ⟨q, m⟩ (plc f q j))))
        case atStart => exact ⟨0, D, rfl, by omega, rfl, HQ, HRd⟩
        case round =>
          clear HQ HRd HM
          obtain ⟨j, D, rfl, hj, rfl, HQ, HRd⟩ := hrel
          by_cases hjn : j = n
          · subst hjn
            have hz : ¬ (j : Int) < (j : Int) := by omega
            have hz0 : ∀ p, (lessG ⟨q, m⟩ (plc f q j)).m p = false := by
              intro p
              have e : m = fun p => (plc f q j).contains p := by
                have := HGd.out
                unfold playG at this
                simp only [Bg.mk.injEq, true_and] at this
                exact this.symm
              simp [lessG, e]
            have hN : IsNext (lessG ⟨q, m⟩ (plc f q j)).m 0 none := fun p hp => by rw [hz0 p] at hp; cases hp
            have hL : (lessG ⟨q, m⟩ (plc f q j)).l = [] := by
              unfold Bg.l
              rw [markL_congr (m' := fun _ => false) (fun p _ => hz0 p), markL_none]
            have K1 := Lib.hid (HQ.out.bst.next_is HT.out 0 (by decide) (by decide) hN)
            have HLe := Lib.hid hL
            clear hz0 hN hL HQ HRd HGd
            go_wp2_with fail
            refine K1.out.mono ?_
            rintro e W8 ⟨rfl, h8⟩
            have K2 := Lib.hid h8.len
            have K3 := Lib.hid (h8.all HT.out)
            rw [HLe.out] at K2 K3
            have H8 := Lib.hid h8
            clear h8 K1
            go_wp2_with fail
            refine K2.out.mono ?_
            rintro e W9 ⟨rfl, rfl⟩
            go_wp2_with fail
            refine K3.out.mono ?_
            rintro e W10 ⟨p5, c5, rfl, _, b10⟩
            have H10 := Lib.hid (H8.out.below b10)
            have K4 := Lib.hid (awake8 W10 (HT.out.below H10.out.lo))
            clear b10 H8 K2 K3
            go_wp2_with fail
            refine K4.out.mono ?_
            rintro e W11 ⟨rfl, b11⟩
            go_wp2_with fail
            go_ret
            exact ⟨rfl, below_tr H10.out.lo b11⟩
          · have hz : (j : Int) < (n : Int) := by omega
            obtain ⟨f1, A', rfl, f2⟩ := HF.out j (by have := Hn.out; omega)
            have d0 := f2 wr HQ.out.lo
            clear f2
            obtain ⟨k, hk⟩ : ∃ k, f j % q = k := ⟨_, rfl⟩
            have hki : ((f j : Nat) : Int) % (q : Int) = (k : Int) := by rw [← hk]; simp
            have hkq : k < q := by rw [← hk]; exact Nat.mod_lt _ (by omega)
            have hE : clearG (lessG ⟨q, m⟩ (plc f q j)) (k : Int) = lessG ⟨q, m⟩ (plc f q (j + 1)) := by
              rw [plc_succ, hk]
              exact lessG_succ ⟨q, m⟩ _ hkq
            have K1 := Lib.hid ((HQ.out.below (Below.refl _ _).drew).clear (k : Int))
            have HR2 := Lib.hid (reads_put HRd.out (i := k) (by exact hkq))
            rw [hE] at K1 HR2
            rw [hasB_nat (by exact hkq)] at K1
            obtain ⟨t, HTt⟩ : ∃ t, Hid ((lessG ⟨q, m⟩ (plc f q j)).m k = t) := ⟨_, Lib.hid rfl⟩
            obtain ⟨v, HVv⟩ : ∃ v : Int, Hid ((if (lessG ⟨q, m⟩ (plc f q j)).m k = true then 1 else 0) = v) := ⟨_, Lib.hid rfl⟩
            have hvt : (t = true ∧ v = 1) ∨ (t = false ∧ v = 0) := by
              have h1 := HVv.out
              rw [HTt.out] at h1
              cases t
              · exact .inr ⟨rfl, by simpa using h1.symm⟩
              · exact .inl ⟨rfl, by simpa using h1.symm⟩
            rw [HTt.out] at K1
            have HLk : Hid (∀ W, MapAt W bm (n + j) D → (Instr.lookup 46 (.map (some bm)) (.int .i64 (k : Int)) false).run Tryd.prog W = .ok (.int .i64 v) W) := Lib.hid fun W hm => by
              rw [← HVv.out]
              exact reads_run HRd.out (by omega) hm
            have hr1 := HLk.out wr.drew (HQ.out.below (Below.refl _ _).drew).map
            have HKP := Lib.hid (key_int (wf_small (x := k) (by omega)))
            clear HQ HRd hE hk HTt HVv hjn
            generalize f j = fj at *
            rcases hvt with ⟨rfl, rfl⟩ | ⟨rfl, rfl⟩
            · skip
              go_upto_region 16 with fail
              go_region_held3 (fun _ => True) (trivial) (first | (go_at_call 14; refine K1.out.mono ?_; rintro e W8 ⟨rfl, h8⟩; have hr2 := HLk.out W8 h8.map))
              · have H8 := Lib.hid h8
                clear h8 K1 hr1 hr2 HLk
                go_wp2_with (at_mapUpdate; refine wpList_mapUpdate_own _ rfl _ _ _ 46 rfl 3 3 lawP Tryd.underlying46 _ bm (n + j) D rfl H8.out.map (by unfold maxLen; omega) _ _ _ rfl rfl HKP.out (.lit (.int .i64 0)) [] (plainElem_int Tryd.underlying3 (by decide)) ?_; intro w4 own4 gr4)
                have HP4 := Lib.hid (H8.out.put own4 gr4)
                clear own4 gr4 H8
                go_roundg (n - (j + 1))
                case measure => omega
                case rel => exact ⟨j + 1, _, rfl, by omega, by go_num, HP4, HR2⟩
              · have H8 := Lib.hid h8
                clear h8 K1 hr1 hr2 HLk
                go_wp2_with (at_mapUpdate; refine wpList_mapUpdate_own _ rfl _ _ _ 46 rfl 3 3 lawP Tryd.underlying46 _ bm (n + j) D rfl H8.out.map (by unfold maxLen; omega) _ _ _ rfl rfl HKP.out (.lit (.int .i64 0)) [] (plainElem_int Tryd.underlying3 (by decide)) ?_; intro w4 own4 gr4)
                have HP4 := Lib.hid (H8.out.put own4 gr4)
                clear own4 gr4 H8
                go_roundg (n - (j + 1))
                case measure => omega
                case rel => exact ⟨j + 1, _, rfl, by omega, by go_num, HP4, HR2⟩
            · skip
              go_upto_region 16 with fail
              go_region_held3 (fun _ => True) (trivial) (first | (go_at_call 14; refine K1.out.mono ?_; rintro e W8 ⟨rfl, h8⟩; have hr2 := HLk.out W8 h8.map))
              · have H8 := Lib.hid h8
                clear h8 K1 hr1 hr2 HLk
                go_wp2_with (at_mapUpdate; refine wpList_mapUpdate_own _ rfl _ _ _ 46 rfl 3 3 lawP Tryd.underlying46 _ bm (n + j) D rfl H8.out.map (by unfold maxLen; omega) _ _ _ rfl rfl HKP.out (.lit (.int .i64 0)) [] (plainElem_int Tryd.underlying3 (by decide)) ?_; intro w4 own4 gr4)
                have HP4 := Lib.hid (H8.out.put own4 gr4)
                clear own4 gr4 H8
                go_roundg (n - (j + 1))
                case measure => omega
                case rel => exact ⟨j + 1, _, rfl, by omega, by go_num, HP4, HR2⟩
              · have H8 := Lib.hid h8
                clear h8 K1 hr1 hr2 HLk
                go_wp2_with (at_mapUpdate; refine wpList_mapUpdate_own _ rfl _ _ _ 46 rfl 3 3 lawP Tryd.underlying46 _ bm (n + j) D rfl H8.out.map (by unfold maxLen; omega) _ _ _ rfl rfl HKP.out (.lit (.int .i64 0)) [] (plainElem_int Tryd.underlying3 (by decide)) ?_; intro w4 own4 gr4)
                have HP4 := Lib.hid (H8.out.put own4 gr4)
                clear own4 gr4 H8
                go_roundg (n - (j + 1))
                case measure => omega
                case rel => exact ⟨j + 1, _, rfl, by omega, by go_num, HP4, HR2⟩

end Go.Proofs.YtlpniacffahnkabDoor
