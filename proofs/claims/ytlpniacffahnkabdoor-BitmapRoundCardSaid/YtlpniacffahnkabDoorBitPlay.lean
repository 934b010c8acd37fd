/-
  A bitmap of the law's own, beside it a map of the law's own: played.
-/
import Derived.Test.YtlpniacffahnkabDoorBitSt
import Derived.Maps.OwnOps
import Derived.Maps.OwnSet
import Derived.Maps.Views
import Derived.Maps.RangeWalk
namespace Go.Proofs.YtlpniacffahnkabDoor
open Go.RowKit Go.Maps
set_option linter.unusedVariables false

theorem lawP : Keyed Tryd.prog 3 := int_keyed Tryd.underlying3
theorem zeroI (w : World) : (zeroValue 3).run Tryd.prog w = .ok (.int .i64 0) w := by kernel_rfl
abbrev MapAt (w : World) (b n : Nat) (D : DataW Unit) : Prop := w.ownsMap Tryd.prog 3 (plainElem Tryd.prog 3) b n D
theorem map_same {w w' : World} {b n : Nat} {D : DataW Unit} (h : MapAt w b n D) (e : w'.heap[b]? = w.heap[b]?) : MapAt w' b n D := by
  obtain ⟨es, clock, hb, r⟩ := h
  exact ⟨es, clock, e.trans hb, r⟩
theorem map_below {w w' : World} {b n : Nat} {D : DataW Unit} (h : MapAt w b n D) (g : Below w.heap.size w w') : MapAt w' b n D := map_same h (g.block b h.lt)
theorem key_int {x : Int} (h : (Lit.int .i64 x).wf = true) : keyOf Tryd.prog 3 (.int .i64 x) = some (.int .i64 x) := keyOf_int_mk Tryd.underlying3 h
theorem wf_small {x : Nat} (h : x ≤ 65536) : (Lit.int .i64 (x : Int)).wf = true := by
  simp [Lit.wf, IntKind.min, IntKind.max, IntKind.signed, IntKind.bits]
  omega

/-- A bitmap, and a map in a block of its own. -/
def PSt (w W : World) (a : Addr) (g : Bg) (bm n : Nat) (D : DataW Unit) : Prop := ∃ N, BmAt N W a g ∧ (∀ j, N j → w.heap.size ≤ j) ∧ Below w.heap.size w W ∧ MapAt W bm n D ∧ ¬ N bm ∧ w.heap.size ≤ bm
section
variable {w W W' : World} {a : Addr} {g g' : Bg} {bm n : Nat} {D D' : DataW Unit}
theorem PSt.bst (h : PSt w W a g bm n D) : BSt w W a g := by
  obtain ⟨N, h1, h2, h3, h4, h5, h6⟩ := h
  exact ⟨N, h1, h2, h3⟩
theorem PSt.map (h : PSt w W a g bm n D) : MapAt W bm n D := by
  obtain ⟨N, h1, h2, h3, h4, h5, h6⟩ := h
  exact h4
theorem PSt.lo (h : PSt w W a g bm n D) : Below w.heap.size w W := h.bst.lo
theorem PSt.below (h : PSt w W a g bm n D) (b : Below W.heap.size W W') : PSt w W' a g bm n D := by
  obtain ⟨N, h1, h2, h3, h4, h5, h6⟩ := h
  exact ⟨N, h1.below b, h2, below_tr h3 b, map_below h4 b, h5, h6⟩
theorem PSt.put {n' : Nat} (h : PSt w W a g bm n D) (o : MapAt W' bm n' D') (t : W.grownBy W' (some bm)) : PSt w W' a g bm n' D' := by
  obtain ⟨N, h1, h2, h3, h4, h5, h6⟩ := h
  refine ⟨N, h1.kept fun j hj => t.block j (h1.lt j hj) (fun e => h5 (by cases e; exact hj)), h2, h3.trans ⟨t.os, t.tape, t.output, t.size, fun k hk => t.block k (Nat.lt_of_lt_of_le hk h3.size) (fun e => by cases e; omega)⟩, o, h5, h6⟩
theorem PSt.went {N : Nat → Prop} (h2 : ∀ j, N j → w.heap.size ≤ j) (h3 : Below w.heap.size w W) (h4 : MapAt W bm n D) (h5 : ¬ N bm) (h6 : w.heap.size ≤ bm) (h : WentB N W a g' W') : PSt w W' a g' bm n D :=
  ⟨N, h.1, h2, below_turned h.2 h3.size h2 h3, map_same h4 (h.2.block bm h4.lt h5), h5, h6⟩
theorem PSt.set (h : PSt w W a g bm n D) (i : Int) : Calls Tryd.prog 13 #[.pointer (some a), .int .i64 i] W fun e W' => e = .returned (.bool (newB g i)) ∧ PSt w W' a (setG g i) bm n D := by
  obtain ⟨N, h1, h2, h3, h4, h5, h6⟩ := h
  refine (c_set h1 i).mono ?_
  rintro e W' ⟨rfl, h7⟩
  exact ⟨rfl, .went h2 h3 h4 h5 h6 h7⟩
theorem PSt.clear (h : PSt w W a g bm n D) (i : Int) : Calls Tryd.prog 14 #[.pointer (some a), .int .i64 i] W fun e W' => e = .returned (.bool (hasB g i)) ∧ PSt w W' a (clearG g i) bm n D := by
  obtain ⟨N, h1, h2, h3, h4, h5, h6⟩ := h
  refine (c_clear h1 i).mono ?_
  rintro e W' ⟨rfl, h7⟩
  exact ⟨rfl, .went h2 h3 h4 h5 h6 h7⟩
theorem PSt.has (h : PSt w W a g bm n D) (i : Int) : Calls Tryd.prog 19 #[.pointer (some a), .int .i64 i] W fun e W' => e = .returned (.bool (hasB g i)) ∧ PSt w W' a g bm n D := by
  have h' := h
  obtain ⟨N, h1, h2, h3, h4, h5, h6⟩ := h
  refine (c_has h1 i).mono ?_
  rintro e W' ⟨rfl, h7⟩
  exact ⟨rfl, h'.below h7⟩
theorem PSt.next (h : PSt w W a g bm n D) (hT : Tab w) (fr : Int) (hf1 : -9223372036854775808 ≤ fr) (hf2 : fr ≤ 9223372036854775807) : Calls Tryd.prog 15 #[.pointer (some a), .int .i64 fr] W fun e W' => ∃ o, IsNext g.m fr o ∧ e = .returned (.tuple #[.int .i64 ((o.getD 0 : Nat) : Int), .bool o.isSome]) ∧ PSt w W' a g bm n D := by
  have h' := h
  obtain ⟨N, h1, h2, h3, h4, h5, h6⟩ := h
  refine (c_next h1 (hT.below h3) fr hf1 hf2).mono ?_
  rintro e W' ⟨⟨o, ho, rfl⟩, h7⟩
  exact ⟨o, ho, rfl, h'.below h7⟩
theorem PSt.round (h : PSt w W a g bm n D) (hT : Tab w) (fr : Int) (hf1 : -9223372036854775808 ≤ fr) (hf2 : fr ≤ 9223372036854775807) : Calls Tryd.prog 17 #[.pointer (some a), .int .i64 fr] W fun e W' => ∃ o, IsRound g.m fr o ∧ e = .returned (.tuple #[.int .i64 ((o.getD 0 : Nat) : Int), .bool o.isSome]) ∧ PSt w W' a g bm n D := by
  have h' := h
  obtain ⟨N, h1, h2, h3, h4, h5, h6⟩ := h
  refine (c_round h1 (hT.below h3) fr hf1 hf2).mono ?_
  rintro e W' ⟨⟨o, ho, rfl⟩, h7⟩
  exact ⟨o, ho, rfl, h'.below h7⟩
theorem PSt.small (h : PSt w W a g bm n D) : 1 ≤ g.n ∧ g.n ≤ 65536 := by
  obtain ⟨N, h1, h2, h3, h4, h5, h6⟩ := h
  exact h1.n1
theorem PSt.in_ (h : PSt w W a g bm n D) : ∀ q, g.m q = true → q < g.n := by
  obtain ⟨N, h1, h2, h3, h4, h5, h6⟩ := h
  exact h1.in_
/-- The map has just the marked places, each with 1. -/
structure Marks (D : DataW Unit) (g : Bg) : Prop where
  tidy : Tidy D
  at_ : ∀ z : Int, D.atKey (.int .i64 z) (.lit (.int .i64 0)) = .lit (.int .i64 (if 0 ≤ z ∧ g.m z.toNat = true then 1 else 0))
  has : ∀ z : Int, Maps.has D (.int .i64 z) = (decide (0 ≤ z) && g.m z.toNat)
  size : Maps.size D = g.l.length
theorem marks_none (n : Nat) : Marks (.map []) ⟨n, fun _ => false⟩ :=
  ⟨tidy_empty, fun z => by simp [DataW.atKey], fun z => by simp [Maps.has], by simp [Maps.size, Bg.l, markL_none]⟩
theorem marks_put (h : Marks D g) {i : Nat} (hi : i < g.n) : Marks (D.put (.int .i64 (i : Int)) (.lit (.int .i64 1))) (setG g (i : Int)) := by
  have hk : WideAt.IsKeyLit (.int .i64 (i : Int)) := trivial
  have hg : setG g (i : Int) = ⟨g.n, setB g.m i true⟩ := by
    by_cases c : g.m i = true
    · have hn : newB g (i : Int) = false := by simp [newB, c]
      rw [setG_no hn]
      have : setB g.m i true = g.m := by
        funext j
        unfold setB
        by_cases d : j = i
        · rw [if_pos d, d, c]
        · rw [if_neg d]
      rw [this]
    · have hn : newB g (i : Int) = true := by simp at c; simp [newB, c, hi]
      rw [setG_yes hn]
      rfl
  rw [hg]
  refine ⟨h.tidy.put hk _, fun z => ?_, fun z => ?_, ?_⟩
  · by_cases c : z = (i : Int)
    · subst c
      rw [atKey_put_same h.tidy.isMap hk]
      simp [setB]
    · rw [atKey_put_other (fun e => c (by cases e; rfl)), h.at_ z]
      by_cases d : 0 ≤ z
      · have : z.toNat ≠ i := by omega
        simp [setB, this]
      · simp [d]
  · by_cases c : z = (i : Int)
    · subst c
      rw [has_put_same h.tidy.isMap hk]
      simp [setB]
    · rw [has_put_other (fun e => c (by cases e; rfl)), h.has z]
      by_cases d : 0 ≤ z
      · have : z.toNat ≠ i := by omega
        simp [setB, this]
      · simp [d]
  · rw [size_put h.tidy, h.has, h.size]
    by_cases c : g.m i = true
    · have e : setB g.m i true = g.m := by
        funext j
        unfold setB
        by_cases d : j = i
        · rw [if_pos d, d, c]
        · rw [if_neg d]
      simp [c, e, Bg.l]
    · have c' : g.m i = false := by simpa using c
      have := count_set c' hi
      simp [c', Bg.l, this]
end
theorem u16_cell {w : World} {A : Option Addr} {len cap : Nat} {rows : List (List Value)} (h : RowOf [some .u16] w A len cap rows) {j : Nat} (hj : j < len) :
    ∃ x : Nat, x < 65536 ∧ ∃ a, A = some a ∧ ∀ W, Below w.heap.size w W → W.cell? (a.add j) = some (.int .u16 (x : Int)) := by
  obtain ⟨h1, _, h3⟩ := h
  obtain ⟨hf, a, rfl, hc⟩ := h3 j (by omega)
  obtain ⟨v, e⟩ : ∃ v, rows[j] = [v] := by
    have := hf.length
    match hr : rows[j], this with
    | [v], _ => exact ⟨v, rfl⟩
  rw [e] at hf hc
  obtain ⟨⟨n0, rfl, w0⟩, _⟩ := hf
  obtain ⟨x, rfl, hx⟩ : ∃ n : Nat, n0 = (n : Int) ∧ n < 65536 := by
    simp [Lit.wf, IntKind.min, IntKind.max, IntKind.signed, IntKind.bits] at w0
    exact ⟨n0.toNat, by omega, by omega⟩
  have c0 := hc 0 _ rfl
  refine ⟨x, hx, a, rfl, fun W b => ?_⟩
  have c1 : w.cell? (a.add j) = some (.int .u16 (x : Int)) := by simpa using c0
  exact (b.cell (World.block_lt_of_cell? w _ c1)).trans c1
/-- What the row holds: its numbers. -/
theorem u16_row {w : World} {A : Option Addr} {len cap : Nat} {rows : List (List Value)} (h : RowOf [some .u16] w A len cap rows) :
    ∃ f : Nat → Nat, ∀ j, j < len → f j < 65536 ∧ ∃ a, A = some a ∧ ∀ W, Below w.heap.size w W → W.cell? (a.add j) = some (.int .u16 (f j : Int)) := by
  refine ⟨fun j => if hj : j < len then Classical.choose (u16_cell h hj) else 0, fun j hj => ?_⟩
  simp only [dif_pos hj]
  exact Classical.choose_spec (u16_cell h hj)
/-- The places of the first k numbers. -/
def plc (f : Nat → Nat) (q k : Nat) : List Nat := (List.range k).map fun j => f j % q
def playG (f : Nat → Nat) (q k : Nat) : Bg := ⟨q, fun p => (plc f q k).contains p⟩
theorem plc_succ (f : Nat → Nat) (q k : Nat) : plc f q (k + 1) = plc f q k ++ [f k % q] := by simp [plc, List.range_succ]
theorem playG_succ (f : Nat → Nat) (q k : Nat) (hq : 0 < q) : setG (playG f q k) ((f k % q : Nat) : Int) = playG f q (k + 1) := by
  have hlt := Nat.mod_lt (f k) hq
  have hs := plc_succ f q k
  unfold playG
  rw [hs]
  generalize f k % q = y at *
  generalize plc f q k = l at *
  by_cases c : y ∈ l
  · rw [setG_no (by simp [newB, c])]
    congr 1
    funext p
    by_cases d : p = y
    · subst d; simp [c]
    · simp [d]
  · rw [setG_yes (by simp [newB, c, hlt])]
    congr 1
    funext p
    unfold setB
    by_cases d : p = y
    · subst d; simp
    · simp [d]
theorem play (x : Nat) (hx : x < 65536) (A : Option Addr) (len cap : Nat) (rows : List (List Value)) (w : World) (hr : RowOf [some .u16] w A len cap rows) (f : Nat → Nat) (hf : ∀ j, j < len → f j < 65536 ∧ ∃ a, A = some a ∧ ∀ W, Below w.heap.size w W → W.cell? (a.add j) = some (.int .u16 (f j : Int))) :
    Calls Tryd.prog 25 #[.int .u16 (x : Int), .slice A len cap] w fun e W => ∃ a bm D, e = .returned (.tuple #[.pointer (some a), .int .i64 ((1 + x : Nat) : Int), .map (some bm)]) ∧ PSt w W a (playG f (1 + x) (min len 60)) bm (min len 60) D ∧ Marks D (playG f (1 + x) (min len 60)) := by
  obtain ⟨hlc, hcm⟩ := row_fit hr
  have H0 := Lib.hid (s_new (1 + x) (by omega) (by omega) w w (Below.refl _ _))
  obtain ⟨q, hq⟩ : ∃ q, 1 + x = q := ⟨_, rfl⟩
  have hqi : (1 : Int) + (x : Int) = (q : Int) := by omega
  have hq1 : 1 ≤ q := by omega
  have hq2 : q ≤ 65536 := by omega
  rw [hq] at H0 ⊢
  obtain ⟨n, Hn⟩ : ∃ n, Hid (min len 60 = n) := ⟨_, Lib.hid rfl⟩
  rw [Hn.out]
  have hn60 : n ≤ 60 := by have := Hn.out; omega
  have HF := Lib.hid hf
  clear hr hf hq
  go_enter Tryd.func25, Tryd.ntmps25
  go_wp2_with fail
  refine H0.out.mono ?_
  rintro e w0 ⟨a, rfl, h0⟩
  have HP : Hid (PSt w (w0.alloc (.map #[] 0)) a (playG f q 0) w0.heap.size 0 (.map [])) := by
    obtain ⟨N, h1, h2, h3⟩ := h0
    have b1 := (Below.refl _ w0).alloc (Nat.le_refl _) (.map #[] 0)
    refine Lib.hid ⟨N, h1.below b1, h2, below_tr h3 b1, World.ownsMap_made w0 _ _ _, fun hn => ?_, h3.size⟩
    have := h1.lt _ hn
    omega
  clear h0 H0
  have hmm := @run_makeMap Tryd.prog
  go_upto_region 4 with fail
  clear hmm
  obtain ⟨w1, HW1⟩ : ∃ w1, Hid (w0.alloc (.map #[] 0) = w1) := ⟨_, Lib.hid rfl⟩
  obtain ⟨bm, HBM⟩ : ∃ bm, Hid (w0.heap.size = bm) := ⟨_, Lib.hid rfl⟩
  rw [HW1.out, HBM.out] at HP
  rw [HW1.out, HBM.out]
  clear HW1 HBM
  go_cut [27, 28, 29] (fun s l i wx => s = .slice A n cap ∧ l = .int .i64 (n : Int) ∧ i = .int .i64 0 ∧ wx = w1)
  case first =>
    by_cases h60 : 60 < len
    · have h60z : (60 : Int) < (len : Int) := by omega
      obtain rfl : n = 60 := by have := Hn.out; omega
      go_wp2_with fail
      go_meet
      exact ⟨rfl, rfl, rfl, rfl⟩
    · have h60z : ¬ (60 : Int) < (len : Int) := by omega
      obtain rfl : n = len := by have := Hn.out; omega
      go_wp2_with fail
      go_meet
      exact ⟨rfl, rfl, rfl, rfl⟩
  case rest =>
    obtain ⟨rfl, rfl, rfl, rfl⟩ := hcut
    go_wp2_with fail
    go_loopg [29] n (fun s i wx => ∃ (j : Nat) (D : DataW Unit), n - j = s ∧ j ≤ n ∧ i = .int .i64 (j : Int) ∧ Hid (PSt w wx a (playG f q j) bm j D) ∧ Hid (Marks D (playG f q j)))
    case atStart => exact ⟨0, _, rfl, by omega, rfl, HP, Lib.hid (marks_none _)⟩
    case round =>
      clear HP
      obtain ⟨j, D, rfl, hj, rfl, HP, HM⟩ := hrel
      by_cases hjn : j = n
      · subst hjn
        have hz : ¬ (j : Int) < (j : Int) := by omega
        go_wp2_with fail
        go_ret3
        exact ⟨a, bm, rfl, D, HP.out, HM.out⟩
      · have hz : (j : Int) < (n : Int) := by omega
        obtain ⟨f1, A', rfl, f2⟩ := HF.out j (by have := Hn.out; omega)
        have d0 := f2 wr HP.out.lo
        clear f2
        have hpl : f j % q < q := Nat.mod_lt _ (by omega)
        have HS := Lib.hid (HP.out.set ((f j % q : Nat) : Int))
        have HG := Lib.hid (playG_succ f q j (by omega))
        have HM2 := Lib.hid (marks_put HM.out (i := f j % q) hpl)
        rw [HG.out] at HS HM2
        have HKP := Lib.hid (key_int (wf_small (x := f j % q) (by omega)))
        obtain ⟨y, hy⟩ : ∃ y, f j % q = y := ⟨_, rfl⟩
        have hyi : ((f j : Nat) : Int) % (q : Int) = (y : Int) := by rw [← hy]; simp
        rw [hy] at HS HM2 HKP hpl
        have hq0 : ((q : Nat) : Int) ≠ 0 := by omega
        clear HP HM HG hy
        generalize f j = v at *
        go_wp2_with fail
        refine HS.out.mono ?_
        rintro e w2 ⟨rfl, h2⟩
        replace h2 := Lib.hid h2
        clear HS
        go_wp2_with (at_mapUpdate; refine wpList_mapUpdate_own _ rfl _ _ _ 46 rfl 3 3 lawP Tryd.underlying46 _ bm j D rfl h2.out.map (by unfold maxLen; omega) _ _ _ rfl rfl HKP.out (.lit (.int .i64 1)) [] (plainElem_int Tryd.underlying3 (by decide)) ?_; intro w4 own4 gr4)
        have HP4 := Lib.hid (h2.out.put own4 gr4)
        clear own4 gr4 h2
        go_roundg (n - (j + 1))
        case measure => omega
        case rel => exact ⟨j + 1, _, rfl, by omega, by go_num, HP4, HM2⟩

end Go.Proofs.YtlpniacffahnkabDoor
