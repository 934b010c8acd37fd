/-
  The document's own walks: From, Upto (and first).
-/
import Derived.Test.YtfedjeojanpnpabWalkFromSame
import Derived.Test.YtfedjeojanpnpabBytes
namespace Go.Proofs.Ytfedjeojanpnpab
open Go.RowKit
set_option linter.unusedVariables false
set_option linter.unusedSimpArgs false

theorem lit_en (w : World) (e : En) : (w.alloc (.cells #[.int .u64 (e.key.at_ : Int), .int .u64 (e.key.seq : Int), .int .i64 e.val] 52)).ownsRow 0 52 3 (.slice (some ⟨w.heap.size, 0, none⟩) 1 1) 1 (enC e) :=
  ⟨rfl, .inr ⟨w.heap.size, 1, _, rfl, Nat.zero_le _, World.alloc_heap_new w _, Nat.le_refl _, by decide, rfl, rfl⟩⟩
/-- A row that a function of the document's answers. -/
def RefRow (w : World) (X : List En) (e : Ending) (w' : World) : Prop := ∃ p n c, e = .returned (.slice p n c) ∧ X.length = n ∧ Hid (w'.ownsRow w.heap.size 52 3 (.slice p n c) n (X.flatMap enC)) ∧ Hid (Below w.heap.size w w')
theorem ref_first {w : World} {base n c : Nat} {p : Option Addr} {X : List En} (m : Int) (r : w.ownsRow base 52 3 (.slice p n c) n (X.flatMap enC)) (hl : X.length = n) (hn : n ≤ 200) :
    Calls Try.prog 40 #[.slice p n c, .int .i64 m] w fun e w' => ∃ p' n' c', e = .returned (.slice p' n' c') ∧ (X.take m.toNat).length = n' ∧ Hid (w'.ownsRow base 52 3 (.slice p' n' c') n' ((X.take m.toNat).flatMap enC)) ∧ Hid (Below w.heap.size w w') := by
  have hc : n ≤ c ∧ c ≤ 9223372036854775807 := by
    rcases r.2 with ⟨e, e2⟩ | ⟨g, cap, cur, e, _, _, h2, h3, _⟩
    · cases e; exact ⟨Nat.le_refl _, by decide⟩
    · cases e; exact ⟨h2, h3⟩
  obtain ⟨hc1, hc2⟩ := hc
  by_cases h1 : m < 1
  · have h0 : m.toNat = 0 := by omega
    have HR : Hid (w.ownsRow base 52 3 (.slice none 0 0) 0 (([] : List En).flatMap enC)) := Lib.hid ⟨rfl, .inl ⟨rfl, rfl⟩⟩
    rw [h0, List.take_zero]
    clear r h0
    go_enter Try.func40, Try.ntmps40
    go_wp2_with fail
    go_ret
    exact ⟨_, _, _, rfl, rfl, HR, Lib.hid (Below.refl _ _)⟩
  · obtain ⟨m', rfl⟩ := Int.eq_ofNat_of_zero_le (a := m) (by omega)
    rw [show ((m' : Nat) : Int).toNat = m' from rfl]
    by_cases h2 : m' < n
    · have h2z : (m' : Int) < (n : Int) := by omega
      have HR := Lib.hid (own_pre3 r hl (Nat.le_of_lt h2))
      have hm : (X.take m').length = m' := by rw [List.length_take]; omega
      have HM := Lib.hid hm
      have hmc : (m' : Int) ≤ (c : Int) := by omega
      clear r hm
      go_enter Try.func40, Try.ntmps40
      go_wp2_with fail
      go_ret
      exact ⟨_, _, _, rfl, by first | exact HM.out | omega, HR, Lib.hid (Below.refl _ _)⟩
    · have h2z : ¬ (m' : Int) < (n : Int) := by omega
      have ht : X.take m' = X := List.take_of_length_le (by omega)
      rw [ht]
      have HR := Lib.hid r
      have HL := Lib.hid hl
      clear r ht
      go_enter Try.func40, Try.ntmps40
      go_wp2_with fail
      go_ret
      exact ⟨_, _, _, rfl, by first | exact HL.out | rfl, HR, Lib.hid (Below.refl _ _)⟩
theorem from_snoc {k : Ky} {l : List En} {i : Nat} {e : En} (h : l[i]? = some e) : fromL k (l.take (i + 1)) = fromL k (l.take i) ++ (if e.key.lt k then [] else [e]) := by
  obtain ⟨h1, rfl⟩ := List.getElem?_eq_some_iff.1 h
  rw [List.take_succ_eq_append_getElem h1]
  unfold fromL
  rw [List.filter_append]
  congr 1
  by_cases c : l[i].key.lt k <;> simp [c]
theorem upto_snoc {t : Nat} {l : List En} {i : Nat} {e : En} (h : l[i]? = some e) : uptoL t (l.take (i + 1)) = uptoL t (l.take i) ++ (if e.key.at_ ≤ t then [e] else []) := by
  obtain ⟨h1, rfl⟩ := List.getElem?_eq_some_iff.1 h
  rw [List.take_succ_eq_append_getElem h1]
  unfold uptoL
  rw [List.filter_append]
  congr 1
  by_cases c : l[i].key.at_ ≤ t <;> simp [c]
/-- A row that the document lets grow. -/
structure GrowR (W wx : World) (p : Option Addr) (n c : Nat) (R : List En) : Prop where
  row : wx.ownsRow W.heap.size 52 3 (.slice p n c) n (R.flatMap enC)
  len : R.length = n
  lo : Below W.heap.size W wx
theorem GrowR.below {W wx w' : World} {p : Option Addr} {n c : Nat} {R : List En} (h : GrowR W wx p n c R) (b : Below wx.heap.size wx w') : GrowR W w' p n c R := ⟨owns_below h.row b, h.len, below_tr h.lo b⟩
theorem GrowR.app {W wx w' : World} {p p' : Option Addr} {n n' c c' : Nat} {R : List En} {e : En} (h : GrowR W wx p n c R) (r : w'.ownsRow W.heap.size 52 3 (.slice p' n' c') n' (R.flatMap enC ++ enC e)) (g : wx.grownBy w' (Value.slice p n c).ownBlock) (hn : n + 1 = n') : GrowR W w' p' n' c' (R ++ [e]) :=
  ⟨by rw [List.flatMap_append, show ([e] : List En).flatMap enC = enC e by simp]; exact r, by rw [List.length_append, h.len, ← hn]; rfl, h.lo.grown g h.lo.size (fun k e => (h.row.lt k e).1)⟩

set_option maxHeartbeats 4000000 in
theorem ref_from (p : Option Addr) (c n base : Nat) (room : Int) (l : List En) (k : Ky) (m : Int) (w : World) (hn : l.length = n) (hn6 : n ≤ 60) (h : w.ownsRow base 52 3 (.slice p n c) n (l.flatMap enC)) :
    Calls Try.prog 18 #[.agg #[.slice p n c, .int .i64 room], kyV k, .int .i64 m] w (RefRow w ((fromL k (l)).take m.toNat)) := by
  unfold kyV
  obtain ⟨W, HW⟩ : ∃ W, Hid ((w.alloc (.cells #[.slice p n c, .int .i64 room] 41)).alloc (.cells #[.int .u64 (k.at_ : Int), .int .u64 (k.seq : Int)] 27) = W) := ⟨_, Lib.hid rfl⟩
  obtain ⟨x1, x2, bl⟩ := box2 HW.out
  obtain ⟨tb, HTB⟩ : ∃ q, Hid (w.heap.size = q) := ⟨_, Lib.hid rfl⟩
  rw [HTB.out] at x1 x2
  have HX1 := Lib.hid x1
  have HX2 := Lib.hid x2
  have HB0 := Lib.hid bl
  have HO := Lib.hid (owns_below h bl)
  have HNN := Lib.hid hn
  obtain ⟨i0, hi1, hi2, hi3, hi4⟩ := info_parts (P := Try.prog) (e := 52) (z := .agg #[.int .u64 0, .int .u64 0, .int .i64 0]) (size := 3) (bytes := 24) (by kernel_rfl)
  have HI := Lib.hid (And.intro hi1 (And.intro hi2 (And.intro hi3 hi4)))
  have HG0 : Hid (GrowR W W none 0 0 (fromL k (l.take 0))) := Lib.hid ⟨⟨rfl, .inl ⟨rfl, rfl⟩⟩, rfl, Below.refl _ _⟩
  clear x1 x2 bl h hn hi1 hi2 hi3 hi4
  go_enter Try.func18, Try.ntmps18
  go_upto_region 1 with fail
  rw [HW.out]
  rw [HTB.out]
  go_wp2_with fail
  go_loopg [7, 8] (n + 1) (fun q v7 v8 wx => ∃ (i nr cr : Nat) (pr : Option Addr) (R : List En), n + 1 - i = q ∧ i ≤ n ∧ v7 = .slice pr nr cr ∧ v8 = .int .i64 (i : Int) ∧ nr ≤ i ∧ Hid (fromL k (l.take i) = R) ∧ Hid (GrowR W wx pr nr cr R))
  case atStart => exact ⟨0, 0, 0, none, _, rfl, by omega, rfl, rfl, by omega, Lib.hid rfl, HG0⟩
  case round =>
    obtain ⟨i, nr, cr, pr, R, rfl, hi, rfl, rfl, hnr, HR, HG⟩ := hrel
    clear HG0
    have X1 := HX1.out.below HG.out.lo HX1.out.lt
    have X2 := HX2.out.below HG.out.lo HX2.out.lt
    have z0 : wr.cell? ⟨tb, 0, none⟩ = some (.slice p n c) := X1.cell 0
    have z1 : wr.cell? ⟨tb + 1, 0, none⟩ = some (.int .u64 (k.at_ : Int)) := X2.cell 0
    have z2 : wr.cell? ⟨tb + 1, 1, none⟩ = some (.int .u64 (k.seq : Int)) := X2.cell 1
    have HL1 := Lib.hid X1.lt
    have HL2 := Lib.hid X2.lt
    clear X1 X2
    have hwi : IntKind.i64.wrap ((i : Int) + 1) = ((i + 1 : Nat) : Int) := by rw [IntKind.wrap_i64]; omega
    by_cases hin : i = n
    · have hz : ¬ (i : Int) < (n : Int) := by omega
      have HRl : Hid (fromL k (l) = R) := Lib.hid (by rw [← HR.out, hin, List.take_of_length_le (by rw [HNN.out]; omega)])
      have KF := Lib.hid (ref_first m HG.out.row HG.out.len (by omega))
      clear hwi
      go_wp2_with fail
      refine KF.out.mono ?_
      rintro e w9 ⟨p9, n9, c9, rfl, hn9, r9, b9⟩
      have HF : Hid (RefRow w ((fromL k (l)).take m.toNat) (.returned (.slice p9 n9 c9)) w9) := Lib.hid (by
        rw [HRl.out]
        exact ⟨p9, n9, c9, rfl, hn9, Lib.hid (own_low r9.out HB0.out.size), Lib.hid (below_tr (below_tr HB0.out HG.out.lo) b9.out)⟩)
      clear hn9 r9 b9
      go_wp2_with fail
      go_ret
      exact HF.out
    · have hil : i < n := by omega
      have hz : (i : Int) < (n : Int) := by omega
      obtain ⟨e, he⟩ : ∃ e, l[i]? = some e := ⟨l[i]'(by rw [HNN.out]; exact hil), List.getElem?_eq_getElem _⟩
      obtain ⟨B, rfl, hB, s0, s1, s2⟩ := en_at (k := e.key) (v := e.val) (owns_below HO.out HG.out.lo) HNN.out he
      have KL := Lib.hid (fun W => ref_less e.key k W)
      unfold kyV at KL
      clear hin
      go_upto_region 5 with fail
      by_cases hlt : e.key.lt k
      · rw [decide_eq_true hlt] at KL
        have HS : Hid (fromL k (l.take (i + 1)) = R) := Lib.hid (by rw [from_snoc he, if_pos hlt, List.append_nil]; exact HR.out)
        clear hlt he
        go_region_held3 (fun w' => w'.cell? ⟨tb, 0, none⟩ = some (.slice (some ⟨B, 0, none⟩) n c) ∧ w'.cell? ⟨tb + 1, 0, none⟩ = some (.int .u64 (k.at_ : Int)) ∧ w'.cell? ⟨tb + 1, 1, none⟩ = some (.int .u64 (k.seq : Int)) ∧ w'.cell? ⟨B, i * 3, none⟩ = some (.int .u64 (e.key.at_ : Int)) ∧ w'.cell? ⟨B, i * 3 + 1, none⟩ = some (.int .u64 (e.key.seq : Int)))
          (first | go_keep | exact ks)
          (first | (go_at_call 39; refine (KL.out _).mono ?_; rintro e' w6 ⟨rfl, b6⟩; have ks := pl_keep (W := wr) b6 HL1.out HL2.out hB z0 z1 z2 s0 s1))
        have HG6 := Lib.hid (HG.out.below (below_tr (Below.refl _ wr).drew b6))
        clear ks b6 z0 z1 z2 s0 s1 s2 KL HG
        go_wp2_with fail
        go_roundg (n + 1 - (i + 1))
        case measure => omega
        case rel => exact ⟨i + 1, nr, cr, pr, R, rfl, by omega, rfl, by go_num, by omega, HS, HG6⟩
      · rw [decide_eq_false hlt] at KL
        have HS : Hid (fromL k (l.take (i + 1)) = R ++ [e]) := Lib.hid (by rw [from_snoc he, if_neg hlt, HR.out])
        have HY : Hid (∀ w6, Below wr.drew.heap.size wr.drew w6 → w6.cell? ⟨B, i * 3 + 2, none⟩ = some (.int .i64 e.val)) := Lib.hid fun w6 b6 => (b6.cell (p := ⟨B, i * 3 + 2, none⟩) hB).trans s2
        clear hlt he
        go_region_held3 (fun w' => w'.cell? ⟨tb, 0, none⟩ = some (.slice (some ⟨B, 0, none⟩) n c) ∧ w'.cell? ⟨tb + 1, 0, none⟩ = some (.int .u64 (k.at_ : Int)) ∧ w'.cell? ⟨tb + 1, 1, none⟩ = some (.int .u64 (k.seq : Int)) ∧ w'.cell? ⟨B, i * 3, none⟩ = some (.int .u64 (e.key.at_ : Int)) ∧ w'.cell? ⟨B, i * 3 + 1, none⟩ = some (.int .u64 (e.key.seq : Int)))
          (first | go_keep | exact ks)
          (first | (go_at_call 39; refine (KL.out _).mono ?_; rintro e' w6 ⟨rfl, b6⟩; have ks := pl_keep (W := wr) b6 HL1.out HL2.out hB z0 z1 z2 s0 s1))
        obtain ⟨y0, y1, y2, y3, y4⟩ := ks
        have y5 := HY.out w6 b6
        have HG6 := Lib.hid (HG.out.below (below_tr (Below.refl _ wr).drew b6))
        clear b6 z0 z1 z2 s0 s1 s2 KL HG HY
        go_wp2_with (at_builtin; refine wpList_append_any' _ rfl (.tmp 25) (.tmp 31) 35 rfl W.heap.size 52 i0 (.agg #[.int .u64 0, .int .u64 0, .int .i64 0]) 3 24 Try.underlying35 HI.out.1 HI.out.2.1 HI.out.2.2.1 HI.out.2.2.2 rfl (by decide) (.slice pr nr cr) nr (R.flatMap enC) rfl (HG6.out.row.alloc _) 0 _ 1 (enC e) rfl (lit_en w6 e) (en_one e) (nr + 1) rfl (by omega) (by decide) (by have := HG6.out.lo.size; simp; omega) ?_; intro p9 c9 w9 own9 gr9 lc9; have HG9 := Lib.hid ((HG6.out.below ((Below.refl _ _).alloc (Nat.le_refl _) (.cells #[.int .u64 (e.key.at_ : Int), .int .u64 (e.key.seq : Int), .int .i64 e.val] 52))).app own9 gr9 rfl); clear own9 gr9 lc9)
        go_roundg (n + 1 - (i + 1))
        case measure => omega
        case rel => exact ⟨i + 1, nr + 1, c9, p9, R ++ [e], rfl, by omega, rfl, by go_num, by omega, HS, HG9⟩
set_option maxHeartbeats 4000000 in
theorem ref_upto (p : Option Addr) (c n base : Nat) (room : Int) (l : List En) (t : Nat) (m : Int) (w : World) (hn : l.length = n) (hn6 : n ≤ 60) (h : w.ownsRow base 52 3 (.slice p n c) n (l.flatMap enC)) :
    Calls Try.prog 20 #[.agg #[.slice p n c, .int .i64 room], .int .u64 (t : Int), .int .i64 m] w (RefRow w ((uptoL t (l)).take m.toNat)) := by
  obtain ⟨W, HW⟩ : ∃ W, Hid (w.alloc (.cells #[.slice p n c, .int .i64 room] 41) = W) := ⟨_, Lib.hid rfl⟩
  have x1 : Box W w.heap.size 41 #[.slice p n c, .int .i64 room] := by rw [← HW.out]; exact Box.new _ _ _
  have bl : Below w.heap.size w W := by rw [← HW.out]; exact (Below.refl _ _).alloc (Nat.le_refl _) _
  obtain ⟨tb, HTB⟩ : ∃ q, Hid (w.heap.size = q) := ⟨_, Lib.hid rfl⟩
  rw [HTB.out] at x1
  have HX1 := Lib.hid x1
  have HB0 := Lib.hid bl
  have HO := Lib.hid (owns_below h bl)
  have HNN := Lib.hid hn
  obtain ⟨i0, hi1, hi2, hi3, hi4⟩ := info_parts (P := Try.prog) (e := 52) (z := .agg #[.int .u64 0, .int .u64 0, .int .i64 0]) (size := 3) (bytes := 24) (by kernel_rfl)
  have HI := Lib.hid (And.intro hi1 (And.intro hi2 (And.intro hi3 hi4)))
  have HG0 : Hid (GrowR W W none 0 0 (uptoL t (l.take 0))) := Lib.hid ⟨⟨rfl, .inl ⟨rfl, rfl⟩⟩, rfl, Below.refl _ _⟩
  clear x1 bl h hn hi1 hi2 hi3 hi4
  go_enter Try.func20, Try.ntmps20
  go_upto_region 1 with fail
  rw [HW.out]
  rw [HTB.out]
  go_wp2_with fail
  go_loopg [7, 8] (n + 1) (fun q v7 v8 wx => ∃ (i nr cr : Nat) (pr : Option Addr) (R : List En), n + 1 - i = q ∧ i ≤ n ∧ v7 = .slice pr nr cr ∧ v8 = .int .i64 (i : Int) ∧ nr ≤ i ∧ Hid (uptoL t (l.take i) = R) ∧ Hid (GrowR W wx pr nr cr R))
  case atStart => exact ⟨0, 0, 0, none, _, rfl, by omega, rfl, rfl, by omega, Lib.hid rfl, HG0⟩
  case round =>
    obtain ⟨i, nr, cr, pr, R, rfl, hi, rfl, rfl, hnr, HR, HG⟩ := hrel
    clear HG0
    have X1 := HX1.out.below HG.out.lo HX1.out.lt
    have z0 : wr.cell? ⟨tb, 0, none⟩ = some (.slice p n c) := X1.cell 0
    have HL1 := Lib.hid X1.lt
    clear X1
    have hwi : IntKind.i64.wrap ((i : Int) + 1) = ((i + 1 : Nat) : Int) := by rw [IntKind.wrap_i64]; omega
    by_cases hin : i = n
    · have hz : ¬ (i : Int) < (n : Int) := by omega
      have HRl : Hid (uptoL t (l) = R) := Lib.hid (by rw [← HR.out, hin, List.take_of_length_le (by rw [HNN.out]; omega)])
      have KF := Lib.hid (ref_first m HG.out.row HG.out.len (by omega))
      clear hwi
      go_wp2_with fail
      refine KF.out.mono ?_
      rintro e w9 ⟨p9, n9, c9, rfl, hn9, r9, b9⟩
      have HF : Hid (RefRow w ((uptoL t (l)).take m.toNat) (.returned (.slice p9 n9 c9)) w9) := Lib.hid (by
        rw [HRl.out]
        exact ⟨p9, n9, c9, rfl, hn9, Lib.hid (own_low r9.out HB0.out.size), Lib.hid (below_tr (below_tr HB0.out HG.out.lo) b9.out)⟩)
      clear hn9 r9 b9
      go_wp2_with fail
      go_ret
      exact HF.out
    · have hil : i < n := by omega
      have hz : (i : Int) < (n : Int) := by omega
      obtain ⟨e, he⟩ : ∃ e, l[i]? = some e := ⟨l[i]'(by rw [HNN.out]; exact hil), List.getElem?_eq_getElem _⟩
      obtain ⟨B, rfl, hB, s0, s1, s2⟩ := en_at (k := e.key) (v := e.val) (owns_below HO.out HG.out.lo) HNN.out he
      clear hin
      by_cases hlt : e.key.at_ ≤ t
      · have hltz : (e.key.at_ : Int) ≤ (t : Int) := by omega
        have HS : Hid (uptoL t (l.take (i + 1)) = R ++ [e]) := Lib.hid (by rw [upto_snoc he, if_pos hlt, HR.out])
        have HG6 := HG
        clear hlt he
        go_wp2_with (at_builtin; refine wpList_append_any' _ rfl (.tmp 25) (.tmp 31) 35 rfl W.heap.size 52 i0 (.agg #[.int .u64 0, .int .u64 0, .int .i64 0]) 3 24 Try.underlying35 HI.out.1 HI.out.2.1 HI.out.2.2.1 HI.out.2.2.2 rfl (by decide) (.slice pr nr cr) nr (R.flatMap enC) rfl (HG6.out.row.alloc _) 0 _ 1 (enC e) rfl (lit_en wr e) (en_one e) (nr + 1) rfl (by omega) (by decide) (by have := HG6.out.lo.size; simp; omega) ?_; intro p9 c9 w9 own9 gr9 lc9; have HG9 := Lib.hid ((HG6.out.below ((Below.refl _ _).alloc (Nat.le_refl _) (.cells #[.int .u64 (e.key.at_ : Int), .int .u64 (e.key.seq : Int), .int .i64 e.val] 52))).app own9 gr9 rfl); clear own9 gr9 lc9)
        go_roundg (n + 1 - (i + 1))
        case measure => omega
        case rel => exact ⟨i + 1, nr + 1, c9, p9, R ++ [e], rfl, by omega, rfl, by go_num, by omega, HS, HG9⟩
      · have hltz : ¬ (e.key.at_ : Int) ≤ (t : Int) := by omega
        have HS : Hid (uptoL t (l.take (i + 1)) = R) := Lib.hid (by rw [upto_snoc he, if_neg hlt, List.append_nil]; exact HR.out)
        clear hlt he
        go_wp2_with fail
        go_roundg (n + 1 - (i + 1))
        case measure => omega
        case rel => exact ⟨i + 1, nr, cr, pr, R, rfl, by omega, rfl, by go_num, by omega, HS, HG⟩

end Go.Proofs.Ytfedjeojanpnpab

/- The document's own Sweep. -/
namespace Go.Proofs.Ytfedjeojanpnpab
open Go.RowKit
set_option linter.unusedVariables false
set_option linter.unusedSimpArgs false

def RefSweep (w : World) (X : List En) (kn : Ky) (e : Ending) (w' : World) : Prop := ∃ p n c, e = .returned (.tuple #[.slice p n c, kyV kn]) ∧ X.length = n ∧ Hid (w'.ownsRow w.heap.size 52 3 (.slice p n c) n (X.flatMap enC)) ∧ Hid (Below w.heap.size w w')
theorem above_snoc {k : Ky} {l : List En} {i : Nat} {e : En} (h : l[i]? = some e) : aboveL k (l.take (i + 1)) = aboveL k (l.take i) ++ (if k.lt e.key then [e] else []) := by
  obtain ⟨h1, rfl⟩ := List.getElem?_eq_some_iff.1 h
  rw [List.take_succ_eq_append_getElem h1]
  unfold aboveL
  rw [List.filter_append]
  congr 1
  by_cases c : k.lt l[i].key <;> simp [c]
theorem below_snoc {k : Ky} {l : List En} {i : Nat} {e : En} (h : l[i]? = some e) : belowL k (l.take (i + 1)) = belowL k (l.take i) ++ (if k.lt e.key then [] else [e]) := by
  obtain ⟨h1, rfl⟩ := List.getElem?_eq_some_iff.1 h
  rw [List.take_succ_eq_append_getElem h1]
  unfold belowL
  rw [List.filter_append]
  congr 1
  by_cases c : k.lt l[i].key <;> simp [c]
/-- Two rows that grow, each apart from the other one. -/
structure GrowT (W wx : World) (p1 : Option Addr) (n1 c1 : Nat) (R1 : List En) (p2 : Option Addr) (n2 c2 : Nat) (R2 : List En) : Prop where
  g1 : GrowR W wx p1 n1 c1 R1
  g2 : GrowR W wx p2 n2 c2 R2
  ap : (Value.slice p1 n1 c1).ownBlock = none ∨ (Value.slice p1 n1 c1).ownBlock ≠ (Value.slice p2 n2 c2).ownBlock
section
variable {W wx w' : World} {p1 p2 p' : Option Addr} {n1 c1 n2 c2 n' c' : Nat} {R1 R2 : List En} {e : En}
theorem GrowT.swap (h : GrowT W wx p1 n1 c1 R1 p2 n2 c2 R2) : GrowT W wx p2 n2 c2 R2 p1 n1 c1 R1 :=
  ⟨h.g2, h.g1, by
    rcases h.ap with a | a
    · by_cases c : (Value.slice p2 n2 c2).ownBlock = none
      · exact .inl c
      · exact .inr (fun e => c (e.trans a))
    · exact .inr (fun e => a e.symm)⟩
theorem GrowT.below (h : GrowT W wx p1 n1 c1 R1 p2 n2 c2 R2) (b : Below wx.heap.size wx w') : GrowT W w' p1 n1 c1 R1 p2 n2 c2 R2 := ⟨h.g1.below b, h.g2.below b, h.ap⟩
theorem GrowT.app (h : GrowT W wx p1 n1 c1 R1 p2 n2 c2 R2) (r : w'.ownsRow W.heap.size 52 3 (.slice p' n' c') n' (R1.flatMap enC ++ enC e)) (g : wx.grownBy w' (Value.slice p1 n1 c1).ownBlock) (hb : (Value.slice p' n' c').ownBlock = (Value.slice p1 n1 c1).ownBlock ∨ (Value.slice p' n' c').ownBlock = some wx.heap.size) (hn : n1 + 1 = n') : GrowT W w' p' n' c' (R1 ++ [e]) p2 n2 c2 R2 := by
  have g1 := h.g1.app r g hn
  refine ⟨g1, ⟨h.g2.row.kept g (h.swap.ap), h.g2.len, g1.lo⟩, ?_⟩
  rcases hb with e' | e'
  · rw [e']; exact h.ap
  · rw [e']
    refine .inr (fun e2 => ?_)
    have := (h.g2.row.lt _ e2.symm).2
    omega
end
theorem growR_join {W wx w' : World} {p1 p' : Option Addr} {n1 c1 n2 n' c' : Nat} {R1 R2 : List En} (h : GrowR W wx p1 n1 c1 R1) (hl : R2.length = n2) (r : w'.ownsRow W.heap.size 52 3 (.slice p' n' c') n' (R1.flatMap enC ++ R2.flatMap enC)) (g : wx.grownBy w' (Value.slice p1 n1 c1).ownBlock) (hn : n1 + n2 = n') : GrowR W w' p' n' c' (R1 ++ R2) :=
  ⟨by rw [List.flatMap_append]; exact r, by rw [List.length_append, h.len, hl, hn], h.lo.grown g h.lo.size (fun k e => (h.row.lt k e).1)⟩

set_option maxHeartbeats 8000000 in
theorem ref_sweep (p : Option Addr) (c n base : Nat) (room : Int) (l : List En) (k : Ky) (m : Int) (w : World) (hn : l.length = n) (hn6 : n ≤ 60) (h : w.ownsRow base 52 3 (.slice p n c) n (l.flatMap enC)) :
    Calls Try.prog 16 #[.agg #[.slice p n c, .int .i64 room], kyV k, .int .i64 m] w (RefSweep w ((roundL k l).take m.toNat) (lastK ((roundL k l).take m.toNat) k)) := by
  unfold kyV
  obtain ⟨W1, HW1⟩ : ∃ W, Hid ((w.alloc (.cells #[.slice p n c, .int .i64 room] 41)).alloc (.cells #[.int .u64 (k.at_ : Int), .int .u64 (k.seq : Int)] 27) = W) := ⟨_, Lib.hid rfl⟩
  obtain ⟨x1, x2, bl⟩ := box2 HW1.out
  obtain ⟨W, HW⟩ : ∃ W, Hid (W1.alloc (.cells #[.int .u64 0, .int .u64 0] 27) = W) := ⟨_, Lib.hid rfl⟩
  have bl2 : Below W1.heap.size W1 W := by
    rw [← HW.out]
    exact (Below.refl _ _).alloc (Nat.le_refl _) _
  have hsz : W1.heap.size = w.heap.size + 1 + 1 := by
    rw [← HW1.out, World.size_alloc, World.size_alloc]
  have x3 : Box W (w.heap.size + 1 + 1) 27 #[.int .u64 0, .int .u64 0] := by
    rw [← HW.out, ← hsz]
    exact Box.new _ _ _
  have x1 := x1.below bl2 x1.lt
  have x2 := x2.below bl2 x2.lt
  have bl := below_tr bl bl2
  obtain ⟨tb, HTB⟩ : ∃ q, Hid (w.heap.size = q) := ⟨_, Lib.hid rfl⟩
  rw [HTB.out] at x1 x2 x3
  have HX1 := Lib.hid x1
  have HX2 := Lib.hid x2
  have HX3 := Lib.hid x3
  have HB0 := Lib.hid bl
  have HO := Lib.hid (owns_below h bl)
  have HNN := Lib.hid hn
  obtain ⟨i0, hi1, hi2, hi3, hi4⟩ := info_parts (P := Try.prog) (e := 52) (z := .agg #[.int .u64 0, .int .u64 0, .int .i64 0]) (size := 3) (bytes := 24) (by kernel_rfl)
  have HI := Lib.hid (And.intro hi1 (And.intro hi2 (And.intro hi3 hi4)))
  have HG0 : Hid (GrowT W W none 0 0 (aboveL k (l.take 0)) none 0 0 (belowL k (l.take 0))) := Lib.hid ⟨⟨⟨rfl, .inl ⟨rfl, rfl⟩⟩, rfl, Below.refl _ _⟩, ⟨⟨rfl, .inl ⟨rfl, rfl⟩⟩, rfl, Below.refl _ _⟩, .inl rfl⟩
  clear x1 x2 x3 bl bl2 h hn hsz hi1 hi2 hi3 hi4
  go_enter Try.func16, Try.ntmps16
  go_upto_region 1 with fail
  rw [HW1.out]
  rw [HW.out]
  rw [HTB.out]
  go_wp2_with fail
  go_loopg [8, 9, 10] (n + 1) (fun q v8 v9 v10 wx => ∃ (i n1 d1 n2 d2 : Nat) (p1 p2 : Option Addr) (R1 R2 : List En), n + 1 - i = q ∧ i ≤ n ∧ v8 = .slice p1 n1 d1 ∧ v9 = .slice p2 n2 d2 ∧ v10 = .int .i64 (i : Int) ∧ n1 ≤ i ∧ n2 ≤ i ∧ Hid (aboveL k (l.take i) = R1 ∧ belowL k (l.take i) = R2) ∧ Hid (GrowT W wx p1 n1 d1 R1 p2 n2 d2 R2))
  case atStart => exact ⟨0, 0, 0, 0, 0, none, none, _, _, rfl, by omega, rfl, rfl, rfl, by omega, by omega, Lib.hid ⟨rfl, rfl⟩, HG0⟩
  case round =>
    obtain ⟨i, n1, d1, n2, d2, p1, p2, R1, R2, rfl, hi, rfl, rfl, rfl, hn1, hn2, HR, HG⟩ := hrel
    clear HG0
    have X1 := HX1.out.below HG.out.g1.lo HX1.out.lt
    have X2 := HX2.out.below HG.out.g1.lo HX2.out.lt
    have X3 := HX3.out.below HG.out.g1.lo HX3.out.lt
    have z0 : wr.cell? ⟨tb, 0, none⟩ = some (.slice p n c) := X1.cell 0
    have z1 : wr.cell? ⟨tb + 1, 0, none⟩ = some (.int .u64 (k.at_ : Int)) := X2.cell 0
    have z2 : wr.cell? ⟨tb + 1, 1, none⟩ = some (.int .u64 (k.seq : Int)) := X2.cell 1
    have HL1 := Lib.hid X1.lt
    have HL2 := Lib.hid X2.lt
    have HX2w := Lib.hid X2
    have HX3w := Lib.hid X3
    clear X1 X2 X3
    have hwi : IntKind.i64.wrap ((i : Int) + 1) = ((i + 1 : Nat) : Int) := by rw [IntKind.wrap_i64]; omega
    by_cases hin : i = n
    · have hz : ¬ (i : Int) < (n : Int) := by omega
      have HRl : Hid (R1 ++ R2 = roundL k l) := Lib.hid (by
        rw [← HR.out.1, ← HR.out.2, hin, List.take_of_length_le (by rw [HNN.out]; omega)]
        rfl)
      have hn12 : n1 + n2 ≤ 120 := by omega
      have HF : Hid (∀ (p3 : Option Addr) (c3 : Nat) (w3 : World), w3.ownsRow W.heap.size 52 3 (.slice p3 (n1 + n2) c3) (n1 + n2) (R1.flatMap enC ++ R2.flatMap enC) → wr.grownBy w3 (Value.slice p1 n1 d1).ownBlock → Hid (Calls Try.prog 40 #[.slice p3 (n1 + n2) c3, .int .i64 m] w3 fun e w' => ∃ p' n' c', e = .returned (.slice p' n' c') ∧ ((roundL k l).take m.toNat).length = n' ∧ Hid (w'.ownsRow W.heap.size 52 3 (.slice p' n' c') n' (((roundL k l).take m.toNat).flatMap enC) ∧ Below W.heap.size W w'))) := Lib.hid fun p3 c3 w3 o3 g3 => by
        have gj := growR_join HG.out.g1 HG.out.g2.len o3 g3 rfl
        rw [HRl.out] at gj
        refine Lib.hid ((ref_first m gj.row gj.len (by omega)).mono ?_)
        rintro e w' ⟨p', n', c', rfl, h1, h2, h3⟩
        exact ⟨p', n', c', rfl, h1, Lib.hid ⟨h2.out, below_tr gj.lo h3.out⟩⟩
      clear hwi z1 z2
      go_upto_region 9 with (first
        | (at_builtin; refine wpList_append_any' _ rfl (.tmp 43) (.tmp 44) 35 rfl W.heap.size 52 i0 (.agg #[.int .u64 0, .int .u64 0, .int .i64 0]) 3 24 Try.underlying35 HI.out.1 HI.out.2.1 HI.out.2.2.1 HI.out.2.2.2 rfl (by decide) (.slice p1 n1 d1) n1 (R1.flatMap enC) rfl HG.out.g1.row W.heap.size (.slice p2 n2 d2) n2 (R2.flatMap enC) rfl HG.out.g2.row (one_cells R2) (n1 + n2) rfl (by omega) (by decide) HG.out.g1.lo.size ?_; intro p3 c3 w3 own3 gr3 lc3; have KF := HF.out p3 c3 w3 own3 gr3; clear own3 gr3 lc3 z0)
        | (go_at_call 40; refine KF.out.mono ?_; rintro e w9 ⟨p9, n9, c9, rfl, hn9, H9⟩; clear KF))
      obtain ⟨X, HXX⟩ : ∃ X, Hid ((roundL k l).take m.toNat = X) := ⟨_, Lib.hid rfl⟩
      rw [HXX.out] at H9 hn9 ⊢
      have X2 : Box w9 (tb + 1) 27 #[.int .u64 (k.at_ : Int), .int .u64 (k.seq : Int)] := HX2.out.below H9.out.2 HX2.out.lt
      have X3 : Box w9 (tb + 1 + 1) 27 #[.int .u64 0, .int .u64 0] := HX3.out.below H9.out.2 HX3.out.lt
      have y0 := X2.cell 0
      have y1 := X2.cell 1
      have e0 := X3.cell 0
      have e1 := X3.cell 1
      have f0 := X3.frozen 0
      have f1 := X3.frozen 1
      have hsz : w.heap.size ≤ tb + 1 + 1 := by rw [HTB.out]; omega
      have HB9 := Lib.hid (below_tr HB0.out H9.out.2)
      by_cases h90 : n9 = 0
      · subst h90
        obtain rfl : X = [] := List.length_eq_zero_iff.1 hn9
        have bx5 := (X3.set 0 (.int .u64 (k.at_ : Int))).set 1 (.int .u64 (k.seq : Int))
        have g0 := bx5.cell 0
        have g1 := bx5.cell 1
        simp at g0 g1
        have HFin : Hid (∀ W9, W9 = ((w9.setCell ⟨tb + 1 + 1, 0, none⟩ (.int .u64 (k.at_ : Int))).setCell ⟨tb + 1 + 1, 1, none⟩ (.int .u64 (k.seq : Int))).drew → RefSweep w [] (lastK [] k) (.returned (.tuple #[.slice none 0 0, .agg #[.int .u64 (k.at_ : Int), .int .u64 (k.seq : Int)]])) W9) := Lib.hid fun W9 e => by
          subst e
          exact ⟨none, 0, 0, rfl, rfl, Lib.hid ⟨rfl, .inl ⟨rfl, rfl⟩⟩, Lib.hid (((HB9.out.setCell hsz _).setCell hsz _).drew)⟩
        clear bx5 X2 X3 hn9
        go_wp2_with fail
        go_region
        go_wp2_with fail
        refine bodyPost_ret (v := .tuple #[.slice none 0 0, .agg #[.int .u64 (k.at_ : Int), .int .u64 (k.seq : Int)]]) ?_ rfl ?_
        · simp [results, Try.f16, go_sem, g0, g1]
        · rw [HXX.out]
          exact HFin.out _ rfl
      · obtain ⟨s', rfl⟩ : ∃ s', n9 = s' + 1 := ⟨n9 - 1, by omega⟩
        obtain ⟨gx, hgx, hgl, a0, a1, a2⟩ := en_cells (p := p9) (c := c9) (l := X) (n := s' + 1) (i := s') (by have := H9.out.1; rw [← hn9] at this ⊢; exact this) (by omega)
        subst hgx
        have hlast : lastK X k = (X[s']'(by omega)).key := by
          have h9 : X.getLast? = some (X[s']'(by omega)) := by
            rw [List.getLast?_eq_getElem?, show X.length - 1 = s' by omega]
            exact List.getElem?_eq_getElem _
          unfold lastK
          rw [h9]
          rfl
        obtain ⟨z, HZ⟩ : ∃ z, Hid (X[s']'(by omega) = z) := ⟨_, Lib.hid rfl⟩
        rw [HZ.out] at a0 a1 hlast
        have bx5 := (X3.set 0 (.int .u64 (z.key.at_ : Int))).set 1 (.int .u64 (z.key.seq : Int))
        have g0 := bx5.cell 0
        have g1 := bx5.cell 1
        simp at g0 g1
        have hwl : IntKind.i64.wrap ((s' : Int) + 1 - 1) = (s' : Int) := by
          have hb : X.length ≤ n := by rw [← HXX.out, List.length_take, round_len, HNN.out]; omega
          rw [IntKind.wrap_i64]; omega
        have hwl2 : IntKind.i64.wrap (s' : Int) = (s' : Int) := by
          have hb : X.length ≤ n := by rw [← HXX.out, List.length_take, round_len, HNN.out]; omega
          rw [IntKind.wrap_i64]; omega
        have hne0 : (((s' : Int) + 1) == 0) = false := by rw [beq_eq_false_iff_ne]; omega
        have hlt0 : (s' : Int) < (s' : Int) + 1 := by omega
        have hge0 : (0 : Int) ≤ (s' : Int) := by omega
        have hne : (Value.slice (some ⟨gx, 0, none⟩) (s' + 1) c9).ownBlock ≠ some (tb + 1 + 1) := X3.not_row H9.out.1 (by decide)
        have HFin : Hid (RefSweep w X (lastK X k) (.returned (.tuple #[.slice (some ⟨gx, 0, none⟩) (s' + 1) c9, .agg #[.int .u64 (z.key.at_ : Int), .int .u64 (z.key.seq : Int)]])) ((w9.setCell ⟨tb + 1 + 1, 0, none⟩ (.int .u64 (z.key.at_ : Int))).setCell ⟨tb + 1 + 1, 1, none⟩ (.int .u64 (z.key.seq : Int))).drew) := Lib.hid (by
          rw [hlast]
          exact ⟨_, _, _, rfl, hn9, Lib.hid ((own_low (own_set (own_set H9.out.1 hne) hne) HB0.out.size)), Lib.hid (((HB9.out.setCell hsz _).setCell hsz _).drew)⟩)
        clear HZ hgl a2 hlast hne y0 y1 bx5 X2 X3 hn9
        go_wp2_with fail
        go_region
        go_wp2_with fail
        refine bodyPost_ret (v := .tuple #[.slice (some ⟨gx, 0, none⟩) (s' + 1) c9, .agg #[.int .u64 (z.key.at_ : Int), .int .u64 (z.key.seq : Int)]]) ?_ rfl ?_
        · simp [results, Try.f16, go_sem, g0, g1]
        · rw [HXX.out]
          exact HFin.out
    · have hil : i < n := by omega
      have hz : (i : Int) < (n : Int) := by omega
      obtain ⟨e, he⟩ : ∃ e, l[i]? = some e := ⟨l[i]'(by rw [HNN.out]; exact hil), List.getElem?_eq_getElem _⟩
      obtain ⟨B, rfl, hB, s0, s1, s2⟩ := en_at (k := e.key) (v := e.val) (owns_below HO.out HG.out.g1.lo) HNN.out he
      have KL := Lib.hid (fun W => ref_less k e.key W)
      unfold kyV at KL
      clear hin
      go_upto_region 5 with fail
      have HY : Hid (∀ w6, Below wr.drew.heap.size wr.drew w6 → w6.cell? ⟨B, i * 3 + 2, none⟩ = some (.int .i64 e.val)) := Lib.hid fun w6 b6 => (b6.cell (p := ⟨B, i * 3 + 2, none⟩) hB).trans s2
      by_cases hlt : k.lt e.key
      · rw [decide_eq_true hlt] at KL
        have HS : Hid (aboveL k (l.take (i + 1)) = R1 ++ [e] ∧ belowL k (l.take (i + 1)) = R2) := Lib.hid (by rw [above_snoc he, below_snoc he, if_pos hlt, if_pos hlt, List.append_nil, HR.out.1, HR.out.2]; exact ⟨rfl, rfl⟩)
        clear hlt he
        go_region_held3 (fun w' => w'.cell? ⟨tb, 0, none⟩ = some (.slice (some ⟨B, 0, none⟩) n c) ∧ w'.cell? ⟨tb + 1, 0, none⟩ = some (.int .u64 (k.at_ : Int)) ∧ w'.cell? ⟨tb + 1, 1, none⟩ = some (.int .u64 (k.seq : Int)) ∧ w'.cell? ⟨B, i * 3, none⟩ = some (.int .u64 (e.key.at_ : Int)) ∧ w'.cell? ⟨B, i * 3 + 1, none⟩ = some (.int .u64 (e.key.seq : Int)))
          (first | go_keep | exact ks)
          (first | (go_at_call 39; refine (KL.out _).mono ?_; rintro e' w6 ⟨rfl, b6⟩; have ks := pl_keep (W := wr) b6 HL1.out HL2.out hB z0 z1 z2 s0 s1))
        obtain ⟨y0, y1, y2, y3, y4⟩ := ks
        have y5 := HY.out w6 b6
        have HG6 := Lib.hid (HG.out.below (below_tr (Below.refl _ wr).drew b6))
        clear b6 z0 z1 z2 s0 s1 s2 KL HG HY
        go_wp2_with (at_builtin; refine wpList_append_any' _ rfl (.tmp 27) (.tmp 33) 35 rfl W.heap.size 52 i0 (.agg #[.int .u64 0, .int .u64 0, .int .i64 0]) 3 24 Try.underlying35 HI.out.1 HI.out.2.1 HI.out.2.2.1 HI.out.2.2.2 rfl (by decide) (.slice p1 n1 d1) n1 (R1.flatMap enC) rfl (HG6.out.g1.row.alloc _) 0 _ 1 (enC e) rfl (lit_en w6 e) (en_one e) (n1 + 1) rfl (by omega) (by decide) (by have := HG6.out.g1.lo.size; simp; omega) ?_; intro p9 c9 w9 own9 gr9 lc9; have HG9 := Lib.hid ((HG6.out.below ((Below.refl _ _).alloc (Nat.le_refl _) (.cells #[.int .u64 (e.key.at_ : Int), .int .u64 (e.key.seq : Int), .int .i64 e.val] 52))).app own9 gr9 lc9 rfl); clear own9 gr9 lc9)
        go_roundg (n + 1 - (i + 1))
        case measure => omega
        case rel => exact ⟨i + 1, n1 + 1, c9, n2, d2, p9, p2, R1 ++ [e], R2, rfl, by omega, rfl, rfl, by go_num, by omega, by omega, HS, HG9⟩
      · rw [decide_eq_false hlt] at KL
        have HS : Hid (aboveL k (l.take (i + 1)) = R1 ∧ belowL k (l.take (i + 1)) = R2 ++ [e]) := Lib.hid (by rw [above_snoc he, below_snoc he, if_neg hlt, if_neg hlt, List.append_nil, HR.out.1, HR.out.2]; exact ⟨rfl, rfl⟩)
        clear hlt he
        go_region_held3 (fun w' => w'.cell? ⟨tb, 0, none⟩ = some (.slice (some ⟨B, 0, none⟩) n c) ∧ w'.cell? ⟨tb + 1, 0, none⟩ = some (.int .u64 (k.at_ : Int)) ∧ w'.cell? ⟨tb + 1, 1, none⟩ = some (.int .u64 (k.seq : Int)) ∧ w'.cell? ⟨B, i * 3, none⟩ = some (.int .u64 (e.key.at_ : Int)) ∧ w'.cell? ⟨B, i * 3 + 1, none⟩ = some (.int .u64 (e.key.seq : Int)))
          (first | go_keep | exact ks)
          (first | (go_at_call 39; refine (KL.out _).mono ?_; rintro e' w6 ⟨rfl, b6⟩; have ks := pl_keep (W := wr) b6 HL1.out HL2.out hB z0 z1 z2 s0 s1))
        obtain ⟨y0, y1, y2, y3, y4⟩ := ks
        have y5 := HY.out w6 b6
        have HG6 := Lib.hid (HG.out.below (below_tr (Below.refl _ wr).drew b6))
        clear b6 z0 z1 z2 s0 s1 s2 KL HG HY
        go_wp2_with (at_builtin; refine wpList_append_any' _ rfl (.tmp 35) (.tmp 41) 35 rfl W.heap.size 52 i0 (.agg #[.int .u64 0, .int .u64 0, .int .i64 0]) 3 24 Try.underlying35 HI.out.1 HI.out.2.1 HI.out.2.2.1 HI.out.2.2.2 rfl (by decide) (.slice p2 n2 d2) n2 (R2.flatMap enC) rfl (HG6.out.g2.row.alloc _) 0 _ 1 (enC e) rfl (lit_en w6 e) (en_one e) (n2 + 1) rfl (by omega) (by decide) (by have := HG6.out.g1.lo.size; simp; omega) ?_; intro p9 c9 w9 own9 gr9 lc9; have HG9 := Lib.hid (((HG6.out.below ((Below.refl _ _).alloc (Nat.le_refl _) (.cells #[.int .u64 (e.key.at_ : Int), .int .u64 (e.key.seq : Int), .int .i64 e.val] 52))).swap.app own9 gr9 lc9 rfl).swap); clear own9 gr9 lc9)
        go_roundg (n + 1 - (i + 1))
        case measure => omega
        case rel => exact ⟨i + 1, n1, d1, n2 + 1, c9, p1, p9, R1, R2 ++ [e], rfl, by omega, rfl, rfl, by go_num, by omega, by omega, HS, HG9⟩

end Go.Proofs.Ytfedjeojanpnpab
