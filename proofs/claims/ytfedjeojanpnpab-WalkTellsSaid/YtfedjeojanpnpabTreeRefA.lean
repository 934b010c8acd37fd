/-
  The document's own tree (sandglassref06): place.
-/
import Derived.Test.YtfedjeojanpnpabTreeRef
import Derived.Test.YtfedjeojanpnpabTreeRows
namespace Go.Proofs.Ytfedjeojanpnpab
open Go.RowKit
set_option linter.unusedVariables false

/-- Where a key stands, or would. -/
def plc (k : Ky) (l : List En) : Nat := (l.takeWhile fun e => decide (e.key.lt k)).length
theorem plc_le (k : Ky) (l : List En) : plc k l ≤ l.length := (List.takeWhile_sublist _).length_le
theorem plc_is {k : Ky} : ∀ {l : List En} {i : Nat}, i ≤ l.length → (∀ x, x ∈ l.take i → x.key.lt k) → (∀ e, l[i]? = some e → ¬ e.key.lt k) → plc k l = i
  | [], i, hi, _, _ => by
    have : i = 0 := by simpa using hi
    subst this
    rfl
  | a :: t, 0, _, _, h => by
    have h1 := h a rfl
    unfold plc
    rw [List.takeWhile_cons, if_neg (by simpa using h1)]
    rfl
  | a :: t, i + 1, hi, hb, h => by
    have h1 := hb a (by simp)
    have ih := plc_is (k := k) (l := t) (i := i) (by simpa using hi) (fun x hx => hb x (by simp [hx])) (fun e he => h e he)
    unfold plc at ih ⊢
    rw [List.takeWhile_cons, if_pos (by simpa using h1), List.length_cons, ih]
/-- It is there, if it stands at its place. -/
theorem plc_get {k : Ky} {l : List En} (h : Rises l) {i : Nat} (hb : ∀ x, x ∈ l.take i → x.key.lt k) (ha : ∀ e, l[i]? = some e → ¬ e.key.lt k) : (getL k l).isSome = (match l[i]? with | some e => decide (e.key = k) | none => false) := by
  cases he : l[i]? with
  | none =>
    have hl : l.length ≤ i := List.getElem?_eq_none_iff.1 he
    rw [List.take_of_length_le hl] at hb
    cases hg : getL k l with
    | none => rfl
    | some v =>
      have h1 := hb _ (getL_some hg)
      exact absurd h1 (Ky.lt_irrefl k)
  | some e =>
    obtain ⟨hi, e1⟩ := List.getElem?_eq_some_iff.1 he
    show _ = decide (e.key = k)
    by_cases c : e.key = k
    · rw [decide_eq_true c, ← c, getL_of h (List.mem_of_getElem? he)]
      rfl
    · rw [decide_eq_false c]
      cases hg : getL k l with
      | none => rfl
      | some v =>
        exfalso
        have hm := getL_some hg
        obtain ⟨j, hj, ej⟩ := List.getElem_of_mem hm
        have hlt : k.lt e.key := by
          rcases Ky.cases k e.key with h1 | h1 | h1
          · exact h1
          · exact absurd h1.symm c
          · exact absurd h1 (ha e he)
        rcases Nat.lt_or_ge j i with h2 | h2
        · have h3 := hb l[j] (List.mem_take_iff_getElem.2 ⟨j, by omega, rfl⟩)
          rw [ej] at h3
          exact Ky.lt_irrefl k h3
        · rcases Nat.lt_or_ge i j with h3 | h3
          · have h4 := (List.pairwise_iff_getElem.1 h) i j hi hj h3
            rw [ej, e1] at h4
            exact Ky.lt_asymm hlt h4
          · have h5 : i = j := by omega
            subst h5
            rw [ej] at e1
            exact c (by rw [← e1])

theorem pl_keep {W W' : World} {tb kb B i : Nat} {v0 v1 v2 v3 v4 : Value} (b : Below W.drew.heap.size W.drew W') (h1 : tb < W.heap.size) (h2 : kb < W.heap.size) (h3 : B < W.heap.size) (z0 : W.cell? ⟨tb, 0, none⟩ = some v0) (z1 : W.cell? ⟨kb, 0, none⟩ = some v1) (z2 : W.cell? ⟨kb, 1, none⟩ = some v2) (s0 : W.cell? ⟨B, i * 3, none⟩ = some v3) (s1 : W.cell? ⟨B, i * 3 + 1, none⟩ = some v4) :
    W'.cell? ⟨tb, 0, none⟩ = some v0 ∧ W'.cell? ⟨kb, 0, none⟩ = some v1 ∧ W'.cell? ⟨kb, 1, none⟩ = some v2 ∧ W'.cell? ⟨B, i * 3, none⟩ = some v3 ∧ W'.cell? ⟨B, i * 3 + 1, none⟩ = some v4 :=
  ⟨(b.cell (p := ⟨tb, 0, none⟩) h1).trans z0, (b.cell (p := ⟨kb, 0, none⟩) h2).trans z1, (b.cell (p := ⟨kb, 1, none⟩) h2).trans z2, (b.cell (p := ⟨B, i * 3, none⟩) h3).trans s0, (b.cell (p := ⟨B, i * 3 + 1, none⟩) h3).trans s1⟩

set_option maxHeartbeats 4000000 in
theorem ref_place (p : Option Addr) (c n base : Nat) (room : Int) (l : List En) (k : Ky) (w : World) (hn : l.length = n) (hn6 : n ≤ 65536) (hr : Rises l) (h : w.ownsRow base 52 3 (.slice p n c) n (l.flatMap enC)) :
    Calls Try.prog 43 #[.agg #[.slice p n c, .int .i64 room], kyV k] w fun e w' => e = .returned (.tuple #[.int .i64 (plc k l : Nat), .bool (getL k l).isSome]) ∧ Below w.heap.size w w' := by
  unfold kyV
  have x1 := (Box.new w 41 #[.slice p n c, .int .i64 room]).alloc (.cells #[.int .u64 (k.at_ : Int), .int .u64 (k.seq : Int)] 27)
  have x2 := Box.new (w.alloc (.cells #[.slice p n c, .int .i64 room] 41)) 27 #[.int .u64 (k.at_ : Int), .int .u64 (k.seq : Int)]
  rw [World.size_alloc] at x2
  have HB0 := Lib.hid (((Below.refl _ w).alloc (Nat.le_refl _) (.cells #[.slice p n c, .int .i64 room] 41)).alloc (by rw [World.size_alloc]; omega) (.cells #[.int .u64 (k.at_ : Int), .int .u64 (k.seq : Int)] 27))
  obtain ⟨W, HW⟩ : ∃ W, Hid (((w.alloc (.cells #[.slice p n c, .int .i64 room] 41)).alloc (.cells #[.int .u64 (k.at_ : Int), .int .u64 (k.seq : Int)] 27)) = W) := ⟨_, Lib.hid rfl⟩
  rw [HW.out] at x1 x2 HB0
  obtain ⟨tb, HTB⟩ : ∃ q, Hid (w.heap.size = q) := ⟨_, Lib.hid rfl⟩
  rw [HTB.out] at x1 x2
  have HX1 := Lib.hid x1
  have HX2 := Lib.hid x2
  have HRW := Lib.hid (owns_below h HB0.out)
  have HRI := Lib.hid hr
  have HNN := Lib.hid hn
  clear x1 x2 h hr hn
  go_enter Try.func43, Try.ntmps43
  go_upto_region 1 with fail
  rw [HW.out, HTB.out]
  go_wp2_with fail
  go_loopg [6] (n + 1) (fun q iv wx => ∃ (i : Nat), n + 1 - i = q ∧ i ≤ n ∧ iv = .int .i64 (i : Int) ∧ Hid (∀ x, x ∈ l.take i → x.key.lt k) ∧ Hid (Below W.heap.size W wx))
  case atStart => exact ⟨0, rfl, by omega, rfl, Lib.hid (fun x hx => by simp at hx), Lib.hid (Below.refl _ _)⟩
  case round =>
    obtain ⟨i, rfl, hi, rfl, HT, HB⟩ := hrel
    have X1 := HX1.out.below HB.out HX1.out.lt
    have X2 := HX2.out.below HB.out HX2.out.lt
    have z0 : wr.cell? ⟨tb, 0, none⟩ = some (.slice p n c) := X1.cell 0
    have z1 : wr.cell? ⟨tb + 1, 0, none⟩ = some (.int .u64 (k.at_ : Int)) := X2.cell 0
    have z2 : wr.cell? ⟨tb + 1, 1, none⟩ = some (.int .u64 (k.seq : Int)) := X2.cell 1
    have HL1 := Lib.hid X1.lt
    have HL2 := Lib.hid X2.lt
    clear X1 X2
    by_cases hin : i = n
    · have hz : ¬ (i : Int) < (n : Int) := by omega
      have hzn : decide (i < n) = false := by simp; omega
      have hno : l[i]? = none := List.getElem?_eq_none (by rw [HNN.out]; omega)
      have HE1 : Hid (plc k l = i) := Lib.hid (plc_is (by rw [HNN.out]; exact hi) HT.out (fun e he => by rw [hno] at he; cases he))
      have HE2 : Hid ((getL k l).isSome = false) := by
        have h1 := plc_get HRI.out HT.out (fun e he => by rw [hno] at he; cases he)
        rw [hno] at h1
        exact Lib.hid h1
      clear hin hno
      go_upto_region 2 with fail
      go_quiet (fail)
      go_wp2_with fail
      go_quiet (fail)
      go_wp2_with fail
      go_ret2
      refine ⟨by rw [HE1.out, HE2.out]; rfl, ?_⟩
      exact below_tr (below_tr (below_tr HB0.out HB.out) (below_drewN (Below.refl _ wr) _)) (below_drewN (Below.refl _ _) _)
    · have hil : i < n := by omega
      have hz : (i : Int) < (n : Int) := by omega
      have hzn : decide (i < n) = true := by simp; omega
      obtain ⟨e, he⟩ : ∃ e, l[i]? = some e := ⟨l[i]'(by rw [HNN.out]; exact hil), List.getElem?_eq_getElem _⟩
      obtain ⟨B, rfl, hB, s0, s1, s2⟩ := en_at (k := e.key) (v := e.val) (owns_below HRW.out HB.out) HNN.out he
      have KL := Lib.hid (fun W => ref_less e.key k W)
      unfold kyV at KL
      clear hin s2
      go_upto_region 2 with fail
      by_cases hlt : e.key.lt k
      · rw [decide_eq_true hlt] at KL
        have HT2 : Hid (∀ x, x ∈ l.take (i + 1) → x.key.lt k) := by
          refine Lib.hid fun x hx => ?_
          obtain ⟨h1, h2⟩ := List.getElem?_eq_some_iff.1 he
          rw [List.take_succ_eq_append_getElem h1] at hx
          rcases List.mem_append.1 hx with h3 | h3
          · exact HT.out x h3
          · rw [List.mem_singleton.1 h3, h2]
            exact hlt
        clear hlt he
        go_region_held3 (fun w' => w'.cell? ⟨tb, 0, none⟩ = some (.slice (some ⟨B, 0, none⟩) n c) ∧ w'.cell? ⟨tb + 1, 0, none⟩ = some (.int .u64 (k.at_ : Int)) ∧ w'.cell? ⟨tb + 1, 1, none⟩ = some (.int .u64 (k.seq : Int)) ∧ w'.cell? ⟨B, i * 3, none⟩ = some (.int .u64 (e.key.at_ : Int)) ∧ w'.cell? ⟨B, i * 3 + 1, none⟩ = some (.int .u64 (e.key.seq : Int)))
          (first | go_keep | exact ks)
          (first | (go_at_call 39; refine (KL.out _).mono ?_; rintro e' w6 ⟨rfl, b6⟩; have ks := pl_keep (W := wr) b6 HL1.out HL2.out hB z0 z1 z2 s0 s1))
        have HB6 := Lib.hid (below_tr (below_tr HB.out (Below.refl _ wr).drew) b6)
        clear ks b6 z0 z1 z2 s0 s1 KL HB
        go_wp2_with fail
        go_roundg (n + 1 - (i + 1))
        case measure => omega
        case rel => exact ⟨i + 1, rfl, by omega, by go_num, HT2, HB6⟩
      · rw [decide_eq_false hlt] at KL
        have HE1 : Hid (plc k l = i) := Lib.hid (plc_is (by rw [HNN.out]; exact hi) HT.out (fun x hx => by rw [he] at hx; cases hx; exact hlt))
        have HE2 : Hid ((getL k l).isSome = decide (e.key = k)) := by
          have h1 := plc_get HRI.out HT.out (fun x hx => by rw [he] at hx; cases hx; exact hlt)
          rw [he] at h1
          exact Lib.hid h1
        clear hlt he
        by_cases hk : e.key = k
        · rw [decide_eq_true hk] at HE2
          rw [hk] at s0 s1 KL
          clear hk
          go_region_held3 (fun w' => w'.cell? ⟨tb, 0, none⟩ = some (.slice (some ⟨B, 0, none⟩) n c) ∧ w'.cell? ⟨tb + 1, 0, none⟩ = some (.int .u64 (k.at_ : Int)) ∧ w'.cell? ⟨tb + 1, 1, none⟩ = some (.int .u64 (k.seq : Int)) ∧ w'.cell? ⟨B, i * 3, none⟩ = some (.int .u64 (k.at_ : Int)) ∧ w'.cell? ⟨B, i * 3 + 1, none⟩ = some (.int .u64 (k.seq : Int)))
            (first | go_keep | exact ks)
            (first | (go_at_call 39; refine (KL.out _).mono ?_; rintro e' w6 ⟨rfl, b6⟩; have ks := pl_keep (W := wr) b6 HL1.out HL2.out hB z0 z1 z2 s0 s1))
          obtain ⟨y0, y1, y2, y3, y4⟩ := ks
          have HB6 := Lib.hid (below_tr (below_tr HB.out (Below.refl _ wr).drew) b6)
          clear b6 z0 z1 z2 s0 s1 KL HB
          go_wp2_with fail
          go_quiet (fail)
          go_wp2_with fail
          go_ret2
          exact ⟨by rw [HE1.out, HE2.out]; rfl, below_tr (below_tr HB0.out HB6.out) (below_drewN (Below.refl _ _) _)⟩
        · rw [decide_eq_false hk] at HE2
          by_cases h0 : e.key.at_ = k.at_
          · have h1 : ¬ e.key.seq = k.seq := by
              intro h1
              apply hk
              cases hx : e.key
              cases k
              rw [hx] at h0 h1
              simp only at h0 h1
              rw [h0, h1]
            rw [h0] at s0 KL
            have h1z : ((e.key.seq : Int) == (k.seq : Int)) = false := by rw [beq_eq_false_iff_ne]; omega
            clear hk h0 h1
            go_region_held3 (fun w' => w'.cell? ⟨tb, 0, none⟩ = some (.slice (some ⟨B, 0, none⟩) n c) ∧ w'.cell? ⟨tb + 1, 0, none⟩ = some (.int .u64 (k.at_ : Int)) ∧ w'.cell? ⟨tb + 1, 1, none⟩ = some (.int .u64 (k.seq : Int)) ∧ w'.cell? ⟨B, i * 3, none⟩ = some (.int .u64 (k.at_ : Int)) ∧ w'.cell? ⟨B, i * 3 + 1, none⟩ = some (.int .u64 (e.key.seq : Int)))
              (first | go_keep | exact ks)
              (first | (go_at_call 39; refine (KL.out _).mono ?_; rintro e' w6 ⟨rfl, b6⟩; have ks := pl_keep (W := wr) b6 HL1.out HL2.out hB z0 z1 z2 s0 s1))
            obtain ⟨y0, y1, y2, y3, y4⟩ := ks
            have HB6 := Lib.hid (below_tr (below_tr HB.out (Below.refl _ wr).drew) b6)
            clear b6 z0 z1 z2 s0 s1 KL HB
            go_wp2_with fail
            go_quiet (fail)
            go_wp2_with fail
            go_ret2
            exact ⟨by rw [HE1.out, HE2.out]; rfl, below_tr (below_tr HB0.out HB6.out) (below_drewN (Below.refl _ _) _)⟩
          · have h0z : ((e.key.at_ : Int) == (k.at_ : Int)) = false := by rw [beq_eq_false_iff_ne]; omega
            clear hk h0
            go_region_held3 (fun w' => w'.cell? ⟨tb, 0, none⟩ = some (.slice (some ⟨B, 0, none⟩) n c) ∧ w'.cell? ⟨tb + 1, 0, none⟩ = some (.int .u64 (k.at_ : Int)) ∧ w'.cell? ⟨tb + 1, 1, none⟩ = some (.int .u64 (k.seq : Int)) ∧ w'.cell? ⟨B, i * 3, none⟩ = some (.int .u64 (e.key.at_ : Int)) ∧ w'.cell? ⟨B, i * 3 + 1, none⟩ = some (.int .u64 (e.key.seq : Int)))
              (first | go_keep | exact ks)
              (first | (go_at_call 39; refine (KL.out _).mono ?_; rintro e' w6 ⟨rfl, b6⟩; have ks := pl_keep (W := wr) b6 HL1.out HL2.out hB z0 z1 z2 s0 s1))
            obtain ⟨y0, y1, y2, y3, y4⟩ := ks
            have HB6 := Lib.hid (below_tr (below_tr HB.out (Below.refl _ wr).drew) b6)
            clear b6 z0 z1 z2 s0 s1 KL HB
            go_wp2_with fail
            go_quiet (fail)
            go_wp2_with fail
            go_ret2
            exact ⟨by rw [HE1.out, HE2.out]; rfl, below_tr (below_tr HB0.out HB6.out) (below_drewN (Below.refl _ _) _)⟩

end Go.Proofs.Ytfedjeojanpnpab

/- The document's own tree (sandglassref06): Get and Next. -/
namespace Go.Proofs.Ytfedjeojanpnpab
open Go.RowKit
set_option linter.unusedVariables false

/-- A key that is there stands at its place. -/
theorem plc_at {k : Ky} {v : Int} {l : List En} (h : Rises l) (hg : getL k l = some v) : l[plc k l]? = some ⟨k, v⟩ := by
  obtain ⟨i, hi, ei⟩ := List.getElem_of_mem (getL_some hg)
  have hp : plc k l = i := by
    refine plc_is (by omega) (fun x hx => ?_) (fun e he => ?_)
    · obtain ⟨j, hj, rfl⟩ := List.mem_take_iff_getElem.1 hx
      have := (List.pairwise_iff_getElem.1 h) j i (by omega) hi (by omega)
      rw [ei] at this
      exact this
    · rw [List.getElem?_eq_getElem hi, ei] at he
      cases he
      exact Ky.lt_irrefl k
  rw [hp, List.getElem?_eq_getElem hi, ei]
theorem box2 {w W : World} {t1 t2 : TypeId} {c1 c2 : Array Value} (h : (w.alloc (.cells c1 t1)).alloc (.cells c2 t2) = W) : Box W w.heap.size t1 c1 ∧ Box W (w.heap.size + 1) t2 c2 ∧ Below w.heap.size w W := by
  subst h
  refine ⟨(Box.new _ _ _).alloc _, ?_, ((Below.refl _ _).alloc (Nat.le_refl _) _).alloc (by rw [World.size_alloc]; omega) _⟩
  have := Box.new (w.alloc (.cells c1 t1)) t2 c2
  rw [World.size_alloc] at this
  exact this
theorem nx_keep {W W' : World} {tb kb B i : Nat} {v0 v1 v2 v3 v4 : Value} (b : Below W.drew.heap.size W.drew W') (h1 : tb < W.heap.size) (h2 : kb < W.heap.size) (h3 : B < W.heap.size) (z0 : W.cell? ⟨tb, 0, none⟩ = some v0) (z1 : W.cell? ⟨kb, 0, none⟩ = some v1) (z2 : W.cell? ⟨kb, 1, none⟩ = some v2) (s0 : W.cell? ⟨B, i * 3, none⟩ = some v3) (s1 : W.cell? ⟨B, i * 3 + 1, none⟩ = some v4) :
    W'.cell? ⟨tb, 0, none⟩ = some v0 ∧ W'.cell? ⟨kb, 0, none⟩ = some v1 ∧ W'.cell? ⟨kb, 1, none⟩ = some v2 ∧ W'.cell? ⟨B, i * 3, none⟩ = some v3 ∧ W'.cell? ⟨B, i * 3 + 1, none⟩ = some v4 := pl_keep b h1 h2 h3 z0 z1 z2 s0 s1
end Go.Proofs.Ytfedjeojanpnpab
