/-
  The document's own tree (sandglassref06): Get and Next.
-/
import Derived.Test.YtagjgfmkfljneaaTreeRefA
import Derived.Test.YtagjgfmkfljneaaTreeNextPlayed
namespace Go.Proofs.Ytagjgfmkfljneaa
open Go.RowKit
set_option linter.unusedVariables false

/-- A key that is there stands at its place. -/
theorem plc_at {k : Ky} {v : Int} {l : List En} (h : Rises l) (hg : getL k l = some v) : l[plc k l]? = some ⟨k, v⟩ := by
  obtain ⟨i, hi, ei⟩ := List.getElem_of_mem (getL_some hg)
  have hp : plc k l = i := by
    refine plc_is (by omega) (fun x hx => ?_) (fun e he => ?_)
    · obtain ⟨j, hj, rfl⟩ := List.mem_take_iff_getElem.1 hx
      have := (List.pairwise_iff_getElem.1 h) j i (by omega) hi (by omega)
      rw [ei] at this
      exact this
    · rw [List.getElem?_eq_getElem hi, ei] at he
      cases he
      exact Ky.lt_irrefl k
  rw [hp, List.getElem?_eq_getElem hi, ei]
theorem box2 {w W : World} {t1 t2 : TypeId} {c1 c2 : Array Value} (h : (w.alloc (.cells c1 t1)).alloc (.cells c2 t2) = W) : Box W w.heap.size t1 c1 ∧ Box W (w.heap.size + 1) t2 c2 ∧ Below w.heap.size w W := by
  subst h
  refine ⟨(Box.new _ _ _).alloc _, ?_, ((Below.refl _ _).alloc (Nat.le_refl _) _).alloc (by rw [World.size_alloc]; omega) _⟩
  have := Box.new (w.alloc (.cells c1 t1)) t2 c2
  rw [World.size_alloc] at this
  exact this
theorem ref_get (p : Option Addr) (c n base : Nat) (room : Int) (l : List En) (k : Ky) (w : World) (hn : l.length = n) (hn6 : n ≤ 65536) (hr : Rises l) (h : w.ownsRow base 44 3 (.slice p n c) n (l.flatMap enC)) :
    Calls Try.prog 16 #[.agg #[.slice p n c, .int .i64 room], kyV k] w fun e w' => e = .returned (outI (getL k l)) ∧ Below w.heap.size w w' := by
  unfold kyV
  obtain ⟨W, HW⟩ : ∃ W, Hid ((w.alloc (.cells #[.slice p n c, .int .i64 room] 30)).alloc (.cells #[.int .u64 (k.at_ : Int), .int .u64 (k.seq : Int)] 33) = W) := ⟨_, Lib.hid rfl⟩
  obtain ⟨x1, x2, bl⟩ := box2 HW.out
  have KP := Lib.hid (ref_place p c n base room l k W hn hn6 hr (owns_below h bl))
  unfold kyV at KP
  obtain ⟨tb, HTB⟩ : ∃ q, Hid (w.heap.size = q) := ⟨_, Lib.hid rfl⟩
  rw [HTB.out] at x1 x2
  have z0 : W.cell? ⟨tb, 0, none⟩ = some (.slice p n c) := x1.cell 0
  have z1 : W.cell? ⟨tb, 1, none⟩ = some (.int .i64 room) := x1.cell 1
  have z2 : W.cell? ⟨tb + 1, 0, none⟩ = some (.int .u64 (k.at_ : Int)) := x2.cell 0
  have z3 : W.cell? ⟨tb + 1, 1, none⟩ = some (.int .u64 (k.seq : Int)) := x2.cell 1
  have HX1 := Lib.hid x1
  have HB := Lib.hid bl
  have HO := Lib.hid (owns_below h bl)
  have HRI := Lib.hid hr
  have HNN := Lib.hid hn
  clear x1 x2 bl h hr hn
  go_enter Try.func16, Try.ntmps16
  go_upto_region 1 with fail
  rw [HW.out, HTB.out]
  go_wp2_with fail
  refine KP.out.mono ?_
  rintro e w2 ⟨rfl, b2⟩
  have HB2 := Lib.hid (below_tr HB.out b2)
  cases hg : getL k l with
  | none =>
    have HG := Lib.hid hg
    clear b2 KP HW z0 z1 z2 z3 HX1 hg
    simp only [Option.isSome]
    go_wp2_with fail
    go_ret2
    exact ⟨by rw [HG.out]; rfl, HB2.out⟩
  | some v =>
    have HG := Lib.hid hg
    have hat := plc_at HRI.out hg
    obtain ⟨B, rfl, hB, s0, s1, s2⟩ := en_at (owns_below HO.out b2) HNN.out hat
    have y0 : w2.cell? ⟨tb, 0, none⟩ = some (.slice (some ⟨B, 0, none⟩) n c) := (HX1.out.below b2 HX1.out.lt).cell 0
    have hpl : plc k l < n := by rw [← HNN.out]; exact (List.getElem?_eq_some_iff.1 hat).1
    have hplz : ((plc k l : Nat) : Int) < (n : Int) := by omega
    clear b2 KP HW z0 z1 z2 z3 HX1 hat hg HO
    simp only [Option.isSome]
    generalize plc k l = i at *
    go_wp2_with fail
    go_ret2
    exact ⟨by rw [HG.out]; rfl, HB2.out⟩
theorem nx_keep {W W' : World} {tb kb B i : Nat} {v0 v1 v2 v3 v4 : Value} (b : Below W.drew.heap.size W.drew W') (h1 : tb < W.heap.size) (h2 : kb < W.heap.size) (h3 : B < W.heap.size) (z0 : W.cell? ⟨tb, 0, none⟩ = some v0) (z1 : W.cell? ⟨kb, 0, none⟩ = some v1) (z2 : W.cell? ⟨kb, 1, none⟩ = some v2) (s0 : W.cell? ⟨B, i * 3, none⟩ = some v3) (s1 : W.cell? ⟨B, i * 3 + 1, none⟩ = some v4) :
    W'.cell? ⟨tb, 0, none⟩ = some v0 ∧ W'.cell? ⟨kb, 0, none⟩ = some v1 ∧ W'.cell? ⟨kb, 1, none⟩ = some v2 ∧ W'.cell? ⟨B, i * 3, none⟩ = some v3 ∧ W'.cell? ⟨B, i * 3 + 1, none⟩ = some v4 := pl_keep b h1 h2 h3 z0 z1 z2 s0 s1
set_option maxHeartbeats 4000000 in
theorem ref_next (p : Option Addr) (c n base : Nat) (room : Int) (l : List En) (k : Ky) (w : World) (hn : l.length = n) (hn6 : n ≤ 65536) (h : w.ownsRow base 44 3 (.slice p n c) n (l.flatMap enC)) :
    Calls Try.prog 18 #[.agg #[.slice p n c, .int .i64 room], kyV k] w fun e w' => e = .returned (outE (nextL k l)) ∧ Below w.heap.size w w' := by
  unfold kyV
  obtain ⟨W1, HW1⟩ : ∃ W, Hid ((w.alloc (.cells #[.slice p n c, .int .i64 room] 30)).alloc (.cells #[.int .u64 (k.at_ : Int), .int .u64 (k.seq : Int)] 33) = W) := ⟨_, Lib.hid rfl⟩
  obtain ⟨x1, x2, bl⟩ := box2 HW1.out
  obtain ⟨W, HW⟩ : ∃ W, Hid (W1.alloc (.cells #[.int .u64 0, .int .u64 0, .int .i64 0] 44) = W) := ⟨_, Lib.hid rfl⟩
  have bl2 : Below W1.heap.size W1 W := by
    rw [← HW.out]
    exact (Below.refl _ _).alloc (Nat.le_refl _) _
  have hsz : W1.heap.size = w.heap.size + 1 + 1 := by
    rw [← HW1.out, World.size_alloc, World.size_alloc]
  have x3 : Box W (w.heap.size + 1 + 1) 44 #[.int .u64 0, .int .u64 0, .int .i64 0] := by
    rw [← HW.out, ← hsz]
    exact Box.new _ _ _
  have x1 := x1.below bl2 x1.lt
  have x2 := x2.below bl2 x2.lt
  have bl := below_tr bl bl2
  obtain ⟨tb, HTB⟩ : ∃ q, Hid (w.heap.size = q) := ⟨_, Lib.hid rfl⟩
  rw [HTB.out] at x1 x2 x3
  have HX1 := Lib.hid x1
  have HX2 := Lib.hid x2
  have HX3 := Lib.hid x3
  have HB0 := Lib.hid bl
  have HO := Lib.hid (owns_below h bl)
  have HNN := Lib.hid hn
  clear x1 x2 x3 bl bl2 h hn hsz
  go_enter Try.func18, Try.ntmps18
  go_upto_region 1 with fail
  rw [HW1.out]
  rw [HW.out]
  rw [HTB.out]
  go_wp2_with fail
  go_loopg [6] (n + 1) (fun q iv wx => ∃ (i : Nat), n + 1 - i = q ∧ i ≤ n ∧ iv = .int .i64 (i : Int) ∧ Hid (∀ x, x ∈ l.take i → ¬ k.lt x.key) ∧ Hid (Below W.heap.size W wx))
  case atStart => exact ⟨0, rfl, by omega, rfl, Lib.hid (fun x hx => by simp at hx), Lib.hid (Below.refl _ _)⟩
  case round =>
    obtain ⟨i, rfl, hi, rfl, HT, HB⟩ := hrel
    have X1 := HX1.out.below HB.out HX1.out.lt
    have X2 := HX2.out.below HB.out HX2.out.lt
    have X3 := HX3.out.below HB.out HX3.out.lt
    have z0 : wr.cell? ⟨tb, 0, none⟩ = some (.slice p n c) := X1.cell 0
    have z1 : wr.cell? ⟨tb + 1, 0, none⟩ = some (.int .u64 (k.at_ : Int)) := X2.cell 0
    have z2 : wr.cell? ⟨tb + 1, 1, none⟩ = some (.int .u64 (k.seq : Int)) := X2.cell 1
    have HL1 := Lib.hid X1.lt
    have HL2 := Lib.hid X2.lt
    have HL3 := Lib.hid X3
    clear X1 X2 X3
    have hsz : w.heap.size ≤ tb + 1 + 1 := by rw [HTB.out]; omega
    by_cases hin : i = n
    · have hz : ¬ (i : Int) < (n : Int) := by omega
      have HE : Hid (nextL k l = none) := Lib.hid (next_none (fun x hx => HT.out x (by rw [List.take_of_length_le (by rw [HNN.out]; omega)]; exact hx)))
      have e0 := HL3.out.cell 0
      have e1 := HL3.out.cell 1
      have e2 := HL3.out.cell 2
      have f0 := HL3.out.frozen 0
      have f1 := HL3.out.frozen 1
      have f2 := HL3.out.frozen 2
      have bx5 := ((HL3.out.set 0 (.int .u64 0)).set 1 (.int .u64 0)).set 2 (.int .i64 0)
      have g0 := bx5.cell 0
      have g1 := bx5.cell 1
      have g2 := bx5.cell 2
      simp at g0 g1 g2
      have HBB := Lib.hid (below_tr HB0.out HB.out)
      clear hin bx5 HB HT
      go_wp2_with fail
      refine bodyPost_ret (v := .tuple #[.agg #[.int .u64 0, .int .u64 0, .int .i64 0], .bool false]) ?_ rfl ⟨?_, ?_⟩
      · simp [results, Try.f18, go_sem, g0, g1, g2]
      · rw [HE.out]
        rfl
      · exact ((HBB.out.setCell hsz _).setCell hsz _).setCell hsz _
    · have hil : i < n := by omega
      have hz : (i : Int) < (n : Int) := by omega
      obtain ⟨e, he⟩ : ∃ e, l[i]? = some e := ⟨l[i]'(by rw [HNN.out]; exact hil), List.getElem?_eq_getElem _⟩
      obtain ⟨B, rfl, hB, s0, s1, s2⟩ := en_at (k := e.key) (v := e.val) (owns_below HO.out HB.out) HNN.out he
      have KL := Lib.hid (fun W => ref_less k e.key W)
      unfold kyV at KL
      clear hin
      go_upto_region 4 with fail
      by_cases hlt : k.lt e.key
      · rw [decide_eq_true hlt] at KL
        have HE : Hid (nextL k l = some e) := Lib.hid (next_first he HT.out hlt)
        have HY : Hid (∀ w6, Below wr.drew.heap.size wr.drew w6 → w6.cell? ⟨B, i * 3 + 2, none⟩ = some (.int .i64 e.val) ∧ Box w6 (tb + 1 + 1) 44 #[.int .u64 0, .int .u64 0, .int .i64 0]) := Lib.hid fun w6 b6 => ⟨(b6.cell (p := ⟨B, i * 3 + 2, none⟩) hB).trans s2, HL3.out.below (below_tr (Below.refl _ wr).drew b6) HL3.out.lt⟩
        clear hlt he
        go_region_held3 (fun w' => w'.cell? ⟨tb, 0, none⟩ = some (.slice (some ⟨B, 0, none⟩) n c) ∧ w'.cell? ⟨tb + 1, 0, none⟩ = some (.int .u64 (k.at_ : Int)) ∧ w'.cell? ⟨tb + 1, 1, none⟩ = some (.int .u64 (k.seq : Int)) ∧ w'.cell? ⟨B, i * 3, none⟩ = some (.int .u64 (e.key.at_ : Int)) ∧ w'.cell? ⟨B, i * 3 + 1, none⟩ = some (.int .u64 (e.key.seq : Int)))
          (first | go_keep | exact ks)
          (first | (go_at_call 39; refine (KL.out _).mono ?_; rintro e' w6 ⟨rfl, b6⟩; have ks := nx_keep (W := wr) b6 HL1.out HL2.out hB z0 z1 z2 s0 s1))
        obtain ⟨y0, y1, y2, y3, y4⟩ := ks
        obtain ⟨y5, X6⟩ := HY.out w6 b6
        have e0 := X6.cell 0
        have e1 := X6.cell 1
        have e2 := X6.cell 2
        have f0 := X6.frozen 0
        have f1 := X6.frozen 1
        have f2 := X6.frozen 2
        have bx5 := ((X6.set 0 (.int .u64 (e.key.at_ : Int))).set 1 (.int .u64 (e.key.seq : Int))).set 2 (.int .i64 e.val)
        have g0 := bx5.cell 0
        have g1 := bx5.cell 1
        have g2 := bx5.cell 2
        simp at g0 g1 g2
        have HBB := Lib.hid (below_tr (below_tr HB0.out HB.out) (below_tr (Below.refl _ wr).drew b6))
        clear b6 z0 z1 z2 s0 s1 s2 KL HB X6 bx5 HY
        go_wp2_with fail
        refine bodyPost_ret (v := .tuple #[.agg #[.int .u64 (e.key.at_ : Int), .int .u64 (e.key.seq : Int), .int .i64 e.val], .bool true]) ?_ rfl ⟨?_, ?_⟩
        · simp [results, Try.f18, go_sem, g0, g1, g2]
        · rw [HE.out]
          rfl
        · exact ((HBB.out.setCell hsz _).setCell hsz _).setCell hsz _
      · rw [decide_eq_false hlt] at KL
        have HT2 : Hid (∀ x, x ∈ l.take (i + 1) → ¬ k.lt x.key) := by
          refine Lib.hid fun x hx => ?_
          obtain ⟨h1, h2⟩ := List.getElem?_eq_some_iff.1 he
          rw [List.take_succ_eq_append_getElem h1] at hx
          rcases List.mem_append.1 hx with h3 | h3
          · exact HT.out x h3
          · rw [List.mem_singleton.1 h3, h2]
            exact hlt
        clear hlt he
        go_region_held3 (fun w' => w'.cell? ⟨tb, 0, none⟩ = some (.slice (some ⟨B, 0, none⟩) n c) ∧ w'.cell? ⟨tb + 1, 0, none⟩ = some (.int .u64 (k.at_ : Int)) ∧ w'.cell? ⟨tb + 1, 1, none⟩ = some (.int .u64 (k.seq : Int)) ∧ w'.cell? ⟨B, i * 3, none⟩ = some (.int .u64 (e.key.at_ : Int)) ∧ w'.cell? ⟨B, i * 3 + 1, none⟩ = some (.int .u64 (e.key.seq : Int)))
          (first | go_keep | exact ks)
          (first | (go_at_call 39; refine (KL.out _).mono ?_; rintro e' w6 ⟨rfl, b6⟩; have ks := nx_keep (W := wr) b6 HL1.out HL2.out hB z0 z1 z2 s0 s1))
        have HB6 := Lib.hid (below_tr HB.out (below_tr (Below.refl _ wr).drew b6))
        clear ks b6 z0 z1 z2 s0 s1 s2 KL HB
        go_wp2_with fail
        go_roundg (n + 1 - (i + 1))
        case measure => omega
        case rel => exact ⟨i + 1, rfl, by omega, by go_num, HT2, HB6⟩

end Go.Proofs.Ytagjgfmkfljneaa
