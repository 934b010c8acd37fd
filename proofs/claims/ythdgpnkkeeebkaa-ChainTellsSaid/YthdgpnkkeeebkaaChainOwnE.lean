/-
  The program's own chains: New, at the rows.
-/
import Derived.Test.YthdgpnkkeeebkaaChainOwnD
namespace Go.Proofs.Ythdgpnkkeeebkaa
open Go.RowKit
set_option linter.unusedVariables false

/-- make of k elements, each of some cells: the world behind it. -/
theorem run_make_cells {P : Program} (t e : TypeId) (i : TypeInfo) (z : Value) (size : Nat) (ht : P.underlying t = some (.slice e)) (hi : P.info? e = some i) (hz : i.zero = some z) (hsize : i.size = size)
    (L : Int) (k : Nat) (hL : L = (k : Int)) (hbytes : (i.bytes : Int) * k ≤ 281474976710656) (h63 : k ≤ 65600) (W : World) :
    (Instr.makeSlice t (.int .i64 L) (.int .i64 L)).run P W = .ok (.slice (some ⟨W.heap.size, 0, none⟩) k k) (W.alloc (.cells (madeCells z.cells (k * size)) e)) := by
  subst hL
  have hrun := run_make (P := P) W t e i z ht hi hz .i64 .i64 k k (by omega) (by omega) hbytes (by omega)
  simp only [Int.toNat_natCast, hsize] at hrun
  exact hrun

theorem raw_new_no (lists nodes : Int) (w : World) (h : lists < 1 ∨ 64 < lists ∨ nodes < 1 ∨ 65536 < nodes) : Calls Try.prog 9 #[.int .i64 lists, .int .i64 nodes] w fun e w' => e = .returned (.tuple #[.pointer none, .int .i64 2]) ∧ w' = w := by
  by_cases h1 : lists < 1
  · clear h
    go_enter Try.func9, Try.ntmps9
    go_wp2_with fail
    go_ret2
    exact ⟨rfl, rfl⟩
  by_cases h2 : 64 < lists
  · clear h
    go_enter Try.func9, Try.ntmps9
    go_wp2_with fail
    go_ret2
    exact ⟨rfl, rfl⟩
  by_cases h3 : nodes < 1
  · clear h
    go_enter Try.func9, Try.ntmps9
    go_wp2_with fail
    go_ret2
    exact ⟨rfl, rfl⟩
  · have h4 : 65536 < nodes := by omega
    clear h
    go_enter Try.func9, Try.ntmps9
    go_wp2_with fail
    go_ret2
    exact ⟨rfl, rfl⟩

theorem heap4 (w : World) (o1 o2 o3 o4 : Obj) : ((((w.alloc o1).alloc o2).alloc o3).alloc o4).drew.heap[w.heap.size]? = some o1 ∧ ((((w.alloc o1).alloc o2).alloc o3).alloc o4).drew.heap[w.heap.size + 1]? = some o2 ∧ ((((w.alloc o1).alloc o2).alloc o3).alloc o4).drew.heap[w.heap.size + 1 + 1]? = some o3 ∧ ((((w.alloc o1).alloc o2).alloc o3).alloc o4).drew.heap[w.heap.size + 1 + 1 + 1]? = some o4 := by
  show (((((w.heap.push o1).push o2).push o3).push o4)[w.heap.size]? = some o1) ∧ (((((w.heap.push o1).push o2).push o3).push o4)[w.heap.size + 1]? = some o2) ∧ (((((w.heap.push o1).push o2).push o3).push o4)[w.heap.size + 1 + 1]? = some o3) ∧ (((((w.heap.push o1).push o2).push o3).push o4)[w.heap.size + 1 + 1 + 1]? = some o4)
  generalize w.heap = h
  refine ⟨?_, ?_, ?_, ?_⟩
  · rw [Array.getElem?_push, if_neg (by simp; omega), Array.getElem?_push, if_neg (by simp; omega), Array.getElem?_push, if_neg (by simp), Array.getElem?_push, if_pos rfl]
  · rw [Array.getElem?_push, if_neg (by simp <;> omega), Array.getElem?_push, if_neg (by simp), Array.getElem?_push, if_pos (by simp)]
  · rw [Array.getElem?_push, if_neg (by simp), Array.getElem?_push, if_pos (by simp)]
  · rw [Array.getElem?_push, if_pos (by simp)]
theorem below4 (w : World) (o1 o2 o3 o4 : Obj) : Below w.heap.size w ((((w.alloc o1).alloc o2).alloc o3).alloc o4).drew :=
  (((((Below.refl _ w).alloc (Nat.le_refl _) o1).alloc (by rw [World.size_alloc]; omega) o2).alloc (by rw [World.size_alloc, World.size_alloc]; omega) o3).alloc (by rw [World.size_alloc, World.size_alloc, World.size_alloc]; omega) o4).drew
theorem raw_fresh {w W : World} {n m b : Nat} {zl zn zm : Array Value} (gl gh gs : Nat) (ne : gh ≠ gs) (m1 : 1 ≤ m) (m2 : m ≤ 64) (n2 : n ≤ 65536) (HL : zl.size = (n + m) * 2 ∧ ∀ i, i < (n + m) * 2 → zl[i]? = some (natV 0)) (HN : zn.size = n ∧ ∀ i, i < n → zn[i]? = some (natV 0)) (HM : zm.size = m ∧ ∀ i, i < m → zm[i]? = some (natV 0))
    (hb : Box W b 58 #[.slice (some ⟨gl, 0, none⟩) (n + m) (n + m), .slice (some ⟨gh, 0, none⟩) n n, .slice (some ⟨gs, 0, none⟩) m m]) (h1 : Box W gl 63 zl) (h2 : Box W gh 3 zn) (h3 : Box W gs 3 zm) (k1 : w.heap.size ≤ b) (k2 : w.heap.size ≤ gl) (k3 : w.heap.size ≤ gh ∧ w.heap.size ≤ gs) (bl : Below w.heap.size w W) :
    ∃ b' gl gh gs, Value.pointer (some ⟨b, 0, none⟩) = .pointer (some ⟨b', 0, none⟩) ∧ Hid (Raw W b' gl gh gs n m (fun _ => 0) (fun _ => 0) (fun _ => 0)) ∧ Hid (∀ k, Own4 b' gl gh gs k → w.heap.size ≤ k) ∧ Hid (Below w.heap.size w W) := by
  refine ⟨b, gl, gh, gs, rfl, Lib.hid ⟨hb, ⟨zl, h1, HL⟩, ⟨zn, h2, HN⟩, ⟨zm, h3, HM⟩, ne, n2, m1, m2⟩, Lib.hid ?_, Lib.hid bl⟩
  rintro k (rfl | rfl | rfl | rfl)
  · exact k1
  · exact k2
  · exact k3.1
  · exact k3.2

def NewR (w : World) (n m : Nat) (e : Ending) (w' : World) : Prop :=
  ∃ b gl gh gs K, e = .returned (.tuple #[.pointer (some ⟨b, 0, none⟩), .int .i64 0]) ∧ Raw w' b gl gh gs n m K (fun _ => 0) (fun _ => 0) ∧ (∀ i, i < m → Ring K (n + i) []) ∧ (∀ k, Own4 b gl gh gs k → w.heap.size ≤ k) ∧ Below w.heap.size w w'
theorem raw_new (m n : Nat) (w : World) (m1 : 1 ≤ m) (m2 : m ≤ 64) (n1 : 1 ≤ n) (n2 : n ≤ 65536) :
    Calls Try.prog 9 #[.int .i64 (m : Int), .int .i64 (n : Int)] w (NewR w n m) := by
  have a1 : ¬ (m : Int) < 1 := by omega
  have a2 : ¬ (64 : Int) < (m : Int) := by omega
  have a3 : ¬ (n : Int) < 1 := by omega
  have a4 : ¬ (65536 : Int) < (n : Int) := by omega
  obtain ⟨inf, hi1, hi2, hi3, hi4⟩ := info_parts (P := Try.prog) (e := 3) (z := .int .i64 0) (size := 1) (bytes := 8) (by kernel_rfl)
  obtain ⟨inl, hl1, hl2, hl3, hl4⟩ := info_parts (P := Try.prog) (e := 63) (z := .agg #[.int .i64 0, .int .i64 0]) (size := 2) (bytes := 16) (by kernel_rfl)
  obtain ⟨zn, HZN⟩ : ∃ z, Hid (madeCells (Value.int .i64 0).cells (n * 1) = z) := ⟨_, Lib.hid rfl⟩
  obtain ⟨zm, HZM⟩ : ∃ z, Hid (madeCells (Value.int .i64 0).cells (m * 1) = z) := ⟨_, Lib.hid rfl⟩
  obtain ⟨zl, HZL⟩ : ∃ z, Hid (madeCells (Value.agg #[.int .i64 0, .int .i64 0]).cells ((n + m) * 2) = z) := ⟨_, Lib.hid rfl⟩
  have r1 := run_make_cells (P := Try.prog) 43 3 inf (.int .i64 0) 1 rfl hi1 hi2 hi3 (n : Int) n rfl (by rw [hi4]; omega) (by omega)
  have r2 := run_make_cells (P := Try.prog) 43 3 inf (.int .i64 0) 1 rfl hi1 hi2 hi3 (m : Int) m rfl (by rw [hi4]; omega) (by omega)
  have r3 := run_make_cells (P := Try.prog) 56 63 inl (.agg #[.int .i64 0, .int .i64 0]) 2 rfl hl1 hl2 hl3 (IntKind.i64.wrap ((n : Int) + (m : Int))) (n + m) (by rw [IntKind.wrap_i64]; omega) (by rw [hl4]; omega) (by omega)
  rw [HZN.out] at r1
  rw [HZM.out] at r2
  rw [HZL.out] at r3
  have HN : Hid (zn.size = n ∧ ∀ i, i < n → zn[i]? = some (natV 0)) := by
    rw [← HZN.out]
    exact ⟨by rw [size_madeCells]; omega, fun i hi => madeCells_get _ _ _ _ (fun j hj => (by
      have hj' : j < 1 := hj
      have : j = 0 := by omega
      subst this; rfl)) (by decide) (by omega)⟩
  have HM : Hid (zm.size = m ∧ ∀ i, i < m → zm[i]? = some (natV 0)) := by
    rw [← HZM.out]
    exact ⟨by rw [size_madeCells]; omega, fun i hi => madeCells_get _ _ _ _ (fun j hj => (by
      have hj' : j < 1 := hj
      have : j = 0 := by omega
      subst this; rfl)) (by decide) (by omega)⟩
  have HL : Hid (zl.size = (n + m) * 2 ∧ ∀ i, i < (n + m) * 2 → zl[i]? = some (natV 0)) := by
    rw [← HZL.out]
    exact ⟨by rw [size_madeCells], fun i hi => madeCells_get _ _ _ _ (fun j hj => (by
      have hj' : j < 2 := hj
      have : j = 0 ∨ j = 1 := by omega
      rcases this with rfl | rfl <;> rfl)) (by decide) (by omega)⟩
  clear hi1 hi2 hi3 hi4 hl1 hl2 hl3 hl4 HZN HZM HZL
  go_enter Try.func9, Try.ntmps9
  go_upto_region 3 with fail
  go_cut [6] (fun v wx => ∃ b gl gh gs, v = .pointer (some ⟨b, 0, none⟩) ∧ Hid (Raw wx b gl gh gs n m (fun _ => 0) (fun _ => 0) (fun _ => 0)) ∧ Hid (∀ k, Own4 b gl gh gs k → w.heap.size ≤ k) ∧ Hid (Below w.heap.size w wx))
  case first =>
    go_region_held3 (fun w' => True)
      (trivial)
      (fail)
    all_goals go_wp2_with fail
    all_goals go_meet
    all_goals
      first
        | exact raw_fresh w.heap.size (w.heap.size + 1) (w.heap.size + 1 + 1) (by omega) m1 m2 n2 HL.out HN.out HM.out (by first | exact (heap4 w _ _ _ _).1 | exact (heap4 w _ _ _ _).2.1 | exact (heap4 w _ _ _ _).2.2.1 | exact (heap4 w _ _ _ _).2.2.2) (by first | exact (heap4 w _ _ _ _).1 | exact (heap4 w _ _ _ _).2.1 | exact (heap4 w _ _ _ _).2.2.1 | exact (heap4 w _ _ _ _).2.2.2) (by first | exact (heap4 w _ _ _ _).1 | exact (heap4 w _ _ _ _).2.1 | exact (heap4 w _ _ _ _).2.2.1 | exact (heap4 w _ _ _ _).2.2.2) (by first | exact (heap4 w _ _ _ _).1 | exact (heap4 w _ _ _ _).2.1 | exact (heap4 w _ _ _ _).2.2.1 | exact (heap4 w _ _ _ _).2.2.2) (by omega) (by omega) (by omega) (below4 w _ _ _ _)
        | exact raw_fresh w.heap.size (w.heap.size + 1 + 1) (w.heap.size + 1) (by omega) m1 m2 n2 HL.out HN.out HM.out (by first | exact (heap4 w _ _ _ _).1 | exact (heap4 w _ _ _ _).2.1 | exact (heap4 w _ _ _ _).2.2.1 | exact (heap4 w _ _ _ _).2.2.2) (by first | exact (heap4 w _ _ _ _).1 | exact (heap4 w _ _ _ _).2.1 | exact (heap4 w _ _ _ _).2.2.1 | exact (heap4 w _ _ _ _).2.2.2) (by first | exact (heap4 w _ _ _ _).1 | exact (heap4 w _ _ _ _).2.1 | exact (heap4 w _ _ _ _).2.2.1 | exact (heap4 w _ _ _ _).2.2.2) (by first | exact (heap4 w _ _ _ _).1 | exact (heap4 w _ _ _ _).2.1 | exact (heap4 w _ _ _ _).2.2.1 | exact (heap4 w _ _ _ _).2.2.2) (by omega) (by omega) (by omega) (below4 w _ _ _ _)
        | exact raw_fresh (w.heap.size + 1) w.heap.size (w.heap.size + 1 + 1) (by omega) m1 m2 n2 HL.out HN.out HM.out (by first | exact (heap4 w _ _ _ _).1 | exact (heap4 w _ _ _ _).2.1 | exact (heap4 w _ _ _ _).2.2.1 | exact (heap4 w _ _ _ _).2.2.2) (by first | exact (heap4 w _ _ _ _).1 | exact (heap4 w _ _ _ _).2.1 | exact (heap4 w _ _ _ _).2.2.1 | exact (heap4 w _ _ _ _).2.2.2) (by first | exact (heap4 w _ _ _ _).1 | exact (heap4 w _ _ _ _).2.1 | exact (heap4 w _ _ _ _).2.2.1 | exact (heap4 w _ _ _ _).2.2.2) (by first | exact (heap4 w _ _ _ _).1 | exact (heap4 w _ _ _ _).2.1 | exact (heap4 w _ _ _ _).2.2.1 | exact (heap4 w _ _ _ _).2.2.2) (by omega) (by omega) (by omega) (below4 w _ _ _ _)
        | exact raw_fresh (w.heap.size + 1) (w.heap.size + 1 + 1) w.heap.size (by omega) m1 m2 n2 HL.out HN.out HM.out (by first | exact (heap4 w _ _ _ _).1 | exact (heap4 w _ _ _ _).2.1 | exact (heap4 w _ _ _ _).2.2.1 | exact (heap4 w _ _ _ _).2.2.2) (by first | exact (heap4 w _ _ _ _).1 | exact (heap4 w _ _ _ _).2.1 | exact (heap4 w _ _ _ _).2.2.1 | exact (heap4 w _ _ _ _).2.2.2) (by first | exact (heap4 w _ _ _ _).1 | exact (heap4 w _ _ _ _).2.1 | exact (heap4 w _ _ _ _).2.2.1 | exact (heap4 w _ _ _ _).2.2.2) (by first | exact (heap4 w _ _ _ _).1 | exact (heap4 w _ _ _ _).2.1 | exact (heap4 w _ _ _ _).2.2.1 | exact (heap4 w _ _ _ _).2.2.2) (by omega) (by omega) (by omega) (below4 w _ _ _ _)
        | exact raw_fresh (w.heap.size + 1 + 1) w.heap.size (w.heap.size + 1) (by omega) m1 m2 n2 HL.out HN.out HM.out (by first | exact (heap4 w _ _ _ _).1 | exact (heap4 w _ _ _ _).2.1 | exact (heap4 w _ _ _ _).2.2.1 | exact (heap4 w _ _ _ _).2.2.2) (by first | exact (heap4 w _ _ _ _).1 | exact (heap4 w _ _ _ _).2.1 | exact (heap4 w _ _ _ _).2.2.1 | exact (heap4 w _ _ _ _).2.2.2) (by first | exact (heap4 w _ _ _ _).1 | exact (heap4 w _ _ _ _).2.1 | exact (heap4 w _ _ _ _).2.2.1 | exact (heap4 w _ _ _ _).2.2.2) (by first | exact (heap4 w _ _ _ _).1 | exact (heap4 w _ _ _ _).2.1 | exact (heap4 w _ _ _ _).2.2.1 | exact (heap4 w _ _ _ _).2.2.2) (by omega) (by omega) (by omega) (below4 w _ _ _ _)
        | exact raw_fresh (w.heap.size + 1 + 1) (w.heap.size + 1) w.heap.size (by omega) m1 m2 n2 HL.out HN.out HM.out (by first | exact (heap4 w _ _ _ _).1 | exact (heap4 w _ _ _ _).2.1 | exact (heap4 w _ _ _ _).2.2.1 | exact (heap4 w _ _ _ _).2.2.2) (by first | exact (heap4 w _ _ _ _).1 | exact (heap4 w _ _ _ _).2.1 | exact (heap4 w _ _ _ _).2.2.1 | exact (heap4 w _ _ _ _).2.2.2) (by first | exact (heap4 w _ _ _ _).1 | exact (heap4 w _ _ _ _).2.1 | exact (heap4 w _ _ _ _).2.2.1 | exact (heap4 w _ _ _ _).2.2.2) (by first | exact (heap4 w _ _ _ _).1 | exact (heap4 w _ _ _ _).2.1 | exact (heap4 w _ _ _ _).2.2.1 | exact (heap4 w _ _ _ _).2.2.2) (by omega) (by omega) (by omega) (below4 w _ _ _ _)
  case rest =>
    obtain ⟨b, gl, gh, gs, rfl, HR, HO, HB⟩ := hcut
    clear r1 r2 r3 HL HN HM
    go_wp2_with fail
    go_loopg [34] m (fun k i wx => ∃ (j : Nat), m - j = k ∧ j ≤ m ∧ i = .int .i64 (j : Int) ∧ Hid (∃ K, Raw wx b gl gh gs n m K (fun _ => 0) (fun _ => 0) ∧ (∀ i, i < j → Ring K (n + i) []) ∧ Below w.heap.size w wx))
    case atStart => exact ⟨0, rfl, by omega, rfl, Lib.hid ⟨_, HR.out, fun i hi => absurd hi (by omega), HB.out⟩⟩
    case round =>
      obtain ⟨j, rfl, hj, rfl, HI⟩ := hrel
      by_cases hjl : j = m
      · have hz : ¬ (j : Int) < (m : Int) := by omega
        clear HR HB
        subst hjl
        go_wp2_with fail
        go_ret2
        obtain ⟨K, R, G, B⟩ := HI.out
        exact ⟨b, gl, gh, gs, K, rfl, R, G, HO.out, B⟩
      · have hz : (j : Int) < (m : Int) := by omega
        clear HR HB
        obtain ⟨K, R, G, B⟩ := HI.out
        have HE := Lib.hid (raw_end R j (by omega))
        have HJ := Lib.hid (raw_join R (n + j) (n + j) (by omega) (by omega))
        have HG := Lib.hid G
        have HB := Lib.hid B
        clear R G B HI hjl
        obtain ⟨y, HY⟩ : ∃ y, Hid (n + j = y) := ⟨_, Lib.hid rfl⟩
        rw [HY.out] at HE HJ
        go_wp2_with fail
        refine HE.out.mono ?_
        rintro e w2 ⟨rfl, rfl⟩
        go_wp2_with fail
        refine HJ.out.mono ?_
        rintro e w3 ⟨rfl, R3, T3⟩
        have HN : Hid (∃ K, Raw w3 b gl gh gs n m K (fun _ => 0) (fun _ => 0) ∧ (∀ i, i < j + 1 → Ring K (n + i) []) ∧ Below w.heap.size w w3) := by
          refine Lib.hid ⟨_, R3, fun i hi => ?_, below_turned T3 HB.out.size HO.out HB.out⟩
          rw [← HY.out]
          by_cases c : i = j
          · rw [c]
            exact ring_empty joined_b joined_a
          · exact ring_apart (HG.out i (by omega)) (by simp; omega) (by simp; omega)
        clear R3 T3 HB HG HE HJ HY
        go_wp2_with fail
        go_roundg (m - (j + 1))
        case measure => omega
        case rel => exact ⟨j + 1, rfl, by omega, by go_num, HN⟩

end Go.Proofs.Ythdgpnkkeeebkaa
