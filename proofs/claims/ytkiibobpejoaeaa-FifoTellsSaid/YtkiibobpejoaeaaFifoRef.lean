/-
  The document's own queue (sandglassref11): New, Head, All.
-/
import Derived.Test.YtkiibobpejoaeaaFifoPlay
import Derived.Test.YtkiibobpejoaeaaTreeRef
namespace Go.Proofs.Ytkiibobpejoaeaa
open Go.RowKit
set_option linter.unusedVariables false
set_option linter.unusedSimpArgs false
set_option maxRecDepth 100000

theorem two_box {w W : World} {t1 t2 : TypeId} {c1 c2 : Array Value} (h : (w.alloc (.cells c1 t1)).alloc (.cells c2 t2) = W) : Box W w.heap.size t1 c1 ∧ Box W (w.heap.size + 1) t2 c2 ∧ Below w.heap.size w W := by
  subst h
  refine ⟨(Box.new _ _ _).alloc _, ?_, ((Below.refl _ _).alloc (Nat.le_refl _) _).alloc (by rw [World.size_alloc]; omega) _⟩
  have := Box.new (w.alloc (.cells c1 t1)) t2 c2
  rw [World.size_alloc] at this
  exact this
def refV (room : Int) (v : Value) : Value := .agg #[.int .i64 room, v]
set_option maxHeartbeats 4000000 in
theorem ref_new (room : Int) (w : World) :
    Calls Try.prog 21 #[.int .i64 room] w fun e w' => e = .returned (.tuple #[.agg #[.int .i64 room, .slice none 0 0], .bool (decide (1 ≤ room ∧ room ≤ 65536))]) ∧ Below w.heap.size w w' := by
  have bl := (Below.refl _ w).alloc (Nat.le_refl _) (.cells #[.int .i64 0, .slice none 0 0] 64)
  have y1 := Box.new w 64 #[.int .i64 0, .slice none 0 0]
  have hkb : w.heap.size ≤ w.heap.size := Nat.le_refl _
  obtain ⟨kb, HKb⟩ : ∃ kb, Hid (w.heap.size = kb) := ⟨_, Lib.hid rfl⟩
  obtain ⟨W1, HW⟩ : ∃ W1, Hid (w.alloc (.cells #[.int .i64 0, .slice none 0 0] 64) = W1) := ⟨_, Lib.hid rfl⟩
  rw [HW.out] at y1 bl
  rw [HKb.out] at y1
  have c0 := y1.cell 0
  have c1 := y1.cell 1
  have q0 := y1.frozen 0
  have q1 := y1.frozen 1
  have HF : Hid (Box ((W1.setCell ⟨kb, 0, none⟩ (.int .i64 room)).setCell ⟨kb, 1, none⟩ (.slice none 0 0)) kb 64 #[.int .i64 room, .slice none 0 0]) := Lib.hid ((y1.set 0 (.int .i64 room)).set 1 (.slice none 0 0))
  have HE := Lib.hid ((bl.setCell (p := ⟨kb, 0, none⟩) (by rw [← HKb.out]; exact Nat.le_refl _) (.int .i64 room)).setCell (p := ⟨kb, 1, none⟩) (by rw [← HKb.out]; exact Nat.le_refl _) (.slice none 0 0))
  obtain ⟨ok, Hok⟩ : ∃ b, Hid (decide (1 ≤ room ∧ room ≤ 65536) = b) := ⟨_, Lib.hid rfl⟩
  rw [Hok.out]
  clear bl y1 hkb
  by_cases h1 : 1 ≤ room
  · by_cases h2 : room ≤ 65536
    · obtain rfl : ok = true := by rw [← Hok.out]; exact decide_eq_true ⟨h1, h2⟩
      clear Hok
      go_enter Try.func21, Try.ntmps21
      go_upto_region 1 with fail
      rw [HW.out, HKb.out]
      go_wp2_with fail
      obtain ⟨W3, HW3⟩ : ∃ W3, Hid ((W1.setCell ⟨kb, 0, none⟩ (.int .i64 room)).setCell ⟨kb, 1, none⟩ (.slice none 0 0) = W3) := ⟨_, Lib.hid rfl⟩
      rw [HW3.out] at HE HF ⊢
      have k0 := HF.out.cell 0
      have k1 := HF.out.cell 1
      simp only [List.getElem?_toArray, List.getElem?_cons_zero, List.getElem?_cons_succ] at k0 k1
      refine bodyPost_ret (v := .tuple #[.agg #[.int .i64 room, .slice none 0 0], .bool true]) ?_ rfl ⟨rfl, HE.out⟩
      simp [results, Try.f21, go_sem, k0, k1]
    · obtain rfl : ok = false := by rw [← Hok.out]; exact decide_eq_false (fun h => h2 h.2)
      clear Hok
      go_enter Try.func21, Try.ntmps21
      go_upto_region 1 with fail
      rw [HW.out, HKb.out]
      go_wp2_with fail
      obtain ⟨W3, HW3⟩ : ∃ W3, Hid ((W1.setCell ⟨kb, 0, none⟩ (.int .i64 room)).setCell ⟨kb, 1, none⟩ (.slice none 0 0) = W3) := ⟨_, Lib.hid rfl⟩
      rw [HW3.out] at HE HF ⊢
      have k0 := HF.out.cell 0
      have k1 := HF.out.cell 1
      simp only [List.getElem?_toArray, List.getElem?_cons_zero, List.getElem?_cons_succ] at k0 k1
      refine bodyPost_ret (v := .tuple #[.agg #[.int .i64 room, .slice none 0 0], .bool false]) ?_ rfl ⟨rfl, HE.out⟩
      simp [results, Try.f21, go_sem, k0, k1]
  · obtain rfl : ok = false := by rw [← Hok.out]; exact decide_eq_false (fun h => h1 h.1)
    clear Hok
    go_enter Try.func21, Try.ntmps21
    go_upto_region 1 with fail
    rw [HW.out, HKb.out]
    go_wp2_with fail
    obtain ⟨W3, HW3⟩ : ∃ W3, Hid ((W1.setCell ⟨kb, 0, none⟩ (.int .i64 room)).setCell ⟨kb, 1, none⟩ (.slice none 0 0) = W3) := ⟨_, Lib.hid rfl⟩
    rw [HW3.out] at HE HF ⊢
    have k0 := HF.out.cell 0
    have k1 := HF.out.cell 1
    simp only [List.getElem?_toArray, List.getElem?_cons_zero, List.getElem?_cons_succ] at k0 k1
    refine bodyPost_ret (v := .tuple #[.agg #[.int .i64 room, .slice none 0 0], .bool false]) ?_ rfl ⟨rfl, HE.out⟩
    simp [results, Try.f21, go_sem, k0, k1]
set_option maxHeartbeats 4000000 in
theorem ref_head (room : Int) {v : Value} {l : List En} (w : World) (h : RowAt w v l) :
    Calls Try.prog 28 #[.agg #[.int .i64 room, v]] w fun e w' => e = popV l.head? ∧ Below w.heap.size w w' := by
  obtain ⟨W, HW⟩ : ∃ W, Hid ((w.alloc (.cells #[.int .i64 room, v] 64)).alloc (.cells #[.int .u64 0, .int .u64 0] 68) = W) := ⟨_, Lib.hid rfl⟩
  obtain ⟨x1, x2, bl⟩ := two_box HW.out
  have hr := h.below bl
  have HB := Lib.hid bl
  have hk0 := Nat.le_refl w.heap.size
  obtain ⟨tb, HTB⟩ : ∃ q, Hid (w.heap.size = q) := ⟨_, Lib.hid rfl⟩
  rw [HTB.out] at x1 x2
  have hkb : w.heap.size ≤ tb + 1 := by rw [HTB.out]; omega
  have z0 : W.cell? ⟨tb, 0, none⟩ = some (.int .i64 room) := x1.cell 0
  have z1 : W.cell? ⟨tb, 1, none⟩ = some v := x1.cell 1
  have k0 : W.cell? ⟨tb + 1, 0, none⟩ = some (.int .u64 0) := x2.cell 0
  have k1 : W.cell? ⟨tb + 1, 1, none⟩ = some (.int .u64 0) := x2.cell 1
  have q0 := x2.frozen 0
  have q1 := x2.frozen 1
  have HX := Lib.hid x2
  clear bl h x1 x2 hk0
  cases l with
  | nil =>
    obtain ⟨p, c, rfl, hlc, hcm, _⟩ := hr
    simp only [List.length_nil] at z1 ⊢
    have HF : Hid (Box ((W.setCell ⟨tb + 1, 0, none⟩ (.int .u64 0)).setCell ⟨tb + 1, 1, none⟩ (.int .u64 0)) (tb + 1) 68 #[.int .u64 0, .int .u64 0]) := Lib.hid ((HX.out.set 0 (.int .u64 0)).set 1 (.int .u64 0))
    have HE := Lib.hid ((HB.out.setCell (p := ⟨tb + 1, 0, none⟩) hkb (.int .u64 0)).setCell (p := ⟨tb + 1, 1, none⟩) hkb (.int .u64 0))
    simp only [List.length_nil] at HW
    go_enter Try.func28, Try.ntmps28
    go_upto_region 1 with fail
    rw [HW.out, HTB.out]
    go_wp2_with fail
    obtain ⟨W3, HW3⟩ : ∃ W3, Hid ((W.setCell ⟨tb + 1, 0, none⟩ (.int .u64 0)).setCell ⟨tb + 1, 1, none⟩ (.int .u64 0) = W3) := ⟨_, Lib.hid rfl⟩
    rw [HW3.out] at HE HF ⊢
    have k0 := HF.out.cell 0
    have k1 := HF.out.cell 1
    simp only [List.getElem?_toArray, List.getElem?_cons_zero, List.getElem?_cons_succ] at k0 k1
    refine bodyPost_ret (v := .tuple #[.int .u64 0, .agg #[.int .u64 0, .int .u64 0], .bool false]) ?_ rfl ⟨rfl, HE.out⟩
    simp [results, Try.f28, go_sem, k0, k1]
  | cons x m =>
    obtain ⟨p, c, rfl, hlc, hcm, hc⟩ := hr
    obtain ⟨g, o, rfl, x0, x1, x2⟩ := hc 0 x rfl
    simp only [Nat.zero_mul, Nat.add_zero] at x0 x1 x2
    have hl0 : (((x :: m).length : Int) == 0) = false := by rw [beq_eq_false_iff_ne, List.length_cons]; omega
    have hlp : (0 : Int) < ((x :: m).length : Int) := by rw [List.length_cons]; omega
    have hlp2 : 0 < (x :: m).length := by rw [List.length_cons]; omega
    obtain ⟨n, Hn⟩ : ∃ n, Hid ((x :: m).length = n) := ⟨_, Lib.hid rfl⟩
    rw [Hn.out] at z1 hl0 hlp hlc hlp2 HW
    have hne : (n : Int) ≠ 0 := by omega
    have hne2 : n ≠ 0 := by omega
    rw [Hn.out]
    clear hc Hn
    go_enter Try.func28, Try.ntmps28
    go_upto_region 1 with fail
    rw [HW.out, HTB.out]
    go_upto_region 3 with fail
    have ho : g ≠ tb + 1 := fun e => by
      subst e
      have := x0.symm.trans (HX.out.cell o)
      cases o with
      | zero =>
        have h2 := x1.symm.trans (HX.out.cell 1)
        have h3 := x2.symm.trans (HX.out.cell 2)
        simp at h3
      | succ o => cases o with
        | zero => have h3 := x1.symm.trans (HX.out.cell 2); simp at h3
        | succ o => simp at this
    have ho2 : tb + 1 ≠ g := fun e => ho e.symm
    go_region_held3 (fun wy => wy.cell? ⟨tb, 1, none⟩ = some (.slice (some ⟨g, o, none⟩) n c) ∧ wy.cell? ⟨g, o, none⟩ = some (.int .u64 x.val) ∧ wy.cell? ⟨g, o + 1, none⟩ = some (.int .u64 (x.key.at_ : Int)) ∧ wy.cell? ⟨g, o + 2, none⟩ = some (.int .u64 (x.key.seq : Int))) (go_keep) (fail)
    all_goals
      have HG : Hid (Box ((W.setCell ⟨tb + 1, 0, none⟩ (.int .u64 (x.key.at_ : Int))).setCell ⟨tb + 1, 1, none⟩ (.int .u64 (x.key.seq : Int))).drew (tb + 1) 68 #[.int .u64 (x.key.at_ : Int), .int .u64 (x.key.seq : Int)]) := Lib.hid ((HX.out.set 0 (.int .u64 (x.key.at_ : Int))).set 1 (.int .u64 (x.key.seq : Int)))
      have HZ := Lib.hid (((HB.out.setCell (p := ⟨tb + 1, 0, none⟩) hkb (.int .u64 (x.key.at_ : Int))).setCell (p := ⟨tb + 1, 1, none⟩) hkb (.int .u64 (x.key.seq : Int))).drew)
      clear x0 x1 x2 z0 z1 k0 k1 q0 q1
      go_wp2_with fail
      obtain ⟨W9, HW9⟩ : ∃ W9, Hid (((W.setCell ⟨tb + 1, 0, none⟩ (.int .u64 (x.key.at_ : Int))).setCell ⟨tb + 1, 1, none⟩ (.int .u64 (x.key.seq : Int))).drew = W9) := ⟨_, Lib.hid rfl⟩
      rw [HW9.out] at HG HZ ⊢
      have k0 := HG.out.cell 0
      have k1 := HG.out.cell 1
      simp only [List.getElem?_toArray, List.getElem?_cons_zero, List.getElem?_cons_succ] at k0 k1
      refine bodyPost_ret (v := .tuple #[.int .u64 x.val, kyV x.key, .bool true]) ?_ rfl ⟨rfl, HZ.out⟩
      simp [results, Try.f28, go_sem, k0, k1, kyV]

end Go.Proofs.Ytkiibobpejoaeaa
