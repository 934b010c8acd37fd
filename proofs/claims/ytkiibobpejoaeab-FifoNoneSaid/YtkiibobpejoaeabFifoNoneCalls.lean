/-
  Calls of layer 11 on no queue: nil, and one that New did not answer.
-/
import Derived.Test.YtkiibobpejoaeabFifoSt
namespace Go.Proofs.Ytkiibobpejoaeab
open Go.RowKit
set_option linter.unusedVariables false
set_option linter.unusedSimpArgs false

abbrev zeroF : Array Value := #[.pointer none, .slice none 0 0, .int .i64 0, .pointer none]
/-- No queue: nil, or one that New did not make. -/
def NoFifo (p : Option Addr) (w : World) : Prop := ∀ b, p = some b → ∃ k, b = ⟨k, 0, none⟩ ∧ Box w k 49 zeroF
theorem NoFifo.none (w : World) : NoFifo none w := fun b h => by cases h
theorem NoFifo.below {p : Option Addr} {w w' : World} (h : NoFifo p w) (b : Below w.heap.size w w') : NoFifo p w' := fun q hq => by
  obtain ⟨k, e, hb⟩ := h q hq
  exact ⟨k, e, hb.below b hb.lt⟩
theorem run_eqlf_nil (w : World) (a : Addr) : (binOp .eql 25 (.pointer none) (.pointer (some a))).run Try.prog w = .ok (.bool false) w := by
  have h : ∀ d : Nat, (Op.equalIn (d + 1) 25 (.pointer none) (.pointer (some a))).run Try.prog w = .ok false w := fun d => by
    simp [Op.equalIn]
  simp only [binOp]
  simp [Op.equal, Op.maxDepth, h 9999]
theorem nof_made {p : Option Addr} {w : World} (h : NoFifo p w) :
    Calls Try.prog 18 #[.pointer p] w fun e w' => e = .returned (.bool false) ∧ w' = w := by
  cases p with
  | none =>
    go_enter Try.func18, Try.ntmps18
    go_wp2_with fail
    go_ret
    exact ⟨rfl, rfl⟩
  | some b =>
    obtain ⟨k, rfl, hb⟩ := h b rfl
    have c0 : w.cell? ⟨k, 0, .none⟩ = some (.pointer .none) := hb.cell 0
    clear h hb
    have hq := fun w : World => run_eqlf_nil w ⟨k, 0, .none⟩
    go_enter Try.func18, Try.ntmps18
    go_wp2_with fail
    go_ret
    exact ⟨rfl, rfl⟩
section
variable {p : Option Addr} {w : World} (h : NoFifo p w)
include h
theorem nof_len : Calls Try.prog 10 #[.pointer p] w fun e w' => e = .returned (.int .i64 0) ∧ w' = w := by
  have HM := Lib.hid (nof_made h)
  clear h
  go_enter Try.func10, Try.ntmps10
  go_wp2_with fail
  refine HM.out.mono ?_
  rintro e w1 ⟨rfl, rfl⟩
  go_wp2_with fail
  go_ret
  exact ⟨rfl, rfl⟩
theorem nof_all : Calls Try.prog 16 #[.pointer p] w fun e w' => e = .returned (.slice none 0 0) ∧ w' = w := by
  have HM := Lib.hid (nof_made h)
  clear h
  go_enter Try.func16, Try.ntmps16
  go_wp2_with fail
  refine HM.out.mono ?_
  rintro e w1 ⟨rfl, rfl⟩
  go_wp2_with fail
  go_ret
  exact ⟨rfl, rfl⟩
theorem nof_push (v s c : Int) : Calls Try.prog 8 #[.pointer p, .int .u64 v, .agg #[.int .u64 s, .int .u64 c]] w fun e w' => e = .returned (.int .i64 1) ∧ Below w.heap.size w w' := by
  have HB := Lib.hid ((Below.refl _ w).alloc (Nat.le_refl _) (.cells #[.int .u64 s, .int .u64 c] 33))
  have HM := Lib.hid (nof_made (h.below HB.out))
  clear h
  go_enter Try.func8, Try.ntmps8
  go_wp2_with fail
  refine HM.out.mono ?_
  rintro e w1 ⟨rfl, rfl⟩
  go_wp2_with fail
  go_ret
  exact ⟨rfl, HB.out⟩
set_option maxHeartbeats 1000000 in
theorem nof_head : Calls Try.prog 13 #[.pointer p] w fun e w' => e = .returned (.tuple #[.int .u64 0, .agg #[.int .u64 0, .int .u64 0], .bool false]) ∧ Below w.heap.size w w' := by
  have b1 := (Below.refl _ w).alloc (Nat.le_refl _) (.cells #[.int .u64 0, .int .u64 0] 33)
  have y1 := Box.new w 33 #[.int .u64 0, .int .u64 0]
  have HM := Lib.hid (nof_made (h.below b1))
  obtain ⟨kb, HKb⟩ : ∃ kb, Hid (w.heap.size = kb) := ⟨_, Lib.hid rfl⟩
  obtain ⟨W1, HW⟩ : ∃ W1, Hid (w.alloc (.cells #[.int .u64 0, .int .u64 0] 33) = W1) := ⟨_, Lib.hid rfl⟩
  rw [HW.out] at y1 b1 HM
  rw [HKb.out] at y1
  have hkb : w.heap.size ≤ kb := by rw [HKb.out]; exact Nat.le_refl _
  have HE := Lib.hid ((b1.setCell (p := ⟨kb, 0, none⟩) hkb (.int .u64 0)).setCell (p := ⟨kb, 1, none⟩) hkb (.int .u64 0))
  have HF := Lib.hid ((y1.set 0 (.int .u64 0)).set 1 (.int .u64 0))
  have c0 := y1.cell 0
  have c1 := y1.cell 1
  have q0 := y1.frozen 0
  have q1 := y1.frozen 1
  clear h b1 y1 hkb
  go_enter Try.func13, Try.ntmps13
  go_upto_region 1 with fail
  rw [HW.out, HKb.out]
  go_wp2_with fail
  refine HM.out.mono ?_
  rintro e w1 ⟨rfl, rfl⟩
  go_wp2_with fail
  change bodyPost _ _ _ _ _ ((w1.setCell ⟨kb, 0, .none⟩ (.int .u64 0)).setCell ⟨kb, 1, .none⟩ (.int .u64 0))
  obtain ⟨W3, HW3⟩ : ∃ W3, Hid ((w1.setCell ⟨kb, 0, .none⟩ (.int .u64 0)).setCell ⟨kb, 1, .none⟩ (.int .u64 0) = W3) := ⟨_, Lib.hid rfl⟩
  have HF' : Hid (Box ((w1.setCell ⟨kb, 0, .none⟩ (.int .u64 0)).setCell ⟨kb, 1, .none⟩ (.int .u64 0)) kb 33 #[.int .u64 0, .int .u64 0]) := Lib.hid HF.out
  rw [HW3.out] at HE HF' ⊢
  have k0 := HF'.out.cell 0
  have k1 := HF'.out.cell 1
  simp only [List.getElem?_toArray, List.getElem?_cons_zero, List.getElem?_cons_succ] at k0 k1
  refine bodyPost_ret (v := .tuple #[.int .u64 0, .agg #[.int .u64 0, .int .u64 0], .bool false]) ?_ rfl ⟨rfl, HE.out⟩
  simp [results, Try.f13, go_sem, k0, k1]
set_option maxHeartbeats 1000000 in
theorem nof_pop : Calls Try.prog 9 #[.pointer p] w fun e w' => e = .returned (.tuple #[.int .u64 0, .agg #[.int .u64 0, .int .u64 0], .bool false]) ∧ Below w.heap.size w w' := by
  have b1 := (Below.refl _ w).alloc (Nat.le_refl _) (.cells #[.int .u64 0, .int .u64 0] 33)
  have y1 := Box.new w 33 #[.int .u64 0, .int .u64 0]
  have HM := Lib.hid (nof_made (h.below b1))
  obtain ⟨kb, HKb⟩ : ∃ kb, Hid (w.heap.size = kb) := ⟨_, Lib.hid rfl⟩
  obtain ⟨W1, HW⟩ : ∃ W1, Hid (w.alloc (.cells #[.int .u64 0, .int .u64 0] 33) = W1) := ⟨_, Lib.hid rfl⟩
  rw [HW.out] at y1 b1 HM
  rw [HKb.out] at y1
  have hkb : w.heap.size ≤ kb := by rw [HKb.out]; exact Nat.le_refl _
  have HE := Lib.hid ((b1.setCell (p := ⟨kb, 0, none⟩) hkb (.int .u64 0)).setCell (p := ⟨kb, 1, none⟩) hkb (.int .u64 0))
  have HF := Lib.hid ((y1.set 0 (.int .u64 0)).set 1 (.int .u64 0))
  have c0 := y1.cell 0
  have c1 := y1.cell 1
  have q0 := y1.frozen 0
  have q1 := y1.frozen 1
  clear h b1 y1 hkb
  go_enter Try.func9, Try.ntmps9
  go_upto_region 1 with fail
  rw [HW.out, HKb.out]
  go_wp2_with fail
  refine HM.out.mono ?_
  rintro e w1 ⟨rfl, rfl⟩
  go_wp2_with fail
  change bodyPost _ _ _ _ _ ((w1.setCell ⟨kb, 0, .none⟩ (.int .u64 0)).setCell ⟨kb, 1, .none⟩ (.int .u64 0))
  obtain ⟨W3, HW3⟩ : ∃ W3, Hid ((w1.setCell ⟨kb, 0, .none⟩ (.int .u64 0)).setCell ⟨kb, 1, .none⟩ (.int .u64 0) = W3) := ⟨_, Lib.hid rfl⟩
  have HF' : Hid (Box ((w1.setCell ⟨kb, 0, .none⟩ (.int .u64 0)).setCell ⟨kb, 1, .none⟩ (.int .u64 0)) kb 33 #[.int .u64 0, .int .u64 0]) := Lib.hid HF.out
  rw [HW3.out] at HE HF' ⊢
  have k0 := HF'.out.cell 0
  have k1 := HF'.out.cell 1
  simp only [List.getElem?_toArray, List.getElem?_cons_zero, List.getElem?_cons_succ] at k0 k1
  refine bodyPost_ret (v := .tuple #[.int .u64 0, .agg #[.int .u64 0, .int .u64 0], .bool false]) ?_ rfl ⟨rfl, HE.out⟩
  simp [results, Try.f9, go_sem, k0, k1]
end

end Go.Proofs.Ytkiibobpejoaeab
