/-
  Calls of layer 10 on no store: nil, and one that New did not answer.
-/
import Derived.Test.YtmaofmbnlfggiabStoreSt
import Derived.Test.YtmaofmbnlfggiabStoreEq
namespace Go.Proofs.Ytmaofmbnlfggiab
open Go.RowKit
set_option linter.unusedVariables false
set_option linter.unusedSimpArgs false

abbrev zeroS : Array Value := #[.pointer none, .pointer none, .slice none 0 0, .int .i64 0, .int .u64 0]
/-- No store: nil, or one that New did not make. -/
def NoStore (p : Option Addr) (w : World) : Prop := ∀ b, p = some b → ∃ k, b = ⟨k, 0, none⟩ ∧ Box w k 66 zeroS
theorem NoStore.none (w : World) : NoStore none w := fun b h => by cases h
theorem NoStore.below {p : Option Addr} {w w' : World} (h : NoStore p w) (b : Below w.heap.size w w') : NoStore p w' := fun q hq => by
  obtain ⟨k, e, hb⟩ := h q hq
  exact ⟨k, e, hb.below b hb.lt⟩
theorem run_eqls_nil (w : World) (a : Addr) : (binOp .eql 23 (.pointer none) (.pointer (some a))).run Try.prog w = .ok (.bool false) w := by
  have h : ∀ d : Nat, (Op.equalIn (d + 1) 23 (.pointer none) (.pointer (some a))).run Try.prog w = .ok false w := fun d => by
    simp [Op.equalIn]
  simp only [binOp]
  simp [Op.equal, Op.maxDepth, h 9999]
theorem nos_made {p : Option Addr} {w : World} (h : NoStore p w) :
    Calls Try.prog 23 #[.pointer p] w fun e w' => e = .returned (.bool false) ∧ w' = w := by
  cases p with
  | none =>
    go_enter Try.func23, Try.ntmps23
    go_wp2_with fail
    go_ret
    exact ⟨rfl, rfl⟩
  | some b =>
    obtain ⟨k, rfl, hb⟩ := h b rfl
    have c1 : w.cell? ⟨k, 1, .none⟩ = some (.pointer .none) := hb.cell 1
    clear h hb
    have hq := fun w : World => run_eqls_nil w ⟨k, 0, .none⟩
    go_enter Try.func23, Try.ntmps23
    go_wp2_with fail
    go_ret
    exact ⟨rfl, rfl⟩
section
variable {p : Option Addr} {w : World} (h : NoStore p w)
include h
theorem nos_count : Calls Try.prog 17 #[.pointer p] w fun e w' => e = .returned (.int .i64 0) ∧ w' = w := by
  have HM := Lib.hid (nos_made h)
  clear h
  go_enter Try.func17, Try.ntmps17
  go_wp2_with fail
  refine HM.out.mono ?_
  rintro e w1 ⟨rfl, rfl⟩
  go_wp2_with fail
  go_ret
  exact ⟨rfl, rfl⟩
theorem nos_bytes : Calls Try.prog 18 #[.pointer p] w fun e w' => e = .returned (.int .i64 0) ∧ w' = w := by
  have HM := Lib.hid (nos_made h)
  clear h
  go_enter Try.func18, Try.ntmps18
  go_wp2_with fail
  refine HM.out.mono ?_
  rintro e w1 ⟨rfl, rfl⟩
  go_wp2_with fail
  go_ret
  exact ⟨rfl, rfl⟩
theorem nos_next : Calls Try.prog 20 #[.pointer p] w fun e w' => e = .returned (.int .u64 0) ∧ w' = w := by
  have HM := Lib.hid (nos_made h)
  clear h
  go_enter Try.func20, Try.ntmps20
  go_wp2_with fail
  refine HM.out.mono ?_
  rintro e w1 ⟨rfl, rfl⟩
  go_wp2_with fail
  go_ret
  exact ⟨rfl, rfl⟩
theorem nos_put (s c l r t n : Int) : Calls Try.prog 11 #[.pointer p, .agg #[.int .u64 s, .int .u64 c, .int .i64 l, .int .u8 r, .int .u64 t], .int .u64 n] w fun e w' => e = .returned (.tuple #[.int .u64 0, .int .i64 1]) ∧ Below w.heap.size w w' := by
  have HB := Lib.hid ((Below.refl _ w).alloc (Nat.le_refl _) (.cells #[.int .u64 s, .int .u64 c, .int .i64 l, .int .u8 r, .int .u64 t] 40))
  have HM := Lib.hid (nos_made (h.below HB.out))
  clear h
  go_enter Try.func11, Try.ntmps11
  go_wp2_with fail
  refine HM.out.mono ?_
  rintro e w1 ⟨rfl, rfl⟩
  go_wp2_with fail
  go_ret2
  exact ⟨rfl, HB.out⟩
theorem nos_get (k : Int) : Calls Try.prog 15 #[.pointer p, .int .u64 k] w fun e w' => e = .returned (.tuple #[.agg #[.int .u64 0, .int .u64 0, .int .i64 0, .int .u8 0, .int .u64 0, .int .u64 0, .int .u64 0], .bool false]) ∧ Below w.heap.size w w' := by
  have HB := Lib.hid ((Below.refl _ w).alloc (Nat.le_refl _) (.cells #[.int .u64 0, .int .u64 0, .int .i64 0, .int .u8 0, .int .u64 0, .int .u64 0, .int .u64 0] 48))
  have HM := Lib.hid (nos_made (h.below HB.out))
  clear h
  go_enter Try.func15, Try.ntmps15
  go_wp2_with fail
  refine HM.out.mono ?_
  rintro e w1 ⟨rfl, rfl⟩
  go_wp2_with fail
  refine bodyPost_ret (v := .tuple #[.agg #[.int .u64 0, .int .u64 0, .int .i64 0, .int .u8 0, .int .u64 0, .int .u64 0, .int .u64 0], .bool false]) (by simp [results, Try.f15, go_sem]) rfl ⟨rfl, HB.out⟩
theorem nos_free (k : Int) : Calls Try.prog 13 #[.pointer p, .int .u64 k] w fun e w' => e = .returned (.tuple #[.agg #[.int .u64 0, .int .u64 0, .int .i64 0, .int .u8 0, .int .u64 0, .int .u64 0, .int .u64 0], .bool false]) ∧ Below w.heap.size w w' := by
  have HB := Lib.hid ((Below.refl _ w).alloc (Nat.le_refl _) (.cells #[.int .u64 0, .int .u64 0, .int .i64 0, .int .u8 0, .int .u64 0, .int .u64 0, .int .u64 0] 48))
  have HX := Lib.hid (zeros_box w)
  have HG := Lib.hid (nos_get (h.below HB.out) k)
  clear h
  go_enter Try.func13, Try.ntmps13
  go_upto_region 1 with fail
  obtain ⟨rb, HRb⟩ : ∃ rb, Hid (w.heap.size = rb) := ⟨_, Lib.hid rfl⟩
  obtain ⟨W1, HW1⟩ : ∃ W1, Hid (w.alloc (.cells #[.int .u64 0, .int .u64 0, .int .i64 0, .int .u8 0, .int .u64 0, .int .u64 0, .int .u64 0] 48) = W1) := ⟨_, Lib.hid rfl⟩
  rw [HW1.out] at HB HX HG ⊢
  rw [HRb.out] at HX ⊢
  clear HW1
  go_wp2_with fail
  refine HG.out.mono ?_
  rintro e W2 ⟨rfl, b2⟩
  have HB3 := Lib.hid ((below_tr HB.out b2).alloc (below_tr HB.out b2).size (.cells #[.int .u64 0, .int .u64 0, .int .i64 0, .int .u8 0, .int .u64 0, .int .u64 0, .int .u64 0] 48))
  have HX3 := Lib.hid ((HX.out.below b2 HX.out.lt).alloc (.cells #[.int .u64 0, .int .u64 0, .int .i64 0, .int .u8 0, .int .u64 0, .int .u64 0, .int .u64 0] 48))
  clear b2 HG HB HX
  go_upto_region 2 with fail
  obtain ⟨W3, HW3⟩ : ∃ W3, Hid (W2.alloc (.cells #[.int .u64 0, .int .u64 0, .int .i64 0, .int .u8 0, .int .u64 0, .int .u64 0, .int .u64 0] 48) = W3) := ⟨_, Lib.hid rfl⟩
  rw [HW3.out] at HB3 HX3 ⊢
  clear HW3
  have r0 : W3.cell? ⟨rb, 0, .none⟩ = some (.int .u64 0) := HX3.out.cell 0
  have r1 : W3.cell? ⟨rb, 1, .none⟩ = some (.int .u64 0) := HX3.out.cell 1
  have r2 : W3.cell? ⟨rb, 2, .none⟩ = some (.int .i64 0) := HX3.out.cell 2
  have r3 : W3.cell? ⟨rb, 3, .none⟩ = some (.int .u8 0) := HX3.out.cell 3
  have r4 : W3.cell? ⟨rb, 4, .none⟩ = some (.int .u64 0) := HX3.out.cell 4
  have r5 : W3.cell? ⟨rb, 5, .none⟩ = some (.int .u64 0) := HX3.out.cell 5
  have r6 : W3.cell? ⟨rb, 6, .none⟩ = some (.int .u64 0) := HX3.out.cell 6
  have f0 := HX3.out.frozen 0
  have f1 := HX3.out.frozen 1
  have f2 := HX3.out.frozen 2
  have f3 := HX3.out.frozen 3
  have f4 := HX3.out.frozen 4
  have f5 := HX3.out.frozen 5
  have f6 := HX3.out.frozen 6
  have HF := Lib.hid (fill7 HX3.out Hl.zero)
  have HE := Lib.hid (put7_below HB3.out (by rw [HRb.out]; exact Nat.le_refl _) Hl.zero (rb := rb))
  go_wp2_with fail
  change bodyPost _ _ _ _ _ (put7 W3 rb 0 Hl.zero)
  obtain ⟨W4, HW4⟩ : ∃ W4, Hid (put7 W3 rb 0 Hl.zero = W4) := ⟨_, Lib.hid rfl⟩
  rw [HW4.out] at HE HF ⊢
  have k0 := HF.out.cell 0
  have k1 := HF.out.cell 1
  have k2 := HF.out.cell 2
  have k3 := HF.out.cell 3
  have k4 := HF.out.cell 4
  have k5 := HF.out.cell 5
  have k6 := HF.out.cell 6
  simp only [Hl.cells, Hl.zero, Pk.zero, List.getElem?_toArray, List.getElem?_cons_zero, List.getElem?_cons_succ] at k0 k1 k2 k3 k4 k5 k6
  refine bodyPost_ret (v := .tuple #[.agg #[.int .u64 0, .int .u64 0, .int .i64 0, .int .u8 0, .int .u64 0, .int .u64 0, .int .u64 0], .bool false]) ?_ rfl ⟨rfl, HE.out⟩
  simp [results, Try.f13, go_sem, k0, k1, k2, k3, k4, k5, k6]
end

end Go.Proofs.Ytmaofmbnlfggiab
