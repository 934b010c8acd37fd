/-
  The program's own chains: Pop, Drop, Push and List, at the rows.
-/
import Derived.Test.YthdgpnkkeeebkaaChainOwnB
import Derived.Deep.OwnRows
namespace Go.Proofs.Ythdgpnkkeeebkaa
open Go.RowKit
set_option linter.unusedVariables false

section
variable {w w' : World} {b gl gh gs n m : Nat} {K H S : Nat → Nat}
theorem raw_pop_no (i : Int) (HF : Hid (Calls Try.prog 20 #[.pointer (some ⟨b, 0, none⟩), .int .i64 i] w fun e w' => e = .returned (.tuple #[.int .i64 0, .bool false]) ∧ w' = w)) :
    Calls Try.prog 14 #[.pointer (some ⟨b, 0, none⟩), .int .i64 i] w fun e w' => e = .returned (.tuple #[.int .i64 0, .bool false]) ∧ w' = w := by
  go_enter Try.func14, Try.ntmps14
  go_wp2_with fail
  refine HF.out.mono ?_
  rintro e w1 ⟨rfl, rfl⟩
  go_wp2_with fail
  go_ret2
  exact ⟨rfl, rfl⟩
theorem raw_pop (h : Raw w b gl gh gs n m K H S) (i x p q s : Nat) (hi : i < m) (hx : x < n) (hp : p < n + m) (hq : q < n + m) (e0 : K ((n + i) * 2 + 1) = x) (e1 : K (x * 2) = p) (e2 : K (x * 2 + 1) = q) (e3 : S i = s + 1) (hs : s ≤ 65536) :
    Calls Try.prog 14 #[.pointer (some ⟨b, 0, none⟩), .int .i64 (i : Int)] w fun e w' => e = .returned (.tuple #[.int .i64 (x : Int), .bool true]) ∧ Raw w' b gl gh gs n m (joined K p q) (upd H x 0) (upd S i s) ∧ Turned (Own4 b gl gh gs) w w' := by
  have HF := Lib.hid (raw_first h i x hi (by omega) e0)
  have HR := Lib.hid h
  have HV : Hid (∀ w1, Below w.heap.size w w1 → Calls Try.prog 32 #[.pointer (some ⟨b, 0, none⟩), .int .i64 (i : Int), .int .i64 (x : Int)] w1 fun e w' => e = .returned (.tuple #[]) ∧ Raw w' b gl gh gs n m (joined K p q) (upd H x 0) (upd S i s) ∧ Turned (Own4 b gl gh gs) w1 w') :=
    fun w1 b1 => raw_leave (h.below b1) i x p q s hi hx hp hq e1 e2 e3 hs
  clear h e0 e1 e2 e3
  go_enter Try.func14, Try.ntmps14
  go_wp2_with fail
  refine HF.out.mono ?_
  rintro e w1 ⟨rfl, b1⟩
  have HB := Lib.hid b1
  clear b1
  go_wp2_with fail
  refine (HV.out _ HB.out).mono ?_
  rintro e w2 ⟨rfl, R2, T2⟩
  have HR2 := Lib.hid R2
  have HT2 := Lib.hid T2
  clear R2 T2
  go_wp2_with fail
  go_ret2
  exact ⟨rfl, HR2.out, (Turned.below HB.out).trans HT2.out⟩
theorem raw_drop_no (x : Int) (HI : Hid (Calls Try.prog 23 #[.pointer (some ⟨b, 0, none⟩), .int .i64 x] w fun e w' => e = .returned (.tuple #[.int .i64 0, .bool false]) ∧ w' = w)) :
    Calls Try.prog 16 #[.pointer (some ⟨b, 0, none⟩), .int .i64 x] w fun e w' => e = .returned (.bool false) ∧ w' = w := by
  go_enter Try.func16, Try.ntmps16
  go_wp2_with fail
  refine HI.out.mono ?_
  rintro e w1 ⟨rfl, rfl⟩
  go_wp2_with fail
  go_ret
  exact ⟨rfl, rfl⟩
theorem raw_drop (h : Raw w b gl gh gs n m K H S) (i x p q s : Nat) (hi : i < m) (hx : x < n) (hp : p < n + m) (hq : q < n + m) (e0 : H x = i + 1) (e1 : K (x * 2) = p) (e2 : K (x * 2 + 1) = q) (e3 : S i = s + 1) (hs : s ≤ 65536) :
    Calls Try.prog 16 #[.pointer (some ⟨b, 0, none⟩), .int .i64 (x : Int)] w fun e w' => e = .returned (.bool true) ∧ Raw w' b gl gh gs n m (joined K p q) (upd H x 0) (upd S i s) ∧ Turned (Own4 b gl gh gs) w w' := by
  have HI := Lib.hid (raw_in h x i hx e0 hi)
  have HV := Lib.hid (raw_leave h i x p q s hi hx hp hq e1 e2 e3 hs)
  clear h e0 e1 e2 e3
  go_enter Try.func16, Try.ntmps16
  go_wp2_with fail
  refine HI.out.mono ?_
  rintro e w1 ⟨rfl, rfl⟩
  go_wp2_with fail
  refine HV.out.mono ?_
  rintro e w2 ⟨rfl, R2, T2⟩
  have HR2 := Lib.hid R2
  have HT2 := Lib.hid T2
  clear R2 T2
  go_wp2_with fail
  go_ret
  exact ⟨rfl, HR2.out, HT2.out⟩
theorem raw_push_list (h : Raw w b gl gh gs n m K H S) (i x : Int) (hi : i < 0 ∨ (m : Int) ≤ i) :
    Calls Try.prog 12 #[.pointer (some ⟨b, 0, none⟩), .int .i64 i, .int .i64 x] w fun e w' => e = .returned (.int .i64 2) ∧ w' = w := by
  have HM := Lib.hid (raw_made h)
  have HL := Lib.hid (raw_hasList h i false ⟨fun e => (by cases e), fun e => (by omega)⟩)
  clear h hi
  go_enter Try.func12, Try.ntmps12
  go_wp2_with fail
  refine HM.out.mono ?_
  rintro e w1 ⟨rfl, rfl⟩
  go_wp2_with fail
  refine HL.out.mono ?_
  rintro e w2 ⟨rfl, rfl⟩
  go_wp2_with fail
  go_ret
  exact ⟨rfl, rfl⟩
theorem raw_push_node (h : Raw w b gl gh gs n m K H S) (i : Nat) (x : Int) (hi : i < m) (hx : x < 0 ∨ (n : Int) ≤ x) :
    Calls Try.prog 12 #[.pointer (some ⟨b, 0, none⟩), .int .i64 (i : Int), .int .i64 x] w fun e w' => e = .returned (.int .i64 2) ∧ w' = w := by
  have HM := Lib.hid (raw_made h)
  have HL := Lib.hid (raw_hasList h i true ⟨fun _ => (by omega), fun _ => rfl⟩)
  have HN := Lib.hid (raw_hasNode h x false ⟨fun e => (by cases e), fun e => (by omega)⟩)
  clear h hx
  go_enter Try.func12, Try.ntmps12
  go_wp2_with fail
  refine HM.out.mono ?_
  rintro e w1 ⟨rfl, rfl⟩
  go_wp2_with fail
  refine HL.out.mono ?_
  rintro e w2 ⟨rfl, rfl⟩
  go_wp2_with fail
  refine HN.out.mono ?_
  rintro e w2 ⟨rfl, rfl⟩
  go_wp2_with fail
  go_ret
  exact ⟨rfl, rfl⟩
theorem raw_push_in (h : Raw w b gl gh gs n m K H S) (i x y : Nat) (hi : i < m) (hx : x < n) (e0 : H x = y) (hy : y ≠ 0) :
    Calls Try.prog 12 #[.pointer (some ⟨b, 0, none⟩), .int .i64 (i : Int), .int .i64 (x : Int)] w fun e w' => e = .returned (.int .i64 50) ∧ w' = w := by
  have HM := Lib.hid (raw_made h)
  have HL := Lib.hid (raw_hasList h i true ⟨fun _ => (by omega), fun _ => rfl⟩)
  have HN := Lib.hid (raw_hasNode h x true ⟨fun _ => (by omega), fun _ => rfl⟩)
  obtain ⟨_, c1, _⟩ := h.cells
  have d1 := h.homes.cell hx
  rw [e0] at d1
  have h1 := h.n1
  have hz : (x : Int) < (n : Int) := by omega
  have hy0 : ((y : Int) != 0) = true := by rw [bne_iff_ne]; omega
  clear h e0 hy
  go_enter Try.func12, Try.ntmps12
  go_wp2_with fail
  refine HM.out.mono ?_
  rintro e w1 ⟨rfl, rfl⟩
  go_wp2_with fail
  refine HL.out.mono ?_
  rintro e w2 ⟨rfl, rfl⟩
  go_wp2_with fail
  refine HN.out.mono ?_
  rintro e w2 ⟨rfl, rfl⟩
  go_wp2_with fail
  go_ret
  exact ⟨rfl, rfl⟩
theorem raw_push (h : Raw w b gl gh gs n m K H S) (i x p s : Nat) (hi : i < m) (hx : x < n) (hp : p < n + m) (e0 : H x = 0) (e1 : K ((n + i) * 2) = p) (e2 : S i = s) (hs : s ≤ 65536) :
    Calls Try.prog 12 #[.pointer (some ⟨b, 0, none⟩), .int .i64 (i : Int), .int .i64 (x : Int)] w fun e w' => e = .returned (.int .i64 0) ∧ Raw w' b gl gh gs n m (joined (joined K p x) x (n + i)) (upd H x (i + 1)) (upd S i (s + 1)) ∧ Turned (Own4 b gl gh gs) w w' := by
  have HM := Lib.hid (raw_made h)
  have HL := Lib.hid (raw_hasList h i true ⟨fun _ => (by omega), fun _ => rfl⟩)
  have HN := Lib.hid (raw_hasNode h x true ⟨fun _ => (by omega), fun _ => rfl⟩)
  have HE := Lib.hid (raw_end h i hi)
  have HJ := Lib.hid (raw_join h p x hp (by omega))
  have HK : Hid (∀ w1, Raw w1 b gl gh gs n m (joined K p x) H S → Calls Try.prog 27 #[.pointer (some ⟨b, 0, none⟩), .int .i64 (x : Int), .int .i64 ((n + i : Nat) : Int)] w1 fun e w' => e = .returned (.tuple #[]) ∧ Raw w' b gl gh gs n m (joined (joined K p x) x (n + i)) H S ∧ Turned (Own4 b gl gh gs) w1 w') :=
    fun w1 r1 => raw_join r1 x (n + i) (by omega) (by omega)
  obtain ⟨c0, c1, _⟩ := h.cells
  have d0 := h.links.cell (i := (n + i) * 2) (by omega)
  rw [e1] at d0
  have d1 := h.homes.cell hx
  rw [e0] at d1
  have h1 := h.n1
  have h2 := h.m1
  have hz : (x : Int) < (n : Int) := by omega
  have hy : n + i < n + m := by omega
  generalize n + i = y at *
  have hy2 : (y : Int) < (n : Int) + (m : Int) := by omega
  clear h e0 e1
  go_enter Try.func12, Try.ntmps12
  go_wp2_with fail
  refine HM.out.mono ?_
  rintro e w1 ⟨rfl, rfl⟩
  go_wp2_with fail
  refine HL.out.mono ?_
  rintro e w1 ⟨rfl, rfl⟩
  go_wp2_with fail
  refine HN.out.mono ?_
  rintro e w1 ⟨rfl, rfl⟩
  go_wp2_with fail
  refine HE.out.mono ?_
  rintro e w1 ⟨rfl, rfl⟩
  go_wp2_with fail
  refine HJ.out.mono ?_
  rintro e w2 ⟨rfl, R2, T2⟩
  have HR2 := Lib.hid R2
  have HT2 := Lib.hid T2
  clear R2 T2 c0 c1 d0 d1 HM HL HN HE HJ
  go_wp2_with fail
  refine (HK.out _ HR2.out).mono ?_
  rintro e w3 ⟨rfl, R3, T3⟩
  clear HR2 HK
  obtain ⟨_, c1, _⟩ := R3.cells
  have d1 := R3.homes.cell hx
  have f1 := R3.homes.frozen x
  have HT := Lib.hid (HT2.out.trans T3)
  have HR := Lib.hid R3
  clear R3 T3 HT2
  go_upto_region 11 with fail
  have R4 := HR.out.putH x (i + 1) (u := (i : Int) + 1) (by omega)
  obtain ⟨_, _, c2⟩ := R4.cells
  have d2 := R4.sizes.cell hi
  rw [e2] at d2
  have f2 := R4.sizes.frozen i
  have hz2 : (i : Int) < (m : Int) := by omega
  clear R4 e2 c1 d1 f1
  go_wp2_with fail
  go_ret
  exact ⟨rfl, (HR.out.putH x (i + 1) rfl).putS i (s + 1) (by omega), (HT.out.set (.inr (.inr (.inl rfl))) _).set (.inr (.inr (.inr rfl))) _⟩
end

end Go.Proofs.Ythdgpnkkeeebkaa
