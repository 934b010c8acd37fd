/-
  The program's own chains: Len, First, In, leave and what Push does, at the rows.
-/
import Derived.Test.YthdgpnkkeeebkaaChainOwn
import Derived.StillTailTactics
namespace Go.Proofs.Ythdgpnkkeeebkaa
open Go.RowKit
set_option linter.unusedVariables false

section
variable {w w' : World} {b gl gh gs n m : Nat} {K H S : Nat → Nat}
theorem raw_len_no (h : Raw w b gl gh gs n m K H S) (i : Int) (hi : i < 0 ∨ (m : Int) ≤ i) :
    Calls Try.prog 22 #[.pointer (some ⟨b, 0, none⟩), .int .i64 i] w fun e w' => e = .returned (.int .i64 0) ∧ w' = w := by
  have HM := Lib.hid (raw_made h)
  have HL := Lib.hid (raw_hasList h i false ⟨fun e => (by cases e), fun e => (by omega)⟩)
  clear h hi
  go_enter Try.func22, Try.ntmps22
  go_wp2_with fail
  refine HM.out.mono ?_
  rintro e w1 ⟨rfl, rfl⟩
  go_wp2_with fail
  refine HL.out.mono ?_
  rintro e w2 ⟨rfl, rfl⟩
  go_wp2_with fail
  go_ret
  exact ⟨rfl, rfl⟩
theorem raw_len (h : Raw w b gl gh gs n m K H S) (i : Nat) (hi : i < m) :
    Calls Try.prog 22 #[.pointer (some ⟨b, 0, none⟩), .int .i64 (i : Int)] w fun e w' => e = .returned (.int .i64 (S i : Int)) ∧ w' = w := by
  have HM := Lib.hid (raw_made h)
  have HL := Lib.hid (raw_hasList h i true ⟨fun _ => (by omega), fun _ => rfl⟩)
  obtain ⟨c0, c1, c2⟩ := h.cells
  have d := h.sizes.cell hi
  have h1 := h.m1
  have hz : (i : Int) < (m : Int) := by omega
  clear h
  go_enter Try.func22, Try.ntmps22
  go_wp2_with fail
  refine HM.out.mono ?_
  rintro e w1 ⟨rfl, rfl⟩
  go_wp2_with fail
  refine HL.out.mono ?_
  rintro e w2 ⟨rfl, rfl⟩
  go_wp2_with fail
  go_ret
  exact ⟨rfl, rfl⟩
theorem raw_first_no (h : Raw w b gl gh gs n m K H S) (i : Int) (HL : Hid (Calls Try.prog 22 #[.pointer (some ⟨b, 0, none⟩), .int .i64 i] w fun e w' => e = .returned (.int .i64 0) ∧ w' = w)) :
    Calls Try.prog 20 #[.pointer (some ⟨b, 0, none⟩), .int .i64 i] w fun e w' => e = .returned (.tuple #[.int .i64 0, .bool false]) ∧ w' = w := by
  clear h
  go_enter Try.func20, Try.ntmps20
  go_wp2_with fail
  refine HL.out.mono ?_
  rintro e w1 ⟨rfl, rfl⟩
  go_wp2_with fail
  go_ret2
  exact ⟨rfl, rfl⟩
theorem raw_first (h : Raw w b gl gh gs n m K H S) (i x : Nat) (hi : i < m) (hs : S i ≠ 0) (hx : K ((n + i) * 2 + 1) = x) :
    Calls Try.prog 20 #[.pointer (some ⟨b, 0, none⟩), .int .i64 (i : Int)] w fun e w' => e = .returned (.tuple #[.int .i64 (x : Int), .bool true]) ∧ Below w.heap.size w w' := by
  have HL := Lib.hid (raw_len h i hi)
  have HE : Hid (∀ k, Calls Try.prog 26 #[.pointer (some ⟨b, 0, none⟩), .int .i64 (i : Int)] (w.drewN k) fun e w' => e = .returned (.int .i64 ((n + i : Nat) : Int)) ∧ w' = w.drewN k) := fun k => raw_end (h.drewN k) i hi
  obtain ⟨c0, c1, c2⟩ := h.cells
  have d := h.links.cell (i := (n + i) * 2 + 1) (by omega)
  rw [hx] at d
  have h1 := h.n1
  have h2 := h.m1
  have h3 : n + i < n + m := by omega
  obtain ⟨s, rfl⟩ : ∃ s, S i = s := ⟨_, rfl⟩
  have hs0 : ((S i : Nat) : Int) ≠ 0 := by omega
  generalize S i = s at *
  generalize n + i = y at *
  clear h hs hx
  go_enter Try.func20, Try.ntmps20
  go_wp2_with fail
  refine HL.out.mono ?_
  rintro e w1 ⟨rfl, rfl⟩
  go_wp2_with fail
  go_quiet (first | (go_at_call 26; exact Calls.quiet_of_same (HE.out _)))
  go_wp2_with fail
  go_ret2
  exact ⟨rfl, below_drewN (Below.refl _ _) _⟩
theorem raw_in_no (h : Raw w b gl gh gs n m K H S) (x : Int) (hx : x < 0 ∨ (n : Int) ≤ x) :
    Calls Try.prog 23 #[.pointer (some ⟨b, 0, none⟩), .int .i64 x] w fun e w' => e = .returned (.tuple #[.int .i64 0, .bool false]) ∧ w' = w := by
  have HM := Lib.hid (raw_made h)
  have HN := Lib.hid (raw_hasNode h x false ⟨fun e => (by cases e), fun e => (by omega)⟩)
  clear h hx
  go_enter Try.func23, Try.ntmps23
  go_wp2_with fail
  refine HM.out.mono ?_
  rintro e w1 ⟨rfl, rfl⟩
  go_wp2_with fail
  refine HN.out.mono ?_
  rintro e w2 ⟨rfl, rfl⟩
  go_wp2_with fail
  go_ret2
  exact ⟨rfl, rfl⟩
theorem raw_in_none (h : Raw w b gl gh gs n m K H S) (x : Nat) (hx : x < n) (hh : H x = 0) :
    Calls Try.prog 23 #[.pointer (some ⟨b, 0, none⟩), .int .i64 (x : Int)] w fun e w' => e = .returned (.tuple #[.int .i64 0, .bool false]) ∧ w' = w := by
  have HM := Lib.hid (raw_made h)
  have HN := Lib.hid (raw_hasNode h x true ⟨fun _ => (by omega), fun _ => rfl⟩)
  obtain ⟨c0, c1, c2⟩ := h.cells
  have d := h.homes.cell hx
  rw [hh] at d
  have h1 := h.n1
  have hz : (x : Int) < (n : Int) := by omega
  clear h hh
  go_enter Try.func23, Try.ntmps23
  go_wp2_with fail
  refine HM.out.mono ?_
  rintro e w1 ⟨rfl, rfl⟩
  go_wp2_with fail
  refine HN.out.mono ?_
  rintro e w2 ⟨rfl, rfl⟩
  go_wp2_with fail
  go_ret2
  exact ⟨rfl, rfl⟩
theorem raw_in (h : Raw w b gl gh gs n m K H S) (x i : Nat) (hx : x < n) (hh : H x = i + 1) (hi : i < m) :
    Calls Try.prog 23 #[.pointer (some ⟨b, 0, none⟩), .int .i64 (x : Int)] w fun e w' => e = .returned (.tuple #[.int .i64 (i : Int), .bool true]) ∧ w' = w := by
  have HM := Lib.hid (raw_made h)
  have HN := Lib.hid (raw_hasNode h x true ⟨fun _ => (by omega), fun _ => rfl⟩)
  obtain ⟨c0, c1, c2⟩ := h.cells
  have d := h.homes.cell hx
  rw [hh] at d
  have h1 := h.n1
  have h2 := h.m1
  have hz : (x : Int) < (n : Int) := by omega
  have HE : Hid (Ending.returned (.tuple #[.int .i64 (((i + 1 : Nat) : Int) - 1), .bool true]) = .returned (.tuple #[.int .i64 (i : Int), .bool true])) := by
    exact ret_hb (by omega)
  have h3 : ((i + 1 : Nat) : Int) ≠ 0 := by omega
  have h4 : i + 1 ≤ 64 := by omega
  clear h hh
  generalize i + 1 = j at *
  go_enter Try.func23, Try.ntmps23
  go_wp2_with fail
  refine HM.out.mono ?_
  rintro e w1 ⟨rfl, rfl⟩
  go_wp2_with fail
  refine HN.out.mono ?_
  rintro e w2 ⟨rfl, rfl⟩
  go_wp2_with fail
  go_ret2
  exact ⟨HE.out, rfl⟩
theorem raw_leave (h : Raw w b gl gh gs n m K H S) (i x p q s : Nat) (hi : i < m) (hx : x < n) (hp : p < n + m) (hq : q < n + m) (e1 : K (x * 2) = p) (e2 : K (x * 2 + 1) = q) (e3 : S i = s + 1) (hs : s ≤ 65536) :
    Calls Try.prog 32 #[.pointer (some ⟨b, 0, none⟩), .int .i64 (i : Int), .int .i64 (x : Int)] w fun e w' => e = .returned (.tuple #[]) ∧ Raw w' b gl gh gs n m (joined K p q) (upd H x 0) (upd S i s) ∧ Turned (Own4 b gl gh gs) w w' := by
  have hd : Raw w.drew b gl gh gs n m K H S := h.same fun _ _ => rfl
  have HJ := Lib.hid (raw_join hd p q hp hq)
  clear hd
  obtain ⟨c0, c1, c2⟩ := h.cells
  have d0 := h.links.cell (i := x * 2) (by omega)
  have d1 := h.links.cell (i := x * 2 + 1) (by omega)
  rw [e1] at d0
  rw [e2] at d1
  have h1 := h.n1
  have h2 := h.m1
  have hz : (x : Int) < (n : Int) + (m : Int) := by omega
  have hz' : x < n + m := by omega
  clear h e1 e2
  go_enter Try.func32, Try.ntmps32
  go_upto_region 0 with fail
  go_still_tail 17, (by kernel_rfl)
  change wpList _ _ _ _ _ w.drew
  go_wp2_with fail
  refine HJ.out.mono ?_
  rintro e w1 ⟨rfl, R1, T1⟩
  clear c0 c1 c2 d0 d1 HJ
  obtain ⟨_, c1, _⟩ := R1.cells
  have d1 := R1.homes.cell hx
  have f1 := R1.homes.frozen x
  have hz3 : (x : Int) < (n : Int) := by omega
  have HT := Lib.hid (((Turned.refl (Own4 b gl gh gs) w).drew).trans T1)
  have HR := Lib.hid R1
  clear R1 T1
  go_upto_region 2 with fail
  have R2 := HR.out.putH x 0 (u := 0) rfl
  obtain ⟨_, _, c2⟩ := R2.cells
  have d2 := R2.sizes.cell hi
  rw [e3] at d2
  have f2 := R2.sizes.frozen i
  have hz2 : (i : Int) < (m : Int) := by omega
  clear R2 e3 c1 d1 f1
  go_wp2_with fail
  go_end0
  exact ⟨rfl, (HR.out.putH x 0 rfl).putS i s (by omega), (HT.out.set (.inr (.inr (.inl rfl))) _).set (.inr (.inr (.inr rfl))) _⟩
end

end Go.Proofs.Ythdgpnkkeeebkaa
