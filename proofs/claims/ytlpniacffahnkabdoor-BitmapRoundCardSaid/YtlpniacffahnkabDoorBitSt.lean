/-
  Where a law of layer 8 stands: a bitmap of its own, behind some of its calls.
-/
import Derived.Test.YtlpniacffahnkabDoorBitAll
namespace Go.Proofs.YtlpniacffahnkabDoor
open Go.RowKit
set_option linter.unusedVariables false

def BSt (w W : World) (a : Addr) (g : Bg) : Prop := ∃ N, BmAt N W a g ∧ (∀ j, N j → w.heap.size ≤ j) ∧ Below w.heap.size w W
section
variable {w W W' : World} {a : Addr} {g : Bg}
theorem BSt.lo (h : BSt w W a g) : Below w.heap.size w W := by
  obtain ⟨N, _, _, h⟩ := h
  exact h
theorem BSt.below (h : BSt w W a g) (b : Below W.heap.size W W') : BSt w W' a g := by
  obtain ⟨N, h1, h2, h3⟩ := h
  exact ⟨N, h1.below b, h2, below_tr h3 b⟩
theorem BSt.went {N : Nat → Prop} {g' : Bg} (h2 : ∀ j, N j → w.heap.size ≤ j) (h3 : Below w.heap.size w W) (h : WentB N W a g' W') : BSt w W' a g' :=
  ⟨N, h.1, h2, below_turned h.2 h3.size h2 h3⟩
theorem s_new (n : Nat) (hn1 : 1 ≤ n) (hn : n ≤ 65536) (w W : World) (lo : Below w.heap.size w W) : Calls Tryd.prog 9 #[.int .i64 (n : Int)] W fun e W' => ∃ a, e = .returned (.tuple #[.pointer (some a), .int .i64 0]) ∧ BSt w W' a ⟨n, fun _ => false⟩ := by
  refine (c_new n hn1 hn W).mono ?_
  rintro e W' ⟨a, N, rfl, h1, h2, h3⟩
  exact ⟨a, rfl, N, h1, fun j hj => Nat.le_trans lo.size (h2 j hj), below_tr lo h3⟩
theorem BSt.set (h : BSt w W a g) (i : Int) : Calls Tryd.prog 13 #[.pointer (some a), .int .i64 i] W fun e W' => e = .returned (.bool (newB g i)) ∧ BSt w W' a (setG g i) := by
  obtain ⟨N, h1, h2, h3⟩ := h
  refine (c_set h1 i).mono ?_
  rintro e W' ⟨rfl, h4⟩
  exact ⟨rfl, .went h2 h3 h4⟩
theorem BSt.clear (h : BSt w W a g) (i : Int) : Calls Tryd.prog 14 #[.pointer (some a), .int .i64 i] W fun e W' => e = .returned (.bool (hasB g i)) ∧ BSt w W' a (clearG g i) := by
  obtain ⟨N, h1, h2, h3⟩ := h
  refine (c_clear h1 i).mono ?_
  rintro e W' ⟨rfl, h4⟩
  exact ⟨rfl, .went h2 h3 h4⟩
theorem BSt.has (h : BSt w W a g) (i : Int) : Calls Tryd.prog 19 #[.pointer (some a), .int .i64 i] W fun e W' => e = .returned (.bool (hasB g i)) ∧ BSt w W' a g := by
  have h' := h
  obtain ⟨N, h1, h2, h3⟩ := h
  refine (c_has h1 i).mono ?_
  rintro e W' ⟨rfl, h4⟩
  exact ⟨rfl, h'.below h4⟩
theorem BSt.next (h : BSt w W a g) (hT : Tab w) (fr : Int) (hf1 : -9223372036854775808 ≤ fr) (hf2 : fr ≤ 9223372036854775807) : Calls Tryd.prog 15 #[.pointer (some a), .int .i64 fr] W fun e W' => ∃ o, IsNext g.m fr o ∧ e = .returned (.tuple #[.int .i64 ((o.getD 0 : Nat) : Int), .bool o.isSome]) ∧ BSt w W' a g := by
  have h' := h
  obtain ⟨N, h1, h2, h3⟩ := h
  refine (c_next h1 (hT.below h3) fr hf1 hf2).mono ?_
  rintro e W' ⟨⟨o, ho, rfl⟩, h4⟩
  exact ⟨o, ho, rfl, h'.below h4⟩
theorem BSt.round (h : BSt w W a g) (hT : Tab w) (fr : Int) (hf1 : -9223372036854775808 ≤ fr) (hf2 : fr ≤ 9223372036854775807) : Calls Tryd.prog 17 #[.pointer (some a), .int .i64 fr] W fun e W' => ∃ o, IsRound g.m fr o ∧ e = .returned (.tuple #[.int .i64 ((o.getD 0 : Nat) : Int), .bool o.isSome]) ∧ BSt w W' a g := by
  have h' := h
  obtain ⟨N, h1, h2, h3⟩ := h
  refine (c_round h1 (hT.below h3) fr hf1 hf2).mono ?_
  rintro e W' ⟨⟨o, ho, rfl⟩, h4⟩
  exact ⟨o, ho, rfl, h'.below h4⟩
theorem BSt.len (h : BSt w W a g) : Calls Tryd.prog 24 #[.pointer (some a)] W fun e W' => e = .returned (.int .i64 (g.l.length : Nat)) ∧ W' = W := by
  obtain ⟨N, h1, h2, h3⟩ := h
  exact c_len h1
theorem BSt.all (h : BSt w W a g) (hT : Tab w) : Calls Tryd.prog 23 #[.pointer (some a)] W fun e W' => ∃ p c, e = .returned (.slice p g.l.length c) ∧ W'.ownsRow W.heap.size 3 1 (.slice p g.l.length c) g.l.length (g.l.map natV) ∧ Below W.heap.size W W' := by
  obtain ⟨N, h1, h2, h3⟩ := h
  exact c_all h1 (hT.below h3)
theorem BSt.next_is (h : BSt w W a g) (hT : Tab w) (fr : Int) (hf1 : -9223372036854775808 ≤ fr) (hf2 : fr ≤ 9223372036854775807) {o : Option Nat} (ho : IsNext g.m fr o) : Calls Tryd.prog 15 #[.pointer (some a), .int .i64 fr] W fun e W' => e = .returned (.tuple #[.int .i64 ((o.getD 0 : Nat) : Int), .bool o.isSome]) ∧ BSt w W' a g := by
  refine (h.next hT fr hf1 hf2).mono ?_
  rintro e W' ⟨o', ho', rfl, s⟩
  rw [next_one ho' ho]
  exact ⟨rfl, s⟩
theorem BSt.round_is (h : BSt w W a g) (hT : Tab w) (fr : Int) (hf1 : -9223372036854775808 ≤ fr) (hf2 : fr ≤ 9223372036854775807) {o : Option Nat} (h1 : IsNext g.m fr none) (ho : IsNext g.m 0 o) : Calls Tryd.prog 17 #[.pointer (some a), .int .i64 fr] W fun e W' => e = .returned (.tuple #[.int .i64 ((o.getD 0 : Nat) : Int), .bool o.isSome]) ∧ BSt w W' a g := by
  refine (h.round hT fr hf1 hf2).mono ?_
  rintro e W' ⟨o', ho', rfl, s⟩
  rcases ho' with ⟨h2, h3⟩ | ⟨_, h2⟩
  · exact absurd (next_one h2 h1) h3
  · rw [next_one h2 ho]
    exact ⟨rfl, s⟩
end
theorem setG_yes {g : Bg} {i : Int} (h : newB g i = true) : setG g i = ⟨g.n, setB g.m i.toNat true⟩ := if_pos h
theorem setG_no {g : Bg} {i : Int} (h : newB g i = false) : setG g i = g := by rw [setG, h]; rfl
theorem clearG_yes {g : Bg} {i : Int} (h : hasB g i = true) : clearG g i = ⟨g.n, setB g.m i.toNat false⟩ := if_pos h
theorem clearG_no {g : Bg} {i : Int} (h : hasB g i = false) : clearG g i = g := by rw [clearG, h]; rfl

/-- The chapter's examples hold. -/
def Awake8 : Prop := ∀ w : World, Tab w → Calls Tryd.prog 11 #[] w fun e w' => e = .returned (.bool true) ∧ Below w.heap.size w w'
def aw0 : Bg := ⟨200, fun _ => false⟩
def aw1 : Bg := ⟨200, setB (fun _ => false) 3 true⟩
def aw2 : Bg := ⟨200, setB (setB (fun _ => false) 3 true) 150 true⟩
def aw3 : Bg := ⟨200, setB (setB (setB (fun _ => false) 3 true) 150 true) 3 false⟩
theorem aw2_m {j : Nat} (h : aw2.m j = true) : j = 3 ∨ j = 150 := by
  simp only [aw2, setB] at h
  by_cases c : j = 150
  · exact .inr c
  · by_cases d : j = 3
    · exact .inl d
    · simp [c, d] at h
theorem aw3_m {j : Nat} (h : aw3.m j = true) : j = 150 := by
  simp only [aw3, setB] at h
  by_cases c : j = 150
  · exact c
  · by_cases d : j = 3
    · simp [d] at h
    · simp [c, d] at h
theorem awn0 : IsNext aw2.m 0 (some 3) := ⟨rfl, by decide, fun j hj _ => by have := aw2_m hj; omega⟩
theorem awn4 : IsNext aw2.m 4 (some 150) := ⟨rfl, by decide, fun j hj _ => by have := aw2_m hj; omega⟩
theorem awn151 : IsNext aw2.m 151 none := fun j hj => by have := aw2_m hj; omega
theorem awn5 : IsNext aw3.m (-5) (some 150) := ⟨rfl, by decide, fun j hj _ => by have := aw3_m hj; omega⟩
section
variable {w W : World} {a : Addr}
theorem aw_set3 (h : Hid (BSt w W a aw0)) : Calls Tryd.prog 13 #[.pointer (some a), .int .i64 3] W fun e W' => e = .returned (.bool true) ∧ Hid (BSt w W' a aw1) := h.out.set 3
theorem aw_set150 (h : Hid (BSt w W a aw1)) : Calls Tryd.prog 13 #[.pointer (some a), .int .i64 150] W fun e W' => e = .returned (.bool true) ∧ Hid (BSt w W' a aw2) := h.out.set 150
theorem aw_again (h : Hid (BSt w W a aw2)) : Calls Tryd.prog 13 #[.pointer (some a), .int .i64 3] W fun e W' => e = .returned (.bool false) ∧ Hid (BSt w W' a aw2) := h.out.set 3
theorem aw_gone (h : Hid (BSt w W a aw2)) : Calls Tryd.prog 14 #[.pointer (some a), .int .i64 3] W fun e W' => e = .returned (.bool true) ∧ Hid (BSt w W' a aw3) := h.out.clear 3
theorem aw_set200 (h : Hid (BSt w W a aw3)) : Calls Tryd.prog 13 #[.pointer (some a), .int .i64 200] W fun e W' => e = .returned (.bool false) ∧ Hid (BSt w W' a aw3) := h.out.set 200
end
theorem awake8 : Awake8 := by
  intro w hT
  have HT := Lib.hid hT
  have H0 := Lib.hid (s_new 200 (by decide) (by decide) w w (Below.refl _ _))
  clear hT
  go_enter Tryd.func11, Tryd.ntmps11
  go_wp2_with fail
  refine H0.out.mono ?_
  rintro e w0 ⟨a, rfl, h0⟩
  replace h0 : Hid (BSt w w0 a aw0) := h0
  clear H0
  go_wp2_with fail
  refine (aw_set3 h0).mono ?_
  rintro e w1 ⟨rfl, h1⟩
  go_wp2_with fail
  refine (aw_set150 h1).mono ?_
  rintro e w2 ⟨rfl, h2⟩
  go_wp2_with fail
  refine (h2.out.next_is HT.out 0 (by decide) (by decide) awn0).mono ?_
  rintro e w3 ⟨rfl, h3⟩
  replace h3 := Lib.hid h3
  go_wp2_with fail
  refine (h3.out.next_is HT.out 4 (by decide) (by decide) awn4).mono ?_
  rintro e w4 ⟨rfl, h4⟩
  replace h4 := Lib.hid h4
  go_wp2_with fail
  refine (h4.out.next_is HT.out 151 (by decide) (by decide) awn151).mono ?_
  rintro e w5 ⟨rfl, h5⟩
  replace h5 := Lib.hid h5
  go_wp2_with fail
  refine (h5.out.round_is HT.out 151 (by decide) (by decide) awn151 awn0).mono ?_
  rintro e w6 ⟨rfl, h6⟩
  replace h6 := Lib.hid h6
  go_wp2_with fail
  refine (aw_again h6).mono ?_
  rintro e w7 ⟨rfl, h7⟩
  go_wp2_with fail
  refine (aw_gone h7).mono ?_
  rintro e w8 ⟨rfl, h8⟩
  go_wp2_with fail
  refine (h8.out.next_is HT.out (-5) (by decide) (by decide) awn5).mono ?_
  rintro e w9 ⟨rfl, h9⟩
  replace h9 := Lib.hid h9
  go_wp2_with fail
  refine (bit_new_no 0 (by decide) w9).mono ?_
  rintro e w10 ⟨rfl, rfl⟩
  go_wp2_with fail
  refine (aw_set200 h9).mono ?_
  rintro e w11 ⟨rfl, h11⟩
  go_wp2_with fail
  go_ret
  exact ⟨rfl, h11.out.lo⟩

end Go.Proofs.YtlpniacffahnkabDoor
