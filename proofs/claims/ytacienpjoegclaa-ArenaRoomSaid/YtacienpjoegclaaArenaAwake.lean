/-
  The chapter's examples hold, of whatever arena keeps what layer 4's laws ask (ArenaK).
-/
import Derived.Test.YtacienpjoegclaaArenaTellsOut
namespace Go.Proofs.Ytacienpjoegclaa
open Go.RowKit
set_option linter.unusedVariables false

/-- An arena of the call's own, behind some of its calls. -/
structure Own (K : ArenaK) (w W : World) (a : Addr) (g : Gh) : Prop where
  at_ : ∃ N, K.At N W a g ∧ ∀ k, N k → w.heap.size ≤ k
  lo : Below w.heap.size w W
section
variable {K : ArenaK} {w W W' : World} {a : Addr} {g g' : Gh}
theorem Own.below (h : Own K w W a g) (b : Below W.heap.size W W') : Own K w W' a g := by
  obtain ⟨⟨N, h1, h2⟩, h3⟩ := h
  exact ⟨⟨N, K.below h1 b, h2⟩, below_tr h3 b⟩
theorem Own.drewN (h : Own K w W a g) (n : Nat) : Own K w (W.drewN n) a g := h.below (below_drewN (Below.refl _ _) n)
theorem Own.went (h : Own K w W a g) {P : World → Prop} {N : Nat → Prop} (hn : ∀ k, N k → w.heap.size ≤ k) (t : Went K.At N W a g' W') : Own K w W' a g' := by
  obtain ⟨N', h1, h2, h3⟩ := t
  refine ⟨⟨N', h1, fun k hk => ?_⟩, below_turned h2 h.lo.size hn h.lo⟩
  rcases h3 k hk with h4 | h4
  · exact hn k h4
  · exact Nat.le_trans h.lo.size h4
def Took (K : ArenaK) (w : World) (a : Addr) (g : Gh) (h x : Nat) (e : Ending) (W' : World) : Prop := e = .returned (.tuple #[.int .u64 (h : Int), .int .i64 (x : Int)]) ∧ Own K w W' a g
def Gave (K : ArenaK) (w : World) (a : Addr) (g : Gh) (x : Nat) (e : Ending) (W' : World) : Prop := e = .returned (.int .i64 (x : Int)) ∧ Own K w W' a g
theorem Own.new (K : ArenaK) (w : World) (room : Nat) (h1 : 1 ≤ room) (h2 : room ≤ 65536) (W : World) (b : Below w.heap.size w W) : Calls Try.prog 8 #[.int .i64 (room : Int)] W fun e W' => ∃ a, e = .returned (.tuple #[.pointer (some a), .int .i64 0]) ∧ Own K w W' a (Gh.new room) := by
  refine (K.new room W h1 h2).mono ?_
  rintro e W' ⟨a, N, rfl, h3, h4, h5⟩
  exact ⟨a, rfl, ⟨N, h3, fun k hk => Nat.le_trans b.size (h4 k hk)⟩, below_tr b h5⟩
theorem Own.take {M : Nat} (h : Own K w W a g) (ok : g.Ok M) (hM : M ≤ 1000) (hf : ¬ g.full) : Calls Try.prog 12 #[.pointer (some a)] W (Took K w a g.take g.handle 0) := by
  have h0 := h
  obtain ⟨⟨N, h1, h2⟩, h3⟩ := h
  refine (K.take h1 ok hM hf).mono ?_
  rintro e W' ⟨rfl, t⟩
  exact ⟨rfl, h0.went (P := fun _ => True) h2 t⟩
theorem Own.take_full {M : Nat} (h : Own K w W a g) (ok : g.Ok M) (hM : M ≤ 1000) (hf : g.full) : Calls Try.prog 12 #[.pointer (some a)] W (Took K w a g 0 4) := by
  have h0 := h
  obtain ⟨⟨N, h1, h2⟩, h3⟩ := h
  refine (K.take_full h1 ok hM hf).mono ?_
  rintro e W' ⟨rfl, t⟩
  exact ⟨rfl, h0.went (P := fun _ => True) h2 t⟩
theorem Own.give {M : Nat} (h : Own K w W a g) (ok : g.Ok M) (hM : M ≤ 1000) (x p : Nat) (hx : x < 18446744073709551616) (hp : placeOf g.ts g.l x = some p) : Calls Try.prog 14 #[.pointer (some a), .int .u64 (x : Int)] W (Gave K w a (g.give p) 0) := by
  have h0 := h
  obtain ⟨⟨N, h1, h2⟩, h3⟩ := h
  refine (K.give x p h1 ok hM hx hp).mono ?_
  rintro e W' ⟨rfl, t⟩
  exact ⟨rfl, h0.went (P := fun _ => True) h2 t⟩
theorem Own.give_no {M : Nat} (h : Own K w W a g) (ok : g.Ok M) (hM : M ≤ 1000) (x : Nat) (hx : x < 18446744073709551616) (hp : placeOf g.ts g.l x = none) : Calls Try.prog 14 #[.pointer (some a), .int .u64 (x : Int)] W (Gave K w a g 40) := by
  have h0 := h
  obtain ⟨⟨N, h1, h2⟩, h3⟩ := h
  refine (K.give_no x h1 ok hM hx hp).mono ?_
  rintro e W' ⟨rfl, t⟩
  exact ⟨rfl, h0.went (P := fun _ => True) h2 t⟩
theorem Own.place {M : Nat} (h : Own K w W a g) (ok : g.Ok M) (hM : M ≤ 1000) (x : Nat) (hx : x < 18446744073709551616) : Calls Try.prog 18 #[.pointer (some a), .int .u64 (x : Int)] W fun e W' => e = .returned (placeV (placeOf g.ts g.l x)) ∧ Own K w W' a g := by
  have h0 := h
  obtain ⟨⟨N, h1, h2⟩, h3⟩ := h
  refine (K.place x h1 ok hM hx).mono ?_
  rintro e W' ⟨rfl, b⟩
  exact ⟨rfl, h0.below b⟩
theorem Own.handle {M : Nat} (h : Own K w W a g) (ok : g.Ok M) (hM : M ≤ 1000) (j : Nat) (hj : j ≤ 65536) : Calls Try.prog 16 #[.pointer (some a), .int .i64 (j : Int)] W fun e W' => e = .returned (HdOut (hd g.ts g.l j)) ∧ Own K w W' a g := by
  have h0 := h
  obtain ⟨⟨N, h1, h2⟩, h3⟩ := h
  refine (K.handle j h1 ok hM hj).mono ?_
  rintro e W' ⟨rfl, b⟩
  exact ⟨rfl, h0.below b⟩
theorem Own.used {M : Nat} (h : Own K w W a g) (ok : g.Ok M) : Calls Try.prog 20 #[.pointer (some a)] W fun e W' => e = .returned (.int .i64 (g.l.count true : Nat)) ∧ Own K w W' a g := by
  have h0 := h
  obtain ⟨⟨N, h1, h2⟩, h3⟩ := h
  refine (K.used h1 ok).mono ?_
  rintro e W' ⟨rfl, b⟩
  exact ⟨rfl, h0.below b⟩
theorem Own.room {M : Nat} (h : Own K w W a g) (ok : g.Ok M) : Calls Try.prog 22 #[.pointer (some a)] W fun e W' => e = .returned (.int .i64 (g.room : Nat)) ∧ Own K w W' a g := by
  have h0 := h
  obtain ⟨⟨N, h1, h2⟩, h3⟩ := h
  refine (K.room h1 ok).mono ?_
  rintro e W' ⟨rfl, b⟩
  exact ⟨rfl, h0.below b⟩
end

def ex0 : Gh := Gh.new 2
def ex1 : Gh := ⟨[1], [true], [], 2⟩
def ex2 : Gh := ⟨[1, 1], [true, true], [], 2⟩
def ex3 : Gh := ⟨[1, 1], [false, true], [0], 2⟩
def ex4 : Gh := ⟨[2, 1], [true, true], [], 2⟩
theorem ex0_full : ¬ ex0.full := by unfold Gh.full; decide
theorem ex1_full : ¬ ex1.full := by unfold Gh.full; decide
theorem ex2_full : ex2.full := by unfold Gh.full; decide
theorem ex3_full : ¬ ex3.full := by unfold Gh.full; decide
theorem ex0_ok : ex0.Ok 0 := Gh.new_ok (by decide)
theorem ex1_ok : ex1.Ok 1 := ex0_ok.take ex0_full
theorem ex2_ok : ex2.Ok 2 := ex1_ok.take ex1_full
theorem ex3_ok : ex3.Ok 2 := ex2_ok.give (p := 0) rfl
theorem ex4_ok : ex4.Ok 3 := ex3_ok.take ex3_full
theorem ex2_place : placeOf ex2.ts ex2.l 1 = some 0 := by decide
theorem ex4_place : placeOf ex4.ts ex4.l 1 = none := by decide
theorem ex4_place' : placeOf ex4.ts ex4.l 4294967297 = some 0 := by decide
theorem ex4_handle : hd ex4.ts ex4.l 1 = some 2 := by decide

theorem ex_new (K : ArenaK) (w : World) : Calls Try.prog 8 #[.int .i64 2] w fun e W' => ∃ a, e = .returned (.tuple #[.pointer (some a), .int .i64 0]) ∧ Own K w W' a ex0 := Own.new K w 2 (by decide) (by decide) w (Below.refl _ _)
section
variable {K : ArenaK} {w W : World} {a : Addr}
theorem ex_take0 (h : Own K w W a ex0) : Calls Try.prog 12 #[.pointer (some a)] W fun e W' => e = .returned (.tuple #[.int .u64 1, .int .i64 0]) ∧ Own K w W' a ex1 := h.take ex0_ok (by decide) ex0_full
theorem ex_take1 (h : Own K w W a ex1) : Calls Try.prog 12 #[.pointer (some a)] W fun e W' => e = .returned (.tuple #[.int .u64 2, .int .i64 0]) ∧ Own K w W' a ex2 := h.take ex1_ok (by decide) ex1_full
theorem ex_take2 (h : Own K w W a ex2) : Calls Try.prog 12 #[.pointer (some a)] W fun e W' => e = .returned (.tuple #[.int .u64 0, .int .i64 4]) ∧ Own K w W' a ex2 := h.take_full ex2_ok (by decide) ex2_full
theorem ex_give2 (h : Own K w W a ex2) : Calls Try.prog 14 #[.pointer (some a), .int .u64 1] W fun e W' => e = .returned (.int .i64 0) ∧ Own K w W' a ex3 := h.give ex2_ok (by decide) 1 0 (by decide) ex2_place
theorem ex_take3 (h : Own K w W a ex3) : Calls Try.prog 12 #[.pointer (some a)] W fun e W' => e = .returned (.tuple #[.int .u64 4294967297, .int .i64 0]) ∧ Own K w W' a ex4 := h.take ex3_ok (by decide) ex3_full
theorem ex_give4 (h : Own K w W a ex4) : Calls Try.prog 14 #[.pointer (some a), .int .u64 1] W fun e W' => e = .returned (.int .i64 40) ∧ Own K w W' a ex4 := h.give_no ex4_ok (by decide) 1 (by decide) ex4_place
theorem ex_place4 (h : Own K w W a ex4) : Calls Try.prog 18 #[.pointer (some a), .int .u64 4294967297] W fun e W' => e = .returned (.tuple #[.int .i64 0, .bool true]) ∧ Own K w W' a ex4 := by
  have h1 := h.place ex4_ok (by decide) 4294967297 (by decide)
  rw [ex4_place'] at h1
  exact h1
theorem ex_handle4 (h : Own K w W a ex4) : Calls Try.prog 16 #[.pointer (some a), .int .i64 1] W fun e W' => e = .returned (.tuple #[.int .u64 2, .bool true]) ∧ Own K w W' a ex4 := by
  have h1 := h.handle ex4_ok (by decide) 1 (by decide)
  rw [ex4_handle] at h1
  exact h1
end

theorem awake_of (K : ArenaK) : Awake := by
  intro w
  have R0 := Lib.hid (ex_new K w)
  have R9 := Lib.hid (fun W => K.new_no 0 W (.inl (by decide)))
  go_enter Try.func10, Try.ntmps10
  go_wp2_with fail
  refine R0.out.mono ?_
  rintro e w1 ⟨a, rfl, H1⟩
  go_wp2_with fail
  refine (ex_take0 H1).mono ?_
  rintro e w2 ⟨rfl, H2⟩
  clear H1
  go_wp2_with fail
  refine (ex_take1 H2).mono ?_
  rintro e w3 ⟨rfl, H3⟩
  clear H2
  go_wp2_with fail
  refine (ex_take2 H3).mono ?_
  rintro e w4 ⟨rfl, H4⟩
  clear H3
  go_wp2_with fail
  refine (ex_give2 H4).mono ?_
  rintro e w5 ⟨rfl, H5⟩
  clear H4
  go_wp2_with fail
  refine (ex_take3 H5).mono ?_
  rintro e w6 ⟨rfl, H6⟩
  clear H5
  go_wp2_with fail
  refine (ex_give4 H6).mono ?_
  rintro e w7 ⟨rfl, H7⟩
  clear H6
  go_wp2_with fail
  refine (ex_place4 H7).mono ?_
  rintro e w8 ⟨rfl, H8⟩
  clear H7
  go_wp2_with fail
  refine (ex_handle4 H8).mono ?_
  rintro e w9 ⟨rfl, H9⟩
  clear H8
  go_wp2_with fail
  refine (R9.out _).mono ?_
  rintro e w10 ⟨rfl, b10⟩
  go_wp2_with fail
  go_ret
  exact ⟨rfl, below_tr H9.lo b10⟩

end Go.Proofs.Ytacienpjoegclaa
