/-
  ArenaNone's walk: what the program answers of an arena that is none.
-/
import Derived.Test.YtacienpjoegclaaArenaProg
import Derived.Test.YtacienpjoegclaaArenaAwake
import Derived.LoopN
namespace Go.Proofs.Ytacienpjoegclaa
open Go.RowKit
set_option linter.unusedVariables false

/-- No arena: nil, or one that New did not make. -/
def NotMade (p : Option Addr) (w : World) : Prop := ∀ b, p = some b → ∃ k v1 v2, b = ⟨k, 0, none⟩ ∧ Boxed3 w k (.int .i64 0) v1 v2
theorem NotMade.none (w : World) : NotMade none w := fun b h => by cases h
theorem NotMade.below {p : Option Addr} {w w' : World} (h : NotMade p w) (b : Below w.heap.size w w') : NotMade p w' := fun a e => by
  obtain ⟨k, v1, v2, h1, h2⟩ := h a e
  exact ⟨k, v1, v2, h1, (b.block k h2.lt).trans h2⟩
theorem none_made {p : Option Addr} {w : World} (h : NotMade p w) :
    Calls Try.prog 24 #[.pointer p] w fun e w' => e = .returned (.bool false) ∧ w' = w := by
  cases p with
  | none =>
    go_enter Try.func24, Try.ntmps24
    go_wp2_with fail
    go_ret
    exact ⟨rfl, rfl⟩
  | some b =>
    obtain ⟨k, v1, v2, rfl, hb⟩ := h b rfl
    obtain ⟨c0, c1, c2⟩ := hb.cells
    clear h hb
    go_enter Try.func24, Try.ntmps24
    go_wp2_with fail
    go_ret
    exact ⟨rfl, rfl⟩
section
variable {p : Option Addr} {w : World} (h : NotMade p w)
include h
theorem none_place (x : Int) : Calls Try.prog 18 #[.pointer p, .int .u64 x] w fun e w' => e = .returned (.tuple #[.int .i64 0, .bool false]) ∧ w' = w := by
  have HM := Lib.hid (none_made h)
  clear h
  go_enter Try.func18, Try.ntmps18
  go_wp2_with fail
  refine HM.out.mono ?_
  rintro e w1 ⟨rfl, rfl⟩
  go_wp2_with fail
  go_ret2
  exact ⟨rfl, rfl⟩
theorem none_handle (x : Int) : Calls Try.prog 16 #[.pointer p, .int .i64 x] w fun e w' => e = .returned (.tuple #[.int .u64 0, .bool false]) ∧ w' = w := by
  have HM := Lib.hid (none_made h)
  clear h
  go_enter Try.func16, Try.ntmps16
  go_wp2_with fail
  refine HM.out.mono ?_
  rintro e w1 ⟨rfl, rfl⟩
  go_wp2_with fail
  go_ret2
  exact ⟨rfl, rfl⟩
theorem none_give (x : Int) : Calls Try.prog 14 #[.pointer p, .int .u64 x] w fun e w' => e = .returned (.int .i64 1) ∧ w' = w := by
  have HM := Lib.hid (none_made h)
  clear h
  go_enter Try.func14, Try.ntmps14
  go_wp2_with fail
  refine HM.out.mono ?_
  rintro e w1 ⟨rfl, rfl⟩
  go_wp2_with fail
  go_ret
  exact ⟨rfl, rfl⟩
theorem none_take : Calls Try.prog 12 #[.pointer p] w fun e w' => e = .returned (.tuple #[.int .u64 0, .int .i64 1]) ∧ w' = w := by
  have HM := Lib.hid (none_made h)
  clear h
  go_enter Try.func12, Try.ntmps12
  go_wp2_with fail
  refine HM.out.mono ?_
  rintro e w1 ⟨rfl, rfl⟩
  go_wp2_with fail
  go_ret2
  exact ⟨rfl, rfl⟩
theorem none_used : Calls Try.prog 20 #[.pointer p] w fun e w' => e = .returned (.int .i64 0) ∧ w' = w := by
  have HM := Lib.hid (none_made h)
  clear h
  go_enter Try.func20, Try.ntmps20
  go_wp2_with fail
  refine HM.out.mono ?_
  rintro e w1 ⟨rfl, rfl⟩
  go_wp2_with fail
  go_ret
  exact ⟨rfl, rfl⟩
theorem none_room : Calls Try.prog 22 #[.pointer p] w fun e w' => e = .returned (.int .i64 0) ∧ w' = w := by
  have HM := Lib.hid (none_made h)
  clear h
  go_enter Try.func22, Try.ntmps22
  go_wp2_with fail
  refine HM.out.mono ?_
  rintro e w1 ⟨rfl, rfl⟩
  go_wp2_with fail
  go_ret
  exact ⟨rfl, rfl⟩
end

def seven : Gh := Gh.new 7
theorem seven_full : ¬ seven.full := by unfold Gh.full; decide
theorem seven_ok : seven.Ok 0 := Gh.new_ok (by decide)
theorem seven_place (x : Nat) : placeOf seven.ts seven.l x = none := rfl
section
variable {w W : World} {a : Addr} (h : Own arenaK w W a seven)
include h
theorem seven_places (x : Nat) (hx : x < 18446744073709551616) : Calls Try.prog 18 #[.pointer (some a), .int .u64 (x : Int)] W fun e w' => e = .returned (.tuple #[.int .i64 0, .bool false]) ∧ Own arenaK w w' a seven := h.place seven_ok (by decide) x hx
theorem seven_handle (x : Int) : Calls Try.prog 16 #[.pointer (some a), .int .i64 x] W fun e w' => e = .returned (.tuple #[.int .u64 0, .bool false]) ∧ Own arenaK w w' a seven := by
  have h0 := h
  obtain ⟨⟨N, ⟨b, ph, ch, pa, ca, rfl, h1⟩, h2⟩, h3⟩ := h
  refine (own_handle_none h1 seven_ok x (by show x < 0 ∨ (0 : Int) ≤ x; omega)).mono ?_
  rintro e w' ⟨rfl, bl⟩
  exact ⟨rfl, h0.below bl⟩
theorem seven_give (x : Nat) (hx : x < 18446744073709551616) : Calls Try.prog 14 #[.pointer (some a), .int .u64 (x : Int)] W fun e w' => e = .returned (.int .i64 40) ∧ Own arenaK w w' a seven := h.give_no seven_ok (by decide) x hx rfl
theorem seven_used : Calls Try.prog 20 #[.pointer (some a)] W fun e w' => e = .returned (.int .i64 0) ∧ Own arenaK w w' a seven := h.used seven_ok
theorem seven_take : Calls Try.prog 12 #[.pointer (some a)] W fun e w' => e = .returned (.tuple #[.int .u64 1, .int .i64 0]) ∧ Own arenaK w w' a seven.take := h.take seven_ok (by decide) seven_full
end

theorem arenaNone_core (x : Nat) (hx : x < 18446744073709551616) (j : Int) (w : World) (HA : Hid Awake) :
    Calls Try.prog 7 #[.int .u64 (x : Int), .int .i64 j] w fun e w' => e = .returned (.bool true) ∧ Below w.heap.size w w' := by
  have R0 : Hid (Calls Try.prog 8 #[.int .i64 7] w fun e W' => ∃ a, e = .returned (.tuple #[.pointer (some a), .int .i64 0]) ∧ Own arenaK w W' a seven) := Own.new arenaK w 7 (by decide) (by decide) w (Below.refl _ _)
  go_enter Try.func7, Try.ntmps7
  go_wp2_with fail
  refine R0.out.mono ?_
  rintro e w1 ⟨a, rfl, H1⟩
  have H2 := (H1.below ((Below.refl _ w1).alloc (Nat.le_refl _) (.cells #[.int .i64 0, .slice none 0 0, .slice none 0 0] 61)))
  have H3 := Lib.hid (H2.below ((Below.refl _ _).alloc (Nat.le_refl _) (.cells #[.pointer none, .pointer (some ⟨w1.heap.size, 0, none⟩), .pointer (some a)] 23)))
  have X3 : NotMade (some ⟨w1.heap.size, 0, none⟩) ((w1.alloc (.cells #[.int .i64 0, .slice none 0 0, .slice none 0 0] 61)).alloc (.cells #[.pointer none, .pointer (some ⟨w1.heap.size, 0, none⟩), .pointer (some a)] 23)) := fun b e => ⟨w1.heap.size, _, _, (Option.some.inj e).symm, (Boxed3.new w1 (.int .i64 0) (.slice none 0 0) (.slice none 0 0)).alloc _⟩
  have R3 : ((w1.alloc (.cells #[.int .i64 0, .slice none 0 0, .slice none 0 0] 61)).alloc (.cells #[.pointer none, .pointer (some ⟨w1.heap.size, 0, none⟩), .pointer (some a)] 23)).heap[w1.heap.size + 1]? = some (.cells #[.pointer none, .pointer (some ⟨w1.heap.size, 0, none⟩), .pointer (some a)] 23 (0, 0)) := by
    have h := (MapKept.heap_alloc (w1.alloc (.cells #[.int .i64 0, .slice none 0 0, .slice none 0 0] 61)) (.cells #[.pointer none, .pointer (some ⟨w1.heap.size, 0, none⟩), .pointer (some a)] 23)).1
    rw [World.size_alloc] at h
    exact h
  have C0 := cell_of_row _ _ 0 _ _ _ R3
  have C1 := cell_of_row _ _ 1 _ _ _ R3
  have C2 := cell_of_row _ _ 2 _ _ _ R3
  clear H1 H2 R3
  go_wp2_with fail
  obtain ⟨W, HW⟩ : ∃ W, Hid (((w1.alloc (.cells #[.int .i64 0, .slice none 0 0, .slice none 0 0] 61)).alloc (.cells #[.pointer none, .pointer (some ⟨w1.heap.size, 0, none⟩), .pointer (some a)] 23)) = W) := ⟨_, Lib.hid rfl⟩
  rw [HW.out] at H3 X3 C0 C1 C2 ⊢
  clear HW
  have C0' : W.cell? ⟨w1.heap.size + 1, 0, none⟩ = some (.pointer none) := C0
  have C1' : W.cell? ⟨w1.heap.size + 1, 1, none⟩ = some (.pointer (some ⟨w1.heap.size, 0, none⟩)) := C1
  have C2' : W.cell? ⟨w1.heap.size + 1, 2, none⟩ = some (.pointer (some a)) := C2
  clear C0 C1 C2
  generalize w1.heap.size = q at *
  refine wp_loop_rounds 4 ?_
  rw [rounds_succ]
  go_wp2_with (first
    | (go_at_call 18; refine (none_place (NotMade.none _) _).mono ?_; rintro e w2 ⟨rfl, rfl⟩)
    | (go_at_call 16; refine (none_handle (NotMade.none _) _).mono ?_; rintro e w2 ⟨rfl, rfl⟩)
    | (go_at_call 14; refine (none_give (NotMade.none _) _).mono ?_; rintro e w2 ⟨rfl, rfl⟩)
    | (go_at_call 20; refine (none_used (NotMade.none _)).mono ?_; rintro e w2 ⟨rfl, rfl⟩)
    | (go_at_call 12; refine (none_take (NotMade.none _)).mono ?_; rintro e w2 ⟨rfl, rfl⟩)
    | (go_at_call 22; refine (none_room (NotMade.none _)).mono ?_; rintro e w2 ⟨rfl, rfl⟩))
  rw [rounds_succ]
  go_wp2_with (first
    | (go_at_call 18; refine (none_place X3 _).mono ?_; rintro e w2 ⟨rfl, rfl⟩)
    | (go_at_call 16; refine (none_handle X3 _).mono ?_; rintro e w2 ⟨rfl, rfl⟩)
    | (go_at_call 14; refine (none_give X3 _).mono ?_; rintro e w2 ⟨rfl, rfl⟩)
    | (go_at_call 20; refine (none_used X3).mono ?_; rintro e w2 ⟨rfl, rfl⟩)
    | (go_at_call 12; refine (none_take X3).mono ?_; rintro e w2 ⟨rfl, rfl⟩)
    | (go_at_call 22; refine (none_room X3).mono ?_; rintro e w2 ⟨rfl, rfl⟩))
  rw [rounds_succ]
  have H4 := H3.out
  clear H3 X3 C0' C1'
  go_wp2_with (first
    | (go_at_call 18; refine (seven_places H4 x hx).mono ?_; rintro e w5 ⟨rfl, H5⟩)
    | (go_at_call 16; refine (seven_handle H5 _).mono ?_; rintro e w6 ⟨rfl, H6⟩)
    | (go_at_call 14; refine (seven_give H6 x hx).mono ?_; rintro e w7 ⟨rfl, H7⟩)
    | (go_at_call 20; refine (seven_used H7).mono ?_; rintro e w8 ⟨rfl, H8⟩)
    | (go_at_call 12; refine (seven_take H8).mono ?_; rintro e w9 ⟨rfl, H9⟩))
  rw [rounds_succ]
  go_wp2_with (first
    | (go_at_call 10; refine (HA.out _).mono ?_; rintro e w10 ⟨rfl, b10⟩))
  go_ret
  exact ⟨rfl, below_tr H9.lo b10⟩

theorem arenaNone_walk (a0 a1 : Int) (w : World) (h0 : (Lit.int .u64 a0).wf = true) (h1 : (Lit.int .i64 a1).wf = true) :
    Calls Try.prog 7 #[.int .u64 a0, .int .i64 a1] w fun e w' => e = .returned (.bool true) ∧ Below w.heap.size w w' := by
  have hw := word_of_wf h0
  obtain ⟨x, rfl⟩ : ∃ n : Nat, a0 = (n : Int) := ⟨a0.toNat, by have := hw.1; omega⟩
  exact arenaNone_core x (by have := hw.2; omega) a1 w (awake_of arenaK)

end Go.Proofs.Ytacienpjoegclaa
