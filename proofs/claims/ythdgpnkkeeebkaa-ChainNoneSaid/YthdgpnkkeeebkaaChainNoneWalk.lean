/-
  ChainNone's walk: what the program answers of chains that are none.
-/
import Derived.Test.YthdgpnkkeeebkaaChainProg
import Derived.Test.YthdgpnkkeeebkaaChainAwake
import Derived.LoopN
namespace Go.Proofs.Ythdgpnkkeeebkaa
open Go.RowKit
set_option linter.unusedVariables false

/-- No chains: nil, or some that New did not make. -/
def NotMade (p : Option Addr) (w : World) : Prop := ∀ b, p = some b → ∃ k, b = ⟨k, 0, none⟩ ∧ Box w k 58 #[.slice none 0 0, .slice none 0 0, .slice none 0 0]
theorem NotMade.none (w : World) : NotMade none w := fun b h => by cases h
theorem none_made {p : Option Addr} {w : World} (h : NotMade p w) :
    Calls Try.prog 28 #[.pointer p] w fun e w' => e = .returned (.bool false) ∧ w' = w := by
  cases p with
  | none =>
    go_enter Try.func28, Try.ntmps28
    go_wp2_with fail
    go_ret
    exact ⟨rfl, rfl⟩
  | some b =>
    obtain ⟨k, rfl, hb⟩ := h b rfl
    have c2 := hb.cell 2
    have c2' : w.cell? ⟨k, 2, .none⟩ = some (.slice .none 0 0) := c2
    clear h hb c2
    go_enter Try.func28, Try.ntmps28
    go_wp2_with fail
    go_ret
    exact ⟨rfl, rfl⟩
section
variable {p : Option Addr} {w : World} (h : NotMade p w)
include h
theorem none_len (i : Int) : Calls Try.prog 22 #[.pointer p, .int .i64 i] w fun e w' => e = .returned (.int .i64 0) ∧ w' = w := by
  have HM := Lib.hid (none_made h)
  clear h
  go_enter Try.func22, Try.ntmps22
  go_wp2_with fail
  refine HM.out.mono ?_
  rintro e w1 ⟨rfl, rfl⟩
  go_wp2_with fail
  go_ret
  exact ⟨rfl, rfl⟩
theorem none_first (i : Int) : Calls Try.prog 20 #[.pointer p, .int .i64 i] w fun e w' => e = .returned (.tuple #[.int .i64 0, .bool false]) ∧ w' = w := by
  have HM := Lib.hid (none_len h i)
  clear h
  go_enter Try.func20, Try.ntmps20
  go_wp2_with fail
  refine HM.out.mono ?_
  rintro e w1 ⟨rfl, rfl⟩
  go_wp2_with fail
  go_ret2
  exact ⟨rfl, rfl⟩
theorem none_in (i : Int) : Calls Try.prog 23 #[.pointer p, .int .i64 i] w fun e w' => e = .returned (.tuple #[.int .i64 0, .bool false]) ∧ w' = w := by
  have HM := Lib.hid (none_made h)
  clear h
  go_enter Try.func23, Try.ntmps23
  go_wp2_with fail
  refine HM.out.mono ?_
  rintro e w1 ⟨rfl, rfl⟩
  go_wp2_with fail
  go_ret2
  exact ⟨rfl, rfl⟩
theorem none_pop (i : Int) : Calls Try.prog 14 #[.pointer p, .int .i64 i] w fun e w' => e = .returned (.tuple #[.int .i64 0, .bool false]) ∧ w' = w := by
  have HM := Lib.hid (none_first h i)
  clear h
  go_enter Try.func14, Try.ntmps14
  go_wp2_with fail
  refine HM.out.mono ?_
  rintro e w1 ⟨rfl, rfl⟩
  go_wp2_with fail
  go_ret2
  exact ⟨rfl, rfl⟩
theorem none_drop (i : Int) : Calls Try.prog 16 #[.pointer p, .int .i64 i] w fun e w' => e = .returned (.bool false) ∧ w' = w := by
  have HM := Lib.hid (none_in h i)
  clear h
  go_enter Try.func16, Try.ntmps16
  go_wp2_with fail
  refine HM.out.mono ?_
  rintro e w1 ⟨rfl, rfl⟩
  go_wp2_with fail
  go_ret
  exact ⟨rfl, rfl⟩
theorem none_list (i : Int) : Calls Try.prog 18 #[.pointer p, .int .i64 i] w fun e w' => e = .returned (.slice .none 0 0) ∧ w' = w := by
  have HM := Lib.hid (none_len h i)
  clear h
  go_enter Try.func18, Try.ntmps18
  go_wp2_with fail
  refine HM.out.mono ?_
  rintro e w1 ⟨rfl, rfl⟩
  go_wp2_with fail
  go_ret
  exact ⟨rfl, rfl⟩
theorem none_push (i n : Int) : Calls Try.prog 12 #[.pointer p, .int .i64 i, .int .i64 n] w fun e w' => e = .returned (.int .i64 1) ∧ w' = w := by
  have HM := Lib.hid (none_made h)
  clear h
  go_enter Try.func12, Try.ntmps12
  go_wp2_with fail
  refine HM.out.mono ?_
  rintro e w1 ⟨rfl, rfl⟩
  go_wp2_with fail
  go_ret
  exact ⟨rfl, rfl⟩
end

theorem chainNone_core (i n : Int) (w : World) (HA : Hid Awake) :
    Calls Try.prog 8 #[.int .i64 i, .int .i64 n] w fun e w' => e = .returned (.bool true) ∧ Below w.heap.size w w' := by
  have H3 := Lib.hid (((Below.refl _ w).alloc (Nat.le_refl _) (.cells #[.slice none 0 0, .slice none 0 0, .slice none 0 0] 58)).alloc (by rw [World.size_alloc]; omega) (.cells #[.pointer none, .pointer (some ⟨w.heap.size, 0, none⟩)] 23))
  have X3 : NotMade (some ⟨w.heap.size, 0, none⟩) ((w.alloc (.cells #[.slice none 0 0, .slice none 0 0, .slice none 0 0] 58)).alloc (.cells #[.pointer none, .pointer (some ⟨w.heap.size, 0, none⟩)] 23)) := fun b e => ⟨w.heap.size, (Option.some.inj e).symm, (Box.new w _ _).alloc _⟩
  have R3 : ((w.alloc (.cells #[.slice none 0 0, .slice none 0 0, .slice none 0 0] 58)).alloc (.cells #[.pointer none, .pointer (some ⟨w.heap.size, 0, none⟩)] 23)).heap[w.heap.size + 1]? = some (.cells #[.pointer none, .pointer (some ⟨w.heap.size, 0, none⟩)] 23 (0, 0)) := by
    have h := (MapKept.heap_alloc (w.alloc (.cells #[.slice none 0 0, .slice none 0 0, .slice none 0 0] 58)) (.cells #[.pointer none, .pointer (some ⟨w.heap.size, 0, none⟩)] 23)).1
    rw [World.size_alloc] at h
    exact h
  have C0 := cell_of_row _ _ 0 _ _ _ R3
  have C1 := cell_of_row _ _ 1 _ _ _ R3
  clear R3
  go_enter Try.func8, Try.ntmps8
  go_wp2_with fail
  obtain ⟨W, HW⟩ : ∃ W, Hid (((w.alloc (.cells #[.slice none 0 0, .slice none 0 0, .slice none 0 0] 58)).alloc (.cells #[.pointer none, .pointer (some ⟨w.heap.size, 0, none⟩)] 23)) = W) := ⟨_, Lib.hid rfl⟩
  rw [HW.out] at H3 X3 C0 C1 ⊢
  clear HW
  have C0' : W.cell? ⟨w.heap.size + 1, 0, none⟩ = some (.pointer none) := C0
  have C1' : W.cell? ⟨w.heap.size + 1, 1, none⟩ = some (.pointer (some ⟨w.heap.size, 0, none⟩)) := C1
  clear C0 C1
  obtain ⟨q, HQ⟩ : ∃ q, Hid (w.heap.size = q) := ⟨_, Lib.hid rfl⟩
  rw [HQ.out] at X3 C0' C1' ⊢
  refine wp_loop_rounds 3 ?_
  rw [rounds_succ]
  go_wp2_with (first
    | (go_at_call 14; refine (none_pop (NotMade.none _) _).mono ?_; rintro e w2 ⟨rfl, rfl⟩)
    | (go_at_call 20; refine (none_first (NotMade.none _) _).mono ?_; rintro e w2 ⟨rfl, rfl⟩)
    | (go_at_call 23; refine (none_in (NotMade.none _) _).mono ?_; rintro e w2 ⟨rfl, rfl⟩)
    | (go_at_call 12; refine (none_push (NotMade.none _) _ _).mono ?_; rintro e w2 ⟨rfl, rfl⟩)
    | (go_at_call 16; refine (none_drop (NotMade.none _) _).mono ?_; rintro e w2 ⟨rfl, rfl⟩)
    | (go_at_call 22; refine (none_len (NotMade.none _) _).mono ?_; rintro e w2 ⟨rfl, rfl⟩)
    | (go_at_call 18; refine (none_list (NotMade.none _) _).mono ?_; rintro e w2 ⟨rfl, rfl⟩))
  rw [rounds_succ]
  go_wp2_with (first
    | (go_at_call 14; refine (none_pop X3 _).mono ?_; rintro e w2 ⟨rfl, rfl⟩)
    | (go_at_call 20; refine (none_first X3 _).mono ?_; rintro e w2 ⟨rfl, rfl⟩)
    | (go_at_call 23; refine (none_in X3 _).mono ?_; rintro e w2 ⟨rfl, rfl⟩)
    | (go_at_call 12; refine (none_push X3 _ _).mono ?_; rintro e w2 ⟨rfl, rfl⟩)
    | (go_at_call 16; refine (none_drop X3 _).mono ?_; rintro e w2 ⟨rfl, rfl⟩)
    | (go_at_call 22; refine (none_len X3 _).mono ?_; rintro e w2 ⟨rfl, rfl⟩)
    | (go_at_call 18; refine (none_list X3 _).mono ?_; rintro e w2 ⟨rfl, rfl⟩))
  rw [rounds_succ]
  go_wp2_with (first
    | (go_at_call 11; refine (HA.out _).mono ?_; rintro e w10 ⟨rfl, b10⟩))
  go_ret
  exact ⟨rfl, below_tr H3.out b10⟩

theorem chainNone_walk (a0 a1 : Int) (w : World) (h0 : (Lit.int .i64 a0).wf = true) (h1 : (Lit.int .i64 a1).wf = true) :
    Calls Try.prog 8 #[.int .i64 a0, .int .i64 a1] w fun e w' => e = .returned (.bool true) ∧ Below w.heap.size w w' :=
  chainNone_core a0 a1 w (Lib.hid (awake_of chainK))

end Go.Proofs.Ythdgpnkkeeebkaa
