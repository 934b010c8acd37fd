/-
  The program's own wheel: New, Put, Take, Due, Waits, Cursor, Next.
-/
import Derived.Test.YtkiibobpejoaeaaDoorWheelAt
import Derived.Test.YtkiibobpejoaeaaDoorSpan
namespace Go.Proofs.YtkiibobpejoaeaaDoor
open Go.RowKit
set_option linter.unusedVariables false
set_option linter.unusedSimpArgs false

theorem tail_form {w : World} {base : Nat} {e : TypeId} {v : Value} {xs : List Value} (h : TailRow w base e v xs) : ∃ p c, v = .slice p xs.length c := by
  rcases h with ⟨rfl, rfl⟩ | ⟨g, o, cap, cur, rfl, _⟩
  · exact ⟨none, 0, rfl⟩
  · exact ⟨_, _, rfl⟩
set_option maxHeartbeats 2000000 in
theorem w_new (S width room : Nat) (w : World) (h1 : 2 ≤ S) (h2 : S ≤ 4096) (h3 : 1 ≤ width) (h4 : width ≤ 1099511627776) (h5 : 1 ≤ room) (h6 : room ≤ 65536) :
    Calls Tryd.prog 5 #[.int .i64 (S : Int), .int .u64 (width : Int), .int .i64 (room : Int)] w fun e w' => ∃ a N, e = .returned (.tuple #[.pointer (some a), .int .i64 0]) ∧ AtW N w' a ⟨S, width, room, 0, [], [], 0⟩ ∧ (∀ k, N k → w.heap.size ≤ k) ∧ Below w.heap.size w w' := by
  have HB := Lib.hid (c_new S (by omega) (by omega) w)
  have a1 : ¬ (S : Int) < 2 := by omega
  have a2 : ¬ (4096 : Int) < (S : Int) := by omega
  have a3 : ¬ (width : Int) < 1 := by omega
  have a4 : ¬ (1099511627776 : Int) < (width : Int) := by omega
  have a5 : ¬ (room : Int) < 1 := by omega
  have a6 : ¬ (65536 : Int) < (room : Int) := by omega
  obtain ⟨inf, hi1, hi2, hi3, hi4⟩ := info_parts (P := Tryd.prog) (e := 71) (z := .slice none 0 0) (size := 1) (bytes := 24) (by kernel_rfl)
  have r1 := run_make_cells (P := Tryd.prog) 62 71 inf (.slice none 0 0) 1 (by kernel_rfl) hi1 hi2 hi3 (S : Int) S rfl (by rw [hi4]; omega) (by omega)
  rw [Nat.mul_one] at r1
  clear hi1 hi2 hi3 hi4
  go_enter Tryd.func5, Tryd.ntmps5
  go_wp2_with fail
  refine HB.out.mono ?_
  rintro e w1 ⟨fa, NB, rfl, k1, k2, k3⟩
  have b1 := Box.new w1 71 (madeCells (Value.slice none 0 0).cells S)
  have bb := Box.new (w1.alloc (.cells (madeCells (Value.slice none 0 0).cells S) 71)) 64 #[.pointer (some ⟨w1.heap.size + 1, 0, none⟩), .int .u64 (width : Int), .int .i64 (room : Int), .int .u64 0, .slice (some ⟨w1.heap.size, 0, none⟩) S S, .pointer (some fa), .int .i64 0, .int .u64 0, .slice none 0 0]
  rw [World.size_alloc] at bb
  have bl := ((Below.refl _ w1).alloc (Nat.le_refl _) (.cells (madeCells (Value.slice none 0 0).cells S) 71)).alloc (by simp) (.cells #[.pointer (some ⟨w1.heap.size + 1, 0, none⟩), .int .u64 (width : Int), .int .i64 (room : Int), .int .u64 0, .slice (some ⟨w1.heap.size, 0, none⟩) S S, .pointer (some fa), .int .i64 0, .int .u64 0, .slice none 0 0] 64)
  have HE : Hid (WLie ((w1.alloc (.cells (madeCells (Value.slice none 0 0).cells S) 71)).alloc (.cells #[.pointer (some ⟨w1.heap.size + 1, 0, none⟩), .int .u64 (width : Int), .int .i64 (room : Int), .int .u64 0, .slice (some ⟨w1.heap.size, 0, none⟩) S S, .pointer (some fa), .int .i64 0, .int .u64 0, .slice none 0 0] 64)) (w1.heap.size + 1) w1.heap.size fa NB (fun _ => .slice none 0 0) (.slice none 0 0) (fun _ => false) ⟨S, width, room, 0, 0, 0, fun _ => [], []⟩) := by
    refine Lib.hid ⟨bb, ⟨⟨_, b1.alloc _, size_madeCells _ _, fun p hp => madeCells_get _ S p _ (fun j hj => ?_) (by simp [Value.cells]) hp⟩, fun p hp => ⟨rfl, .inl ⟨rfl, rfl⟩⟩, fun p q hp hq hne k hk => by simp [Value.ownBlock] at hk, k1.below bl, fun hk => ?_, fun hk => ?_, fun p hp k hk e => by simp [Value.ownBlock] at e, by show w1.heap.size + 1 ≠ w1.heap.size; omega, fun p hp e => by simp [Value.ownBlock] at e⟩, .nil _ _ _, fun k hk e => by simp [Value.ownBlock] at e⟩
    · have : j = 0 := by simp [Value.cells] at hj; omega
      subst this
      rfl
    · have := k1.lt _ hk; omega
    · have := k1.lt _ hk; omega
  have HO : Hid (∀ k, OwnW (w1.heap.size + 1) w1.heap.size S NB (fun _ => .slice none 0 0) (.slice none 0 0) k → w.heap.size ≤ k) := by
    apply Lib.hid
    have h7 := k3.size
    rintro k (e | e | e | ⟨p, _, e⟩ | e)
    · omega
    · omega
    · exact k2 k e
    · simp [Value.ownBlock] at e
    · simp [Value.ownBlock] at e
  have HL : Hid (Below w.heap.size w ((w1.alloc (.cells (madeCells (Value.slice none 0 0).cells S) 71)).alloc (.cells #[.pointer (some ⟨w1.heap.size + 1, 0, none⟩), .int .u64 (width : Int), .int .i64 (room : Int), .int .u64 0, .slice (some ⟨w1.heap.size, 0, none⟩) S S, .pointer (some fa), .int .i64 0, .int .u64 0, .slice none 0 0] 64))) := Lib.hid (below_tr k3 bl)
  clear k1 k2 k3 b1 bb bl HB
  go_wp2_with fail
  go_ret2
  exact ⟨_, _, rfl, ⟨by show 0 ≤ 4294967296; decide, fun _ => [], [], ⟨_, _, _, _, _, _, _, rfl, HE.out, fun p => by simp [wsOf], fun k => Iff.rfl⟩, rel_new S width room⟩, HO.out, HL.out⟩
section
variable {N : Nat → Prop} {w : World} {a : Addr} {g : Wg}
theorem slot_num {t width : Nat} (h1 : 1 ≤ width) (ht : t < 18446744073709551616) (hs : slotW t width < 18446744073709551616) : Num.slot (t : Int) (width : Int) = ((slotW t width : Nat) : Int) := by
  unfold Num.slot Num.up Num.byc Num.kept
  rw [Int.max_eq_left (by omega), Int.mul_one, if_neg (by omega)]
  have e : ((t : Int) + ((width : Int) - 1)) / (width : Int) = ((slotW t width : Nat) : Int) := by
    have e2 : ((width : Int) - 1) = ((width - 1 : Nat) : Int) := by omega
    rw [e2]
    rfl
  rw [e, if_pos (by omega)]
theorem begin_num {s width : Nat} (h1 : 1 ≤ width) : Num.begin' (s : Int) (width : Int) = ((beginW s width : Nat) : Int) := by
  unfold Num.begin' Num.mul Num.kept beginW
  rw [Int.max_eq_left (by omega)]
  have e : (s : Int) * (width : Int) = ((s * width : Nat) : Int) := by rw [Int.natCast_mul]
  rw [e]
  generalize s * width = y
  split <;> omega
theorem slot_below (t width : Nat) (w : World) (h1 : 1 ≤ width) (h2 : width ≤ 1099511627776) (ht : t < 18446744073709551616) (hs : slotW t width < 18446744073709551616) :
    Calls Tryd.prog 23 #[.int .u64 (t : Int), .int .u64 (width : Int)] w fun e w' => e = .returned (.int .u64 ((slotW t width : Nat) : Int)) ∧ Below w.heap.size w w' := by
  have H := Lib.hid (slot_num h1 ht hs)
  have hm : Num.Word (max (width : Int) 1) := ⟨by omega, by omega⟩
  have HU := Lib.hid (fun W => sat_up (t : Int) 1 (max (width : Int) 1) W ⟨by omega, by omega⟩ Num.one_word hm)
  have HS : Hid (Num.up (t : Int) 1 (max (width : Int) 1) = ((slotW t width : Nat) : Int)) := Lib.hid H.out
  rw [HS.out] at HU
  clear hm
  go_enter Tryd.func23, Tryd.ntmps23
  go_wp2_with (go_at_call 41; go_in)
  refine (HU.out _).mono ?_
  rintro e w1 ⟨rfl, n, rfl⟩
  go_wp2_with fail
  go_ret
  exact ⟨rfl, below_drewN ((Below.refl _ _).alloc (Nat.le_refl _) _) n⟩
end

end Go.Proofs.YtkiibobpejoaeaaDoor
