/-
  TreeNone's walk: what the program answers of a tree that is none.
-/
import Derived.Test.YtagjgfmkfljneaaTreeNoneCalls
import Derived.Test.YtagjgfmkfljneaaTreeAwake
import Derived.Test.YtagjgfmkfljneaaTreeNextWalk
namespace Go.Proofs.Ytagjgfmkfljneaa
open Go.RowKit
set_option linter.unusedVariables false

/-- The law's own blocks: the key, a tree that New did not make, the row of both trees. -/
structure NoneSt (w wx : World) (H : Nat) (k : Ky) : Prop where
  below : Below w.heap.size w wx
  key : Box wx H 33 #[.int .u64 (k.at_ : Int), .int .u64 (k.seq : Int)]
  tree : Box wx (H + 1) 69 #[.pointer none, .int .i64 0, .slice none 0 0]
  row : Box wx (H + 1 + 1) 23 #[.pointer none, .pointer (some ⟨H + 1, 0, none⟩)]
theorem NoneSt.on {w wx wy : World} {H : Nat} {k : Ky} (h : NoneSt w wx H k) (b : Below wx.heap.size wx wy) : NoneSt w wy H k :=
  ⟨below_tr h.below b, h.key.below b h.key.lt, h.tree.below b h.tree.lt, h.row.below b h.row.lt⟩
theorem NoneSt.alloc {w wx : World} {H : Nat} {k : Ky} (h : NoneSt w wx H k) (o : Obj) : NoneSt w (wx.alloc o) H k := h.on ((Below.refl _ _).alloc (Nat.le_refl _) o)
theorem NoneSt.cells {w wx : World} {H : Nat} {k : Ky} (h : NoneSt w wx H k) : wx.cell? ⟨H, 0, none⟩ = some (.int .u64 (k.at_ : Int)) ∧ wx.cell? ⟨H, 1, none⟩ = some (.int .u64 (k.seq : Int)) ∧ wx.cell? ⟨H + 1 + 1, 0, none⟩ = some (.pointer none) ∧ wx.cell? ⟨H + 1 + 1, 1, none⟩ = some (.pointer (some ⟨H + 1, 0, none⟩)) :=
  ⟨h.key.cell 0, h.key.cell 1, h.row.cell 0, h.row.cell 1⟩
/-- What each call answers of such a tree. -/
structure NoneK (w : World) (H : Nat) (k : Ky) (v : Int) (p : Option Addr) : Prop where
  drop : ∀ W, NoneSt w W H k → Calls Try.prog 13 #[.pointer p, .agg #[.int .u64 (k.at_ : Int), .int .u64 (k.seq : Int)]] W fun e w' => e = .returned (.tuple #[.int .i64 0, .bool false]) ∧ NoneSt w w' H k
  get : ∀ W, NoneSt w W H k → Calls Try.prog 15 #[.pointer p, .agg #[.int .u64 (k.at_ : Int), .int .u64 (k.seq : Int)]] W fun e w' => e = .returned (.tuple #[.int .i64 0, .bool false]) ∧ NoneSt w w' H k
  first : ∀ W, NoneSt w W H k → Calls Try.prog 20 #[.pointer p] W fun e w' => e = .returned (.tuple #[.agg #[.int .u64 0, .int .u64 0, .int .i64 0], .bool false]) ∧ NoneSt w w' H k
  next : ∀ W, NoneSt w W H k → Calls Try.prog 17 #[.pointer p, .agg #[.int .u64 (k.at_ : Int), .int .u64 (k.seq : Int)]] W fun e w' => e = .returned (.tuple #[.agg #[.int .u64 0, .int .u64 0, .int .i64 0], .bool false]) ∧ NoneSt w w' H k
  put : ∀ W, NoneSt w W H k → Calls Try.prog 11 #[.pointer p, .agg #[.int .u64 (k.at_ : Int), .int .u64 (k.seq : Int)], .int .i64 v] W fun e w' => e = .returned (.int .i64 1) ∧ NoneSt w w' H k
  len : ∀ W, NoneSt w W H k → Calls Try.prog 22 #[.pointer p] W fun e w' => e = .returned (.int .i64 0) ∧ NoneSt w w' H k
  room : ∀ W, NoneSt w W H k → Calls Try.prog 23 #[.pointer p] W fun e w' => e = .returned (.int .i64 0) ∧ NoneSt w w' H k
  all : ∀ W, NoneSt w W H k → Calls Try.prog 19 #[.pointer p] W fun e w' => (∃ q c, e = .returned (.slice q 0 c)) ∧ NoneSt w w' H k
  shape : ∀ W, NoneSt w W H k → Calls Try.prog 25 #[.pointer p] W fun e w' => (∃ q c, e = .returned (.slice q 0 c)) ∧ NoneSt w w' H k
theorem noneK {w : World} {H : Nat} {k : Ky} {v : Int} {p : Option Addr} (hp : ∀ W, NoneSt w W H k → NotMade p W) : NoneK w H k v p where
  drop := fun W s => (none_drop (hp W s) k).mono fun e w' h => ⟨h.1, s.on h.2⟩
  get := fun W s => (none_get (hp W s) k).mono fun e w' h => ⟨h.1, s.on h.2⟩
  first := fun W s => (none_first (hp W s)).mono fun e w' h => ⟨h.1, s.on h.2⟩
  next := fun W s => (none_next (hp W s) k).mono fun e w' h => ⟨h.1, s.on h.2⟩
  put := fun W s => (none_put (hp W s) k v).mono fun e w' h => ⟨h.1, s.on h.2⟩
  len := fun W s => (none_len (hp W s)).mono fun e w' h => ⟨h.1, h.2 ▸ s⟩
  room := fun W s => (none_room (hp W s)).mono fun e w' h => ⟨h.1, h.2 ▸ s⟩
  all := fun W s => (none_all (hp W s)).mono fun e w' h => ⟨h.1, s.on h.2⟩
  shape := fun W s => (none_shape (hp W s)).mono fun e w' h => ⟨h.1, s.on h.2⟩

set_option maxHeartbeats 4000000 in
set_option maxRecDepth 100000 in
theorem treeNone_core (k : Ky) (v : Int) (w : World) (HA : Hid Awake) :
    Calls Try.prog 8 #[kyV k, .int .i64 v] w fun e w' => e = .returned (.bool true) ∧ Below w.heap.size w w' := by
  unfold kyV
  obtain ⟨W, HW⟩ : ∃ W, Hid (((w.alloc (.cells #[.int .u64 (k.at_ : Int), .int .u64 (k.seq : Int)] 33)).alloc (.cells #[.pointer none, .int .i64 0, .slice none 0 0] 69)).alloc (.cells #[.pointer none, .pointer (some ⟨w.heap.size + 1, 0, none⟩)] 23) = W) := ⟨_, Lib.hid rfl⟩
  have HS : Hid (NoneSt w W w.heap.size k) := by
    rw [← HW.out]
    refine Lib.hid ⟨(((Below.refl _ _).alloc (Nat.le_refl _) _).alloc (by rw [World.size_alloc]; omega) _).alloc (by rw [World.size_alloc, World.size_alloc]; omega) _, ((Box.new _ _ _).alloc _).alloc _, ?_, ?_⟩
    · have := (Box.new (w.alloc (.cells #[.int .u64 (k.at_ : Int), .int .u64 (k.seq : Int)] 33)) 69 #[.pointer none, .int .i64 0, .slice none 0 0]).alloc (.cells #[.pointer none, .pointer (some ⟨w.heap.size + 1, 0, none⟩)] 23)
      rw [World.size_alloc] at this
      exact this
    · have := Box.new ((w.alloc (.cells #[.int .u64 (k.at_ : Int), .int .u64 (k.seq : Int)] 33)).alloc (.cells #[.pointer none, .int .i64 0, .slice none 0 0] 69)) 23 #[.pointer none, .pointer (some ⟨w.heap.size + 1, 0, none⟩)]
      rw [World.size_alloc, World.size_alloc] at this
      exact this
  obtain ⟨H, HH⟩ : ∃ H, Hid (w.heap.size = H) := ⟨_, Lib.hid rfl⟩
  rw [HH.out] at HS
  have K0 : Hid (NoneK w H k v none) := Lib.hid (noneK fun W s => NotMade.none W)
  have K1 : Hid (NoneK w H k v (some ⟨H + 1, 0, none⟩)) := Lib.hid (noneK fun W s b hb => ⟨H + 1, (Option.some.inj hb).symm, s.tree⟩)
  go_enter Try.func8, Try.ntmps8
  go_upto_block 0 with fail
  rw [HW.out, HH.out]
  clear HW
  obtain ⟨c0, c1, c2, c3⟩ := HS.out.cells
  go_wp2_with fail
  refine wp_loop_rounds 3 ?_
  rw [rounds_succ]
  go_wp2_with fail
  refine (K0.out.drop _ HS.out).mono ?_
  rintro e1 w1 ⟨rfl, s1⟩
  have S1 := Lib.hid s1
  clear s1 c0 c1 c2 c3
  obtain ⟨c0, c1, c2, c3⟩ := S1.out.cells
  go_wp2_with fail
  refine (K0.out.get _ S1.out).mono ?_
  rintro e2 w2 ⟨rfl, s2⟩
  have S2 := Lib.hid s2
  clear s2 c0 c1 c2 c3
  obtain ⟨c0, c1, c2, c3⟩ := S2.out.cells
  go_wp2_with fail
  refine (K0.out.first _ S2.out).mono ?_
  rintro e3 w3 ⟨rfl, s3⟩
  have S3 := Lib.hid s3
  clear s3 c0 c1 c2 c3
  have A3 := Lib.hid (S3.out.alloc (.cells #[.int .u64 0, .int .u64 0, .int .i64 0] 44))
  obtain ⟨c0, c1, c2, c3⟩ := A3.out.cells
  go_wp2_with fail
  refine (K0.out.next _ A3.out).mono ?_
  rintro e4 w4 ⟨rfl, s4⟩
  have S4 := Lib.hid s4
  clear s4 c0 c1 c2 c3
  have A4 := Lib.hid (S4.out.alloc (.cells #[.int .u64 0, .int .u64 0, .int .i64 0] 44))
  obtain ⟨c0, c1, c2, c3⟩ := A4.out.cells
  go_wp2_with fail
  refine (K0.out.put _ A4.out).mono ?_
  rintro e5 w5 ⟨rfl, s5⟩
  have S5 := Lib.hid s5
  clear s5 c0 c1 c2 c3
  obtain ⟨c0, c1, c2, c3⟩ := S5.out.cells
  go_wp2_with fail
  refine (K0.out.len _ S5.out).mono ?_
  rintro e6 w6 ⟨rfl, s6⟩
  have S6 := Lib.hid s6
  clear s6 c0 c1 c2 c3
  obtain ⟨c0, c1, c2, c3⟩ := S6.out.cells
  go_wp2_with fail
  refine (K0.out.room _ S6.out).mono ?_
  rintro e7 w7 ⟨rfl, s7⟩
  have S7 := Lib.hid s7
  clear s7 c0 c1 c2 c3
  obtain ⟨c0, c1, c2, c3⟩ := S7.out.cells
  go_wp2_with fail
  refine (K0.out.all _ S7.out).mono ?_
  rintro e8 w8 ⟨⟨q8, d8, rfl⟩, s8⟩
  have S8 := Lib.hid s8
  clear s8 c0 c1 c2 c3
  obtain ⟨c0, c1, c2, c3⟩ := S8.out.cells
  go_wp2_with fail
  refine (K0.out.shape _ S8.out).mono ?_
  rintro e9 w9 ⟨⟨q9, d9, rfl⟩, s9⟩
  have S9 := Lib.hid s9
  clear s9 c0 c1 c2 c3
  obtain ⟨c0, c1, c2, c3⟩ := S9.out.cells
  go_wp2_with fail
  rw [rounds_succ]
  go_wp2_with fail
  refine (K1.out.drop _ S9.out).mono ?_
  rintro e10 w10 ⟨rfl, s10⟩
  have S10 := Lib.hid s10
  clear s10 c0 c1 c2 c3
  obtain ⟨c0, c1, c2, c3⟩ := S10.out.cells
  go_wp2_with fail
  refine (K1.out.get _ S10.out).mono ?_
  rintro e11 w11 ⟨rfl, s11⟩
  have S11 := Lib.hid s11
  clear s11 c0 c1 c2 c3
  obtain ⟨c0, c1, c2, c3⟩ := S11.out.cells
  go_wp2_with fail
  refine (K1.out.first _ S11.out).mono ?_
  rintro e12 w12 ⟨rfl, s12⟩
  have S12 := Lib.hid s12
  clear s12 c0 c1 c2 c3
  have A12 := Lib.hid (S12.out.alloc (.cells #[.int .u64 0, .int .u64 0, .int .i64 0] 44))
  obtain ⟨c0, c1, c2, c3⟩ := A12.out.cells
  go_wp2_with fail
  refine (K1.out.next _ A12.out).mono ?_
  rintro e13 w13 ⟨rfl, s13⟩
  have S13 := Lib.hid s13
  clear s13 c0 c1 c2 c3
  have A13 := Lib.hid (S13.out.alloc (.cells #[.int .u64 0, .int .u64 0, .int .i64 0] 44))
  obtain ⟨c0, c1, c2, c3⟩ := A13.out.cells
  go_wp2_with fail
  refine (K1.out.put _ A13.out).mono ?_
  rintro e14 w14 ⟨rfl, s14⟩
  have S14 := Lib.hid s14
  clear s14 c0 c1 c2 c3
  obtain ⟨c0, c1, c2, c3⟩ := S14.out.cells
  go_wp2_with fail
  refine (K1.out.len _ S14.out).mono ?_
  rintro e15 w15 ⟨rfl, s15⟩
  have S15 := Lib.hid s15
  clear s15 c0 c1 c2 c3
  obtain ⟨c0, c1, c2, c3⟩ := S15.out.cells
  go_wp2_with fail
  refine (K1.out.room _ S15.out).mono ?_
  rintro e16 w16 ⟨rfl, s16⟩
  have S16 := Lib.hid s16
  clear s16 c0 c1 c2 c3
  obtain ⟨c0, c1, c2, c3⟩ := S16.out.cells
  go_wp2_with fail
  refine (K1.out.all _ S16.out).mono ?_
  rintro e17 w17 ⟨⟨q17, d17, rfl⟩, s17⟩
  have S17 := Lib.hid s17
  clear s17 c0 c1 c2 c3
  obtain ⟨c0, c1, c2, c3⟩ := S17.out.cells
  go_wp2_with fail
  refine (K1.out.shape _ S17.out).mono ?_
  rintro e18 w18 ⟨⟨q18, d18, rfl⟩, s18⟩
  have S18 := Lib.hid s18
  clear s18 c0 c1 c2 c3
  obtain ⟨c0, c1, c2, c3⟩ := S18.out.cells
  go_wp2_with fail
  rw [rounds_succ]
  go_wp2_with fail
  refine (HA.out _).mono ?_
  rintro e w99 ⟨rfl, b99⟩
  have HB := Lib.hid (below_tr S18.out.below b99)
  clear b99
  go_wp2_with fail
  go_ret
  exact ⟨rfl, HB.out⟩

theorem treeNone_walk (a0 : List Value) (a1 : Int) (w : World) (w0 : Fits [some .u64, some .u64] a0) (w1 : (Lit.int .i64 a1).wf = true) :
    Calls Try.prog 8 #[.agg a0.toArray, .int .i64 a1] w fun e w' => e = .returned (.bool true) ∧ Below w.heap.size w w' := by
  obtain ⟨k, hk, e⟩ := key_of w0
  rw [e]
  exact treeNone_core k a1 w (Lib.hid (awake_of treeK))

end Go.Proofs.Ytagjgfmkfljneaa
