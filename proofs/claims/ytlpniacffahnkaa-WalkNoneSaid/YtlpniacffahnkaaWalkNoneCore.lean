/-
  WalkNone's walk: of a tree that is none, or has nothing, nothing is told.
-/
import Derived.Test.YtlpniacffahnkaaWalkSt
import Derived.Test.YtlpniacffahnkaaTreeNoneCalls
namespace Go.Proofs.Ytlpniacffahnkaa
open Go.RowKit
set_option linter.unusedVariables false

/-- The law's own boxes: the key, a tree that New did not make, the row of the three trees. -/
abbrev noB (H Z R : Nat) (k : Ky) (a : Addr) : List (Nat × TypeId × Array Value) := [(R, 28, #[.pointer none, .pointer (some ⟨Z, 0, none⟩), .pointer (some a)]), (Z, 63, #[.pointer none, .int .i64 0, .slice none 0 0]), (H, 27, #[.int .u64 (k.at_ : Int), .int .u64 (k.seq : Int)])]
/-- Behind Of, with boxes that were there ahead of it. -/
theorem st_of' {K : TreeK} {w W0 W' : World} {ks : List Ky} {e : Ending} {bx : List (Nat × TypeId × Array Value)} (lo : Below w.heap.size w W0) (hb : ∀ b, b ∈ bx → w.heap.size ≤ b.1 ∧ Box W0 b.1 b.2.1 b.2.2) (h : OfC K W0 ks e W') : ∃ a p c, e = .returned (.tuple #[.pointer (some a), .agg #[.slice p (ofL ks).length c, .int .i64 60]]) ∧ St K w W' a (ofL ks) bx [(.slice p (ofL ks).length c, ofL ks)] := by
  obtain ⟨a, N, g, p, n, c, rfl, o, h1, h2, r, h3⟩ := h
  subst h3
  rw [h2] at r ⊢
  have hl := o.ok.room
  rw [h2, h1] at hl
  refine ⟨a, p, c, rfl, N, g, ⟨o.at_, o.ok, fun k hk => Nat.le_trans lo.size (o.new k hk), below_tr lo o.lo⟩, h1, h2, fun b hb' => ?_, fun x hx => ?_⟩
  · obtain ⟨k1, k2⟩ := hb b hb'
    exact ⟨fun hn => by have := o.new _ hn; have := k2.lt; omega, k1, k2.below o.lo k2.lt⟩
  · rw [List.mem_singleton.1 hx]
    exact ⟨by show (ofL ks).length ≤ 200; omega, own_low r.row lo.size, r.off⟩

theorem noneReads {p : Option Addr} {w : World} {M : Nat → Prop} (hl : ∀ j, M j → j < w.heap.size) (h : ∀ W, (∀ j, M j → W.heap[j]? = w.heap[j]?) → w.heap.size ≤ W.heap.size → NotMade p W) : Reads (.pointer p) [] M w :=
  ⟨hl, fun e he => (by cases he), List.Pairwise.nil, fun W k hk hm hs => (none_next (h W hm hs) k), fun W k hk hm hs => (none_get (h W hm hs) k)⟩
/-- What each call answers of a tree that reads as nothing. -/
structure NoneW (K : TreeK) (w : World) (a : Addr) (bx : List (Nat × TypeId × Array Value)) (k : Ky) (n : Int) (p : Option Addr) : Prop where
  sweep : ∀ W, Hid (St K w W a [] bx []) → Calls Try.prog 17 #[.pointer p, .agg #[.int .u64 (k.at_ : Int), .int .u64 (k.seq : Int)], .int .i64 n] W fun e W' => (∃ q c, e = .returned (.tuple #[.slice q 0 c, .agg #[.int .u64 (k.at_ : Int), .int .u64 (k.seq : Int)]])) ∧ Hid (St K w W' a [] bx [])
  from_ : ∀ W, Hid (St K w W a [] bx []) → Calls Try.prog 19 #[.pointer p, .agg #[.int .u64 (k.at_ : Int), .int .u64 (k.seq : Int)], .int .i64 n] W fun e W' => (∃ q c, e = .returned (.slice q 0 c)) ∧ Hid (St K w W' a [] bx [])
  upto : ∀ W, Hid (St K w W a [] bx []) → Calls Try.prog 21 #[.pointer p, .int .u64 (k.at_ : Int), .int .i64 n] W fun e W' => (∃ q c, e = .returned (.slice q 0 c)) ∧ Hid (St K w W' a [] bx [])
  take : ∀ W, Hid (St K w W a [] bx []) → Calls Try.prog 23 #[.pointer p, .int .u64 (k.at_ : Int), .int .i64 n] W fun e W' => (∃ q c, e = .returned (.slice q 0 c)) ∧ Hid (St K w W' a [] bx [])
theorem noneW {K : TreeK} {w : World} {a : Addr} {bx : List (Nat × TypeId × Array Value)} {k : Ky} {n : Int} {p : Option Addr} (hk : k.Fits) (hr : ∀ W, Hid (St K w W a [] bx []) → ∃ M, Reads (.pointer p) [] M W) : NoneW K w a bx k n p where
  sweep := fun W s => by
    obtain ⟨M, h⟩ := hr W s
    have := walk_sweep h (by simp) k hk n
    rw [show (roundL k ([] : List En)).take n.toNat = [] by simp [roundL, aboveL, belowL]] at this
    refine this.mono ?_
    rintro e W' ⟨q, c, rfl, _, b⟩
    exact ⟨⟨q, c, rfl⟩, Lib.hid (s.out.below b)⟩
  from_ := fun W s => by
    obtain ⟨M, h⟩ := hr W s
    have := walk_from h (by simp) k hk n
    rw [show (fromL k ([] : List En)).take n.toNat = [] by simp [fromL]] at this
    refine this.mono ?_
    rintro e W' ⟨q, c, rfl, _, b⟩
    exact ⟨⟨q, c, rfl⟩, Lib.hid (s.out.below b)⟩
  upto := fun W s => by
    obtain ⟨M, h⟩ := hr W s
    have := walk_upto h (by simp) k.at_ hk.1 n
    rw [show (uptoL k.at_ ([] : List En)).take n.toNat = [] by simp [uptoL]] at this
    refine this.mono ?_
    rintro e W' ⟨q, c, rfl, _, b⟩
    exact ⟨⟨q, c, rfl⟩, Lib.hid (s.out.below b)⟩
  take := fun W s => by
    obtain ⟨M, h⟩ := hr W s
    refine (walk_take_none h k.at_ hk.1 n).mono ?_
    rintro e W' ⟨⟨q, c, rfl⟩, b⟩
    exact ⟨⟨q, c, rfl⟩, Lib.hid (s.out.below b)⟩
theorem ownW {K : TreeK} {w : World} {a : Addr} {bx : List (Nat × TypeId × Array Value)} {k : Ky} {n : Int} (hk : k.Fits) : NoneW K w a bx k n (some a) :=
  { noneW hk (fun W s => s.out.reads) with
    take := fun W s => by
      have := s.out.take k.at_ hk.1 n
      rw [show (uptoL k.at_ ([] : List En)).take n.toNat = [] by simp [uptoL]] at this
      refine this.mono ?_
      rintro e W' ⟨q, c, rfl, s'⟩
      exact ⟨⟨q, c, rfl⟩, Lib.hid (s'.forget (fun b hb => hb) (fun r hr => (by cases hr)))⟩ }

theorem zeroReads {K : TreeK} {w W : World} {a : Addr} {bx : List (Nat × TypeId × Array Value)} {Z : Nat} (hz : (Z, 63, #[.pointer none, .int .i64 0, .slice none 0 0]) ∈ bx) (s : Hid (St K w W a [] bx [])) : ∃ M, Reads (.pointer (some ⟨Z, 0, none⟩)) [] M W := by
  have b := s.out.box hz
  refine ⟨fun j => j = Z, noneReads (fun j hj => by rw [hj]; exact b.lt) fun W' hm hs => ?_⟩
  intro q hq
  exact ⟨Z, (Option.some.inj hq).symm, (hm Z rfl).trans b⟩
theorem nilReads (W : World) : ∃ M, Reads (.pointer none) [] M W := ⟨fun _ => False, noneReads (fun j hj => hj.elim) fun W' _ _ => NotMade.none W'⟩

theorem noC {K : TreeK} {w W : World} {a : Addr} {H Z R : Nat} {k : Ky} {rs : List (Value × List En)} (s : Hid (St K w W a [] (noB H Z R k a) rs)) : W.cell? ⟨H, 0, none⟩ = some (.int .u64 (k.at_ : Int)) ∧ W.cell? ⟨H, 1, none⟩ = some (.int .u64 (k.seq : Int)) ∧ W.cell? ⟨R, 0, none⟩ = some (.pointer none) ∧ W.cell? ⟨R, 1, none⟩ = some (.pointer (some ⟨Z, 0, none⟩)) ∧ W.cell? ⟨R, 2, none⟩ = some (.pointer (some a)) := by
  have b1 : Box W H 27 #[.int .u64 (k.at_ : Int), .int .u64 (k.seq : Int)] := s.out.box (b := (H, 27, #[.int .u64 (k.at_ : Int), .int .u64 (k.seq : Int)])) (by simp)
  have b2 : Box W R 28 #[.pointer none, .pointer (some ⟨Z, 0, none⟩), .pointer (some a)] := s.out.box (b := (R, 28, #[.pointer none, .pointer (some ⟨Z, 0, none⟩), .pointer (some a)])) (by simp)
  exact ⟨b1.cell 0, b1.cell 1, b2.cell 0, b2.cell 1, b2.cell 2⟩
theorem noS {K : TreeK} {w W : World} {a : Addr} {H Z R E : Nat} {k : Ky} {rs : List (Value × List En)} (s : Hid (St K w W a [] ((E, 27, #[.int .u64 (k.at_ : Int), .int .u64 (k.seq : Int)]) :: noB H Z R k a) rs)) : W.cell? ⟨H, 0, none⟩ = some (.int .u64 (k.at_ : Int)) ∧ W.cell? ⟨H, 1, none⟩ = some (.int .u64 (k.seq : Int)) ∧ W.cell? ⟨E, 0, none⟩ = some (.int .u64 (k.at_ : Int)) ∧ W.cell? ⟨E, 1, none⟩ = some (.int .u64 (k.seq : Int)) := by
  have b1 : Box W H 27 #[.int .u64 (k.at_ : Int), .int .u64 (k.seq : Int)] := s.out.box (b := (H, 27, #[.int .u64 (k.at_ : Int), .int .u64 (k.seq : Int)])) (by simp)
  have b2 : Box W E 27 #[.int .u64 (k.at_ : Int), .int .u64 (k.seq : Int)] := s.out.box (b := (E, 27, #[.int .u64 (k.at_ : Int), .int .u64 (k.seq : Int)])) (by simp)
  exact ⟨b1.cell 0, b1.cell 1, b2.cell 0, b2.cell 1⟩

set_option maxHeartbeats 4000000 in
set_option maxRecDepth 100000 in
theorem walkNone_core (K : TreeK) (k : Ky) (hk : k.Fits) (n : Int) (w : World) (HA : Hid (∀ w : World, Calls Try.prog 25 #[] w fun e w' => e = .returned (.bool true) ∧ Below w.heap.size w w')) :
    Calls Try.prog 9 #[kyV k, .int .i64 n] w fun e w' => e = .returned (.bool true) ∧ Below w.heap.size w w' := by
  unfold kyV
  obtain ⟨W, HW⟩ : ∃ W, Hid (w.alloc (.cells #[.int .u64 (k.at_ : Int), .int .u64 (k.seq : Int)] 27) = W) := ⟨_, Lib.hid rfl⟩
  have b1 : Below w.heap.size w W := by rw [← HW.out]; exact (Below.refl _ w).alloc (Nat.le_refl _) _
  have bK : Box W w.heap.size 27 #[.int .u64 (k.at_ : Int), .int .u64 (k.seq : Int)] := by rw [← HW.out]; exact Box.new _ _ _
  have R0 := Lib.hid (law_of K (KeysAt.nil W))
  have HB := Lib.hid (And.intro b1 bK)
  clear b1 bK
  go_enter Try.func9, Try.ntmps9
  go_upto_region 1 with fail
  rw [HW.out]
  go_upto_region 2 with (go_at_call 16; refine R0.out.mono ?_; rintro e W1 hO; obtain ⟨b1, bK⟩ := HB.out; obtain ⟨a, p, c, rfl, s1⟩ := st_of' (bx := [(w.heap.size, 27, #[.int .u64 (k.at_ : Int), .int .u64 (k.seq : Int)])]) b1 (fun b hb => by rw [List.mem_singleton.1 hb]; exact ⟨Nat.le_refl _, bK⟩) hO; clear hO R0 HB b1 bK)
  rw [show ofL [] = [] from rfl] at s1 ⊢
  dsimp only [List.length] at s1 ⊢
  have s2 := ((s1.alloc #[.slice p 0 c, .int .i64 60] 41).alloc #[.pointer none, .int .i64 0, .slice none 0 0] 63)
  simp only [World.size_alloc] at s2
  have s3 := s2.alloc #[.pointer none, .pointer (some ⟨W1.heap.size + 1, 0, none⟩), .pointer (some a)] 28
  simp only [World.size_alloc] at s3
  go_upto_block 0 with fail
  obtain ⟨H, HH⟩ : ∃ H, Hid (w.heap.size = H) := ⟨_, Lib.hid rfl⟩
  obtain ⟨Z, HZ⟩ : ∃ Z, Hid (W1.heap.size + 1 = Z) := ⟨_, Lib.hid rfl⟩
  obtain ⟨W2, HW2⟩ : ∃ W2, Hid (((W1.alloc (.cells #[.slice p 0 c, .int .i64 60] 41)).alloc (.cells #[.pointer none, .int .i64 0, .slice none 0 0] 63)).alloc (.cells #[.pointer none, .pointer (some ⟨W1.heap.size + 1, 0, none⟩), .pointer (some a)] 28) = W2) := ⟨_, Lib.hid rfl⟩
  rw [HW2.out, HZ.out, HH.out] at s3
  rw [HW2.out, HZ.out, HH.out]
  have s0 : Hid (St K w W2 a [] (noB H Z (Z + 1) k a) []) := Lib.hid (s3.forget (by simp) (by simp))
  clear s1 s2 s3 HW2 HZ HH HW
  have K0 : Hid (∀ bx, NoneW K w a bx k n none) := Lib.hid fun bx => noneW hk (fun W s => nilReads W)
  have K1 : Hid (∀ bx, (Z, 63, #[.pointer none, .int .i64 0, .slice none 0 0]) ∈ bx → NoneW K w a bx k n (some ⟨Z, 0, none⟩)) := Lib.hid fun bx hb => noneW hk (fun W s => zeroReads hb s)
  have K2 : Hid (∀ bx, NoneW K w a bx k n (some a)) := Lib.hid fun bx => ownW hk
  obtain ⟨c0, c1, c2, c3, c4⟩ := noC s0
  go_wp2_with fail
  refine wp_loop_rounds 4 ?_
  rw [rounds_succ]
  go_wp2_with (go_at_call 17; refine ((K0.out _).sweep _ s0).mono ?_; rintro e V0 ⟨⟨q0, d0, rfl⟩, t0⟩; clear c0 c1 c2 c3 c4)
  have e0 : Hid (St K w (V0.alloc (.cells #[.int .u64 (k.at_ : Int), .int .u64 (k.seq : Int)] 27)).drew a [] ((V0.heap.size, 27, #[.int .u64 (k.at_ : Int), .int .u64 (k.seq : Int)]) :: noB H Z (Z + 1) k a) []) := Lib.hid ((t0.out.alloc _ _).below (Below.refl _ _).drew)
  clear t0
  go_region_held3 (fun wy => wy.cell? ⟨H, 0, none⟩ = some (.int .u64 (k.at_ : Int)) ∧ wy.cell? ⟨H, 1, none⟩ = some (.int .u64 (k.seq : Int)) ∧ wy.cell? ⟨V0.heap.size, 0, none⟩ = some (.int .u64 (k.at_ : Int)) ∧ wy.cell? ⟨V0.heap.size, 1, none⟩ = some (.int .u64 (k.seq : Int)))
    (first | exact noS (by assumption))
    (first
      | (go_at_call 19; refine ((K0.out _).from_ _ (by assumption)).mono ?_; rintro e V ⟨⟨q, d, rfl⟩, h3⟩)
      | (go_at_call 21; refine ((K0.out _).upto _ (by assumption)).mono ?_; rintro e V ⟨⟨q, d, rfl⟩, h3⟩)
      | (go_at_call 23; refine ((K0.out _).take _ (by assumption)).mono ?_; rintro e X0 ⟨⟨q, d, rfl⟩, h0⟩))
  have g0 : Hid (St K w X0 a [] (noB H Z (Z + 1) k a) []) := Lib.hid (h0.out.forget (fun b hb => List.mem_cons_of_mem _ hb) (fun r hr => hr))
  clear h0 h3
  obtain ⟨c0, c1, c2, c3, c4⟩ := noC g0
  go_wp2_with fail
  rw [rounds_succ]
  go_wp2_with (go_at_call 17; refine ((K1.out (noB H Z (Z + 1) k a) (by simp)).sweep _ g0).mono ?_; rintro e V1 ⟨⟨q1, d1, rfl⟩, t1⟩; clear c0 c1 c2 c3 c4)
  have e1 : Hid (St K w (V1.alloc (.cells #[.int .u64 (k.at_ : Int), .int .u64 (k.seq : Int)] 27)).drew a [] ((V1.heap.size, 27, #[.int .u64 (k.at_ : Int), .int .u64 (k.seq : Int)]) :: noB H Z (Z + 1) k a) []) := Lib.hid ((t1.out.alloc _ _).below (Below.refl _ _).drew)
  clear t1
  go_region_held3 (fun wy => wy.cell? ⟨H, 0, none⟩ = some (.int .u64 (k.at_ : Int)) ∧ wy.cell? ⟨H, 1, none⟩ = some (.int .u64 (k.seq : Int)) ∧ wy.cell? ⟨V1.heap.size, 0, none⟩ = some (.int .u64 (k.at_ : Int)) ∧ wy.cell? ⟨V1.heap.size, 1, none⟩ = some (.int .u64 (k.seq : Int)))
    (first | exact noS (by assumption))
    (first
      | (go_at_call 19; refine ((K1.out ((V1.heap.size, 27, #[.int .u64 (k.at_ : Int), .int .u64 (k.seq : Int)]) :: noB H Z (Z + 1) k a) (by simp)).from_ _ (by assumption)).mono ?_; rintro e V ⟨⟨q, d, rfl⟩, h3⟩)
      | (go_at_call 21; refine ((K1.out ((V1.heap.size, 27, #[.int .u64 (k.at_ : Int), .int .u64 (k.seq : Int)]) :: noB H Z (Z + 1) k a) (by simp)).upto _ (by assumption)).mono ?_; rintro e V ⟨⟨q, d, rfl⟩, h3⟩)
      | (go_at_call 23; refine ((K1.out ((V1.heap.size, 27, #[.int .u64 (k.at_ : Int), .int .u64 (k.seq : Int)]) :: noB H Z (Z + 1) k a) (by simp)).take _ (by assumption)).mono ?_; rintro e X1 ⟨⟨q, d, rfl⟩, h1⟩))
  have g1 : Hid (St K w X1 a [] (noB H Z (Z + 1) k a) []) := Lib.hid (h1.out.forget (fun b hb => List.mem_cons_of_mem _ hb) (fun r hr => hr))
  clear h1 h3
  obtain ⟨c0, c1, c2, c3, c4⟩ := noC g1
  go_wp2_with fail
  rw [rounds_succ]
  go_wp2_with (go_at_call 17; refine ((K2.out _).sweep _ g1).mono ?_; rintro e V2 ⟨⟨q2, d2, rfl⟩, t2⟩; clear c0 c1 c2 c3 c4)
  have e2 : Hid (St K w (V2.alloc (.cells #[.int .u64 (k.at_ : Int), .int .u64 (k.seq : Int)] 27)).drew a [] ((V2.heap.size, 27, #[.int .u64 (k.at_ : Int), .int .u64 (k.seq : Int)]) :: noB H Z (Z + 1) k a) []) := Lib.hid ((t2.out.alloc _ _).below (Below.refl _ _).drew)
  clear t2
  go_region_held3 (fun wy => wy.cell? ⟨H, 0, none⟩ = some (.int .u64 (k.at_ : Int)) ∧ wy.cell? ⟨H, 1, none⟩ = some (.int .u64 (k.seq : Int)) ∧ wy.cell? ⟨V2.heap.size, 0, none⟩ = some (.int .u64 (k.at_ : Int)) ∧ wy.cell? ⟨V2.heap.size, 1, none⟩ = some (.int .u64 (k.seq : Int)))
    (first | exact noS (by assumption))
    (first
      | (go_at_call 19; refine ((K2.out _).from_ _ (by assumption)).mono ?_; rintro e V ⟨⟨q, d, rfl⟩, h3⟩)
      | (go_at_call 21; refine ((K2.out _).upto _ (by assumption)).mono ?_; rintro e V ⟨⟨q, d, rfl⟩, h3⟩)
      | (go_at_call 23; refine ((K2.out _).take _ (by assumption)).mono ?_; rintro e X2 ⟨⟨q, d, rfl⟩, h2⟩))
  have g2 : Hid (St K w X2 a [] (noB H Z (Z + 1) k a) []) := Lib.hid (h2.out.forget (fun b hb => List.mem_cons_of_mem _ hb) (fun r hr => hr))
  clear h2 h3
  obtain ⟨c0, c1, c2, c3, c4⟩ := noC g2
  go_wp2_with fail
  rw [rounds_succ]
  go_wp2_with fail
  refine (HA.out _).mono ?_
  rintro e w99 ⟨rfl, b99⟩
  have HB := Lib.hid (below_tr g2.out.lo b99)
  clear b99
  go_wp2_with fail
  go_ret
  exact ⟨rfl, HB.out⟩

end Go.Proofs.Ytlpniacffahnkaa
