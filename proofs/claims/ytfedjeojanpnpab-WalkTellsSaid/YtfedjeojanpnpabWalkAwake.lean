/-
  The chapter's examples of layer 7 hold.
-/
import Derived.Test.YtfedjeojanpnpabWalkSt
import Derived.Test.YtfedjeojanpnpabTake
namespace Go.Proofs.Ytfedjeojanpnpab
open Go.RowKit
set_option linter.unusedVariables false

def w1 : En := ⟨⟨1, 0⟩, 0⟩
def w3 : En := ⟨⟨3, 0⟩, 1⟩
def w5 : En := ⟨⟨5, 0⟩, 2⟩
def wks : List Ky := [⟨1, 0⟩, ⟨3, 0⟩, ⟨5, 0⟩]
theorem wks_of : ofL wks = [w1, w3, w5] := by decide
/-- The chapter's examples hold. -/
def Awake7 : Prop := ∀ w : World, Calls Try.prog 23 #[] w fun e w' => e = .returned (.bool true) ∧ Below w.heap.size w w'
theorem wks_at (w : World) : KeysAt (w.alloc (.cells #[.int .u64 1, .int .u64 0, .int .u64 3, .int .u64 0, .int .u64 5, .int .u64 0] 27)) (some ⟨w.heap.size, 0, none⟩) 3 3 wks := by
  have bx := Box.new w 27 #[.int .u64 1, .int .u64 0, .int .u64 3, .int .u64 0, .int .u64 5, .int .u64 0]
  refine ⟨rfl, Nat.le_refl _, by decide, fun k hk => ?_, fun j k hk => ⟨_, rfl, fun W b => ?_⟩⟩
  · simp [wks] at hk
    rcases hk with rfl | rfl | rfl <;> exact fit_small (by decide) (by decide)
  · have bx' := bx.below b bx.lt
    match j, hk with
    | 0, hk => cases hk; exact ⟨bx'.cell 0, bx'.cell 1⟩
    | 1, hk => cases hk; exact ⟨bx'.cell 2, bx'.cell 3⟩
    | 2, hk => cases hk; exact ⟨bx'.cell 4, bx'.cell 5⟩
    | j + 3, hk => simp [wks] at hk

/-- The boxes of the examples. -/
abbrev awB (h k1 k2 : Nat) : List (Nat × TypeId × Array Value) := (k2, 27, #[.int .u64 5, .int .u64 0]) :: (k1, 27, #[.int .u64 1, .int .u64 0]) :: [(h + 1, 52, #[.int .u64 1, .int .u64 0, .int .i64 0]), (h + 1 + 1, 52, #[.int .u64 3, .int .u64 0, .int .i64 1]), (h + 1 + 1 + 1, 52, #[.int .u64 5, .int .u64 0, .int .i64 2])]
def awS (h k1 k2 : Nat) (wy : World) : Prop := wy.cell? ⟨h + 1, 0, none⟩ = some (.int .u64 1) ∧ wy.cell? ⟨h + 1, 1, none⟩ = some (.int .u64 0) ∧ wy.cell? ⟨h + 1, 2, none⟩ = some (.int .i64 0) ∧ wy.cell? ⟨h + 1 + 1, 0, none⟩ = some (.int .u64 3) ∧ wy.cell? ⟨h + 1 + 1, 1, none⟩ = some (.int .u64 0) ∧ wy.cell? ⟨h + 1 + 1, 2, none⟩ = some (.int .i64 1) ∧ wy.cell? ⟨h + 1 + 1 + 1, 0, none⟩ = some (.int .u64 5) ∧ wy.cell? ⟨h + 1 + 1 + 1, 1, none⟩ = some (.int .u64 0) ∧ wy.cell? ⟨h + 1 + 1 + 1, 2, none⟩ = some (.int .i64 2) ∧ wy.cell? ⟨k1, 0, none⟩ = some (.int .u64 1) ∧ wy.cell? ⟨k1, 1, none⟩ = some (.int .u64 0) ∧ wy.cell? ⟨k2, 0, none⟩ = some (.int .u64 5) ∧ wy.cell? ⟨k2, 1, none⟩ = some (.int .u64 0)
section
variable {K : TreeK} {w W W' : World} {a : Addr} {l : List En} {rs : List (Value × List En)} {h k1 k2 : Nat}
theorem awS_of (s : Hid (St K w W a l (awB h k1 k2) rs)) : awS h k1 k2 W := by
  have s := s.out
  have b1 : Box W (h + 1) 52 #[.int .u64 1, .int .u64 0, .int .i64 0] := s.box (b := (h + 1, 52, #[.int .u64 1, .int .u64 0, .int .i64 0])) (by simp [awB])
  have b3 : Box W (h + 1 + 1) 52 #[.int .u64 3, .int .u64 0, .int .i64 1] := s.box (b := (h + 1 + 1, 52, #[.int .u64 3, .int .u64 0, .int .i64 1])) (by simp [awB])
  have b5 : Box W (h + 1 + 1 + 1) 52 #[.int .u64 5, .int .u64 0, .int .i64 2] := s.box (b := (h + 1 + 1 + 1, 52, #[.int .u64 5, .int .u64 0, .int .i64 2])) (by simp [awB])
  have bk1 : Box W k1 27 #[.int .u64 1, .int .u64 0] := s.box (b := (k1, 27, #[.int .u64 1, .int .u64 0])) (by simp [awB])
  have bk2 : Box W k2 27 #[.int .u64 5, .int .u64 0] := s.box (b := (k2, 27, #[.int .u64 5, .int .u64 0])) (by simp [awB])
  exact ⟨b1.cell 0, b1.cell 1, b1.cell 2, b3.cell 0, b3.cell 1, b3.cell 2, b5.cell 0, b5.cell 1, b5.cell 2, bk1.cell 0, bk1.cell 1, bk2.cell 0, bk2.cell 1⟩
theorem awS_alloc (s : Hid (St K w W a l (awB h k1 k2) rs)) (o : Obj) : awS h k1 k2 (W.alloc o) := awS_of (Lib.hid (s.out.below ((Below.refl _ W).alloc (Nat.le_refl _) o)))
def decoL : List Value → List En
  | .int _ a :: .int _ s :: .int _ v :: t => ⟨⟨a.toNat, s.toNat⟩, v⟩ :: decoL t
  | _ => []
theorem aw_lit {cs : Array Value} (s : Hid (St K w W a l (awB h k1 k2) rs)) (hcs : cs.toList = (decoL cs.toList).flatMap enC) {n : Nat} (hn : (decoL cs.toList).length = n) (hl : n ≤ 200) : Hid (St K w (W.alloc (.cells cs 52)) a l (awB h k1 k2) ((.slice (some ⟨W.heap.size, 0, none⟩) n n, decoL cs.toList) :: rs)) := Lib.hid (s.out.lit _ cs hcs n hn hl)
theorem awS_alloc_drew (s : Hid (St K w W.drew a l (awB h k1 k2) rs)) (o : Obj) : awS h k1 k2 (W.alloc o).drew := awS_alloc s o
theorem aw_lit_drew {cs : Array Value} (s : Hid (St K w W.drew a l (awB h k1 k2) rs)) (hcs : cs.toList = (decoL cs.toList).flatMap enC) {n : Nat} (hn : (decoL cs.toList).length = n) (hl : n ≤ 200) : Hid (St K w (W.alloc (.cells cs 52)).drew a l (awB h k1 k2) ((.slice (some ⟨W.heap.size, 0, none⟩) n n, decoL cs.toList) :: rs)) := aw_lit s hcs hn hl
theorem aw_sameA {v u : Value} {x y : List En} (s : Hid (St K w W a l (awB h k1 k2) ((u, y) :: (v, x) :: rs))) (hxy : x = y) : Calls Try.prog 12 #[v, u] W fun e W' => e = .returned (.bool true) ∧ Hid (St K w W' a l (awB h k1 k2) rs) := by
  subst hxy
  refine (s.out.same (r1 := (v, x)) (r2 := (u, x)) (by simp) (by simp)).mono ?_
  rintro e W' ⟨rfl, s'⟩
  exact ⟨by simp, Lib.hid (s'.forget (fun b hb => hb) (fun r hr => List.mem_cons_of_mem _ (List.mem_cons_of_mem _ hr)))⟩
theorem aw_sameB {v u : Value} {x y : List En} (s : Hid (St K w W a l (awB h k1 k2) ((v, x) :: (u, y) :: rs))) (hxy : x = y) : Calls Try.prog 12 #[v, u] W fun e W' => e = .returned (.bool true) ∧ Hid (St K w W' a l (awB h k1 k2) rs) := by
  subst hxy
  refine (s.out.same (r1 := (v, x)) (r2 := (u, x)) (by simp) (by simp)).mono ?_
  rintro e W' ⟨rfl, s'⟩
  exact ⟨by simp, Lib.hid (s'.forget (fun b hb => hb) (fun r hr => List.mem_cons_of_mem _ (List.mem_cons_of_mem _ hr)))⟩
theorem aw_sameQ {v u : Value} {x y : List En} {r : Value × List En} (s : Hid (St K w W a l (awB h k1 k2) [(u, y), r, (v, x)])) (hxy : x = y) : Calls Try.prog 12 #[v, u] W fun e W' => e = .returned (.bool true) ∧ Hid (St K w W' a l (awB h k1 k2) [r]) := by
  subst hxy
  refine (s.out.same (r1 := (v, x)) (r2 := (u, x)) (by simp) (by simp)).mono ?_
  rintro e W' ⟨rfl, s'⟩
  exact ⟨by simp, Lib.hid (s'.forget (fun b hb => hb) (fun q hq => by simp at hq; simp [hq]))⟩
def upX (n : Int) : List En := (uptoL 3 [w1, w3, w5]).take n.toNat
def upN (n : Int) : Nat := (upX n).length
theorem aw_upto {n : Int} (s : Hid (St K w W a [w1, w3, w5] (awB h k1 k2) rs)) : Calls Try.prog 19 #[.pointer (some a), .int .u64 3, .int .i64 n] W fun e W' => ∃ p c, e = .returned (.slice p (upN n) c) ∧ Hid (St K w W' a [w1, w3, w5] (awB h k1 k2) ((.slice p (upN n) c, upX n) :: rs)) := s.out.upto 3 (by decide) n
theorem aw_from (s : Hid (St K w W a [w1, w3, w5] (awB h k1 k2) rs)) : Calls Try.prog 17 #[.pointer (some a), .agg #[.int .u64 2, .int .u64 0], .int .i64 5] W fun e W' => ∃ p c, e = .returned (.slice p 2 c) ∧ Hid (St K w W' a [w1, w3, w5] (awB h k1 k2) ((.slice p 2 c, [w3, w5]) :: rs)) := s.out.from_ ⟨2, 0⟩ (fit_small (by decide) (by decide)) 5
theorem aw_take (s : Hid (St K w W a [w1, w3, w5] (awB h k1 k2) rs)) : Calls Try.prog 21 #[.pointer (some a), .int .u64 1, .int .i64 9] W fun e W' => ∃ p c, e = .returned (.slice p 1 c) ∧ Hid (St K w W' a [w3, w5] (awB h k1 k2) ((.slice p 1 c, [w1]) :: rs)) := s.out.take 1 (by decide) 9
theorem aw_len (s : Hid (St K w W a [w3, w5] (awB h k1 k2) rs)) : Calls Try.prog 27 #[.pointer (some a)] W fun e W' => e = .returned (.int .i64 2) ∧ Hid (St K w W' a [w3, w5] (awB h k1 k2) rs) := s.out.tlen
end

/-- What comes behind is walked once, whatever two values and whatever world. -/
theorem aw_cut {Pr : World → Prop} {T : Prop} {G : Option Addr → Nat → Nat → World → Prop} (main : (∀ p c b V, Pr V → G p c b V) → T) (rest : ∀ p c b V, Pr V → G p c b V) : T := main rest
theorem aw_upto9 {K : TreeK} {w W : World} {a : Addr} {rs : List (Value × List En)} {h k1 k2 : Nat} (s : Hid (St K w W a [w1, w3, w5] (awB h k1 k2) rs)) : Calls Try.prog 19 #[.pointer (some a), .int .u64 3, .int .i64 9] W fun e W' => ∃ p c, e = .returned (.slice p 2 c) ∧ Hid (St K w W' a [w1, w3, w5] (awB h k1 k2) ((.slice p 2 c, [w1, w3]) :: rs)) := by
  have h := s.out.upto 3 (by decide) 9
  rw [show (uptoL 3 [w1, w3, w5]).take (9 : Int).toNat = [w1, w3] by decide] at h
  exact h
theorem aw_upto1 {K : TreeK} {w W : World} {a : Addr} {rs : List (Value × List En)} {h k1 k2 : Nat} (s : Hid (St K w W a [w1, w3, w5] (awB h k1 k2) rs)) : Calls Try.prog 19 #[.pointer (some a), .int .u64 3, .int .i64 1] W fun e W' => ∃ p c, e = .returned (.slice p 1 c) ∧ Hid (St K w W' a [w1, w3, w5] (awB h k1 k2) ((.slice p 1 c, [w1]) :: rs)) := by
  have h := s.out.upto 3 (by decide) 1
  rw [show (uptoL 3 [w1, w3, w5]).take (1 : Int).toNat = [w1] by decide] at h
  exact h
theorem aw_tk {P : Program} {md : Region.Mode} {ops : Array Oper} {Q : Exit → Act → World → Prop} {S : World → Prop} {i : Nat} {oi : Oper} {v : Value} {fuel : Nat} {listed : Array Bool} {a : Act} {w : World} (hi : nthO ops.toList i = some oi)
    (hs : Region.noSelect ops = true) (hf : Region.free md ops listed i = true) (hr : (Region.ready md ops listed).contains i = true)
    (hQ : ∀ c a w, Q (.panic c) (a.put oi.dst v) w → Q (.panic c) a w) (hy : YieldsIf P ops S oi v a) (hS : S w)
    (h : wpAnyH P md ops Q S fuel (listed.setIfInBounds i true) (a.put oi.dst v) w) : wpAnyH P md ops Q S (fuel + 1) listed a w := wpAnyH_take (nthO_eq hi) hs hf hr hQ hy hS h
theorem aw_cons {P : Program} {md : Region.Mode} {ops : Array Oper} {Q : Exit → Act → World → Prop} {S : World → Prop} {fuel : Nat} {listed : Array Bool} {a : Act} {w : World} {i : Nat} {o : Oper} {rs : List Nat} (ho : nthO ops.toList i = some o)
    (h : ∀ K' : Act → World → Prop, Shut (∀ a w, S w → (S w → wpAnyH P md ops Q S fuel (listed.setIfInBounds i true) a w) → K' a w) → if Region.wanted o (yielded ops a.tmps) = true then Oper.wp P o a w K' Q else K' (a.put o.dst undef) w)
    (hs : AllReadyH P md ops Q S fuel listed a w rs) : AllReadyH P md ops Q S fuel listed a w (i :: rs) := AllReadyH.cons (nthO_eq ho) h hs
theorem aw_cut0 {Pr : World → Prop} {T : Prop} {G : World → Prop} (main : (∀ V, Pr V → G V) → T) (rest : ∀ V, Pr V → G V) : T := main rest

set_option linter.unusedSimpArgs false in
set_option maxHeartbeats 60000000 in
set_option maxRecDepth 100000 in
theorem walk_awake (K : TreeK) : Awake7 := by
  intro w
  have b0 := (Below.refl w.heap.size w).alloc (Nat.le_refl _) (.cells #[.int .u64 1, .int .u64 0, .int .u64 3, .int .u64 0, .int .u64 5, .int .u64 0] 27)
  have R0 := Lib.hid (law_of K (wks_at w))
  have HB0 := Lib.hid b0
  clear b0
  go_enter Try.func23, Try.ntmps23
  go_upto_region 2 with (go_at_call 14; refine R0.out.mono ?_; rintro e W1 hO; obtain ⟨a, p, c, rfl, s1⟩ := st_of HB0.out hO; clear hO R0)
  rw [wks_of] at s1 ⊢
  have s2 := (((s1.alloc #[.slice p 3 c, .int .i64 60] 41).alloc #[.int .u64 1, .int .u64 0, .int .i64 0] 52).alloc #[.int .u64 3, .int .u64 0, .int .i64 1] 52).alloc #[.int .u64 5, .int .u64 0, .int .i64 2] 52
  simp only [World.size_alloc] at s2
  go_upto_region 3 with fail
  obtain ⟨h, HH⟩ : ∃ h, Hid (W1.heap.size = h) := ⟨_, Lib.hid rfl⟩
  obtain ⟨W2, HW2⟩ : ∃ W2, Hid ((((W1.alloc (.cells #[.slice p 3 c, .int .i64 60] 41)).alloc (.cells #[.int .u64 1, .int .u64 0, .int .i64 0] 52)).alloc (.cells #[.int .u64 3, .int .u64 0, .int .i64 1] 52)).alloc (.cells #[.int .u64 5, .int .u64 0, .int .i64 2] 52) = W2) := ⟨_, Lib.hid rfl⟩
  rw [HW2.out, HH.out] at s2 ⊢
  replace s2 := s2.forget (bx' := [(h + 1, 52, #[.int .u64 1, .int .u64 0, .int .i64 0]), (h + 1 + 1, 52, #[.int .u64 3, .int .u64 0, .int .i64 1]), (h + 1 + 1 + 1, 52, #[.int .u64 5, .int .u64 0, .int .i64 2])]) (rs' := []) (by simp) (by simp)
  clear s1 HH HW2 HB0
  have R1 : Hid (Calls Try.prog 15 #[.pointer (some a), .agg #[.int .u64 3, .int .u64 0], .int .i64 2] W2 fun e W' => ∃ p1 c1, e = .returned (.tuple #[.slice p1 2 c1, .agg #[.int .u64 1, .int .u64 0]]) ∧ St K w W' a [w1, w3, w5] [(h + 1, 52, #[.int .u64 1, .int .u64 0, .int .i64 0]), (h + 1 + 1, 52, #[.int .u64 3, .int .u64 0, .int .i64 1]), (h + 1 + 1 + 1, 52, #[.int .u64 5, .int .u64 0, .int .i64 2])] [(.slice p1 2 c1, [w5, w1])]) := Lib.hid (s2.sweep ⟨3, 0⟩ (fit_small (by decide) (by decide)) 2)
  clear s2
  go_upto_region 4 with (go_at_call 15; refine R1.out.mono ?_; rintro e V1 ⟨p1, c1, rfl, t1⟩; clear R1)
  have u1 := t1.alloc #[.int .u64 1, .int .u64 0] 27
  obtain ⟨k1, HK1⟩ : ∃ k, Hid (V1.heap.size = k) := ⟨_, Lib.hid rfl⟩
  obtain ⟨U1, HU1⟩ : ∃ U, Hid (V1.alloc (.cells #[.int .u64 1, .int .u64 0] 27) = U) := ⟨_, Lib.hid rfl⟩
  rw [HU1.out, HK1.out] at u1 ⊢
  clear t1 HK1 HU1
  have R2 : Hid (Calls Try.prog 15 #[.pointer (some a), .agg #[.int .u64 9, .int .u64 9], .int .i64 5] U1 fun e W' => ∃ p2 c2, e = .returned (.tuple #[.slice p2 3 c2, .agg #[.int .u64 5, .int .u64 0]]) ∧ St K w W' a [w1, w3, w5] ((k1, 27, #[.int .u64 1, .int .u64 0]) :: [(h + 1, 52, #[.int .u64 1, .int .u64 0, .int .i64 0]), (h + 1 + 1, 52, #[.int .u64 3, .int .u64 0, .int .i64 1]), (h + 1 + 1 + 1, 52, #[.int .u64 5, .int .u64 0, .int .i64 2])]) [(.slice p2 3 c2, [w1, w3, w5]), (.slice p1 2 c1, [w5, w1])]) := Lib.hid (u1.sweep ⟨9, 9⟩ (fit_small (by decide) (by decide)) 5)
  clear u1
  go_upto_region 5 with (go_at_call 15; refine R2.out.mono ?_; rintro e V2 ⟨p2, c2, rfl, t2⟩; clear R2)
  have u2 := t2.alloc #[.int .u64 5, .int .u64 0] 27
  obtain ⟨k2, HK2⟩ : ∃ k, Hid (V2.heap.size = k) := ⟨_, Lib.hid rfl⟩
  obtain ⟨U2, HU2⟩ : ∃ U, Hid (V2.alloc (.cells #[.int .u64 5, .int .u64 0] 27) = U) := ⟨_, Lib.hid rfl⟩
  rw [HU2.out, HK2.out] at u2 ⊢
  clear t2 HK2 HU2
  have s0 : Hid (St K w U2.drew a [w1, w3, w5] (awB h k1 k2) [(.slice p2 3 c2, [w1, w3, w5]), (.slice p1 2 c1, [w5, w1])]) := Lib.hid (u2.below (Below.refl _ _).drew)
  have HS0 := Lib.hid (awS_of s0)
  clear u2
  go_upto_region 6 with fail
  simp only [List.append]
  refine wp_region_noPanic ?_
  refine wp_region_held_drew (S := (fun wy => wy.cell? ⟨h + 1, 0, none⟩ = some (.int .u64 1) ∧ wy.cell? ⟨h + 1, 1, none⟩ = some (.int .u64 0) ∧ wy.cell? ⟨h + 1, 2, none⟩ = some (.int .i64 0) ∧ wy.cell? ⟨h + 1 + 1, 0, none⟩ = some (.int .u64 3) ∧ wy.cell? ⟨h + 1 + 1, 1, none⟩ = some (.int .u64 0) ∧ wy.cell? ⟨h + 1 + 1, 2, none⟩ = some (.int .i64 1) ∧ wy.cell? ⟨h + 1 + 1 + 1, 0, none⟩ = some (.int .u64 5) ∧ wy.cell? ⟨h + 1 + 1 + 1, 1, none⟩ = some (.int .u64 0) ∧ wy.cell? ⟨h + 1 + 1 + 1, 2, none⟩ = some (.int .i64 2) ∧ wy.cell? ⟨k1, 0, none⟩ = some (.int .u64 1) ∧ wy.cell? ⟨k1, 1, none⟩ = some (.int .u64 0) ∧ wy.cell? ⟨k2, 0, none⟩ = some (.int .u64 5) ∧ wy.cell? ⟨k2, 1, none⟩ = some (.int .u64 0))) (by kernel_rfl) ?_ (fun hHeld => ?_)
  · exact awS_of (by assumption)
  refine aw_tk (i := 0) (oi := _) (v := ?_) rfl (by kernel_rfl) (by kernel_rfl) (by kernel_rfl) (fun _ _ _ h => h) (Or.inl ⟨by rfl, ?_⟩) (by assumption) ?_
  rotate_left
  · intro w hSw; (try dsimp only at hSw); go_simp; try with_reducible rfl
  try simp only [Act.put, List.setIfInBounds_toArray, List.set_cons_zero, List.set_cons_succ]
  refine aw_tk (i := 1) (oi := _) (v := ?_) rfl (by kernel_rfl) (by kernel_rfl) (by kernel_rfl) (fun _ _ _ h => h) (Or.inl ⟨by rfl, ?_⟩) (by assumption) ?_
  rotate_left
  · intro w hSw; (try dsimp only at hSw); go_simp; try with_reducible rfl
  try simp only [Act.put, List.setIfInBounds_toArray, List.set_cons_zero, List.set_cons_succ]
  refine aw_tk (i := 2) (oi := _) (v := ?_) rfl (by kernel_rfl) (by kernel_rfl) (by kernel_rfl) (fun _ _ _ h => h) (Or.inl ⟨by rfl, ?_⟩) (by assumption) ?_
  rotate_left
  · intro w hSw; (try dsimp only at hSw); go_simp; try with_reducible rfl
  try simp only [Act.put, List.setIfInBounds_toArray, List.set_cons_zero, List.set_cons_succ]
  refine aw_tk (i := 4) (oi := _) (v := ?_) rfl (by kernel_rfl) (by kernel_rfl) (by kernel_rfl) (fun _ _ _ h => h) (Or.inl ⟨by rfl, ?_⟩) (by assumption) ?_
  rotate_left
  · intro w hSw; (try dsimp only at hSw); go_simp; try with_reducible rfl
  try simp only [Act.put, List.setIfInBounds_toArray, List.set_cons_zero, List.set_cons_succ]
  refine aw_tk (i := 5) (oi := _) (v := ?_) rfl (by kernel_rfl) (by kernel_rfl) (by kernel_rfl) (fun _ _ _ h => h) (Or.inl ⟨by rfl, ?_⟩) (by assumption) ?_
  rotate_left
  · intro w hSw; (try dsimp only at hSw); go_simp; try with_reducible rfl
  try simp only [Act.put, List.setIfInBounds_toArray, List.set_cons_zero, List.set_cons_succ]
  refine' aw_cut (Pr := fun V => Hid (St K w V a [w1, w3, w5] (awB h k1 k2) [(.slice p2 3 c2, [w1, w3, w5]), (.slice p1 2 c1, [w5, w1])])) ?main ?rest
  case main =>
    intro REST
    refine wpAnyH_ready (rs := [3, 6]) (by kernel_rfl) (by simp) ?_
    refine aw_cons (o := _) rfl (fun K hK => ?_) ?_
    · -- the call first
      go_simp
      refine Calls.mono (aw_from s0) ?_
      rintro e V1 ⟨p3, c3, rfl, h3⟩
      refine hK.out _ _ ?_ (fun hHeld => ?_)
      · exact awS_of h3
      clear hK K
      try simp only [Act.put, List.setIfInBounds_toArray, List.set_cons_zero, List.set_cons_succ]
      refine wpAnyH_ready (rs := [6]) (by kernel_rfl) (by simp) ?_
      refine aw_cons (o := _) rfl (fun K hK => ?_) ?_
      · skip
        go_simp
        refine hK.out _ _ ?_ (fun hHeld => ?_)
        · exact awS_alloc h3 _
        clear hK K
        try simp only [Act.put, List.setIfInBounds_toArray, List.set_cons_zero, List.set_cons_succ]
        refine wpAnyH_ready (rs := [7]) (by kernel_rfl) (by simp) ?_
        refine aw_cons (o := _) rfl (fun K hK => ?_) ?_
        · skip
          go_simp
          refine Calls.mono (aw_sameA (aw_lit h3 (by rfl) (by rfl) (by decide)) (by rfl)) ?_
          rintro e X1 ⟨rfl, h4⟩
          refine hK.out _ _ ?_ (fun hHeld => ?_)
          · exact awS_of h4
          clear hK K
          try simp only [Act.put, List.setIfInBounds_toArray, List.set_cons_zero, List.set_cons_succ]
          generalize V1.heap.size = bb
          exact REST p3 c3 bb X1 h4
        exact AllReadyH.nil
      exact AllReadyH.nil
    refine aw_cons (o := _) rfl (fun K hK => ?_) ?_
    · -- the slice first
      go_simp
      refine hK.out _ _ ?_ (fun hHeld => ?_)
      · exact awS_alloc_drew s0 _
      clear hK K
      try simp only [Act.put, List.setIfInBounds_toArray, List.set_cons_zero, List.set_cons_succ]
      refine wpAnyH_ready (rs := [3]) (by kernel_rfl) (by simp) ?_
      refine aw_cons (o := _) rfl (fun K hK => ?_) ?_
      · skip
        go_simp
        refine Calls.mono (aw_from (aw_lit_drew s0 (by rfl) (by rfl) (by decide))) ?_
        rintro e V1 ⟨p3, c3, rfl, h3⟩
        refine hK.out _ _ ?_ (fun hHeld => ?_)
        · exact awS_of h3
        clear hK K
        try simp only [Act.put, List.setIfInBounds_toArray, List.set_cons_zero, List.set_cons_succ]
        refine wpAnyH_ready (rs := [7]) (by kernel_rfl) (by simp) ?_
        refine aw_cons (o := _) rfl (fun K hK => ?_) ?_
        · skip
          go_simp
          refine Calls.mono (aw_sameB h3 (by rfl)) ?_
          rintro e X1 ⟨rfl, h4⟩
          refine hK.out _ _ ?_ (fun hHeld => ?_)
          · exact awS_of h4
          clear hK K
          try simp only [Act.put, List.setIfInBounds_toArray, List.set_cons_zero, List.set_cons_succ]
          generalize U2.heap.size = bb
          exact REST p3 c3 bb X1 h4
        exact AllReadyH.nil
      exact AllReadyH.nil
    exact AllReadyH.nil
  case rest =>
    focus
      intro q0 d0 b0 V hV
      replace hV : Hid (St K w V a [w1, w3, w5] (awB h k1 k2) [(.slice p2 3 c2, [w1, w3, w5]), (.slice p1 2 c1, [w5, w1])]) := hV
      have hHeld := awS_of hV
      unfold awS at hHeld
      refine aw_tk (i := 8) (oi := _) (v := ?_) rfl (by kernel_rfl) (by kernel_rfl) (by kernel_rfl) (fun _ _ _ h => h) (Or.inl ⟨by rfl, ?_⟩) (by assumption) ?_
      rotate_left
      · intro w hSw; (try dsimp only at hSw); go_simp; try with_reducible rfl
      try simp only [Act.put, List.setIfInBounds_toArray, List.set_cons_zero, List.set_cons_succ]
      refine aw_tk (i := 9) (oi := _) (v := ?_) rfl (by kernel_rfl) (by kernel_rfl) (by kernel_rfl) (fun _ _ _ h => h) (Or.inl ⟨by rfl, ?_⟩) (by assumption) ?_
      rotate_left
      · intro w hSw; (try dsimp only at hSw); go_simp; try with_reducible rfl
      try simp only [Act.put, List.setIfInBounds_toArray, List.set_cons_zero, List.set_cons_succ]
      refine aw_tk (i := 10) (oi := _) (v := ?_) rfl (by kernel_rfl) (by kernel_rfl) (by kernel_rfl) (fun _ _ _ h => h) (Or.inl ⟨by rfl, ?_⟩) (by assumption) ?_
      rotate_left
      · intro w hSw; (try dsimp only at hSw); go_simp; try with_reducible rfl
      try simp only [Act.put, List.setIfInBounds_toArray, List.set_cons_zero, List.set_cons_succ]
      refine aw_tk (i := 12) (oi := _) (v := ?_) rfl (by kernel_rfl) (by kernel_rfl) (by kernel_rfl) (fun _ _ _ h => h) (Or.inl ⟨by rfl, ?_⟩) (by assumption) ?_
      rotate_left
      · intro w hSw; (try dsimp only at hSw); go_simp; try with_reducible rfl
      try simp only [Act.put, List.setIfInBounds_toArray, List.set_cons_zero, List.set_cons_succ]
      refine aw_tk (i := 13) (oi := _) (v := ?_) rfl (by kernel_rfl) (by kernel_rfl) (by kernel_rfl) (fun _ _ _ h => h) (Or.inl ⟨by rfl, ?_⟩) (by assumption) ?_
      rotate_left
      · intro w hSw; (try dsimp only at hSw); go_simp; try with_reducible rfl
      try simp only [Act.put, List.setIfInBounds_toArray, List.set_cons_zero, List.set_cons_succ]
      refine' aw_cut (Pr := fun V => Hid (St K w V a [w1, w3, w5] (awB h k1 k2) [(.slice p2 3 c2, [w1, w3, w5]), (.slice p1 2 c1, [w5, w1])])) ?main ?rest
      case main =>
        intro REST
        refine wpAnyH_ready (rs := [11, 14]) (by kernel_rfl) (by simp) ?_
        refine aw_cons (o := _) rfl (fun K hK => ?_) ?_
        · -- the call first
          go_simp
          refine Calls.mono (aw_upto9 hV) ?_
          rintro e V1 ⟨p3, c3, rfl, h3⟩
          refine hK.out _ _ ?_ (fun hHeld => ?_)
          · exact awS_of h3
          clear hK K
          try simp only [Act.put, List.setIfInBounds_toArray, List.set_cons_zero, List.set_cons_succ]
          refine wpAnyH_ready (rs := [14]) (by kernel_rfl) (by simp) ?_
          refine aw_cons (o := _) rfl (fun K hK => ?_) ?_
          · skip
            go_simp
            refine hK.out _ _ ?_ (fun hHeld => ?_)
            · exact awS_alloc h3 _
            clear hK K
            try simp only [Act.put, List.setIfInBounds_toArray, List.set_cons_zero, List.set_cons_succ]
            refine wpAnyH_ready (rs := [15]) (by kernel_rfl) (by simp) ?_
            refine aw_cons (o := _) rfl (fun K hK => ?_) ?_
            · skip
              go_simp
              refine Calls.mono (aw_sameA (aw_lit h3 (by rfl) (by rfl) (by decide)) (by rfl)) ?_
              rintro e X1 ⟨rfl, h4⟩
              refine hK.out _ _ ?_ (fun hHeld => ?_)
              · exact awS_of h4
              clear hK K
              try simp only [Act.put, List.setIfInBounds_toArray, List.set_cons_zero, List.set_cons_succ]
              generalize V1.heap.size = bb
              exact REST p3 c3 bb X1 h4
            exact AllReadyH.nil
          exact AllReadyH.nil
        refine aw_cons (o := _) rfl (fun K hK => ?_) ?_
        · -- the slice first
          go_simp
          refine hK.out _ _ ?_ (fun hHeld => ?_)
          · exact awS_alloc hV _
          clear hK K
          try simp only [Act.put, List.setIfInBounds_toArray, List.set_cons_zero, List.set_cons_succ]
          refine wpAnyH_ready (rs := [11]) (by kernel_rfl) (by simp) ?_
          refine aw_cons (o := _) rfl (fun K hK => ?_) ?_
          · skip
            go_simp
            refine Calls.mono (aw_upto9 (aw_lit hV (by rfl) (by rfl) (by decide))) ?_
            rintro e V1 ⟨p3, c3, rfl, h3⟩
            refine hK.out _ _ ?_ (fun hHeld => ?_)
            · exact awS_of h3
            clear hK K
            try simp only [Act.put, List.setIfInBounds_toArray, List.set_cons_zero, List.set_cons_succ]
            refine wpAnyH_ready (rs := [15]) (by kernel_rfl) (by simp) ?_
            refine aw_cons (o := _) rfl (fun K hK => ?_) ?_
            · skip
              go_simp
              refine Calls.mono (aw_sameB h3 (by rfl)) ?_
              rintro e X1 ⟨rfl, h4⟩
              refine hK.out _ _ ?_ (fun hHeld => ?_)
              · exact awS_of h4
              clear hK K
              try simp only [Act.put, List.setIfInBounds_toArray, List.set_cons_zero, List.set_cons_succ]
              generalize V.heap.size = bb
              exact REST p3 c3 bb X1 h4
            exact AllReadyH.nil
          exact AllReadyH.nil
        exact AllReadyH.nil
      case rest =>
        focus
          intro q0 d0 b0 V hV
          replace hV : Hid (St K w V a [w1, w3, w5] (awB h k1 k2) [(.slice p2 3 c2, [w1, w3, w5]), (.slice p1 2 c1, [w5, w1])]) := hV
          have hHeld := awS_of hV
          unfold awS at hHeld
          refine aw_tk (i := 16) (oi := _) (v := ?_) rfl (by kernel_rfl) (by kernel_rfl) (by kernel_rfl) (fun _ _ _ h => h) (Or.inl ⟨by rfl, ?_⟩) (by assumption) ?_
          rotate_left
          · intro w hSw; (try dsimp only at hSw); go_simp; try with_reducible rfl
          try simp only [Act.put, List.setIfInBounds_toArray, List.set_cons_zero, List.set_cons_succ]
          refine aw_tk (i := 17) (oi := _) (v := ?_) rfl (by kernel_rfl) (by kernel_rfl) (by kernel_rfl) (fun _ _ _ h => h) (Or.inl ⟨by rfl, ?_⟩) (by assumption) ?_
          rotate_left
          · intro w hSw; (try dsimp only at hSw); go_simp; try with_reducible rfl
          try simp only [Act.put, List.setIfInBounds_toArray, List.set_cons_zero, List.set_cons_succ]
          refine aw_tk (i := 18) (oi := _) (v := ?_) rfl (by kernel_rfl) (by kernel_rfl) (by kernel_rfl) (fun _ _ _ h => h) (Or.inl ⟨by rfl, ?_⟩) (by assumption) ?_
          rotate_left
          · intro w hSw; (try dsimp only at hSw); go_simp; try with_reducible rfl
          try simp only [Act.put, List.setIfInBounds_toArray, List.set_cons_zero, List.set_cons_succ]
          refine aw_tk (i := 19) (oi := _) (v := ?_) rfl (by kernel_rfl) (by kernel_rfl) (by kernel_rfl) (fun _ _ _ h => h) (Or.inl ⟨by rfl, ?_⟩) (by assumption) ?_
          rotate_left
          · intro w hSw; (try dsimp only at hSw); go_simp; try with_reducible rfl
          try simp only [Act.put, List.setIfInBounds_toArray, List.set_cons_zero, List.set_cons_succ]
          refine aw_tk (i := 21) (oi := _) (v := ?_) rfl (by kernel_rfl) (by kernel_rfl) (by kernel_rfl) (fun _ _ _ h => h) (Or.inl ⟨by rfl, ?_⟩) (by assumption) ?_
          rotate_left
          · intro w hSw; (try dsimp only at hSw); go_simp; try with_reducible rfl
          try simp only [Act.put, List.setIfInBounds_toArray, List.set_cons_zero, List.set_cons_succ]
          refine' aw_cut (Pr := fun V => Hid (St K w V a [w1, w3, w5] (awB h k1 k2) [(.slice p2 3 c2, [w1, w3, w5]), (.slice p1 2 c1, [w5, w1])])) ?main ?rest
          case main =>
            intro REST
            refine wpAnyH_ready (rs := [20, 22]) (by kernel_rfl) (by simp) ?_
            refine aw_cons (o := _) rfl (fun K hK => ?_) ?_
            · -- the call first
              go_simp
              refine Calls.mono (aw_upto1 hV) ?_
              rintro e V1 ⟨p3, c3, rfl, h3⟩
              refine hK.out _ _ ?_ (fun hHeld => ?_)
              · exact awS_of h3
              clear hK K
              try simp only [Act.put, List.setIfInBounds_toArray, List.set_cons_zero, List.set_cons_succ]
              refine wpAnyH_ready (rs := [22]) (by kernel_rfl) (by simp) ?_
              refine aw_cons (o := _) rfl (fun K hK => ?_) ?_
              · skip
                go_simp
                refine hK.out _ _ ?_ (fun hHeld => ?_)
                · exact awS_alloc h3 _
                clear hK K
                try simp only [Act.put, List.setIfInBounds_toArray, List.set_cons_zero, List.set_cons_succ]
                refine wpAnyH_ready (rs := [23]) (by kernel_rfl) (by simp) ?_
                refine aw_cons (o := _) rfl (fun K hK => ?_) ?_
                · skip
                  go_simp
                  refine Calls.mono (aw_sameA (aw_lit h3 (by rfl) (by rfl) (by decide)) (by rfl)) ?_
                  rintro e X1 ⟨rfl, h4⟩
                  refine hK.out _ _ ?_ (fun hHeld => ?_)
                  · exact awS_of h4
                  clear hK K
                  try simp only [Act.put, List.setIfInBounds_toArray, List.set_cons_zero, List.set_cons_succ]
                  generalize V1.heap.size = bb
                  exact REST p3 c3 bb X1 h4
                exact AllReadyH.nil
              exact AllReadyH.nil
            refine aw_cons (o := _) rfl (fun K hK => ?_) ?_
            · -- the slice first
              go_simp
              refine hK.out _ _ ?_ (fun hHeld => ?_)
              · exact awS_alloc hV _
              clear hK K
              try simp only [Act.put, List.setIfInBounds_toArray, List.set_cons_zero, List.set_cons_succ]
              refine wpAnyH_ready (rs := [20]) (by kernel_rfl) (by simp) ?_
              refine aw_cons (o := _) rfl (fun K hK => ?_) ?_
              · skip
                go_simp
                refine Calls.mono (aw_upto1 (aw_lit hV (by rfl) (by rfl) (by decide))) ?_
                rintro e V1 ⟨p3, c3, rfl, h3⟩
                refine hK.out _ _ ?_ (fun hHeld => ?_)
                · exact awS_of h3
                clear hK K
                try simp only [Act.put, List.setIfInBounds_toArray, List.set_cons_zero, List.set_cons_succ]
                refine wpAnyH_ready (rs := [23]) (by kernel_rfl) (by simp) ?_
                refine aw_cons (o := _) rfl (fun K hK => ?_) ?_
                · skip
                  go_simp
                  refine Calls.mono (aw_sameB h3 (by rfl)) ?_
                  rintro e X1 ⟨rfl, h4⟩
                  refine hK.out _ _ ?_ (fun hHeld => ?_)
                  · exact awS_of h4
                  clear hK K
                  try simp only [Act.put, List.setIfInBounds_toArray, List.set_cons_zero, List.set_cons_succ]
                  generalize V.heap.size = bb
                  exact REST p3 c3 bb X1 h4
                exact AllReadyH.nil
              exact AllReadyH.nil
            exact AllReadyH.nil
          case rest =>
            focus
              intro q0 d0 b0 V hV
              replace hV : Hid (St K w V a [w1, w3, w5] (awB h k1 k2) [(.slice p2 3 c2, [w1, w3, w5]), (.slice p1 2 c1, [w5, w1])]) := hV
              have hHeld := awS_of hV
              unfold awS at hHeld
              refine aw_tk (i := 24) (oi := _) (v := ?_) rfl (by kernel_rfl) (by kernel_rfl) (by kernel_rfl) (fun _ _ _ h => h) (Or.inl ⟨by rfl, ?_⟩) (by assumption) ?_
              rotate_left
              · intro w hSw; (try dsimp only at hSw); go_simp; try with_reducible rfl
              try simp only [Act.put, List.setIfInBounds_toArray, List.set_cons_zero, List.set_cons_succ]
              refine aw_tk (i := 25) (oi := _) (v := ?_) rfl (by kernel_rfl) (by kernel_rfl) (by kernel_rfl) (fun _ _ _ h => h) (Or.inl ⟨by rfl, ?_⟩) (by assumption) ?_
              rotate_left
              · intro w hSw; (try dsimp only at hSw); go_simp; try with_reducible rfl
              try simp only [Act.put, List.setIfInBounds_toArray, List.set_cons_zero, List.set_cons_succ]
              refine aw_tk (i := 26) (oi := _) (v := ?_) rfl (by kernel_rfl) (by kernel_rfl) (by kernel_rfl) (fun _ _ _ h => h) (Or.inl ⟨by rfl, ?_⟩) (by assumption) ?_
              rotate_left
              · intro w hSw; (try dsimp only at hSw); go_simp; try with_reducible rfl
              try simp only [Act.put, List.setIfInBounds_toArray, List.set_cons_zero, List.set_cons_succ]
              refine aw_tk (i := 27) (oi := _) (v := ?_) rfl (by kernel_rfl) (by kernel_rfl) (by kernel_rfl) (fun _ _ _ h => h) (Or.inl ⟨by rfl, ?_⟩) (by assumption) ?_
              rotate_left
              · intro w hSw; (try dsimp only at hSw); go_simp; try with_reducible rfl
              try simp only [Act.put, List.setIfInBounds_toArray, List.set_cons_zero, List.set_cons_succ]
              refine aw_tk (i := 28) (oi := _) (v := ?_) rfl (by kernel_rfl) (by kernel_rfl) (by kernel_rfl) (fun _ _ _ h => h) (Or.inl ⟨by rfl, ?_⟩) (by assumption) ?_
              rotate_left
              · intro w hSw; (try dsimp only at hSw); go_simp; try with_reducible rfl
              try simp only [Act.put, List.setIfInBounds_toArray, List.set_cons_zero, List.set_cons_succ]
              refine aw_tk (i := 29) (oi := _) (v := ?_) rfl (by kernel_rfl) (by kernel_rfl) (by kernel_rfl) (fun _ _ _ h => h) (Or.inl ⟨by rfl, ?_⟩) (by assumption) ?_
              rotate_left
              · intro w hSw; (try dsimp only at hSw); go_simp; try with_reducible rfl
              try simp only [Act.put, List.setIfInBounds_toArray, List.set_cons_zero, List.set_cons_succ]
              refine wpAnyH_ready (rs := [30]) (by kernel_rfl) (by simp) ?_
              refine aw_cons (o := _) rfl (fun K hK => ?_) ?_
              · skip
                go_simp
                refine hK.out _ _ ?_ (fun hHeld => ?_)
                · exact awS_alloc hV _
                clear hK K
                try simp only [Act.put, List.setIfInBounds_toArray, List.set_cons_zero, List.set_cons_succ]
                refine wpAnyH_ready (rs := [31]) (by kernel_rfl) (by simp) ?_
                refine aw_cons (o := _) rfl (fun K hK => ?_) ?_
                · skip
                  go_simp
                  refine Calls.mono (aw_sameQ (aw_lit hV (by rfl) (by rfl) (by decide)) (by rfl)) ?_
                  rintro e Y1 ⟨rfl, h4⟩
                  refine hK.out _ _ ?_ (fun hHeld => ?_)
                  · exact awS_of h4
                  clear hK K
                  try simp only [Act.put, List.setIfInBounds_toArray, List.set_cons_zero, List.set_cons_succ]
                  refine aw_tk (i := 32) (oi := _) (v := ?_) rfl (by kernel_rfl) (by kernel_rfl) (by kernel_rfl) (fun _ _ _ h => h) (Or.inl ⟨by rfl, ?_⟩) (by assumption) ?_
                  rotate_left
                  · intro w hSw; (try dsimp only at hSw); go_simp; try with_reducible rfl
                  try simp only [Act.put, List.setIfInBounds_toArray, List.set_cons_zero, List.set_cons_succ]
                  refine aw_tk (i := 33) (oi := _) (v := ?_) rfl (by kernel_rfl) (by kernel_rfl) (by kernel_rfl) (fun _ _ _ h => h) (Or.inl ⟨by rfl, ?_⟩) (by assumption) ?_
                  rotate_left
                  · intro w hSw; (try dsimp only at hSw); go_simp; try with_reducible rfl
                  try simp only [Act.put, List.setIfInBounds_toArray, List.set_cons_zero, List.set_cons_succ]
                  refine aw_tk (i := 34) (oi := _) (v := ?_) rfl (by kernel_rfl) (by kernel_rfl) (by kernel_rfl) (fun _ _ _ h => h) (Or.inl ⟨by rfl, ?_⟩) (by assumption) ?_
                  rotate_left
                  · intro w hSw; (try dsimp only at hSw); go_simp; try with_reducible rfl
                  try simp only [Act.put, List.setIfInBounds_toArray, List.set_cons_zero, List.set_cons_succ]
                  refine aw_tk (i := 35) (oi := _) (v := ?_) rfl (by kernel_rfl) (by kernel_rfl) (by kernel_rfl) (fun _ _ _ h => h) (Or.inl ⟨by rfl, ?_⟩) (by assumption) ?_
                  rotate_left
                  · intro w hSw; (try dsimp only at hSw); go_simp; try with_reducible rfl
                  try simp only [Act.put, List.setIfInBounds_toArray, List.set_cons_zero, List.set_cons_succ]
                  refine aw_tk (i := 36) (oi := _) (v := ?_) rfl (by kernel_rfl) (by kernel_rfl) (by kernel_rfl) (fun _ _ _ h => h) (Or.inl ⟨by rfl, ?_⟩) (by assumption) ?_
                  rotate_left
                  · intro w hSw; (try dsimp only at hSw); go_simp; try with_reducible rfl
                  try simp only [Act.put, List.setIfInBounds_toArray, List.set_cons_zero, List.set_cons_succ]
                  refine aw_tk (i := 37) (oi := _) (v := ?_) rfl (by kernel_rfl) (by kernel_rfl) (by kernel_rfl) (fun _ _ _ h => h) (Or.inl ⟨by rfl, ?_⟩) (by assumption) ?_
                  rotate_left
                  · intro w hSw; (try dsimp only at hSw); go_simp; try with_reducible rfl
                  try simp only [Act.put, List.setIfInBounds_toArray, List.set_cons_zero, List.set_cons_succ]
                  refine aw_tk (i := 38) (oi := _) (v := ?_) rfl (by kernel_rfl) (by kernel_rfl) (by kernel_rfl) (fun _ _ _ h => h) (Or.inl ⟨by rfl, ?_⟩) (by assumption) ?_
                  rotate_left
                  · intro w hSw; (try dsimp only at hSw); go_simp; try with_reducible rfl
                  try simp only [Act.put, List.setIfInBounds_toArray, List.set_cons_zero, List.set_cons_succ]
                  refine aw_tk (i := 39) (oi := _) (v := ?_) rfl (by kernel_rfl) (by kernel_rfl) (by kernel_rfl) (fun _ _ _ h => h) (Or.inl ⟨by rfl, ?_⟩) (by assumption) ?_
                  rotate_left
                  · intro w hSw; (try dsimp only at hSw); go_simp; try with_reducible rfl
                  try simp only [Act.put, List.setIfInBounds_toArray, List.set_cons_zero, List.set_cons_succ]
                  refine aw_tk (i := 40) (oi := _) (v := ?_) rfl (by kernel_rfl) (by kernel_rfl) (by kernel_rfl) (fun _ _ _ h => h) (Or.inl ⟨by rfl, ?_⟩) (by assumption) ?_
                  rotate_left
                  · intro w hSw; (try dsimp only at hSw); go_simp; try with_reducible rfl
                  try simp only [Act.put, List.setIfInBounds_toArray, List.set_cons_zero, List.set_cons_succ]
                  refine aw_tk (i := 41) (oi := _) (v := ?_) rfl (by kernel_rfl) (by kernel_rfl) (by kernel_rfl) (fun _ _ _ h => h) (Or.inl ⟨by rfl, ?_⟩) (by assumption) ?_
                  rotate_left
                  · intro w hSw; (try dsimp only at hSw); go_simp; try with_reducible rfl
                  try simp only [Act.put, List.setIfInBounds_toArray, List.set_cons_zero, List.set_cons_succ]
                  refine aw_tk (i := 42) (oi := _) (v := ?_) rfl (by kernel_rfl) (by kernel_rfl) (by kernel_rfl) (fun _ _ _ h => h) (Or.inl ⟨by rfl, ?_⟩) (by assumption) ?_
                  rotate_left
                  · intro w hSw; (try dsimp only at hSw); go_simp; try with_reducible rfl
                  try simp only [Act.put, List.setIfInBounds_toArray, List.set_cons_zero, List.set_cons_succ]
                  refine aw_tk (i := 43) (oi := _) (v := ?_) rfl (by kernel_rfl) (by kernel_rfl) (by kernel_rfl) (fun _ _ _ h => h) (Or.inl ⟨by rfl, ?_⟩) (by assumption) ?_
                  rotate_left
                  · intro w hSw; (try dsimp only at hSw); go_simp; try with_reducible rfl
                  try simp only [Act.put, List.setIfInBounds_toArray, List.set_cons_zero, List.set_cons_succ]
                  refine aw_tk (i := 44) (oi := _) (v := ?_) rfl (by kernel_rfl) (by kernel_rfl) (by kernel_rfl) (fun _ _ _ h => h) (Or.inl ⟨by rfl, ?_⟩) (by assumption) ?_
                  rotate_left
                  · intro w hSw; (try dsimp only at hSw); go_simp; try with_reducible rfl
                  try simp only [Act.put, List.setIfInBounds_toArray, List.set_cons_zero, List.set_cons_succ]
                  refine wpAnyH_ready (rs := [45]) (by kernel_rfl) (by simp) ?_
                  refine aw_cons (o := _) rfl (fun K hK => ?_) ?_
                  · skip
                    go_simp
                    refine hK.out _ _ ?_ (fun hHeld => ?_)
                    · exact awS_alloc h4 _
                    clear hK K
                    try simp only [Act.put, List.setIfInBounds_toArray, List.set_cons_zero, List.set_cons_succ]
                    refine wpAnyH_ready (rs := [46]) (by kernel_rfl) (by simp) ?_
                    refine aw_cons (o := _) rfl (fun K hK => ?_) ?_
                    · skip
                      go_simp
                      refine Calls.mono (aw_sameA (aw_lit h4 (by rfl) (by rfl) (by decide)) (by rfl)) ?_
                      rintro e Y2 ⟨rfl, h4⟩
                      refine hK.out _ _ ?_ (fun hHeld => ?_)
                      · exact awS_of h4
                      clear hK K
                      try simp only [Act.put, List.setIfInBounds_toArray, List.set_cons_zero, List.set_cons_succ]
                      refine aw_tk (i := 47) (oi := _) (v := ?_) rfl (by kernel_rfl) (by kernel_rfl) (by kernel_rfl) (fun _ _ _ h => h) (Or.inl ⟨by rfl, ?_⟩) (by assumption) ?_
                      rotate_left
                      · intro w hSw; (try dsimp only at hSw); go_simp; try with_reducible rfl
                      try simp only [Act.put, List.setIfInBounds_toArray, List.set_cons_zero, List.set_cons_succ]
                      refine aw_tk (i := 48) (oi := _) (v := ?_) rfl (by kernel_rfl) (by kernel_rfl) (by kernel_rfl) (fun _ _ _ h => h) (Or.inl ⟨by rfl, ?_⟩) (by assumption) ?_
                      rotate_left
                      · intro w hSw; (try dsimp only at hSw); go_simp; try with_reducible rfl
                      try simp only [Act.put, List.setIfInBounds_toArray, List.set_cons_zero, List.set_cons_succ]
                      refine aw_tk (i := 49) (oi := _) (v := ?_) rfl (by kernel_rfl) (by kernel_rfl) (by kernel_rfl) (fun _ _ _ h => h) (Or.inl ⟨by rfl, ?_⟩) (by assumption) ?_
                      rotate_left
                      · intro w hSw; (try dsimp only at hSw); go_simp; try with_reducible rfl
                      try simp only [Act.put, List.setIfInBounds_toArray, List.set_cons_zero, List.set_cons_succ]
                      refine aw_tk (i := 50) (oi := _) (v := ?_) rfl (by kernel_rfl) (by kernel_rfl) (by kernel_rfl) (fun _ _ _ h => h) (Or.inl ⟨by rfl, ?_⟩) (by assumption) ?_
                      rotate_left
                      · intro w hSw; (try dsimp only at hSw); go_simp; try with_reducible rfl
                      try simp only [Act.put, List.setIfInBounds_toArray, List.set_cons_zero, List.set_cons_succ]
                      refine aw_tk (i := 51) (oi := _) (v := ?_) rfl (by kernel_rfl) (by kernel_rfl) (by kernel_rfl) (fun _ _ _ h => h) (Or.inl ⟨by rfl, ?_⟩) (by assumption) ?_
                      rotate_left
                      · intro w hSw; (try dsimp only at hSw); go_simp; try with_reducible rfl
                      try simp only [Act.put, List.setIfInBounds_toArray, List.set_cons_zero, List.set_cons_succ]
                      refine aw_tk (i := 52) (oi := _) (v := ?_) rfl (by kernel_rfl) (by kernel_rfl) (by kernel_rfl) (fun _ _ _ h => h) (Or.inl ⟨by rfl, ?_⟩) (by assumption) ?_
                      rotate_left
                      · intro w hSw; (try dsimp only at hSw); go_simp; try with_reducible rfl
                      try simp only [Act.put, List.setIfInBounds_toArray, List.set_cons_zero, List.set_cons_succ]
                      refine aw_tk (i := 53) (oi := _) (v := ?_) rfl (by kernel_rfl) (by kernel_rfl) (by kernel_rfl) (fun _ _ _ h => h) (Or.inl ⟨by rfl, ?_⟩) (by assumption) ?_
                      rotate_left
                      · intro w hSw; (try dsimp only at hSw); go_simp; try with_reducible rfl
                      try simp only [Act.put, List.setIfInBounds_toArray, List.set_cons_zero, List.set_cons_succ]
                      refine aw_tk (i := 54) (oi := _) (v := ?_) rfl (by kernel_rfl) (by kernel_rfl) (by kernel_rfl) (fun _ _ _ h => h) (Or.inl ⟨by rfl, ?_⟩) (by assumption) ?_
                      rotate_left
                      · intro w hSw; (try dsimp only at hSw); go_simp; try with_reducible rfl
                      try simp only [Act.put, List.setIfInBounds_toArray, List.set_cons_zero, List.set_cons_succ]
                      refine aw_tk (i := 55) (oi := _) (v := ?_) rfl (by kernel_rfl) (by kernel_rfl) (by kernel_rfl) (fun _ _ _ h => h) (Or.inl ⟨by rfl, ?_⟩) (by assumption) ?_
                      rotate_left
                      · intro w hSw; (try dsimp only at hSw); go_simp; try with_reducible rfl
                      try simp only [Act.put, List.setIfInBounds_toArray, List.set_cons_zero, List.set_cons_succ]
                      refine aw_tk (i := 56) (oi := _) (v := ?_) rfl (by kernel_rfl) (by kernel_rfl) (by kernel_rfl) (fun _ _ _ h => h) (Or.inl ⟨by rfl, ?_⟩) (by assumption) ?_
                      rotate_left
                      · intro w hSw; (try dsimp only at hSw); go_simp; try with_reducible rfl
                      try simp only [Act.put, List.setIfInBounds_toArray, List.set_cons_zero, List.set_cons_succ]
                      refine aw_tk (i := 58) (oi := _) (v := ?_) rfl (by kernel_rfl) (by kernel_rfl) (by kernel_rfl) (fun _ _ _ h => h) (Or.inl ⟨by rfl, ?_⟩) (by assumption) ?_
                      rotate_left
                      · intro w hSw; (try dsimp only at hSw); go_simp; try with_reducible rfl
                      try simp only [Act.put, List.setIfInBounds_toArray, List.set_cons_zero, List.set_cons_succ]
                      refine' aw_cut (Pr := fun V => Hid (St K w V a [w3, w5] (awB h k1 k2) [])) ?main ?rest
                      case main =>
                        intro REST
                        refine wpAnyH_ready (rs := [57, 59]) (by kernel_rfl) (by simp) ?_
                        refine aw_cons (o := _) rfl (fun K hK => ?_) ?_
                        · -- the call first
                          go_simp
                          refine Calls.mono (aw_take h4) ?_
                          rintro e V1 ⟨p3, c3, rfl, h3⟩
                          refine hK.out _ _ ?_ (fun hHeld => ?_)
                          · exact awS_of h3
                          clear hK K
                          try simp only [Act.put, List.setIfInBounds_toArray, List.set_cons_zero, List.set_cons_succ]
                          refine wpAnyH_ready (rs := [59]) (by kernel_rfl) (by simp) ?_
                          refine aw_cons (o := _) rfl (fun K hK => ?_) ?_
                          · skip
                            go_simp
                            refine hK.out _ _ ?_ (fun hHeld => ?_)
                            · exact awS_alloc h3 _
                            clear hK K
                            try simp only [Act.put, List.setIfInBounds_toArray, List.set_cons_zero, List.set_cons_succ]
                            refine wpAnyH_ready (rs := [60]) (by kernel_rfl) (by simp) ?_
                            refine aw_cons (o := _) rfl (fun K hK => ?_) ?_
                            · skip
                              go_simp
                              refine Calls.mono (aw_sameA (aw_lit h3 (by rfl) (by rfl) (by decide)) (by rfl)) ?_
                              rintro e X1 ⟨rfl, h4⟩
                              refine hK.out _ _ ?_ (fun hHeld => ?_)
                              · exact awS_of h4
                              clear hK K
                              try simp only [Act.put, List.setIfInBounds_toArray, List.set_cons_zero, List.set_cons_succ]
                              generalize V1.heap.size = bb
                              exact REST p3 c3 bb X1 h4
                            exact AllReadyH.nil
                          exact AllReadyH.nil
                        refine aw_cons (o := _) rfl (fun K hK => ?_) ?_
                        · -- the slice first
                          go_simp
                          refine hK.out _ _ ?_ (fun hHeld => ?_)
                          · exact awS_alloc h4 _
                          clear hK K
                          try simp only [Act.put, List.setIfInBounds_toArray, List.set_cons_zero, List.set_cons_succ]
                          refine wpAnyH_ready (rs := [57]) (by kernel_rfl) (by simp) ?_
                          refine aw_cons (o := _) rfl (fun K hK => ?_) ?_
                          · skip
                            go_simp
                            refine Calls.mono (aw_take (aw_lit h4 (by rfl) (by rfl) (by decide))) ?_
                            rintro e V1 ⟨p3, c3, rfl, h3⟩
                            refine hK.out _ _ ?_ (fun hHeld => ?_)
                            · exact awS_of h3
                            clear hK K
                            try simp only [Act.put, List.setIfInBounds_toArray, List.set_cons_zero, List.set_cons_succ]
                            refine wpAnyH_ready (rs := [60]) (by kernel_rfl) (by simp) ?_
                            refine aw_cons (o := _) rfl (fun K hK => ?_) ?_
                            · skip
                              go_simp
                              refine Calls.mono (aw_sameB h3 (by rfl)) ?_
                              rintro e X1 ⟨rfl, h4⟩
                              refine hK.out _ _ ?_ (fun hHeld => ?_)
                              · exact awS_of h4
                              clear hK K
                              try simp only [Act.put, List.setIfInBounds_toArray, List.set_cons_zero, List.set_cons_succ]
                              generalize Y2.heap.size = bb
                              exact REST p3 c3 bb X1 h4
                            exact AllReadyH.nil
                          exact AllReadyH.nil
                        exact AllReadyH.nil
                      case rest =>
                        focus
                          intro q0 d0 b0 V hV
                          replace hV : Hid (St K w V a [w3, w5] (awB h k1 k2) []) := hV
                          have hHeld := awS_of hV
                          unfold awS at hHeld
                          refine aw_tk (i := 61) (oi := _) (v := ?_) rfl (by kernel_rfl) (by kernel_rfl) (by kernel_rfl) (fun _ _ _ h => h) (Or.inl ⟨by rfl, ?_⟩) (by assumption) ?_
                          rotate_left
                          · intro w hSw; (try dsimp only at hSw); go_simp; try with_reducible rfl
                          try simp only [Act.put, List.setIfInBounds_toArray, List.set_cons_zero, List.set_cons_succ]
                          refine aw_tk (i := 62) (oi := _) (v := ?_) rfl (by kernel_rfl) (by kernel_rfl) (by kernel_rfl) (fun _ _ _ h => h) (Or.inl ⟨by rfl, ?_⟩) (by assumption) ?_
                          rotate_left
                          · intro w hSw; (try dsimp only at hSw); go_simp; try with_reducible rfl
                          try simp only [Act.put, List.setIfInBounds_toArray, List.set_cons_zero, List.set_cons_succ]
                          refine aw_tk (i := 63) (oi := _) (v := ?_) rfl (by kernel_rfl) (by kernel_rfl) (by kernel_rfl) (fun _ _ _ h => h) (Or.inl ⟨by rfl, ?_⟩) (by assumption) ?_
                          rotate_left
                          · intro w hSw; (try dsimp only at hSw); go_simp; try with_reducible rfl
                          try simp only [Act.put, List.setIfInBounds_toArray, List.set_cons_zero, List.set_cons_succ]
                          refine wpAnyH_ready (rs := [64]) (by kernel_rfl) (by simp) ?_
                          refine aw_cons (o := _) rfl (fun K hK => ?_) ?_
                          · skip
                            go_simp
                            refine Calls.mono (aw_len hV) ?_
                            rintro e X1 ⟨rfl, h4⟩
                            refine hK.out _ _ ?_ (fun hHeld => ?_)
                            · exact awS_of h4
                            clear hK K
                            try simp only [Act.put, List.setIfInBounds_toArray, List.set_cons_zero, List.set_cons_succ]
                            refine aw_tk (i := 65) (oi := _) (v := ?_) rfl (by kernel_rfl) (by kernel_rfl) (by kernel_rfl) (fun _ _ _ h => h) (Or.inl ⟨by rfl, ?_⟩) (by assumption) ?_
                            rotate_left
                            · intro w hSw; (try dsimp only at hSw); go_simp; try with_reducible rfl
                            try simp only [Act.put, List.setIfInBounds_toArray, List.set_cons_zero, List.set_cons_succ]
                            refine aw_tk (i := 66) (oi := _) (v := ?_) rfl (by kernel_rfl) (by kernel_rfl) (by kernel_rfl) (fun _ _ _ h => h) (Or.inl ⟨by rfl, ?_⟩) (by assumption) ?_
                            rotate_left
                            · intro w hSw; (try dsimp only at hSw); go_simp; try with_reducible rfl
                            try simp only [Act.put, List.setIfInBounds_toArray, List.set_cons_zero, List.set_cons_succ]
                            refine aw_tk (i := 67) (oi := _) (v := ?_) rfl (by kernel_rfl) (by kernel_rfl) (by kernel_rfl) (fun _ _ _ h => h) (Or.inl ⟨by rfl, ?_⟩) (by assumption) ?_
                            rotate_left
                            · intro w hSw; (try dsimp only at hSw); go_simp; try with_reducible rfl
                            try simp only [Act.put, List.setIfInBounds_toArray, List.set_cons_zero, List.set_cons_succ]
                            refine wpAnyH_done (by kernel_rfl) ?_ _
                            refine NoPanic.normal ?_
                            go_wp2_with fail
                            go_ret
                            exact ⟨rfl, h4.out.lo⟩
                          exact AllReadyH.nil
                    exact AllReadyH.nil
                  exact AllReadyH.nil
                exact AllReadyH.nil
              exact AllReadyH.nil

end Go.Proofs.Ytfedjeojanpnpab
