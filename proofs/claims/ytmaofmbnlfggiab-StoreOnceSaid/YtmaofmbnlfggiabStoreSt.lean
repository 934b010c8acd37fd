/-
  Where a law of layer 10 stands: its store, structs and rows of its own beside it; the chapter's examples.
-/
import Derived.Test.YtmaofmbnlfggiabStoreFree
namespace Go.Proofs.Ytmaofmbnlfggiab
open Go.RowKit
set_option linter.unusedVariables false
set_option linter.unusedSimpArgs false

abbrev RowS := Option Addr × Nat × List Nat
structure SSt' (N : Nat → Prop) (w W : World) (a : Addr) (g : Sg) (M : Nat) (B : List (Nat × Array Value)) (R : List RowS) : Prop where
  at_ : AtS N W a g
  ok : g.Ok M
  new : ∀ j, N j → w.heap.size ≤ j
  lo : Below w.heap.size w W
  box : ∀ r, r ∈ B → Box W r.1 48 r.2 ∧ ¬ N r.1 ∧ w.heap.size ≤ r.1
  row : ∀ r, r ∈ R → W.ownsRow w.heap.size 32 1 (.slice r.1 r.2.2.length r.2.1) r.2.2.length (r.2.2.map u64V) ∧ OffV N (.slice r.1 r.2.2.length r.2.1)
def SSt (w W : World) (a : Addr) (g : Sg) (M : Nat) (B : List (Nat × Array Value)) (R : List RowS) : Prop := ∃ N, SSt' N w W a g M B R
section
variable {w W W' : World} {a : Addr} {g : Sg} {M : Nat} {B : List (Nat × Array Value)} {R : List RowS}
theorem SSt.lo (h : SSt w W a g M B R) : Below w.heap.size w W := by
  obtain ⟨N, h⟩ := h
  exact h.lo
theorem SSt.ok (h : SSt w W a g M B R) : g.Ok M := by
  obtain ⟨N, h⟩ := h
  exact h.ok
theorem SSt.below (h : SSt w W a g M B R) (b : Below W.heap.size W W') : SSt w W' a g M B R := by
  obtain ⟨N, h⟩ := h
  exact ⟨N, h.at_.below b, h.ok, h.new, below_tr h.lo b, fun r hr => ⟨(h.box r hr).1.below b (h.box r hr).1.lt, (h.box r hr).2⟩, fun r hr => ⟨owns_below (h.row r hr).1 b, (h.row r hr).2⟩⟩
theorem SSt.went {N : Nat → Prop} {g' : Sg} {M' : Nat} (h : SSt' N w W a g M B R) (ok : g'.Ok M') (k : WentG AtS N W a g' W') : SSt w W' a g' M' B R := by
  obtain ⟨N', k1, k2, k3⟩ := k
  refine ⟨N', k1, ok, fun j hj => ?_, below_turned k2 h.lo.size h.new h.lo, fun r hr => ⟨(h.box r hr).1.turned k2 (h.box r hr).2.1, fun hn => ?_, (h.box r hr).2.2⟩, fun r hr => ⟨own_turnedV (h.row r hr).1 (h.row r hr).2 k2, (h.row r hr).2.went (h.row r hr).1 k3⟩⟩
  · rcases k3 j hj with h5 | h5
    · exact h.new j h5
    · exact Nat.le_trans h.lo.size h5
  · rcases k3 _ hn with h5 | h5
    · exact (h.box r hr).2.1 h5
    · have := (h.box r hr).1.lt; omega
theorem SSt.boxed (h : SSt w W a g M B R) {r : Nat} {cs : Array Value} (hr : (r, cs) ∈ B) : Box W r 48 cs := by
  obtain ⟨N, h⟩ := h
  exact (h.box _ hr).1
theorem SSt.rowed (h : SSt w W a g M B R) {p : Option Addr} {c : Nat} {l : List Nat} (hr : (p, c, l) ∈ R) : W.ownsRow w.heap.size 32 1 (.slice p l.length c) l.length (l.map u64V) := by
  obtain ⟨N, h⟩ := h
  exact (h.row _ hr).1
theorem SSt.keep (h : SSt w W a g M B R) (cs : Array Value) : SSt w (W.alloc (.cells cs 48)) a g M ((W.heap.size, cs) :: B) R := by
  have h2 := h.below ((Below.refl _ W).alloc (Nat.le_refl _) (.cells cs 48))
  obtain ⟨N, h⟩ := h
  obtain ⟨N2, h2⟩ := h2
  have b := ((Below.refl _ W).alloc (Nat.le_refl _) (.cells cs 48))
  refine ⟨N, h.at_.below b, h.ok, h.new, below_tr h.lo b, fun r hr => ?_, fun r hr => ⟨owns_below (h.row r hr).1 b, (h.row r hr).2⟩⟩
  rcases List.mem_cons.1 hr with rfl | hr
  · exact ⟨Box.new _ _ _, fun hn => by have : W.heap.size < W.heap.size := h.at_.lt _ hn; omega, h.lo.size⟩
  · exact ⟨(h.box r hr).1.below b (h.box r hr).1.lt, (h.box r hr).2⟩
/-- What is kept may be forgotten, in any order. -/
theorem SSt.forget {B2 : List (Nat × Array Value)} {R2 : List RowS} (h : SSt w W a g M B R) (hB : ∀ r, r ∈ B2 → r ∈ B) (hR : ∀ r, r ∈ R2 → r ∈ R) : SSt w W a g M B2 R2 := by
  obtain ⟨N, h⟩ := h
  exact ⟨N, h.at_, h.ok, h.new, h.lo, fun r hr => h.box r (hB r hr), fun r hr => h.row r (hR r hr)⟩
theorem SSt.more (h : SSt w W a g M B R) : SSt w W a g (M + 1) B R := by
  obtain ⟨N, h⟩ := h
  exact ⟨N, h.at_, sg_more h.ok, h.new, h.lo, h.box, h.row⟩
theorem SSt.new_ (room : Nat) (h1 : 1 ≤ room) (h2 : room ≤ 65536) (w W : World) (lo : Below w.heap.size w W) : Calls Try.prog 8 #[.int .i64 (room : Int)] W fun e W' => ∃ a, e = .returned (.tuple #[.pointer (some a), .int .i64 0]) ∧ Hid (SSt w W' a (Sg.new room) 0 [] []) := by
  refine (s_new room h1 h2 W).mono ?_
  rintro e W' ⟨a, N, rfl, k1, k2, k3⟩
  exact ⟨a, rfl, Lib.hid ⟨N, k1, sg_new_ok h2, fun j hj => Nat.le_trans lo.size (k2 j hj), below_tr lo k3, fun r hr => (by cases hr), fun r hr => (by cases hr)⟩⟩
theorem SSt.put (h : SSt w W a g M B R) (hM : M ≤ 999) (p : Pk) (hm : p.may) (hp : p.Fits) (now : Nat) (hnow : now < 18446744073709551616) (hf : ¬ g.a.full) : Calls Try.prog 11 #[.pointer (some a), p.v, .int .u64 (now : Int)] W fun e W' => e = PutOut g.a.handle 0 ∧ Hid (SSt w W' a (g.put p now) (M + 1) B R) := by
  obtain ⟨N, h⟩ := h
  refine (s_put h.at_ h.ok hM p hm hp now hnow hf).mono ?_
  rintro e W' ⟨rfl, k⟩
  exact ⟨rfl, Lib.hid (SSt.went h (sg_put h.ok hf hp hm hnow) k)⟩
theorem SSt.put_full (h : SSt w W a g M B R) (hM : M ≤ 999) (p : Pk) (hm : p.may) (now : Nat) (hf : g.a.full) : Calls Try.prog 11 #[.pointer (some a), p.v, .int .u64 (now : Int)] W fun e W' => e = PutOut 0 4 ∧ Hid (SSt w W' a g M B R) := by
  obtain ⟨N, h⟩ := h
  refine (s_put_full h.at_ h.ok hM p hm now hf).mono ?_
  rintro e W' ⟨rfl, k⟩
  exact ⟨rfl, Lib.hid (SSt.went h h.ok k)⟩
theorem SSt.put_arg (h : SSt w W a g M B R) (p : Pk) (hm : ¬ p.may) (now : Nat) : Calls Try.prog 11 #[.pointer (some a), p.v, .int .u64 (now : Int)] W fun e W' => e = PutOut 0 2 ∧ Hid (SSt w W' a g M B R) := by
  have h' := h
  obtain ⟨N, ⟨b, aa, NA, hv, hl, rfl, h1, _⟩, _⟩ := h
  refine (s_put_arg h1 p hm now).mono ?_
  rintro e W' ⟨rfl, k⟩
  exact ⟨rfl, Lib.hid (h'.below k)⟩
theorem SSt.get (h : SSt w W a g M B R) (hM : M ≤ 1000) (k : Nat) (hk : k < 18446744073709551616) : Calls Try.prog 15 #[.pointer (some a), .int .u64 (k : Int)] W fun e W' => e = FreeOut ((look g.l k).getD Hl.zero) (look g.l k).isSome ∧ Hid (SSt w W' a g M B R) := by
  have h' := h
  obtain ⟨N, ⟨b, aa, NA, hv, hl, rfl, h1, _⟩, ok, _⟩ := h
  refine (s_get h1 ok hM k hk).mono ?_
  rintro e W' ⟨rfl, k⟩
  exact ⟨rfl, Lib.hid (h'.below k)⟩
theorem SSt.free_no (h : SSt w W a g M B R) (hM : M ≤ 1000) (k : Nat) (hk : k < 18446744073709551616) (hlk : look g.l k = none) : Calls Try.prog 13 #[.pointer (some a), .int .u64 (k : Int)] W fun e W' => e = FreeOut Hl.zero false ∧ Hid (SSt w W' a g M B R) := by
  obtain ⟨N, h⟩ := h
  refine (s_free_no h.at_ h.ok hM k hk hlk).mono ?_
  rintro e W' ⟨rfl, k⟩
  exact ⟨rfl, Lib.hid (SSt.went h h.ok k)⟩
theorem SSt.free (h : SSt w W a g M B R) (hM : M ≤ 1000) (k : Nat) (hk : k < 18446744073709551616) (p : Nat) (hat : g.a.at k = some p) (x : Hl) (hx : look g.l k = some x) : Calls Try.prog 13 #[.pointer (some a), .int .u64 (k : Int)] W fun e W' => e = FreeOut x true ∧ Hid (SSt w W' a (g.free k p) M B R) := by
  obtain ⟨N, h⟩ := h
  refine (s_free h.at_ h.ok hM k hk p hat x hx).mono ?_
  rintro e W' ⟨rfl, k⟩
  exact ⟨rfl, Lib.hid (SSt.went h (sg_free h.ok hat) k)⟩
theorem SSt.count (h : SSt w W a g M B R) : Calls Try.prog 17 #[.pointer (some a)] W fun e W' => e = .returned (.int .i64 (g.l.length : Nat)) ∧ Hid (SSt w W' a g M B R) := by
  have h' := h
  obtain ⟨N, ⟨b, aa, NA, hv, hl, rfl, h1, _⟩, ok, _⟩ := h
  refine (s_count h1 ok).mono ?_
  rintro e W' ⟨rfl, k⟩
  exact ⟨rfl, Lib.hid (h'.below k)⟩
theorem SSt.bytes (h : SSt w W a g M B R) : Calls Try.prog 18 #[.pointer (some a)] W fun e W' => e = .returned (.int .i64 g.bytes) ∧ Hid (SSt w W' a g M B R) := by
  have h' := h
  obtain ⟨N, ⟨b, aa, NA, hv, hl, rfl, h1, _⟩, _⟩ := h
  refine (s_bytes h1).mono ?_
  rintro e W' ⟨rfl, rfl⟩
  exact ⟨rfl, Lib.hid h'⟩
theorem SSt.next (h : SSt w W a g M B R) : Calls Try.prog 20 #[.pointer (some a)] W fun e W' => e = .returned (.int .u64 (g.next : Int)) ∧ Hid (SSt w W' a g M B R) := by
  have h' := h
  obtain ⟨N, ⟨b, aa, NA, hv, hl, rfl, h1, _⟩, _⟩ := h
  refine (s_next h1).mono ?_
  rintro e W' ⟨rfl, rfl⟩
  exact ⟨rfl, Lib.hid h'⟩
end
def pkt (n : Int) : Pk := ⟨0, 0, n, 0, 0⟩
theorem pkt_may {n : Int} (h1 : 1 ≤ n) (h2 : n ≤ 65536) : (pkt n).may := ⟨h1, h2, by show 0 ≤ 15; decide⟩
theorem pkt_fits {n : Int} (h1 : 1 ≤ n) (h2 : n ≤ 65536) : (pkt n).Fits := ⟨by show (0 : Nat) < 18446744073709551616; decide, by show (0 : Nat) < 18446744073709551616; decide, by show _ ≤ n; omega, by show n ≤ _; omega, by show (0 : Nat) < 256; decide, by show (0 : Nat) < 18446744073709551616; decide⟩
def sg0 : Sg := Sg.new 2
def sg1 : Sg := ⟨⟨[1], [true], [], 2⟩, [(1, ⟨pkt 100, 1, 5⟩)], 2⟩
def sg2 : Sg := ⟨⟨[1, 1], [true, true], [], 2⟩, [(1, ⟨pkt 100, 1, 5⟩), (2, ⟨pkt 50, 2, 6⟩)], 3⟩
def sg3 : Sg := ⟨⟨[1, 1], [false, true], [0], 2⟩, [(2, ⟨pkt 50, 2, 6⟩)], 3⟩
def sg4 : Sg := ⟨⟨[2, 1], [true, true], [], 2⟩, [(2, ⟨pkt 50, 2, 6⟩), (4294967297, ⟨pkt 7, 3, 8⟩)], 4⟩
theorem sg1_ : sg0.put (pkt 100) 5 = sg1 := rfl
theorem sg2_ : sg1.put (pkt 50) 6 = sg2 := rfl
theorem sg3_ : sg2.free 1 0 = sg3 := rfl
theorem sg4_ : sg3.put (pkt 7) 8 = sg4 := rfl
def Awake10 : Prop := ∀ w : World, Calls Try.prog 10 #[] w fun e w' => e = .returned (.bool true) ∧ Below w.heap.size w w'
abbrev cs100 : Array Value := #[.int .u64 0, .int .u64 0, .int .i64 100, .int .u8 0, .int .u64 0, .int .u64 1, .int .u64 5]
abbrev cs7 : Array Value := #[.int .u64 0, .int .u64 0, .int .i64 7, .int .u8 0, .int .u64 0, .int .u64 3, .int .u64 8]
abbrev cs0 : Array Value := #[.int .u64 0, .int .u64 0, .int .i64 0, .int .u8 0, .int .u64 0, .int .u64 0, .int .u64 0]

set_option maxHeartbeats 8000000 in
set_option maxRecDepth 100000 in
theorem awake10 : Awake10 := by
  intro w
  have KN : Hid (Calls Try.prog 8 #[.int .i64 2] w fun e W' => ∃ a, e = .returned (.tuple #[.pointer (some a), .int .i64 0]) ∧ Hid (SSt w W' a sg0 0 [] [])) := Lib.hid (SSt.new_ 2 (by decide) (by decide) w w (Below.refl _ _))
  have KO := Lib.hid (fun W => s_new_no 0 (.inl (by decide)) W)
  go_enter Try.func10, Try.ntmps10
  go_wp2_with fail
  refine KN.out.mono ?_
  rintro e W0 ⟨a, rfl, S0⟩
  clear KN
  have K1 : Calls Try.prog 11 #[.pointer (some a), .agg #[.int .u64 0, .int .u64 0, .int .i64 100, .int .u8 0, .int .u64 0], .int .u64 5] W0 fun e W' => e = .returned (.tuple #[.int .u64 1, .int .i64 0]) ∧ Hid (SSt w W' a sg1 1 [] []) := S0.out.put (by decide) (pkt 100) (pkt_may (by decide) (by decide)) (pkt_fits (by decide) (by decide)) 5 (by decide) (by unfold Gh.full; decide)
  go_wp2_with fail
  refine K1.mono ?_
  rintro e W1 ⟨rfl, S1⟩
  clear K1 S0
  have K2 : Calls Try.prog 11 #[.pointer (some a), .agg #[.int .u64 0, .int .u64 0, .int .i64 50, .int .u8 0, .int .u64 0], .int .u64 6] W1 fun e W' => e = .returned (.tuple #[.int .u64 2, .int .i64 0]) ∧ Hid (SSt w W' a sg2 2 [] []) := S1.out.put (by decide) (pkt 50) (pkt_may (by decide) (by decide)) (pkt_fits (by decide) (by decide)) 6 (by decide) (by unfold Gh.full; decide)
  go_wp2_with fail
  refine K2.mono ?_
  rintro e W2 ⟨rfl, S2⟩
  clear K2 S1
  have K3 : Calls Try.prog 11 #[.pointer (some a), .agg #[.int .u64 0, .int .u64 0, .int .i64 1, .int .u8 0, .int .u64 0], .int .u64 7] W2 fun e W' => e = .returned (.tuple #[.int .u64 0, .int .i64 4]) ∧ Hid (SSt w W' a sg2 2 [] []) := S2.out.put_full (by decide) (pkt 1) (pkt_may (by decide) (by decide)) 7 (by unfold Gh.full; decide)
  go_wp2_with fail
  refine K3.mono ?_
  rintro e W3 ⟨rfl, S3⟩
  clear K3 S2
  have K4 : Calls Try.prog 18 #[.pointer (some a)] W3 fun e W' => e = .returned (.int .i64 150) ∧ Hid (SSt w W' a sg2 2 [] []) := S3.out.bytes
  go_wp2_with fail
  refine K4.mono ?_
  rintro e W4 ⟨rfl, S4⟩
  clear K4 S3
  have K5 : Calls Try.prog 17 #[.pointer (some a)] W4 fun e W' => e = .returned (.int .i64 2) ∧ Hid (SSt w W' a sg2 2 [] []) := S4.out.count
  go_wp2_with fail
  refine K5.mono ?_
  rintro e W5 ⟨rfl, S5⟩
  clear K5 S4
  have K6 : Calls Try.prog 13 #[.pointer (some a), .int .u64 1] W5 fun e W' => e = .returned (.tuple #[.agg #[.int .u64 0, .int .u64 0, .int .i64 100, .int .u8 0, .int .u64 0, .int .u64 1, .int .u64 5], .bool true]) ∧ Hid (SSt w W' a sg3 2 [] []) := S5.out.free (by decide) 1 (by decide) 0 rfl ⟨pkt 100, 1, 5⟩ rfl
  go_wp2_with fail
  refine K6.mono ?_
  rintro e W6 ⟨rfl, S6⟩
  have S6b := Lib.hid (S6.out.keep cs100)
  clear K6 S5 S6
  go_upto_region 7 with fail
  obtain ⟨x1, HX1⟩ : ∃ x1, Hid (W6.heap.size = x1) := ⟨_, Lib.hid rfl⟩
  obtain ⟨W7, HW7⟩ : ∃ W7, Hid (W6.alloc (.cells cs100 48) = W7) := ⟨_, Lib.hid rfl⟩
  rw [HW7.out, HX1.out] at S6b
  rw [show W6.alloc (.cells #[.int .u64 0, .int .u64 0, .int .i64 100, .int .u8 0, .int .u64 0, .int .u64 1, .int .u64 5] 48) = W7 from HW7.out, HX1.out]
  clear HW7 HX1
  have K7 : Calls Try.prog 11 #[.pointer (some a), .agg #[.int .u64 0, .int .u64 0, .int .i64 7, .int .u8 0, .int .u64 0], .int .u64 8] W7 fun e W' => e = .returned (.tuple #[.int .u64 4294967297, .int .i64 0]) ∧ Hid (SSt w W' a sg4 3 [(x1, cs100)] []) := S6b.out.put (by decide) (pkt 7) (pkt_may (by decide) (by decide)) (pkt_fits (by decide) (by decide)) 8 (by decide) (by unfold Gh.full; decide)
  go_wp2_with fail
  refine K7.mono ?_
  rintro e W8 ⟨rfl, S8⟩
  clear K7 S6b
  have K8 : Calls Try.prog 15 #[.pointer (some a), .int .u64 4294967297] W8 fun e W' => e = .returned (.tuple #[.agg #[.int .u64 0, .int .u64 0, .int .i64 7, .int .u8 0, .int .u64 0, .int .u64 3, .int .u64 8], .bool true]) ∧ Hid (SSt w W' a sg4 3 [(x1, cs100)] []) := S8.out.get (by decide) 4294967297 (by decide)
  go_wp2_with fail
  refine K8.mono ?_
  rintro e W9 ⟨rfl, S9⟩
  have S9b := Lib.hid (S9.out.keep cs7)
  clear K8 S8 S9
  go_upto_region 9 with fail
  obtain ⟨x2, HX2⟩ : ∃ x2, Hid (W9.heap.size = x2) := ⟨_, Lib.hid rfl⟩
  obtain ⟨WA, HWA⟩ : ∃ WA, Hid (W9.alloc (.cells cs7 48) = WA) := ⟨_, Lib.hid rfl⟩
  rw [HWA.out, HX2.out] at S9b
  rw [show W9.alloc (.cells #[.int .u64 0, .int .u64 0, .int .i64 7, .int .u8 0, .int .u64 0, .int .u64 3, .int .u64 8] 48) = WA from HWA.out, HX2.out]
  clear HWA HX2
  have K9 : Calls Try.prog 15 #[.pointer (some a), .int .u64 1] WA fun e W' => e = .returned (.tuple #[.agg #[.int .u64 0, .int .u64 0, .int .i64 0, .int .u8 0, .int .u64 0, .int .u64 0, .int .u64 0], .bool false]) ∧ Hid (SSt w W' a sg4 3 [(x2, cs7), (x1, cs100)] []) := S9b.out.get (by decide) 1 (by decide)
  go_wp2_with fail
  refine K9.mono ?_
  rintro e WB ⟨rfl, SB⟩
  have SBb := Lib.hid (SB.out.keep cs0)
  clear K9 S9b SB
  go_upto_region 10 with fail
  obtain ⟨x3, HX3⟩ : ∃ x3, Hid (WB.heap.size = x3) := ⟨_, Lib.hid rfl⟩
  obtain ⟨WC, HWC⟩ : ∃ WC, Hid (WB.alloc (.cells cs0 48) = WC) := ⟨_, Lib.hid rfl⟩
  rw [HWC.out, HX3.out] at SBb
  rw [show WB.alloc (.cells #[.int .u64 0, .int .u64 0, .int .i64 0, .int .u8 0, .int .u64 0, .int .u64 0, .int .u64 0] 48) = WC from HWC.out, HX3.out]
  clear HWC HX3
  have KA : Calls Try.prog 11 #[.pointer (some a), .agg #[.int .u64 0, .int .u64 0, .int .i64 0, .int .u8 0, .int .u64 0], .int .u64 8] WC fun e W' => e = .returned (.tuple #[.int .u64 0, .int .i64 2]) ∧ Hid (SSt w W' a sg4 3 [(x3, cs0), (x2, cs7), (x1, cs100)] []) := SBb.out.put_arg (pkt 0) (fun h => absurd h.1 (by decide)) 8
  go_wp2_with fail
  refine KA.mono ?_
  rintro e WD ⟨rfl, SD⟩
  clear KA SBb
  go_wp2_with fail
  refine (KO.out _).mono ?_
  rintro e WE ⟨rfl, bE⟩
  have SE := Lib.hid (SD.out.below bE)
  clear bE SD KO
  have bx1 := SE.out.boxed (r := x1) (cs := cs100) (by simp)
  have bx2 := SE.out.boxed (r := x2) (cs := cs7) (by simp)
  have p2 : WE.cell? ⟨x1, 2, none⟩ = some (.int .i64 100) := bx1.cell 2
  have p5 : WE.cell? ⟨x1, 5, none⟩ = some (.int .u64 1) := bx1.cell 5
  have p6 : WE.cell? ⟨x1, 6, none⟩ = some (.int .u64 5) := bx1.cell 6
  have q5 : WE.cell? ⟨x2, 5, none⟩ = some (.int .u64 3) := bx2.cell 5
  clear bx1 bx2
  go_wp2_with fail
  go_ret
  exact ⟨rfl, SE.out.lo⟩

end Go.Proofs.Ytmaofmbnlfggiab
