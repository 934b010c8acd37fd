/-
  Where a law of layer 11 stands: its queue, rows of handles of its own beside it; the chapter's examples.
-/
import Derived.Test.YtkiibobpejoaeaaFifoAllW
import Derived.Test.YtkiibobpejoaeaaHandles
namespace Go.Proofs.Ytkiibobpejoaeaa
open Go.RowKit
set_option linter.unusedVariables false
set_option linter.unusedSimpArgs false

theorem putL_ok {g : Fg} (ok : g.Ok) {k : Ky} {v : Int} (hk : k.Fits) (hv : Hw v) : (⟨g.room, putL g.room g.l k v⟩ : Fg).Ok := by
  unfold putL
  split
  · rename_i h0
    unfold putE at h0
    have hn : (getL k g.l).isSome = false := by
      cases h : (getL k g.l).isSome with
      | false => rfl
      | true => rw [h] at h0; simp at h0
    rw [hn] at h0
    have hl : ¬ g.room ≤ g.l.length := fun hl => by simp [hl] at h0
    refine ⟨ok.rises.ins (getL_not hn), fun e he => ?_, ?_, ok.one, ok.small⟩
    · rcases insL_mem.1 he with rfl | he
      · exact ⟨hk, hv⟩
      · exact ok.fits e he
    · show (insL k v g.l).length ≤ g.room
      rw [insL_length]
      omega
  · exact ok
theorem tail_ok {g : Fg} (ok : g.Ok) : (⟨g.room, g.l.tail⟩ : Fg).Ok :=
  ⟨ok.rises.sublist (List.tail_sublist _), fun e he => ok.fits e (List.mem_of_mem_tail he), by have := ok.room; show g.l.tail.length ≤ g.room; rw [List.length_tail]; omega, ok.one, ok.small⟩
abbrev RowH := Value × List Value
abbrev BoxH := Nat × TypeId × Array Value
structure FSt' (N : Nat → Prop) (w W : World) (a : Addr) (g : Fg) (B : List BoxH) (R : List RowH) : Prop where
  at_ : AtF N W a g
  ok : g.Ok
  new : ∀ j, N j → w.heap.size ≤ j
  lo : Below w.heap.size w W
  box : ∀ r, r ∈ B → Box W r.1 r.2.1 r.2.2 ∧ ¬ N r.1 ∧ w.heap.size ≤ r.1
  row : ∀ r, r ∈ R → W.ownsRow w.heap.size 32 1 r.1 r.2.length r.2 ∧ OffV N r.1
def FSt (w W : World) (a : Addr) (g : Fg) (B : List BoxH) (R : List RowH) : Prop := ∃ N, FSt' N w W a g B R
section
variable {w W W' : World} {a : Addr} {g : Fg} {B : List BoxH} {R : List RowH}
theorem FSt.lo (h : FSt w W a g B R) : Below w.heap.size w W := by
  obtain ⟨N, h⟩ := h
  exact h.lo
theorem FSt.ok (h : FSt w W a g B R) : g.Ok := by
  obtain ⟨N, h⟩ := h
  exact h.ok
theorem FSt.below (h : FSt w W a g B R) (b : Below W.heap.size W W') : FSt w W' a g B R := by
  obtain ⟨N, h⟩ := h
  exact ⟨N, h.at_.below b, h.ok, h.new, below_tr h.lo b, fun r hr => ⟨(h.box r hr).1.below b (h.box r hr).1.lt, (h.box r hr).2⟩, fun r hr => ⟨owns_below (h.row r hr).1 b, (h.row r hr).2⟩⟩
theorem FSt.went {N : Nat → Prop} {g' : Fg} (h : FSt' N w W a g B R) (ok : g'.Ok) (k : WentG AtF N W a g' W') : FSt w W' a g' B R := by
  obtain ⟨N', k1, k2, k3⟩ := k
  refine ⟨N', k1, ok, fun j hj => ?_, below_turned k2 h.lo.size h.new h.lo, fun r hr => ⟨(h.box r hr).1.turned k2 (h.box r hr).2.1, fun hn => ?_, (h.box r hr).2.2⟩, fun r hr => ⟨own_turnedV (h.row r hr).1 (h.row r hr).2 k2, (h.row r hr).2.went (h.row r hr).1 k3⟩⟩
  · rcases k3 j hj with h5 | h5
    · exact h.new j h5
    · exact Nat.le_trans h.lo.size h5
  · rcases k3 _ hn with h5 | h5
    · exact (h.box r hr).2.1 h5
    · have := (h.box r hr).1.lt; omega
theorem FSt.rowed (h : FSt w W a g B R) {v : Value} {l : List Value} (hr : (v, l) ∈ R) : W.ownsRow w.heap.size 32 1 v l.length l := by
  obtain ⟨N, h⟩ := h
  exact (h.row _ hr).1
theorem FSt.boxed (h : FSt w W a g B R) {b : Nat} {t : TypeId} {cs : Array Value} (hr : (b, t, cs) ∈ B) : Box W b t cs := by
  obtain ⟨N, h⟩ := h
  exact (h.box _ hr).1
theorem FSt.keep (h : FSt w W a g B R) (t : TypeId) (cs : Array Value) : FSt w (W.alloc (.cells cs t)) a g ((W.heap.size, t, cs) :: B) R := by
  obtain ⟨N, h⟩ := h
  have b := ((Below.refl _ W).alloc (Nat.le_refl _) (.cells cs t))
  refine ⟨N, h.at_.below b, h.ok, h.new, below_tr h.lo b, fun r hr => ?_, fun r hr => ⟨owns_below (h.row r hr).1 b, (h.row r hr).2⟩⟩
  rcases List.mem_cons.1 hr with rfl | hr
  · exact ⟨Box.new _ _ _, fun hn => by have : W.heap.size < W.heap.size := h.at_.lt _ hn; omega, h.lo.size⟩
  · exact ⟨(h.box r hr).1.below b (h.box r hr).1.lt, (h.box r hr).2⟩
theorem FSt.forget {B2 : List BoxH} {R2 : List RowH} (h : FSt w W a g B R) (hB : ∀ r, r ∈ B2 → r ∈ B) (hR : ∀ r, r ∈ R2 → r ∈ R) : FSt w W a g B2 R2 := by
  obtain ⟨N, h⟩ := h
  exact ⟨N, h.at_, h.ok, h.new, h.lo, fun r hr => h.box r (hB r hr), fun r hr => h.row r (hR r hr)⟩
theorem fg_new_ok {room : Nat} (h1 : 1 ≤ room) (h2 : room ≤ 65536) : (⟨room, []⟩ : Fg).Ok := ⟨List.Pairwise.nil, fun e he => (by cases he), Nat.zero_le _, h1, h2⟩
theorem FSt.new_ (room : Nat) (h1 : 1 ≤ room) (h2 : room ≤ 65536) (w W : World) (lo : Below w.heap.size w W) : Calls Try.prog 20 #[.int .i64 (room : Int)] W fun e W' => ∃ a, e = .returned (.tuple #[.pointer (some a), .int .i64 0]) ∧ Hid (FSt w W' a ⟨room, []⟩ [] []) := by
  refine (f_new room h1 h2 W).mono ?_
  rintro e W' ⟨a, N, rfl, k1, k2, k3⟩
  exact ⟨a, rfl, Lib.hid ⟨N, k1, fg_new_ok h1 h2, fun j hj => Nat.le_trans lo.size (k2 j hj), below_tr lo k3, fun r hr => (by cases hr), fun r hr => (by cases hr)⟩⟩
theorem FSt.push (h : FSt w W a g B R) (v : Int) (hv : Hw v) (k : Ky) (hk : k.Fits) : Calls Try.prog 23 #[.pointer (some a), .int .u64 v, kyV k] W fun e W' => e = .returned (.int .i64 (putE g.room g.l k : Nat)) ∧ Hid (FSt w W' a ⟨g.room, putL g.room g.l k v⟩ B R) := by
  obtain ⟨N, h⟩ := h
  refine (f_push h.at_ h.ok v hv k hk).mono ?_
  rintro e W' ⟨rfl, t⟩
  exact ⟨rfl, Lib.hid (FSt.went h (putL_ok h.ok hk hv) t)⟩
theorem FSt.pop (h : FSt w W a g B R) : Calls Try.prog 25 #[.pointer (some a)] W fun e W' => e = popV g.l.head? ∧ Hid (FSt w W' a ⟨g.room, g.l.tail⟩ B R) := by
  obtain ⟨N, h⟩ := h
  refine (f_pop h.at_ h.ok).mono ?_
  rintro e W' ⟨rfl, t⟩
  exact ⟨rfl, Lib.hid (FSt.went h (tail_ok h.ok) t)⟩
theorem FSt.head (h : FSt w W a g B R) : Calls Try.prog 27 #[.pointer (some a)] W fun e W' => e = popV g.l.head? ∧ Hid (FSt w W' a g B R) := by
  have h' := h
  obtain ⟨N, h⟩ := h
  refine (f_head h.at_ h.ok).mono ?_
  rintro e W' ⟨rfl, t⟩
  exact ⟨rfl, Lib.hid (h'.below t)⟩
theorem FSt.len (h : FSt w W a g B R) : Calls Try.prog 29 #[.pointer (some a)] W fun e W' => e = .returned (.int .i64 (g.l.length : Nat)) ∧ Hid (FSt w W' a g B R) := by
  have h' := h
  obtain ⟨N, ⟨b, ta, NT, rv, gone, P, r, tg, rfl, h1, _⟩, ok, _⟩ := h
  have h3 := (parts_small ok h1.parts).2.2
  have h4 := ok.small
  refine (f_len h1 (by omega)).mono ?_
  rintro e W' ⟨rfl, t⟩
  exact ⟨rfl, Lib.hid (h'.below t)⟩
theorem FSt.all (h : FSt w W a g B R) : Calls Try.prog 31 #[.pointer (some a)] W fun e W' => ∃ p c, e = .returned (.slice p g.l.length c) ∧ Hid (FSt w W' a g B ((.slice p g.l.length c, g.l.map hV) :: R)) := by
  obtain ⟨N, h⟩ := h
  have h' := h
  obtain ⟨⟨b, ta, NT, rv, gone, P, r, tg, rfl, h1, h2⟩, ok, _⟩ := h
  refine (f_all h1 ok).mono ?_
  rintro e W' ⟨p, c, rfl, o, t⟩
  refine ⟨p, c, rfl, Lib.hid ⟨N, h'.at_.below t, h'.ok, h'.new, below_tr h'.lo t, fun r hr => ⟨(h'.box r hr).1.below t (h'.box r hr).1.lt, (h'.box r hr).2⟩, fun r hr => ?_⟩⟩
  rcases List.mem_cons.1 hr with rfl | hr
  · exact ⟨by rw [List.length_map]; exact own_low o h'.lo.size, OffV.fresh (fun k hk => h'.at_.lt k hk) o⟩
  · exact ⟨owns_below (h'.row r hr).1 t, (h'.row r hr).2⟩
end
def Awake11 : Prop := ∀ w : World, Calls Try.prog 22 #[] w fun e w' => e = .returned (.bool true) ∧ Below w.heap.size w w'
def ex1 : List En := [⟨⟨5, 1⟩, 7⟩]
def ex2 : List En := [⟨⟨5, 1⟩, 7⟩, ⟨⟨9, 2⟩, 8⟩]
def ex3 : List En := [⟨⟨5, 1⟩, 7⟩, ⟨⟨6, 3⟩, 9⟩, ⟨⟨9, 2⟩, 8⟩]
def ex4 : List En := [⟨⟨6, 3⟩, 9⟩, ⟨⟨9, 2⟩, 8⟩]
def ex5 : List En := [⟨⟨9, 2⟩, 8⟩]
theorem ky_fits (a b : Nat) (ha : a < 18446744073709551616) (hb : b < 18446744073709551616) : (⟨a, b⟩ : Ky).Fits := ⟨ha, hb⟩
set_option maxHeartbeats 8000000 in
set_option maxRecDepth 100000 in
theorem awake11 : Awake11 := by
  intro w
  have KN : Hid (Calls Try.prog 20 #[.int .i64 5] w fun e W' => ∃ a, e = .returned (.tuple #[.pointer (some a), .int .i64 0]) ∧ Hid (FSt w W' a ⟨5, []⟩ [] [])) := Lib.hid (FSt.new_ 5 (by decide) (by decide) w w (Below.refl _ _))
  have KO := Lib.hid (fun W => f_new_no 0 (.inl (by decide)) W)
  go_enter Try.func22, Try.ntmps22
  go_wp2_with fail
  refine KN.out.mono ?_
  rintro e W0 ⟨a, rfl, S0⟩
  clear KN
  have K1 : Calls Try.prog 23 #[.pointer (some a), .int .u64 7, .agg #[.int .u64 5, .int .u64 1]] W0 fun e W' => e = .returned (.int .i64 0) ∧ Hid (FSt w W' a ⟨5, ex1⟩ [] []) := S0.out.push 7 ⟨by decide, by decide⟩ ⟨5, 1⟩ (ky_fits _ _ (by decide) (by decide))
  go_wp2_with fail
  refine K1.mono ?_
  rintro e W1 ⟨rfl, S1⟩
  clear K1 S0
  have K2 : Calls Try.prog 23 #[.pointer (some a), .int .u64 8, .agg #[.int .u64 9, .int .u64 2]] W1 fun e W' => e = .returned (.int .i64 0) ∧ Hid (FSt w W' a ⟨5, ex2⟩ [] []) := S1.out.push 8 ⟨by decide, by decide⟩ ⟨9, 2⟩ (ky_fits _ _ (by decide) (by decide))
  go_wp2_with fail
  refine K2.mono ?_
  rintro e W2 ⟨rfl, S2⟩
  clear K2 S1
  have K3 : Calls Try.prog 23 #[.pointer (some a), .int .u64 9, .agg #[.int .u64 6, .int .u64 3]] W2 fun e W' => e = .returned (.int .i64 0) ∧ Hid (FSt w W' a ⟨5, ex3⟩ [] []) := S2.out.push 9 ⟨by decide, by decide⟩ ⟨6, 3⟩ (ky_fits _ _ (by decide) (by decide))
  go_wp2_with fail
  refine K3.mono ?_
  rintro e W3 ⟨rfl, S3⟩
  clear K3 S2
  have K4 : Calls Try.prog 31 #[.pointer (some a)] W3 fun e W' => ∃ p c, e = .returned (.slice p 3 c) ∧ Hid (FSt w W' a ⟨5, ex3⟩ [] [(.slice p 3 c, [.int .u64 7, .int .u64 9, .int .u64 8])]) := S3.out.all
  go_wp2_with fail
  refine K4.mono ?_
  rintro e W4 ⟨p, c, rfl, S4⟩
  clear K4 S3
  have K5 : Calls Try.prog 27 #[.pointer (some a)] W4 fun e W' => e = .returned (.tuple #[.int .u64 7, .agg #[.int .u64 5, .int .u64 1], .bool true]) ∧ Hid (FSt w W' a ⟨5, ex3⟩ [] [(.slice p 3 c, [.int .u64 7, .int .u64 9, .int .u64 8])]) := S4.out.head
  go_wp2_with fail
  refine K5.mono ?_
  rintro e W5 ⟨rfl, S5⟩
  clear K5 S4
  have S5k := Lib.hid (S5.out.keep 68 #[.int .u64 5, .int .u64 1])
  go_upto_region 6 with fail
  obtain ⟨x1, Hx1⟩ : ∃ x, Hid (W5.heap.size = x) := ⟨_, Lib.hid rfl⟩
  obtain ⟨V5, HV5⟩ : ∃ V, Hid (W5.alloc (.cells #[.int .u64 5, .int .u64 1] 68) = V) := ⟨_, Lib.hid rfl⟩
  rw [HV5.out, Hx1.out] at S5k
  rw [HV5.out, Hx1.out]
  clear HV5 Hx1 S5
  have K6 : Calls Try.prog 23 #[.pointer (some a), .int .u64 1, .agg #[.int .u64 9, .int .u64 2]] V5 fun e W' => e = .returned (.int .i64 60) ∧ Hid (FSt w W' a ⟨5, ex3⟩ [(x1, 68, #[.int .u64 5, .int .u64 1])] [(.slice p 3 c, [.int .u64 7, .int .u64 9, .int .u64 8])]) := S5k.out.push 1 ⟨by decide, by decide⟩ ⟨9, 2⟩ (ky_fits _ _ (by decide) (by decide))
  go_wp2_with fail
  refine K6.mono ?_
  rintro e W6 ⟨rfl, S6⟩
  clear K6 S5k
  have K7 : Calls Try.prog 25 #[.pointer (some a)] W6 fun e W' => e = .returned (.tuple #[.int .u64 7, .agg #[.int .u64 5, .int .u64 1], .bool true]) ∧ Hid (FSt w W' a ⟨5, ex4⟩ [(x1, 68, #[.int .u64 5, .int .u64 1])] [(.slice p 3 c, [.int .u64 7, .int .u64 9, .int .u64 8])]) := S6.out.pop
  go_wp2_with fail
  refine K7.mono ?_
  rintro e W7 ⟨rfl, S7⟩
  clear K7 S6
  have S7k := Lib.hid (S7.out.keep 68 #[.int .u64 5, .int .u64 1])
  go_upto_region 9 with fail
  obtain ⟨x2, Hx2⟩ : ∃ x, Hid (W7.heap.size = x) := ⟨_, Lib.hid rfl⟩
  obtain ⟨V7, HV7⟩ : ∃ V, Hid (W7.alloc (.cells #[.int .u64 5, .int .u64 1] 68) = V) := ⟨_, Lib.hid rfl⟩
  rw [HV7.out, Hx2.out] at S7k
  rw [HV7.out, Hx2.out]
  clear HV7 Hx2 S7
  have K8 : Calls Try.prog 25 #[.pointer (some a)] V7 fun e W' => e = .returned (.tuple #[.int .u64 9, .agg #[.int .u64 6, .int .u64 3], .bool true]) ∧ Hid (FSt w W' a ⟨5, ex5⟩ [(x2, 68, #[.int .u64 5, .int .u64 1]), (x1, 68, #[.int .u64 5, .int .u64 1])] [(.slice p 3 c, [.int .u64 7, .int .u64 9, .int .u64 8])]) := S7k.out.pop
  go_wp2_with fail
  refine K8.mono ?_
  rintro e W8 ⟨rfl, S8⟩
  clear K8 S7k
  have S8k := Lib.hid (S8.out.keep 68 #[.int .u64 6, .int .u64 3])
  go_upto_region 10 with fail
  obtain ⟨x3, Hx3⟩ : ∃ x, Hid (W8.heap.size = x) := ⟨_, Lib.hid rfl⟩
  obtain ⟨V8, HV8⟩ : ∃ V, Hid (W8.alloc (.cells #[.int .u64 6, .int .u64 3] 68) = V) := ⟨_, Lib.hid rfl⟩
  rw [HV8.out, Hx3.out] at S8k
  rw [HV8.out, Hx3.out]
  clear HV8 Hx3 S8
  have K9 : Calls Try.prog 25 #[.pointer (some a)] V8 fun e W' => e = .returned (.tuple #[.int .u64 8, .agg #[.int .u64 9, .int .u64 2], .bool true]) ∧ Hid (FSt w W' a ⟨5, []⟩ [(x3, 68, #[.int .u64 6, .int .u64 3]), (x2, 68, #[.int .u64 5, .int .u64 1]), (x1, 68, #[.int .u64 5, .int .u64 1])] [(.slice p 3 c, [.int .u64 7, .int .u64 9, .int .u64 8])]) := S8k.out.pop
  go_wp2_with fail
  refine K9.mono ?_
  rintro e W9 ⟨rfl, S9⟩
  clear K9 S8k
  have S9k := Lib.hid (S9.out.keep 68 #[.int .u64 9, .int .u64 2])
  go_upto_region 11 with fail
  obtain ⟨x4, Hx4⟩ : ∃ x, Hid (W9.heap.size = x) := ⟨_, Lib.hid rfl⟩
  obtain ⟨V9, HV9⟩ : ∃ V, Hid (W9.alloc (.cells #[.int .u64 9, .int .u64 2] 68) = V) := ⟨_, Lib.hid rfl⟩
  rw [HV9.out, Hx4.out] at S9k
  rw [HV9.out, Hx4.out]
  clear HV9 Hx4 S9
  have KA : Calls Try.prog 25 #[.pointer (some a)] V9 fun e W' => e = .returned (.tuple #[.int .u64 0, .agg #[.int .u64 0, .int .u64 0], .bool false]) ∧ Hid (FSt w W' a ⟨5, []⟩ [(x4, 68, #[.int .u64 9, .int .u64 2]), (x3, 68, #[.int .u64 6, .int .u64 3]), (x2, 68, #[.int .u64 5, .int .u64 1]), (x1, 68, #[.int .u64 5, .int .u64 1])] [(.slice p 3 c, [.int .u64 7, .int .u64 9, .int .u64 8])]) := S9k.out.pop
  go_wp2_with fail
  refine KA.mono ?_
  rintro e WA ⟨rfl, SA⟩
  clear KA S9k
  have SB := Lib.hid (SA.out.below ((Below.refl _ WA).alloc (Nat.le_refl _) (.cells #[.int .u64 0, .int .u64 0] 68)))
  clear SA
  go_upto_region 13 with (go_at_call 20; refine (KO.out _).mono ?_; rintro e WC ⟨rfl, bC⟩)
  have SC := Lib.hid (SB.out.below bC)
  have SD := Lib.hid (SC.out.below ((Below.refl _ WC).alloc (Nat.le_refl _) (.cells #[.int .u64 7, .int .u64 9, .int .u64 8] 32)))
  have hlit : (WC.alloc (.cells #[.int .u64 7, .int .u64 9, .int .u64 8] 32)).ownsRow 0 32 1 (.slice (some ⟨WC.heap.size, 0, none⟩) 3 3) 3 [.int .u64 7, .int .u64 9, .int .u64 8] :=
    World.ownsRow_lit (base := 0) (e := 32) (size := 1) WC #[.int .u64 7, .int .u64 9, .int .u64 8] 3 (Nat.zero_le _) (by decide) rfl
  have KH0 := law_handles p (some ⟨WC.heap.size, 0, none⟩) c 3 w.heap.size 0 [7, 9, 8] [7, 9, 8] _ (by decide) (by decide) (SD.out.rowed List.mem_cons_self) hlit
  rw [show decide (([7, 9, 8] : List Int) = [7, 9, 8]) = true from rfl] at KH0
  have KH : Hid (Calls Try.prog 30 #[.slice p 3 c, .slice (some ⟨WC.heap.size, 0, none⟩) 3 3] (WC.alloc (.cells #[.int .u64 7, .int .u64 9, .int .u64 8] 32)) fun e w' => e = .returned (.bool true) ∧ Below (WC.alloc (.cells #[.int .u64 7, .int .u64 9, .int .u64 8] 32)).heap.size (WC.alloc (.cells #[.int .u64 7, .int .u64 9, .int .u64 8] 32)) w') := Lib.hid KH0
  clear SB bC hlit KH0 SC KO
  go_wp2_with (go_at_call 30; refine KH.out.mono ?_; rintro e WE ⟨rfl, bE⟩; have SE := Lib.hid (SD.out.below bE); have y4 := SE.out.boxed (b := x4) List.mem_cons_self; have z0 : WE.cell? ⟨x4, 0, none⟩ = some (.int .u64 9) := y4.cell 0; have z1 : WE.cell? ⟨x4, 1, none⟩ = some (.int .u64 2) := y4.cell 1; clear y4 bE)
  go_ret
  exact ⟨rfl, SE.out.lo⟩

end Go.Proofs.Ytkiibobpejoaeaa
