/-
  The chapter's examples of layer 6 hold, of whatever tree keeps what its laws ask (TreeK).
-/
import Derived.Test.YtfedjeojanpnpabTreeK
namespace Go.Proofs.Ytfedjeojanpnpab
open Go.RowKit
set_option linter.unusedVariables false

def enA (e : En) : Array Value := #[.int .u64 (e.key.at_ : Int), .int .u64 (e.key.seq : Int), .int .i64 e.val]
/-- A tree with room for two, with such entries, and boxes of the call's own. -/
def AwAt (K : TreeK) (w W : World) (a : Addr) (l : List En) (bx : List (Nat × En)) : Prop :=
  ∃ N g, OwnT K w W a N g ∧ g.room = 2 ∧ g.l = l ∧ ∀ b, b ∈ bx → ¬ N b.1 ∧ Box W b.1 52 (enA b.2)
section
variable {K : TreeK} {w W W' : World} {a : Addr} {l : List En} {bx : List (Nat × En)}
theorem AwAt.below (h : AwAt K w W a l bx) (b : Below W.heap.size W W') : AwAt K w W' a l bx := by
  obtain ⟨N, g, o, h1, h2, h3⟩ := h
  exact ⟨N, g, o.below b, h1, h2, fun q hq => ⟨(h3 q hq).1, (h3 q hq).2.below b (h3 q hq).2.lt⟩⟩
theorem AwAt.box (h : AwAt K w W a l bx) {b : Nat × En} (hb : b ∈ bx) : Box W b.1 52 (enA b.2) := by
  obtain ⟨N, g, o, h1, h2, h3⟩ := h
  exact (h3 b hb).2
theorem AwAt.lo (h : AwAt K w W a l bx) : Below w.heap.size w W := by
  obtain ⟨N, g, o, h1, h2, h3⟩ := h
  exact o.lo
theorem AwAt.alloc (h : AwAt K w W a l bx) (e : En) : AwAt K w (W.alloc (.cells (enA e) 52)) a l ((W.heap.size, e) :: bx) := by
  obtain ⟨N, g, o, h1, h2, h3⟩ := h
  have b := (Below.refl W.heap.size W).alloc (Nat.le_refl _) (.cells (enA e) 52)
  refine ⟨N, g, o.below b, h1, h2, fun q hq => ?_⟩
  rcases List.mem_cons.1 hq with rfl | hq
  · exact ⟨fun hn => absurd (K.lt o.at_ _ hn) (Nat.lt_irrefl _), Box.new _ _ _⟩
  · exact ⟨(h3 q hq).1, (h3 q hq).2.below b (h3 q hq).2.lt⟩
theorem step_box {N N' : Nat → Prop} {q : Nat} {t : TypeId} {cs : Array Value} (hq : ¬ N q) (b : Box W q t cs) (s : SteppedT W W' N N') : ¬ N' q ∧ Box W' q t cs :=
  ⟨fun h => by
    rcases s.own q h with h1 | h1
    · exact hq h1
    · have := b.lt; omega, b.turned s.turned hq⟩
theorem AwAt.put (h : AwAt K w W a l bx) (k : Ky) (v : Int) (hk : k.Fits) (hv : I64 v) : Calls Try.prog 9 #[.pointer (some a), kyV k, .int .i64 v] W fun e W' => e = .returned (.int .i64 (putE 2 l k : Nat)) ∧ AwAt K w W' a (putL 2 l k v) bx := by
  obtain ⟨N, g, o, h1, h2, h3⟩ := h
  refine (o.put k v hk hv).mono ?_
  rintro e W' ⟨rfl, N', g', e1, e2, o', s⟩
  rw [h1, h2] at e2
  rw [h1, h2]
  exact ⟨rfl, N', g', o', e1.trans h1, e2, fun q hq => step_box (h3 q hq).1 (h3 q hq).2 s⟩
theorem AwAt.drop (h : AwAt K w W a l bx) (k : Ky) (hk : k.Fits) : Calls Try.prog 10 #[.pointer (some a), kyV k] W fun e W' => e = .returned (outI (getL k l)) ∧ AwAt K w W' a (delL k l) bx := by
  obtain ⟨N, g, o, h1, h2, h3⟩ := h
  refine (o.drop k hk).mono ?_
  rintro e W' ⟨rfl, N', g', e1, e2, o', s⟩
  rw [h2] at e2
  rw [h2]
  exact ⟨rfl, N', g', o', e1.trans h1, e2, fun q hq => step_box (h3 q hq).1 (h3 q hq).2 s⟩
theorem AwAt.first (h : AwAt K w W a l bx) : Calls Try.prog 34 #[.pointer (some a)] W fun e W' => e = .returned (outE l.head?) ∧ AwAt K w W' a l bx := by
  have h0 := h
  obtain ⟨N, g, o, h1, h2, h3⟩ := h
  refine o.first.mono ?_
  rintro e W' ⟨rfl, _, b⟩
  exact ⟨by rw [h2], h0.below b⟩
theorem AwAt.next (h : AwAt K w W a l bx) (k : Ky) (hk : k.Fits) : Calls Try.prog 35 #[.pointer (some a), kyV k] W fun e W' => e = .returned (outE (nextL k l)) ∧ AwAt K w W' a l bx := by
  have h0 := h
  obtain ⟨N, g, o, h1, h2, h3⟩ := h
  refine (o.next k hk).mono ?_
  rintro e W' ⟨rfl, _, b⟩
  exact ⟨by rw [h2], h0.below b⟩
end
def k5 : Ky := ⟨5, 0⟩
def k39 : Ky := ⟨3, 9⟩
def e51 : En := ⟨k5, 1⟩
def e392 : En := ⟨k39, 2⟩
theorem fit_small {a b : Nat} (h1 : a < 10) (h2 : b < 10) : (⟨a, b⟩ : Ky).Fits := ⟨by show a < _; omega, by show b < _; omega⟩

set_option maxHeartbeats 4000000 in
set_option maxRecDepth 100000 in
theorem awake_of (K : TreeK) : Awake := by
  intro w
  have R0 : Hid (Calls Try.prog 8 #[.int .i64 2] w fun e W' => ∃ a, e = .returned (.tuple #[.pointer (some a), .int .i64 0]) ∧ AwAt K w W' a [] []) := by
    refine Lib.hid ((OwnT.new_ K w 2 (by decide) (by decide) w (Below.refl _ _)).mono ?_)
    rintro e W' ⟨a, N, rfl, o, _, _⟩
    exact ⟨a, rfl, N, _, o, rfl, rfl, fun b hb => by simp at hb⟩
  have R9 := Lib.hid (fun W => K.new_no 0 W (.inl (by decide)))
  go_enter Try.func13, Try.ntmps13
  go_wp2_with fail
  refine R0.out.mono ?_
  rintro e w1 ⟨a, rfl, H1⟩
  have R1 : Hid (Calls Try.prog 9 #[.pointer (some a), .agg #[.int .u64 5, .int .u64 0], .int .i64 1] w1 fun e W' => e = .returned (.int .i64 0) ∧ AwAt K w W' a [e51] []) := Lib.hid (H1.put k5 1 (fit_small (by decide) (by decide)) ⟨by decide, by decide⟩)
  clear R0
  go_wp2_with fail
  refine R1.out.mono ?_
  rintro e w2 ⟨rfl, H2⟩
  have R2 : Hid (Calls Try.prog 9 #[.pointer (some a), .agg #[.int .u64 3, .int .u64 9], .int .i64 2] w2 fun e W' => e = .returned (.int .i64 0) ∧ AwAt K w W' a [e392, e51] []) := Lib.hid (H2.put k39 2 (fit_small (by decide) (by decide)) ⟨by decide, by decide⟩)
  clear R1 H1
  go_wp2_with fail
  refine R2.out.mono ?_
  rintro e w3 ⟨rfl, H3⟩
  have R3 : Hid (Calls Try.prog 34 #[.pointer (some a)] w3 fun e W' => e = .returned (.tuple #[.agg #[.int .u64 3, .int .u64 9, .int .i64 2], .bool true]) ∧ AwAt K w W' a [e392, e51] []) := Lib.hid H3.first
  clear R2 H2
  go_wp2_with fail
  refine R3.out.mono ?_
  rintro e w4 ⟨rfl, H4⟩
  have H4a : AwAt K w (w4.alloc (.cells #[.int .u64 3, .int .u64 9, .int .i64 2] 52)) a [e392, e51] [(w4.heap.size, e392)] := H4.alloc e392
  clear R3 H3 H4
  go_upto_region 4 with fail
  obtain ⟨q1, HQ⟩ : ∃ q, Hid (w4.heap.size = q) := ⟨_, Lib.hid rfl⟩
  obtain ⟨W4, HW⟩ : ∃ W, Hid (w4.alloc (.cells #[.int .u64 3, .int .u64 9, .int .i64 2] 52) = W) := ⟨_, Lib.hid rfl⟩
  rw [HQ.out, HW.out] at H4a
  rw [HQ.out, HW.out]
  clear HQ HW
  have R5 : Hid (Calls Try.prog 35 #[.pointer (some a), .agg #[.int .u64 3, .int .u64 9]] W4 fun e W' => e = .returned (.tuple #[.agg #[.int .u64 5, .int .u64 0, .int .i64 1], .bool true]) ∧ AwAt K w W' a [e392, e51] [(q1, e392)]) := Lib.hid (H4a.next k39 (fit_small (by decide) (by decide)))
  clear H4a
  go_wp2_with fail
  refine R5.out.mono ?_
  rintro e w5 ⟨rfl, H5⟩
  have H5a : AwAt K w (w5.alloc (.cells #[.int .u64 5, .int .u64 0, .int .i64 1] 52)) a [e392, e51] ((w5.heap.size, e51) :: [(q1, e392)]) := H5.alloc e51
  clear R5 H5
  go_upto_region 5 with fail
  obtain ⟨q2, HQ⟩ : ∃ q, Hid (w5.heap.size = q) := ⟨_, Lib.hid rfl⟩
  obtain ⟨W5, HW⟩ : ∃ W, Hid (w5.alloc (.cells #[.int .u64 5, .int .u64 0, .int .i64 1] 52) = W) := ⟨_, Lib.hid rfl⟩
  rw [HQ.out, HW.out] at H5a
  rw [HQ.out, HW.out]
  clear HQ HW
  have R6 : Hid (Calls Try.prog 35 #[.pointer (some a), .agg #[.int .u64 4, .int .u64 0]] W5 fun e W' => e = .returned (.tuple #[.agg #[.int .u64 5, .int .u64 0, .int .i64 1], .bool true]) ∧ AwAt K w W' a [e392, e51] [(q2, e51), (q1, e392)]) := Lib.hid (H5a.next ⟨4, 0⟩ (fit_small (by decide) (by decide)))
  clear H5a
  go_wp2_with fail
  refine R6.out.mono ?_
  rintro e w6 ⟨rfl, H6⟩
  have H6a : AwAt K w (w6.alloc (.cells #[.int .u64 5, .int .u64 0, .int .i64 1] 52)) a [e392, e51] ((w6.heap.size, e51) :: [(q2, e51), (q1, e392)]) := H6.alloc e51
  clear R6 H6
  go_upto_region 6 with fail
  obtain ⟨q3, HQ⟩ : ∃ q, Hid (w6.heap.size = q) := ⟨_, Lib.hid rfl⟩
  obtain ⟨W6, HW⟩ : ∃ W, Hid (w6.alloc (.cells #[.int .u64 5, .int .u64 0, .int .i64 1] 52) = W) := ⟨_, Lib.hid rfl⟩
  rw [HQ.out, HW.out] at H6a
  rw [HQ.out, HW.out]
  clear HQ HW
  have R7 : Hid (Calls Try.prog 35 #[.pointer (some a), .agg #[.int .u64 5, .int .u64 0]] W6 fun e W' => e = .returned (.tuple #[.agg #[.int .u64 0, .int .u64 0, .int .i64 0], .bool false]) ∧ AwAt K w W' a [e392, e51] [(q3, e51), (q2, e51), (q1, e392)]) := Lib.hid (H6a.next k5 (fit_small (by decide) (by decide)))
  clear H6a
  go_wp2_with fail
  refine R7.out.mono ?_
  rintro e w7 ⟨rfl, H7⟩
  have H7a : AwAt K w (w7.alloc (.cells #[.int .u64 0, .int .u64 0, .int .i64 0] 52)) a [e392, e51] ((w7.heap.size, noEn) :: [(q3, e51), (q2, e51), (q1, e392)]) := H7.alloc noEn
  clear R7 H7
  go_upto_region 7 with fail
  obtain ⟨q4, HQ⟩ : ∃ q, Hid (w7.heap.size = q) := ⟨_, Lib.hid rfl⟩
  obtain ⟨W7, HW⟩ : ∃ W, Hid (w7.alloc (.cells #[.int .u64 0, .int .u64 0, .int .i64 0] 52) = W) := ⟨_, Lib.hid rfl⟩
  rw [HQ.out, HW.out] at H7a
  rw [HQ.out, HW.out]
  clear HQ HW
  have R8 : Hid (Calls Try.prog 9 #[.pointer (some a), .agg #[.int .u64 3, .int .u64 9], .int .i64 3] W7 fun e W' => e = .returned (.int .i64 60) ∧ AwAt K w W' a [e392, e51] [(q4, noEn), (q3, e51), (q2, e51), (q1, e392)]) := Lib.hid (H7a.put k39 3 (fit_small (by decide) (by decide)) ⟨by decide, by decide⟩)
  clear H7a
  go_wp2_with fail
  refine R8.out.mono ?_
  rintro e w8 ⟨rfl, H8⟩
  clear R8
  have R9 : Hid (Calls Try.prog 9 #[.pointer (some a), .agg #[.int .u64 1, .int .u64 0], .int .i64 4] w8 fun e W' => e = .returned (.int .i64 4) ∧ AwAt K w W' a [e392, e51] [(q4, noEn), (q3, e51), (q2, e51), (q1, e392)]) := Lib.hid (H8.put ⟨1, 0⟩ 4 (fit_small (by decide) (by decide)) ⟨by decide, by decide⟩)
  clear H8
  go_wp2_with fail
  refine R9.out.mono ?_
  rintro e w9 ⟨rfl, H9⟩
  clear R9
  have R10 : Hid (Calls Try.prog 10 #[.pointer (some a), .agg #[.int .u64 3, .int .u64 9]] w9 fun e W' => e = .returned (.tuple #[.int .i64 2, .bool true]) ∧ AwAt K w W' a [e51] [(q4, noEn), (q3, e51), (q2, e51), (q1, e392)]) := Lib.hid (H9.drop k39 (fit_small (by decide) (by decide)))
  clear H9
  go_wp2_with fail
  refine R10.out.mono ?_
  rintro e w10 ⟨rfl, H10⟩
  have R11 : Hid (Calls Try.prog 34 #[.pointer (some a)] w10 fun e W' => e = .returned (.tuple #[.agg #[.int .u64 5, .int .u64 0, .int .i64 1], .bool true]) ∧ AwAt K w W' a [e51] [(q4, noEn), (q3, e51), (q2, e51), (q1, e392)]) := Lib.hid H10.first
  clear R10 H10
  go_wp2_with fail
  refine R11.out.mono ?_
  rintro e w11 ⟨rfl, H11⟩
  have H11a : AwAt K w (w11.alloc (.cells #[.int .u64 5, .int .u64 0, .int .i64 1] 52)) a [e51] ((w11.heap.size, e51) :: [(q4, noEn), (q3, e51), (q2, e51), (q1, e392)]) := H11.alloc e51
  clear R11 H11
  go_upto_region 10 with fail
  obtain ⟨q5, HQ⟩ : ∃ q, Hid (w11.heap.size = q) := ⟨_, Lib.hid rfl⟩
  obtain ⟨W11, HW⟩ : ∃ W, Hid (w11.alloc (.cells #[.int .u64 5, .int .u64 0, .int .i64 1] 52) = W) := ⟨_, Lib.hid rfl⟩
  rw [HQ.out, HW.out] at H11a
  rw [HQ.out, HW.out]
  clear HQ HW
  go_wp2_with fail
  refine (R9.out _).mono ?_
  rintro e w12 ⟨rfl, b12⟩
  have H12 := H11a.below b12
  have H12a : AwAt K w (w12.alloc (.cells #[.int .u64 5, .int .u64 0, .int .i64 1] 52)) a [e51] ((w12.heap.size, e51) :: [(q5, e51), (q4, noEn), (q3, e51), (q2, e51), (q1, e392)]) := H12.alloc e51
  have HB := Lib.hid H12a.lo
  have cq10 : (w12.alloc (.cells #[.int .u64 5, .int .u64 0, .int .i64 1] 52)).cell? ⟨q1, 0, none⟩ = some (.int .u64 3) := (H12a.box (b := (q1, e392)) (by simp)).cell 0
  have cq11 : (w12.alloc (.cells #[.int .u64 5, .int .u64 0, .int .i64 1] 52)).cell? ⟨q1, 1, none⟩ = some (.int .u64 9) := (H12a.box (b := (q1, e392)) (by simp)).cell 1
  have cq12 : (w12.alloc (.cells #[.int .u64 5, .int .u64 0, .int .i64 1] 52)).cell? ⟨q1, 2, none⟩ = some (.int .i64 2) := (H12a.box (b := (q1, e392)) (by simp)).cell 2
  have cq20 : (w12.alloc (.cells #[.int .u64 5, .int .u64 0, .int .i64 1] 52)).cell? ⟨q2, 0, none⟩ = some (.int .u64 5) := (H12a.box (b := (q2, e51)) (by simp)).cell 0
  have cq21 : (w12.alloc (.cells #[.int .u64 5, .int .u64 0, .int .i64 1] 52)).cell? ⟨q2, 1, none⟩ = some (.int .u64 0) := (H12a.box (b := (q2, e51)) (by simp)).cell 1
  have cq22 : (w12.alloc (.cells #[.int .u64 5, .int .u64 0, .int .i64 1] 52)).cell? ⟨q2, 2, none⟩ = some (.int .i64 1) := (H12a.box (b := (q2, e51)) (by simp)).cell 2
  have cq30 : (w12.alloc (.cells #[.int .u64 5, .int .u64 0, .int .i64 1] 52)).cell? ⟨q3, 0, none⟩ = some (.int .u64 5) := (H12a.box (b := (q3, e51)) (by simp)).cell 0
  have cq31 : (w12.alloc (.cells #[.int .u64 5, .int .u64 0, .int .i64 1] 52)).cell? ⟨q3, 1, none⟩ = some (.int .u64 0) := (H12a.box (b := (q3, e51)) (by simp)).cell 1
  have cq32 : (w12.alloc (.cells #[.int .u64 5, .int .u64 0, .int .i64 1] 52)).cell? ⟨q3, 2, none⟩ = some (.int .i64 1) := (H12a.box (b := (q3, e51)) (by simp)).cell 2
  have cq50 : (w12.alloc (.cells #[.int .u64 5, .int .u64 0, .int .i64 1] 52)).cell? ⟨q5, 0, none⟩ = some (.int .u64 5) := (H12a.box (b := (q5, e51)) (by simp)).cell 0
  have cq51 : (w12.alloc (.cells #[.int .u64 5, .int .u64 0, .int .i64 1] 52)).cell? ⟨q5, 1, none⟩ = some (.int .u64 0) := (H12a.box (b := (q5, e51)) (by simp)).cell 1
  have cq52 : (w12.alloc (.cells #[.int .u64 5, .int .u64 0, .int .i64 1] 52)).cell? ⟨q5, 2, none⟩ = some (.int .i64 1) := (H12a.box (b := (q5, e51)) (by simp)).cell 2
  have cq60 : (w12.alloc (.cells #[.int .u64 5, .int .u64 0, .int .i64 1] 52)).cell? ⟨w12.heap.size, 0, none⟩ = some (.int .u64 5) := (H12a.box (b := (w12.heap.size, e51)) (by simp)).cell 0
  have cq61 : (w12.alloc (.cells #[.int .u64 5, .int .u64 0, .int .i64 1] 52)).cell? ⟨w12.heap.size, 1, none⟩ = some (.int .u64 0) := (H12a.box (b := (w12.heap.size, e51)) (by simp)).cell 1
  have cq62 : (w12.alloc (.cells #[.int .u64 5, .int .u64 0, .int .i64 1] 52)).cell? ⟨w12.heap.size, 2, none⟩ = some (.int .i64 1) := (H12a.box (b := (w12.heap.size, e51)) (by simp)).cell 2
  clear H12a H11a H12 b12
  go_wp2_with fail
  go_ret
  exact ⟨rfl, HB.out⟩

end Go.Proofs.Ytfedjeojanpnpab
