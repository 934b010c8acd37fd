/-
  The chapter's examples of layer 5 hold, of whatever chains keep what its laws ask (ChainK).
-/
import Derived.Test.YthdgpnkkeeebkaaChainK
namespace Go.Proofs.Ythdgpnkkeeebkaa
open Go.RowKit
set_option linter.unusedVariables false

/-- The law's examples hold, wherever they are asked. -/
def Awake : Prop := ∀ w, Calls Try.prog 11 #[] w fun e w' => e = .returned (.bool true) ∧ Below w.heap.size w w'

def cx0 : Ch := Ch.new 2 4
def cx1 : Ch := ⟨[[3], []], 4⟩
def cx2 : Ch := ⟨[[3, 1], []], 4⟩
def cx3 : Ch := ⟨[[1], []], 4⟩
def cx4 : Ch := ⟨[[], []], 4⟩
theorem cx01 : cx0.push 0 3 = cx1 := by rfl
theorem cx12 : cx1.push 0 1 = cx2 := by rfl
theorem cx22 : cx2.push 1 3 = cx2 := by rfl
theorem cx23 : cx2.drop 3 = cx3 := by rfl
theorem cx34 : cx3.pop 0 = cx4 := by rfl
theorem cx44 : cx4.pop 0 = cx4 := by rfl
theorem cx01e : cx0.pushE 0 3 = 0 := by decide
theorem cx12e : cx1.pushE 0 1 = 0 := by decide
theorem cx22e : cx2.pushE 1 3 = 50 := by decide
theorem cx44e : cx4.pushE 2 0 = 2 := by decide
theorem cx2l : cx2.list 0 = [3, 1] := by rfl
theorem cx3l : cx3.list 0 = [1] := by rfl
theorem cx4l : cx4.list 0 = [] := by rfl
theorem cx2i : cx2.inn 3 = some 0 := by rfl

section
variable {K : ChainK} {w W : World} {a : Addr} {N : Nat → Prop}
theorem cx_new (K : ChainK) (w : World) : Calls Try.prog 9 #[.int .i64 2, .int .i64 4] w fun e W' => ∃ a N, e = .returned (.tuple #[.pointer (some a), .int .i64 0]) ∧ OwnC K w W' a N cx0 := OwnC.new_ K w 2 4 (by decide) (by decide) (by decide) (by decide)
theorem cx_push0 (h : OwnC K w W a N cx0) : Calls Try.prog 12 #[.pointer (some a), .int .i64 0, .int .i64 3] W fun e W' => e = .returned (.int .i64 0) ∧ ∃ N', OwnC K w W' a N' cx1 := by
  refine (h.push 0 3 (by constructor <;> decide) (by constructor <;> decide)).mono ?_
  rintro e W' ⟨rfl, N', h1, _⟩
  rw [cx01] at h1
  exact ⟨by rw [cx01e]; rfl, N', h1⟩
theorem cx_push1 (h : OwnC K w W a N cx1) : Calls Try.prog 12 #[.pointer (some a), .int .i64 0, .int .i64 1] W fun e W' => e = .returned (.int .i64 0) ∧ ∃ N', OwnC K w W' a N' cx2 := by
  refine (h.push 0 1 (by constructor <;> decide) (by constructor <;> decide)).mono ?_
  rintro e W' ⟨rfl, N', h1, _⟩
  rw [cx12] at h1
  exact ⟨by rw [cx12e]; rfl, N', h1⟩
theorem cx_push2 (h : OwnC K w W a N cx2) : Calls Try.prog 12 #[.pointer (some a), .int .i64 1, .int .i64 3] W fun e W' => e = .returned (.int .i64 50) ∧ ∃ N', OwnC K w W' a N' cx2 := by
  refine (h.push 1 3 (by constructor <;> decide) (by constructor <;> decide)).mono ?_
  rintro e W' ⟨rfl, N', h1, _⟩
  rw [cx22] at h1
  exact ⟨by rw [cx22e]; rfl, N', h1⟩
theorem cx_list (h : OwnC K w W a N cx2) : Calls Try.prog 18 #[.pointer (some a), .int .i64 0] W fun e W' => ∃ p c, e = .returned (.slice p 2 c) ∧ Mine w W' N 3 (.slice p 2 c) 2 ([3, 1].map natV) ∧ OwnC K w W' a N cx2 := by
  refine (h.list 0 (by constructor <;> decide)).mono ?_
  rintro e W' ⟨p, c, rfl, h1, h2, _⟩
  rw [cx2l] at h1
  exact ⟨p, c, by rw [cx2l]; rfl, h1, h2⟩
def Row2 (w W : World) (N : Nat → Prop) (p : Option Addr) (c : Nat) : Prop := Mine w W N 3 (.slice p 2 c) 2 ([3, 1].map natV)
theorem cx_drop {p : Option Addr} {c : Nat} (h : OwnC K w W a N cx2) (r : Row2 w W N p c) : Calls Try.prog 16 #[.pointer (some a), .int .i64 3] W fun e W' => e = .returned (.bool true) ∧ ∃ N', OwnC K w W' a N' cx3 ∧ Row2 w W' N' p c := by
  refine (h.drop 3 (by constructor <;> decide)).mono ?_
  rintro e W' ⟨rfl, N', h1, s⟩
  rw [cx23] at h1
  exact ⟨by rw [cx2i]; rfl, N', h1, Mine.step r s⟩
theorem cx_first {p : Option Addr} {c : Nat} (h : OwnC K w W a N cx3) (r : Row2 w W N p c) : Calls Try.prog 20 #[.pointer (some a), .int .i64 0] W fun e W' => e = .returned (.tuple #[.int .i64 1, .bool true]) ∧ OwnC K w W' a N cx3 ∧ Row2 w W' N p c := by
  refine (h.first 0 (by constructor <;> decide)).mono ?_
  rintro e W' ⟨rfl, h1, b⟩
  exact ⟨by rw [cx3l]; rfl, h1, Mine.below r b⟩
theorem cx_pop3 {p : Option Addr} {c : Nat} (h : OwnC K w W a N cx3) (r : Row2 w W N p c) : Calls Try.prog 14 #[.pointer (some a), .int .i64 0] W fun e W' => e = .returned (.tuple #[.int .i64 1, .bool true]) ∧ ∃ N', OwnC K w W' a N' cx4 ∧ Row2 w W' N' p c := by
  refine (h.pop 0 (by constructor <;> decide)).mono ?_
  rintro e W' ⟨rfl, N', h1, s⟩
  rw [cx34] at h1
  exact ⟨by rw [cx3l]; rfl, N', h1, Mine.step r s⟩
theorem cx_pop4 {p : Option Addr} {c : Nat} (h : OwnC K w W a N cx4) (r : Row2 w W N p c) : Calls Try.prog 14 #[.pointer (some a), .int .i64 0] W fun e W' => e = .returned (.tuple #[.int .i64 0, .bool false]) ∧ ∃ N', OwnC K w W' a N' cx4 ∧ Row2 w W' N' p c := by
  refine (h.pop 0 (by constructor <;> decide)).mono ?_
  rintro e W' ⟨rfl, N', h1, s⟩
  rw [cx44] at h1
  exact ⟨by rw [cx4l]; rfl, N', h1, Mine.step r s⟩
theorem cx_push4 (h : OwnC K w W a N cx4) : Calls Try.prog 12 #[.pointer (some a), .int .i64 2, .int .i64 0] W fun e W' => e = .returned (.int .i64 2) ∧ Below w.heap.size w W' := by
  refine (h.push 2 0 (by constructor <;> decide) (by constructor <;> decide)).mono ?_
  rintro e W' ⟨rfl, N', h1, _⟩
  exact ⟨by rw [cx44e]; rfl, h1.lo⟩
end

theorem cx_ints {w W : World} {N : Nat → Prop} {p : Option Addr} {c : Nat} (r : Row2 w W N p c) : Calls Try.prog 21 #[.slice p 2 c, .slice (some ⟨W.heap.size, 0, none⟩) 2 2] (W.alloc (.cells #[.int .i64 3, .int .i64 1] 3)) fun e W' => e = .returned (.bool true) ∧ Below (W.alloc (.cells #[.int .i64 3, .int .i64 1] 3)).heap.size (W.alloc (.cells #[.int .i64 3, .int .i64 1] 3)) W' := by
  have h2 : (W.alloc (.cells #[.int .i64 3, .int .i64 1] 3)).ownsRow 0 3 1 (.slice (some ⟨W.heap.size, 0, none⟩) 2 2) 2 ([3, 1].map natV) :=
    World.ownsRow_lit (base := 0) (e := 3) (size := 1) W #[.int .i64 3, .int .i64 1] 2 (Nat.zero_le _) (by decide) rfl
  exact law_ints p (some ⟨W.heap.size, 0, none⟩) c 2 w.heap.size 0 [3, 1] [3, 1] _ (by decide) (by decide) (r.row.alloc _) h2

set_option maxHeartbeats 2000000 in
theorem awake_of (K : ChainK) : Awake := by
  intro w
  have R0 := Lib.hid (cx_new K w)
  have R9 := Lib.hid (fun W => K.new_no 0 4 W (.inl (by decide)))
  go_enter Try.func11, Try.ntmps11
  go_wp2_with fail
  refine R0.out.mono ?_
  rintro e w1 ⟨a, N1, rfl, H1⟩
  go_wp2_with fail
  refine (cx_push0 H1).mono ?_
  rintro e w2 ⟨rfl, N2, H2⟩
  clear H1
  go_wp2_with fail
  refine (cx_push1 H2).mono ?_
  rintro e w3 ⟨rfl, N3, H3⟩
  clear H2
  go_wp2_with fail
  refine (cx_push2 H3).mono ?_
  rintro e w4 ⟨rfl, N4, H4⟩
  clear H3
  go_wp2_with fail
  refine (cx_list H4).mono ?_
  rintro e w5 ⟨p, c, rfl, M5, H5⟩
  clear H4
  have M5' : Row2 w w5 N4 p c := M5
  clear M5
  go_wp2_with fail
  refine (cx_drop H5 M5').mono ?_
  rintro e w6 ⟨rfl, N6, H6, M6⟩
  clear H5 M5'
  go_wp2_with fail
  refine (cx_first H6 M6).mono ?_
  rintro e w7 ⟨rfl, H7, M7⟩
  clear H6 M6
  go_wp2_with fail
  refine (cx_pop3 H7 M7).mono ?_
  rintro e w8 ⟨rfl, N8, H8, M8⟩
  clear H7 M7
  go_wp2_with fail
  refine (cx_pop4 H8 M8).mono ?_
  rintro e w9 ⟨rfl, N9, H9, M9⟩
  clear H8 M8
  go_wp2_with fail
  refine (R9.out _).mono ?_
  rintro e w10 ⟨rfl, b10⟩
  have H10 := H9.below b10
  have M10 : Row2 w w10 N9 p c := Mine.below M9 b10
  clear H9 M9 b10
  go_wp2_with fail
  refine (cx_ints M10).mono ?_
  rintro e w11 ⟨rfl, b11⟩
  have b12 := ((Below.refl _ w10).alloc (Nat.le_refl _) (.cells #[.int .i64 3, .int .i64 1] 3)).trans (b11.mono (by simp))
  have H12 := H10.below b12
  clear H10 M10 b11 b12
  go_wp2_with fail
  refine (cx_push4 H12).mono ?_
  rintro e w13 ⟨rfl, b13⟩
  go_wp2_with fail
  go_ret
  exact ⟨rfl, b13⟩

end Go.Proofs.Ythdgpnkkeeebkaa
