/-
  The program's own walks (package walk), as functions that are ranged over: above.
-/
import Derived.Test.YtfedjeojanpnpabSeq
import Derived.Test.YtfedjeojanpnpabWalkPure
namespace Go.Proofs.Ytfedjeojanpnpab
open Go.RowKit Go.Shelf
set_option linter.unusedVariables false
attribute [local go_sem] Oper.semAt_some

def encE (e : En) : Array Value := #[enV e]
/-- A tree (or none) that reads as l, as long as the blocks M lie as they lie. -/
structure Reads (tv : Value) (l : List En) (M : Nat → Prop) (w : World) : Prop where
  lt : ∀ j, M j → j < w.heap.size
  fits : ∀ e, e ∈ l → e.Fits
  rises : Rises l
  next : ∀ (W : World) (k : Ky), k.Fits → (∀ j, M j → W.heap[j]? = w.heap[j]?) → w.heap.size ≤ W.heap.size →
    Calls Try.prog 35 #[tv, kyV k] W fun e W' => e = .returned (outE (nextL k l)) ∧ Below W.heap.size W W'
  get : ∀ (W : World) (k : Ky), k.Fits → (∀ j, M j → W.heap[j]? = w.heap[j]?) → w.heap.size ≤ W.heap.size →
    Calls Try.prog 55 #[tv, kyV k] W fun e W' => e = .returned (outI (getL k l)) ∧ Below W.heap.size W W'
theorem Reads.later {tv : Value} {l : List En} {M : Nat → Prop} {w w' : World} (h : Reads tv l M w) (hm : ∀ j, M j → w'.heap[j]? = w.heap[j]?) (hs : w.heap.size ≤ w'.heap.size) : Reads tv l M w' :=
  ⟨fun j hj => Nat.lt_of_lt_of_le (h.lt j hj) hs, h.fits, h.rises, fun W k hk hW hl => h.next W k hk (fun j hj => (hW j hj).trans (hm j hj)) (Nat.le_trans hs hl), fun W k hk hW hl => h.get W k hk (fun j hj => (hW j hj).trans (hm j hj)) (Nat.le_trans hs hl)⟩
/-- A walk's two boxes: the tree's, and the key's. -/
structure Boxes (s : Nat) (tv : Value) (k : Ky) (w : World) : Prop where
  t : Box w s 28 #[tv]
  k : Box w (s + 1) 27 #[.int .u64 (k.at_ : Int), .int .u64 (k.seq : Int)]
def And2 (M : Nat → Prop) (s : Nat) : Nat → Prop := fun j => M j ∨ j = s ∨ j = s + 1
def lbW (s : Nat) : Array Value := #[.pointer (some ⟨s, 0, none⟩), .pointer (some ⟨s + 1, 0, none⟩)]

/-- Where a function that is ranged over stands: W its world when it was called, wr now. -/
structure Cx (W : World) (O M : Nat → Prop) (wr : World) (O1 : Nat → Prop) : Prop where
  stp : Stp W O wr O1
  off : ∀ j, M j → ¬ O1 j
  lt : ∀ j, M j → j < W.heap.size
  mem : ∀ j, M j → wr.heap[j]? = W.heap[j]?
section
variable {W wr wr' : World} {O M O1 O2 : Nat → Prop}
theorem Cx.start (hl : ∀ j, M j → j < W.heap.size) (ho : ∀ j, M j → ¬ O j) : Cx W O M W O := ⟨Stp.refl W O, ho, hl, fun _ _ => rfl⟩
theorem Cx.size (h : Cx W O M wr O1) : W.heap.size ≤ wr.heap.size := h.stp.turned.size
theorem Cx.step (h : Cx W O M wr O1) (s : Stp wr O1 wr' O2) : Cx W O M wr' O2 :=
  ⟨h.stp.trans s, fun j hj ho => by
    rcases s.own j ho with h1 | h1
    · exact h.off j hj h1
    · have := h.lt j hj; have := h.size; omega, h.lt, fun j hj => (s.turned.block j (Nat.lt_of_lt_of_le (h.lt j hj) h.size) (h.off j hj)).trans (h.mem j hj)⟩
theorem Cx.below (h : Cx W O M wr O1) (b : Below wr.heap.size wr wr') : Cx W O M wr' O1 := h.step (Stp.below O1 b)
/-- A block of its own is written. -/
theorem Cx.own (h : Cx W O M wr O1) {b : Nat} (hb : W.heap.size ≤ b) (t : Turned (fun j => j = b) wr wr') : Cx W O M wr' O1 :=
  ⟨⟨⟨t.os.trans h.stp.turned.os, t.tape.trans h.stp.turned.tape, t.output.trans h.stp.turned.output, Nat.le_trans h.size t.size, fun j hj hn => (t.block j (Nat.lt_of_lt_of_le hj h.size) (by omega)).trans (h.stp.turned.block j hj hn)⟩, h.stp.own⟩, h.off, h.lt, fun j hj => (t.block j (Nat.lt_of_lt_of_le (h.lt j hj) h.size) (by have := h.lt j hj; omega)).trans (h.mem j hj)⟩
end
theorem fits_of_next {k : Ky} {l : List En} {e : En} (h : nextL k l = some e) (hf : ∀ e, e ∈ l → e.Fits) : e.Fits := hf e (List.mem_of_find?_eq_some h)

end Go.Proofs.Ytfedjeojanpnpab
