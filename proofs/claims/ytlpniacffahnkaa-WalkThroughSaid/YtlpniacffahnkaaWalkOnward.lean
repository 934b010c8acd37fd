/-
  The program's own walks from a key on, up to one, and once round, as functions that are ranged over.
-/
import Derived.Test.YtlpniacffahnkaaWalkAbove
namespace Go.Proofs.Ytlpniacffahnkaa
open Go.RowKit Go.Shelf
set_option linter.unusedVariables false
attribute [local go_sem] Oper.semAt_some

theorem Cx.more {W wr : World} {O M M' O1 : Nat → Prop} (h : Cx W O M wr O1) (hm : ∀ j, M' j → M j) : Cx W O M' wr O1 := ⟨h.stp, fun j hj => h.off j (hm j hj), fun j hj => h.lt j (hm j hj), fun j hj => h.mem j (hm j hj)⟩

/-- above(t, k): the boxes are laid; the function that walks. -/
theorem above_makes (p : Option Addr) (k : Ky) (w : World) :
    CallsIn Fence.wide 0 Try.prog 55 #[.pointer p, kyV k] w fun e w' => e = .returned (.func (.func 62) #[] (lbW w.heap.size)) ∧ w' = (w.alloc (.cells #[.pointer p] 28)).alloc (.cells #[.int .u64 (k.at_ : Int), .int .u64 (k.seq : Int)] 27) := by
  unfold kyV
  refine callsIn_of_wp Try.func55 rfl trivial ?_ rfl
  simp only [Try.ntmps55, List.size_toArray, List.length_cons, List.length_nil, Nat.reduceAdd, Nat.reduceSub, Array.replicate_succ, Array.replicate_zero, List.push_toArray, List.append_toArray, List.nil_append, List.cons_append]
  gi_wp2
  go_ret
  exact ⟨rfl, rfl⟩
theorem onward_makes (p : Option Addr) (k : Ky) (w : World) :
    CallsIn Fence.wide 0 Try.prog 43 #[.pointer p, kyV k] w fun e w' => e = .returned (.func (.func 56) #[] (lbW w.heap.size)) ∧ w' = (w.alloc (.cells #[.pointer p] 28)).alloc (.cells #[.int .u64 (k.at_ : Int), .int .u64 (k.seq : Int)] 27) := by
  unfold kyV
  refine callsIn_of_wp Try.func43 rfl trivial ?_ rfl
  simp only [Try.ntmps43, List.size_toArray, List.length_cons, List.length_nil, Nat.reduceAdd, Nat.reduceSub, Array.replicate_succ, Array.replicate_zero, List.push_toArray, List.append_toArray, List.nil_append, List.cons_append]
  gi_wp2
  go_ret
  exact ⟨rfl, rfl⟩
theorem until_makes (p : Option Addr) (k : Ky) (w : World) :
    CallsIn Fence.wide 0 Try.prog 44 #[.pointer p, kyV k] w fun e w' => e = .returned (.func (.func 58) #[] (lbW w.heap.size)) ∧ w' = (w.alloc (.cells #[.pointer p] 28)).alloc (.cells #[.int .u64 (k.at_ : Int), .int .u64 (k.seq : Int)] 27) := by
  unfold kyV
  refine callsIn_of_wp Try.func44 rfl trivial ?_ rfl
  simp only [Try.ntmps44, List.size_toArray, List.length_cons, List.length_nil, Nat.reduceAdd, Nat.reduceSub, Array.replicate_succ, Array.replicate_zero, List.push_toArray, List.append_toArray, List.nil_append, List.cons_append]
  gi_wp2
  go_ret
  exact ⟨rfl, rfl⟩
theorem round_makes (p : Option Addr) (k : Ky) (w : World) :
    CallsIn Fence.wide 0 Try.prog 40 #[.pointer p, kyV k] w fun e w' => e = .returned (.func (.func 54) #[] (lbW w.heap.size)) ∧ w' = (w.alloc (.cells #[.pointer p] 28)).alloc (.cells #[.int .u64 (k.at_ : Int), .int .u64 (k.seq : Int)] 27) := by
  unfold kyV
  refine callsIn_of_wp Try.func40 rfl trivial ?_ rfl
  simp only [Try.ntmps40, List.size_toArray, List.length_cons, List.length_nil, Nat.reduceAdd, Nat.reduceSub, Array.replicate_succ, Array.replicate_zero, List.push_toArray, List.append_toArray, List.nil_append, List.cons_append]
  gi_wp2
  go_ret
  exact ⟨rfl, rfl⟩
/-- The two boxes, just laid. -/
theorem boxes_new (p : Option Addr) (k : Ky) (w : World) : Boxes w.heap.size (.pointer p) k ((w.alloc (.cells #[.pointer p] 28)).alloc (.cells #[.int .u64 (k.at_ : Int), .int .u64 (k.seq : Int)] 27)) := by
  refine ⟨(Below.heap_alloc _ _ _ (by simp)).trans (World.alloc_heap_new w _), ?_⟩
  have h := World.alloc_heap_new (w.alloc (.cells #[.pointer p] 28)) (.cells #[.int .u64 (k.at_ : Int), .int .u64 (k.seq : Int)] 27)
  rwa [World.size_alloc] at h

end Go.Proofs.Ytlpniacffahnkaa
