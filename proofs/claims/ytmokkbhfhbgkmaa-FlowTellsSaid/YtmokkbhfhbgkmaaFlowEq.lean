/-
  Flows against themselves; what the arguments are; a flow's box in a law's walk.
-/
import Derived.Test.YtmokkbhfhbgkmaaFlowAwake
namespace Go.Proofs.Ytmokkbhfhbgkmaa
open Go.RowKit
set_option linter.unusedVariables false
set_option linter.unusedSimpArgs false
set_option maxRecDepth 100000

theorem PBox.below {B : Nat} {W W' : World} {b : Nat} {p : Pc} (h : PBox W b p) (g : Below B W W') (hb : b < B) : PBox W' b p := Box.below (show Box W b _ _ from h) g hb
theorem fl_eql (f : Fl) (w : World) : (binOp .eql 63 (.agg #[.int .u64 f.so, .int .u64 f.ck, .int .u64 f.rate, .int .i64 f.cr, .int .u64 f.nx, .int .u64 f.db, .int .u64 f.ag]) (.agg #[.int .u64 f.so, .int .u64 f.ck, .int .u64 f.rate, .int .i64 f.cr, .int .u64 f.nx, .int .u64 f.db, .int .u64 f.ag])).run Try.prog w = .ok (.bool true) w := by
  go_simp
theorem fl_neq (f : Fl) (w : World) : (binOp .neq 63 (.agg #[.int .u64 f.so, .int .u64 f.ck, .int .u64 f.rate, .int .i64 f.cr, .int .u64 f.nx, .int .u64 f.db, .int .u64 f.ag]) (.agg #[.int .u64 f.so, .int .u64 f.ck, .int .u64 f.rate, .int .i64 f.cr, .int .u64 f.nx, .int .u64 f.db, .int .u64 f.ag])).run Try.prog w = .ok (.bool false) w := by
  go_simp

theorem flow_rate_b (f : Fl) (p : Pc) (hf : f.Fits) (hp : p.Fits) (w : World) :
    Calls Try.prog 34 #[f.v, p.v] w fun e w' => e = .returned (.int .u64 (f.by p)) ∧ Below w.heap.size w w' := by
  refine (flow_rate f p hf hp w).mono ?_
  rintro e w' ⟨rfl, rfl⟩
  exact ⟨rfl, ((Below.refl _ _).alloc (Nat.le_refl _) _).alloc (by simp) _⟩
theorem half_of {x : Int} (h : (Lit.int .i64 x).wf = true) : Half x := by
  simp [Lit.wf, IntKind.min, IntKind.max, IntKind.signed, IntKind.bits] at h
  exact ⟨by omega, by omega⟩
theorem pc_of {cs : List Value} (h : Fits [some .i64, some .i64, some .u64, some .u64, some .u64] cs) : ∃ p : Pc, p.Fits ∧ Value.agg cs.toArray = .agg p.c := by
  match cs, h.length with
  | [v0, v1, v2, v3, v4], _ =>
    obtain ⟨⟨x0, rfl, h0⟩, ⟨x1, rfl, h1⟩, ⟨x2, rfl, h2⟩, ⟨x3, rfl, h3⟩, ⟨x4, rfl, h4⟩, _⟩ := h
    exact ⟨⟨x0, x1, x2, x3, x4⟩, ⟨half_of h0, half_of h1, word_of_wf h2, word_of_wf h3, word_of_wf h4⟩, rfl⟩
theorem fl_of {cs : List Value} (h : Fits [some .u64, some .u64, some .u64, some .i64, some .u64, some .u64, some .u64] cs) : ∃ f : Fl, f.Fits ∧ Value.agg cs.toArray = .agg f.c := by
  match cs, h.length with
  | [v0, v1, v2, v3, v4, v5, v6], _ =>
    obtain ⟨⟨x0, rfl, h0⟩, ⟨x1, rfl, h1⟩, ⟨x2, rfl, h2⟩, ⟨x3, rfl, h3⟩, ⟨x4, rfl, h4⟩, ⟨x5, rfl, h5⟩, ⟨x6, rfl, h6⟩, _⟩ := h
    exact ⟨⟨x0, x1, x2, x3, x4, x5, x6⟩, ⟨word_of_wf h0, word_of_wf h1, word_of_wf h2, half_of h3, word_of_wf h4, word_of_wf h5, word_of_wf h6⟩, rfl⟩

end Go.Proofs.Ytmokkbhfhbgkmaa
