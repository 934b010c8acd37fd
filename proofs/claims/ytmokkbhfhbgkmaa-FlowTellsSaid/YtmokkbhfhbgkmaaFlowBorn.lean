/-
  Born, of both, with the world told outright.
-/
import Derived.Test.YtmokkbhfhbgkmaaFlowRef
namespace Go.Proofs.Ytmokkbhfhbgkmaa
open Go.RowKit
set_option linter.unusedVariables false
set_option linter.unusedSimpArgs false
set_option maxRecDepth 100000

theorem flow_born_x (so ck : Int) (p : Pc) (w : World) :
    Calls Try.prog 24 #[.int .u64 so, .int .u64 ck, p.v] w fun e w' => e = .returned (Fl.born so ck p).v ∧ w' = (w.alloc (.cells p.c 59)).alloc (.cells (Fl.born so ck p).c 63) := by
  obtain ⟨q, first, refill, most, low⟩ := p
  simp only [Fl.v, Pc.v, Fl.c, Pc.c, Fl.born]
  go_enter Try.func24, Try.ntmps24
  go_wp2_with fail
  exact bodyPost_ret (v := .agg #[.int .u64 so, .int .u64 ck, .int .u64 0, .int .i64 first, .int .u64 0, .int .u64 0, .int .u64 0]) (by simp [results, Try.f24, go_sem]) rfl ⟨rfl, rfl⟩
theorem ref12_born_x (so ck : Int) (p : Pc) (w : World) :
    Calls Try.prog 25 #[.int .u64 so, .int .u64 ck, p.v] w fun e w' => e = .returned (Fl.born so ck p).v ∧ w' = (((w.alloc (.cells p.c 59)).alloc (.cells (Fl.born so ck p).c 63)).alloc (.cells (Fl.born so ck p).c 63)).drew := by
  obtain ⟨q, first, refill, most, low⟩ := p
  simp only [Fl.v, Pc.v, Fl.c, Pc.c, Fl.born]
  go_enter Try.func25, Try.ntmps25
  go_upto_region 2 with fail
  go_region_held3 (fun w' => w'.cell? ⟨w.heap.size, 1, none⟩ = some (.int .i64 first)) (first | go_simp | (go_simp; done)) (fail)
  all_goals
    go_wp2_with fail
    exact bodyPost_ret (v := .agg #[.int .u64 so, .int .u64 ck, .int .u64 0, .int .i64 first, .int .u64 0, .int .u64 0, .int .u64 0]) (by simp [results, Try.f25, go_sem]) rfl ⟨rfl, rfl⟩

end Go.Proofs.Ytmokkbhfhbgkmaa
