/-
  What the document's own Take of layer 4 answers.
-/
import Derived.Test.YtmaofmbnlfggiabArenaCopied
import Derived.Deep.RegionHeld3
namespace Go.Proofs.Ytmaofmbnlfggiab
open Go.RowKit
set_option linter.unusedVariables false

theorem Boxed4.drew {w : World} {b : Nat} {v0 v1 v2 v3 : Value} (h : Boxed4 w b v0 v1 v2 v3) : Boxed4 w.drew b v0 v1 v2 v3 := h
theorem below_two {w : World} (o1 o2 : Obj) : Below w.heap.size w ((w.alloc o1).alloc o2) := ((Below.refl _ w).alloc (Nat.le_refl _) _).alloc (by simp) _

set_option maxHeartbeats 2000000 in
/-- Take, where all places are taken. -/
theorem ref_take_full (pt pk pb : Option Addr) (nt ct nk ck nb cb room : Nat) (l : List Bool) (w : World) (hl : l.length ≤ 65536) (hk : w.ownsRow 0 4 1 (.slice pk nk ck) l.length (l.map Value.bool)) (hfull : trues l l.length = room) :
    Calls Try.prog 29 #[.agg #[.slice pt nt ct, .slice pk nk ck, .slice pb nb cb, .int .i64 (room : Int)]] w fun e w' =>
      e = .returned (.tuple #[.agg #[.slice pt nt ct, .slice pk nk ck, .slice pb nb cb, .int .i64 (room : Int)], .int .u64 0, .int .i64 4]) ∧ Below w.heap.size w w' := by
  have HX := Lib.hid ((Boxed4.new w (.slice pt nt ct) (.slice pk nk ck) (.slice pb nb cb) (.int .i64 (room : Int))).alloc (.cells #[.slice none 0 0, .slice none 0 0, .slice none 0 0, .int .i64 0] 30))
  have HR := Lib.hid (Boxed4.new (w.alloc (.cells #[.slice pt nt ct, .slice pk nk ck, .slice pb nb cb, .int .i64 (room : Int)] 30)) (.slice none 0 0) (.slice none 0 0) (.slice none 0 0) (.int .i64 0))
  rw [World.size_alloc] at HR
  have HB := Lib.hid (below_two (w := w) (.cells #[.slice pt nt ct, .slice pk nk ck, .slice pb nb cb, .int .i64 (room : Int)] 30) (.cells #[.slice none 0 0, .slice none 0 0, .slice none 0 0, .int .i64 0] 30))
  have HK := Lib.hid (fun w' (g : Below w.heap.size w w') => ref_used pt pk pb nt ct nk ck nb cb (room : Int) l w' hl (owns_below hk g))
  rw [hfull] at HK
  clear hk hfull
  go_enter Try.func29, Try.ntmps29
  go_upto_region 1 with fail
  obtain ⟨W2, HW⟩ : ∃ W2, Hid ((w.alloc (.cells #[.slice pt nt ct, .slice pk nk ck, .slice pb nb cb, .int .i64 (room : Int)] 30)).alloc (.cells #[.slice none 0 0, .slice none 0 0, .slice none 0 0, .int .i64 0] 30) = W2) := ⟨_, Lib.hid rfl⟩
  rw [HW.out] at HX HR HB ⊢
  obtain ⟨c0, c1, c2, c3⟩ := HX.out.cells
  go_region_held3 (fun w' => w'.cell? ⟨w.heap.size, 0, none⟩ = some (.slice pt nt ct) ∧ w'.cell? ⟨w.heap.size, 1, none⟩ = some (.slice pk nk ck) ∧ w'.cell? ⟨w.heap.size, 2, none⟩ = some (.slice pb nb cb) ∧ w'.cell? ⟨w.heap.size, 3, none⟩ = some (.int .i64 (room : Int)))
    (first | go_keep | exact d5)
    (first | (go_at_call 36; (refine (HK.out W2.drew HB.out.drew).mono ?_; rintro e w3 ⟨rfl, g3⟩; have d5 := (HX.out.drew.below g3).cells)))
  have hX3 := HX.out.drew.below g3
  have hR3 := HR.out.drew.below g3
  have HB3 := Lib.hid (HB.out.drew.trans (g3.mono HB.out.size))
  have HR4 := Lib.hid (hR3.put (.slice pt nt ct) (.slice pk nk ck) (.slice pb nb cb) (.int .i64 (room : Int)))
  obtain ⟨e0, e1, e2, e3⟩ := hX3.cells
  obtain ⟨r0, r1, r2, r3⟩ := hR3.cells
  have fr := hR3.frozen
  clear c0 c1 c2 c3 d5 g3
  go_wp2_with fail
  obtain ⟨k0, k1, k2, k3⟩ := HR4.out.cells
  unfold put4 at k0 k1 k2 k3
  refine bodyPost_ret (v := .tuple #[.agg #[.slice pt nt ct, .slice pk nk ck, .slice pb nb cb, .int .i64 (room : Int)], .int .u64 0, .int .i64 4]) ?_ rfl ⟨rfl, below_put4 HB3.out (by omega) _ _ _ _⟩
  simp [results, Try.f29, go_sem, k0, k1, k2, k3]

end Go.Proofs.Ytmaofmbnlfggiab
