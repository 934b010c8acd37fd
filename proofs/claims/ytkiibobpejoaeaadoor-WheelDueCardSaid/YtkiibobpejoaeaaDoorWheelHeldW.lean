/-
  The program's own wheel: Held; with it, the wheel keeps what layer 9's laws ask of one (WheelK).
-/
import Derived.Test.YtkiibobpejoaeaaDoorWheelPut
import Derived.Test.YtkiibobpejoaeaaDoorWheelAdv
import Derived.Test.YtkiibobpejoaeaaDoorWheelHeldCore
import Derived.StillTailTactics
namespace Go.Proofs.YtkiibobpejoaeaaDoor
open Go.RowKit
set_option linter.unusedVariables false
set_option linter.unusedSimpArgs false

theorem held_at {g : Wg} {R : Nat → List Tw} {tl : List Tw} (h : RelW g R tl) (ok : g.Ok) {i : Nat} (hi : i < g.slots) : g.held[i]? = some (R ((g.cur % g.slots + i) % g.slots)).length := by
  have hS : 0 < g.slots := by omega
  have hp : (g.cur % g.slots + i) % g.slots < g.slots := Nat.mod_lt _ hS
  have e1 : (g.cur % g.slots + i) % g.slots = (g.cur + i) % g.slots := by rw [Nat.mod_add_mod]
  have e2 : slotAt g.slots g.cur ((g.cur % g.slots + i) % g.slots) = g.cur + i := by
    rw [e1]
    exact (slot_of (S := g.slots) (cur := g.cur) (a := g.cur + i) (by omega) (by omega)).symm
  rw [rel_held h ok hp, e2]
  unfold Wg.held
  rw [List.getElem?_map, List.getElem?_range hi]
  rfl
set_option maxHeartbeats 4000000 in
set_option maxRecDepth 100000 in
theorem atw_held {N : Nat → Prop} {w : World} {a : Addr} {g : Wg} (h : AtW N w a g) (ok : g.Ok) :
    Calls Tryd.prog 20 #[.pointer (some a)] w fun e w' => ∃ p c, e = .returned (.slice p g.slots c) ∧ w'.ownsRow w.heap.size 3 1 (.slice p g.slots c) g.slots (g.held.map natV) ∧ Below w.heap.size w w' := by
  obtain ⟨hn, R, tl, ⟨b, gs, fa, NB, sv, dv, m, rfl, h1, h2, h3⟩, rel⟩ := h
  have HM := Lib.hid (w_made h1.box)
  have HLie := Lib.hid h1
  have HHeld := Lib.hid (fun (i : Nat) (hi : i < g.slots) => held_at rel ok hi)
  obtain ⟨S, HS⟩ : ∃ S, Hid (g.slots = S) := ⟨_, Lib.hid rfl⟩
  have hs1 := ok.s1
  have hs2 := ok.s2
  have hcur := ok.cur
  have HLen := Lib.hid (held_len g)
  obtain ⟨bg, HBg⟩ : ∃ bg, Hid (g.cur % g.slots = bg) := ⟨_, Lib.hid rfl⟩
  have hbg : bg < g.slots := by rw [← HBg.out]; exact Nat.mod_lt _ (by omega)
  have HPl0 := fun (W : World) (bw : Below w.heap.size w W) => w_place ((h1.below bw).box) hs1 hs2 g.cur hcur
  have e5 : g.cur % (wsOf g R).S = bg := HBg.out
  simp only [e5] at HPl0
  have HPl := Lib.hid HPl0
  rw [HBg.out] at HHeld
  obtain ⟨c0, c1, c2, c3, c4, c5, c6, c7, c8⟩ := h1.box.cells
  simp only [wsOf] at c0 c1 c2 c3 c4 c5 c6 c7 c8
  rw [HS.out] at hs1 hs2 hbg c4 HHeld HLen ⊢
  obtain ⟨inf, hi1, hi2, hi3, hi4⟩ := info_parts (P := Tryd.prog) (e := 3) (z := .int .i64 0) (size := 1) (bytes := 8) (by kernel_rfl)
  have r1 := run_make_cells (P := Tryd.prog) 50 3 inf (.int .i64 0) 1 (by kernel_rfl) hi1 hi2 hi3 (S : Int) S rfl (by rw [hi4]; omega) (by omega)
  rw [Nat.mul_one] at r1
  have HB1 := Lib.hid ((Below.refl _ w).alloc (Nat.le_refl _) (.cells (madeCells #[.int .i64 0] S) 3))
  have HR1 : Hid (RowN (w.alloc (.cells (madeCells #[.int .i64 0] S) 3)) w.heap.size 3 S (fun _ => 0)) := Lib.hid (RowN.made w 3 #[.int .i64 0] S (fun j hj => by
    have : j = 0 := by simp at hj; omega
    subst this
    rfl) (by simp))
  clear h1 rel ok hi1 hi2 hi3 hi4 HPl0 e5
  go_enter Tryd.func20, Tryd.ntmps20
  go_wp2_with fail
  refine HM.out.mono ?_
  rintro e w1 ⟨rfl, rfl⟩
  go_upto_region 4 with fail
  clear r1
  obtain ⟨B, HB⟩ : ∃ B, Hid (w1.heap.size = B) := ⟨_, Lib.hid rfl⟩
  obtain ⟨W2, HW2⟩ : ∃ W2, Hid (w1.alloc (.cells (madeCells #[.int .i64 0] S) 3) = W2) := ⟨_, Lib.hid rfl⟩
  rw [HW2.out] at HB1 HR1 ⊢
  have HLie2 := Lib.hid (HLie.out.below HB1.out)
  have HP2 := Lib.hid (HPl.out W2 HB1.out)
  rw [HB.out] at HB1 HR1 ⊢
  have d3 : W2.cell? ⟨b, 3, none⟩ = some (.int .u64 (g.cur : Int)) := HLie2.out.box.cells.2.2.2.1
  clear c0 c1 c2 c3 c4 c5 c6 c7 c8 HW2
  go_wp2_with fail
  refine HP2.out.mono ?_
  rintro e w3 ⟨rfl, rfl⟩
  clear d3 HP2 HLie2
  go_wp2_with fail
  go_loopg [23] S (fun r v23 wx => ∃ i : Nat, i + r = S ∧ v23 = .int .i64 (i : Int) ∧ Hid (RowN wx B 3 S (fun j => if j < i then (R ((bg + j) % S)).length else 0) ∧ Below B w1 wx))
  case atStart => exact ⟨0, by omega, rfl, Lib.hid ⟨HR1.out.congr (fun i hi => by rw [if_neg (by omega)]), HB1.out⟩⟩
  case round =>
    obtain ⟨i, hi, rfl, HR⟩ := hrel
    clear HR1 HB1
    by_cases hie : i = S
    · have hiz : ¬ (i : Int) < (S : Int) := by omega
      have HE : Hid (wr.ownsRow w1.heap.size 3 1 (.slice (some ⟨B, 0, none⟩) S S) S (g.held.map natV)) := by
        have h5 := HR.out.1.owns g.held HLen.out (fun j hj => by
          rw [if_pos (by have := HLen.out; omega)]
          have h6 := HHeld.out j (by have := HLen.out; omega)
          rw [List.getElem?_eq_getElem hj] at h6
          exact (Option.some.inj h6).symm) (base := w1.heap.size) (by rw [HB.out]; exact Nat.le_refl _) (by unfold maxLen; omega)
        rw [HLen.out] at h5
        exact Lib.hid h5
      go_wp2_with fail
      go_ret
      exact ⟨_, _, rfl, HE.out, by rw [HB.out]; exact HR.out.2⟩
    · have hiz : (i : Int) < (S : Int) := by omega
      have hiz0 : (0 : Int) ≤ (i : Int) := by omega
      obtain ⟨pl, HPp⟩ : ∃ pl, Hid ((bg + i) % S = pl) := ⟨_, Lib.hid rfl⟩
      have hpl : pl < S := by rw [← HPp.out]; exact Nat.mod_lt _ (by omega)
      have HLieR := Lib.hid (HLie.out.below (by rw [HB.out]; exact HR.out.2))
      have hplS : pl < (wsOf g R).S := by show pl < g.slots; rw [HS.out]; exact hpl
      obtain ⟨ps, cs, hsv⟩ := owns_slice (HLieR.out.sl.row pl hplS)
      have d4 : wr.cell? ⟨b, 4, none⟩ = some (.slice (some ⟨gs, 0, none⟩) S S) := by
        have h5 := HLieR.out.box.cells.2.2.2.2.1
        have e6 : (wsOf g R).S = S := HS.out
        rw [e6] at h5
        exact h5
      have g0 : wr.cell? ⟨gs, pl, none⟩ = some (.slice ps (R pl).length cs) := by
        have h5 := HLieR.out.sl.gr.cell hplS
        rw [hsv] at h5
        exact h5
      have x0 := HR.out.1.cell (i := i) (by omega)
      have fx := HR.out.1.frozen i
      have hm1 : Int.tmod ((bg : Int) + (i : Int)) (S : Int) = (pl : Int) := by rw [← HPp.out]; rfl
      have hm2 : ((bg : Int) + (i : Int)) % (S : Int) = (pl : Int) := by rw [← HPp.out]; rfl
      have hz1 : ((S : Int) == 0) = false := by rw [beq_eq_false_iff_ne]; omega
      have hz2 : ¬ (S : Int) = 0 := by omega
      have hz3 : ¬ S = 0 := by omega
      have hpz0 : (0 : Int) ≤ (pl : Int) := by omega
      have hpz : (pl : Int) < (S : Int) := by omega
      have hwp : IntKind.i64.wrap (pl : Int) = (pl : Int) := by rw [IntKind.wrap_i64]; omega
      have hws : IntKind.i64.wrap ((bg : Int) + (i : Int)) = (bg : Int) + (i : Int) := by rw [IntKind.wrap_i64]; omega
      have hwi : IntKind.i64.wrap ((i : Int) + 1) = ((i + 1 : Nat) : Int) := by rw [IntKind.wrap_i64]; omega
      have HR9 : Hid (RowN (wr.setCell ⟨B, i, none⟩ (.int .i64 ((R pl).length : Int))) B 3 S (fun j => if j < i + 1 then (R ((bg + j) % S)).length else 0) ∧ Below B w1 (wr.setCell ⟨B, i, none⟩ (.int .i64 ((R pl).length : Int)))) := by
        refine Lib.hid ⟨(HR.out.1.set i (R pl).length).congr (fun j hj => ?_), HR.out.2.setCell (Nat.le_refl _) _⟩
        by_cases c : j = i
        · subst c
          rw [upd_at, if_pos (by omega), HPp.out]
        · rw [upd_ne c]
          by_cases c2 : j < i
          · rw [if_pos c2, if_pos (by omega)]
          · rw [if_neg c2, if_neg (by omega)]
      clear hsv
      go_upto_region 8 with fail
      go_still_tail 19, (by kernel_rfl)
      change wpList _ _ _ _ _ wr.drew
      go_wp2_with fail
      go_roundg (S - (i + 1))
      case measure => omega
      case rel => exact ⟨i + 1, by omega, by go_num, Lib.hid ⟨HR9.out.1.same rfl, HR9.out.2.drew⟩⟩

/-- The program's own wheel. -/
def wheelK : WheelK where
  At := AtW
  lt := fun h => h.lt
  kept := fun h k _ => h.kept k
  new := fun slots width room w h1 h2 h3 h4 h5 h6 => w_new slots width room w h1 h2 h3 h4 h5 h6
  put := fun v t h ok hn hv ht => atw_put v t h ok hn hv ht (slotW_lt ok.w1 ht)
  advance := fun now h ok hn hT => w_advance now h ok hn hT
  take := fun h ok => atw_take h ok
  due := fun h ok => atw_due h
  waits := fun h ok => atw_waits h
  cursor := fun h ok => atw_cursor h
  next := fun h ok hT => atw_next h ok hT
  held := fun h ok => atw_held h ok

end Go.Proofs.YtkiibobpejoaeaaDoor
