/-
  The program's own bitmap: All.
-/
import Derived.Test.YtlpniacffahnkabDoorBitAt
namespace Go.Proofs.YtlpniacffahnkabDoor
open Go.RowKit
set_option linter.unusedVariables false

/-- A row that is none yet, of some capacity. -/
theorem own_room (w : World) (c : Nat) (hc : c ≤ 65600) : (w.alloc (.cells (madeCells #[.int .i64 0] c) 3)).ownsRow w.heap.size 3 1 (.slice (some ⟨w.heap.size, 0, none⟩) 0 c) 0 [] :=
  ⟨rfl, .inr ⟨w.heap.size, c, _, rfl, Nat.le_refl _, Box.new w 3 _, Nat.zero_le _, by simp [maxLen]; omega, by rw [size_madeCells]; omega, by simp⟩⟩
/-- make of no element, with room for k: the world behind it. -/
theorem run_make_room {P : Program} (t e : TypeId) (i : TypeInfo) (z : Value) (ht : P.underlying t = some (.slice e)) (hi : P.info? e = some i) (hz : i.zero = some z) (hsize : i.size = 1)
    (k : Nat) (hbytes : (i.bytes : Int) * k ≤ 281474976710656) (h63 : k ≤ 65600) (W : World) :
    (Instr.makeSlice t (.int .i64 0) (.int .i64 (k : Int))).run P W = .ok (.slice (some ⟨W.heap.size, 0, none⟩) 0 k) (W.alloc (.cells (madeCells z.cells (k * 1)) e)) := by
  have hrun := run_make (P := P) W t e i z ht hi hz .i64 .i64 0 k (by omega) (by omega) hbytes (by omega)
  simp only [Int.toNat_natCast, hsize] at hrun
  exact hrun
section
variable {N : Nat → Prop} {w w' : World} {a : Addr} {g : Bg}
theorem c_all (h : BmAt N w a g) (hT : Tab w) : Calls Tryd.prog 23 #[.pointer (some a)] w fun e w' => ∃ p c, e = .returned (.slice p g.l.length c) ∧ w'.ownsRow w.heap.size 3 1 (.slice p g.l.length c) g.l.length (g.l.map natV) ∧ Below w.heap.size w w' := by
  have hm := h.in_
  obtain ⟨hn1, hn2⟩ := h.n1
  have HLn := Lib.hid (c_len h)
  have hle : g.l.length ≤ 65536 := Nat.le_trans (markL_le _ _) hn2
  have HN : Hid (∀ W t, Below w.heap.size w W → t ≤ 65536 → Calls Tryd.prog 15 #[.pointer (some a), .int .i64 ((t : Nat) : Int)] W fun e w' => (∃ o, IsNext g.m (t : Int) o ∧ e = .returned (.tuple #[.int .i64 ((o.getD 0 : Nat) : Int), .bool o.isSome])) ∧ Below W.heap.size W w') := Lib.hid fun W t b ht => c_next (h.below b) (hT.below b) (t : Int) (by omega) (by omega)
  obtain ⟨inf, hi1, hi2, hi3, hi4⟩ := info_parts (P := Tryd.prog) (e := 3) (z := .int .i64 0) (size := 1) (bytes := 8) (by kernel_rfl)
  obtain ⟨L, HL⟩ : ∃ L, Hid (g.l.length = L) := ⟨_, Lib.hid rfl⟩
  have r1 := run_make_room (P := Tryd.prog) 39 3 inf (.int .i64 0) rfl hi1 hi2 hi3 g.l.length (by rw [hi4]; omega) (by omega)
  simp only [Nat.mul_one, show (Value.int .i64 0).cells = #[.int .i64 0] from rfl] at r1
  have HR := Lib.hid (own_room w g.l.length (by omega))
  have HB := Lib.hid ((Below.refl _ w).alloc (Nat.le_refl _) (.cells (madeCells #[.int .i64 0] g.l.length) 3))
  obtain ⟨W, HW⟩ : ∃ W, Hid (w.alloc (.cells (madeCells #[.int .i64 0] g.l.length) 3) = W) := ⟨_, Lib.hid rfl⟩
  rw [HW.out] at HR HB
  rw [HL.out] at HLn r1 HR HW hle ⊢
  clear h hT
  go_enter Tryd.func23, Tryd.ntmps23
  go_upto_region 2 with (go_at_call 24; refine HLn.out.mono ?_; rintro e w1 ⟨rfl, rfl⟩)
  rw [HW.out]
  go_wp2_with fail
  refine (HN.out _ 0 HB.out (by omega)).mono ?_
  rintro e w2 ⟨⟨o, ho, rfl⟩, b2⟩
  have HO := Lib.hid ho
  have HB2 := Lib.hid (below_tr HB.out b2)
  have HR2 := Lib.hid (owns_below HR.out b2)
  clear ho b2 HR HB HW
  go_upto_region 3 with fail
  go_loopg [3, 4, 5] (g.n + 1) (fun s v3 v4 v5 wx => ∃ (t : Nat) (o : Option Nat) (p : Option Addr) (c : Nat), g.n + 1 - t = s ∧ t ≤ g.n ∧ v3 = .slice p (upB g.n g.m t).length c ∧ v4 = .int .i64 ((o.getD 0 : Nat) : Int) ∧ v5 = .bool o.isSome ∧ Hid (IsNext g.m (t : Int) o) ∧ Hid (wx.ownsRow w1.heap.size 3 1 (.slice p (upB g.n g.m t).length c) (upB g.n g.m t).length ((upB g.n g.m t).map natV)) ∧ Hid (Below w1.heap.size w1 wx))
  case atStart => exact ⟨0, o, _, _, rfl, by omega, by rw [upB_zero]; rfl, rfl, rfl, HO, Lib.hid (by rw [upB_zero]; exact HR2.out), HB2⟩
  case round =>
    clear HO HB2 HR2 r1
    obtain ⟨t, o, p, c, rfl, ht, rfl, rfl, rfl, HO, HR, HB⟩ := hrel
    cases o with
    | none =>
      have HE : Hid (upB g.n g.m t = g.l) := Lib.hid (upB_end hm HO.out)
      rw [HE.out] at HR ⊢
      rw [HL.out] at HR ⊢
      clear HE HO HN
      go_wp2_with fail
      go_ret
      exact ⟨p, c, rfl, HR.out, HB.out⟩
    | some i =>
      have hi : i < g.n := hm i HO.out.1
      have hti : t ≤ i := by have := HO.out.2.1; omega
      have HE := Lib.hid (upB_step HO.out hi)
      have hlen : (upB g.n g.m t).length ≤ 65536 := Nat.le_trans (markL_le _ _) hn2
      obtain ⟨j, HJ⟩ : ∃ j, Hid (i + 1 = j) := ⟨_, Lib.hid rfl⟩
      have hii : (i : Int) + 1 = (j : Int) := by have := HJ.out; omega
      rw [HJ.out] at HE
      have hjn : j ≤ g.n := by have := HJ.out; omega
      have htj : t < j := by have := HJ.out; omega
      have r5 := owns_below HR.out ((Below.refl _ wr).alloc (Nat.le_refl _) (.cells #[.int .i64 (i : Int)] 3))
      have hsl := lit_one (e := 3) wr (.int .i64 (i : Int))
      have hb5 := HB.out.size
      have HB5 := Lib.hid (HB.out.alloc hb5 (.cells #[.int .i64 (i : Int)] 3))
      clear HO HR HB hm
      generalize upB g.n g.m t = l0 at *
      have hml : l0.length + 1 ≤ maxLen := by simp only [maxLen]; omega
      go_wp2_with (first | (at_builtin; (refine wpList_append_any _ rfl (.tmp 22) (.tmp 24) 39 rfl w1.heap.size 3 inf (.int .i64 0) 1 8 Tryd.underlying39 hi1 hi2 hi3 hi4 rfl (by decide) (.slice p l0.length c) l0.length _ rfl r5 0 _ 1 [.int .i64 (i : Int)] rfl hsl (by intro u hu; simp at hu; subst hu; rfl) hml (by omega) (by simp; omega) ?_; intro p5 c5 w5 own5 gr5 loc5)))
      have HB6 := Lib.hid (below_grown HB5.out r5 (Nat.le_refl _) gr5)
      have HR6 : Hid (w5.ownsRow w1.heap.size 3 1 (.slice p5 (upB g.n g.m j).length c5) (upB g.n g.m j).length ((upB g.n g.m j).map natV)) := by
        rw [HE.out, List.length_append, List.map_append]
        exact Lib.hid own5
      have hle6 : l0.length + 1 = (upB g.n g.m j).length := by rw [HE.out]; simp
      clear own5 gr5 loc5 r5 hsl HB5
      rw [hle6]
      refine (HN.out _ j HB6.out (by omega)).mono ?_
      rintro e w6 ⟨⟨o', ho', rfl⟩, b6⟩
      have HO6 := Lib.hid ho'
      have HB7 := Lib.hid (below_tr HB6.out b6)
      have HR7 := Lib.hid (owns_below HR6.out b6)
      clear ho' b6 HB6 HR6 HE hle6
      go_wp2_with fail
      go_roundg (g.n + 1 - j)
      case measure => omega
      case rel => exact ⟨j, o', p5, c5, rfl, hjn, rfl, rfl, rfl, HO6, HR7, HB7⟩
end

end Go.Proofs.YtlpniacffahnkabDoor
