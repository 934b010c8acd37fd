/-
  The program's own Take (package arena).
-/
import Derived.Test.YtmaofmbnlfggiabArenaOwnL
import Derived.Deep.AppendLies
import Derived.Maps.AppendAt
namespace Go.Proofs.Ytmaofmbnlfggiab
open Go.RowKit
set_option linter.unusedVariables false

theorem own_last_none (p : Option Addr) (c : Nat) (w : World) :
    Calls Try.prog 34 #[.slice p 0 c] w fun e w' => e = .returned (.tuple #[.int .u64 0, .slice none 0 0, .bool false]) ∧ Below w.heap.size w w' := by
  go_enter Try.func34, Try.ntmps34
  go_wp2_with fail
  go_ret3
  exact ⟨rfl, Below.refl _ _⟩

theorem own_last (ga m c x : Nat) (w : World) (hm : m < 65536) (hc : m + 1 ≤ c) (hc2 : c ≤ 9223372036854775807) (cx : w.cell? ⟨ga, m, none⟩ = some (.int .u64 (x : Int))) :
    Calls Try.prog 34 #[.slice (some ⟨ga, 0, none⟩) (m + 1) c] w fun e w' => e = .returned (.tuple #[.int .u64 (x : Int), .slice (some ⟨ga, 0, none⟩) m c, .bool true]) ∧ Below w.heap.size w w' := by
  go_enter Try.func34, Try.ntmps34
  go_wp2_with fail
  go_quiet (fail)
  go_wp2_with fail
  go_ret3
  exact ⟨rfl, below_drewN (Below.refl _ _) _⟩

theorem own_take_full {N w b ph ch pa ca g M} (h : Lies N w b ph ch pa ca g) (ok : g.Ok M) (hf : g.full) :
    Calls Try.prog 25 #[.pointer (some ⟨b, 0, none⟩)] w fun e w' => e = .returned (.tuple #[.int .u64 0, .int .i64 4]) ∧ Below w.heap.size w w' := by
  have HM := Lib.hid (own_made h)
  obtain ⟨c0, c1, c2⟩ := h.box.cells
  have h1 := ok.fits
  have h2 := ok.small
  have h3 := ok.cnt
  have h4 : g.l.count true = g.room := hf
  have h5 : g.bk.length = 0 := by omega
  have h6 : g.l.length = g.room := by omega
  rw [h5] at c2
  rw [h6] at c1
  have HL := Lib.hid (own_last_none pa ca w)
  have hb := h.box.lt
  clear h ok hf h1 h3 h4 h5 h6
  go_enter Try.func25, Try.ntmps25
  go_wp2_with fail
  refine HM.out.mono ?_
  rintro e w1 ⟨rfl, rfl⟩
  go_wp2_with fail
  refine HL.out.mono ?_
  rintro e w2 ⟨rfl, g2⟩
  have d0 := (g2.cell (p := ⟨b, 0, none⟩) hb).trans c0
  have d1 := (g2.cell (p := ⟨b, 1, none⟩) hb).trans c1
  clear c0 c1 c2
  go_wp2_with fail
  go_quiet (fail)
  go_wp2_with fail
  go_ret2
  exact ⟨rfl, below_drewN g2 _⟩

theorem own_take_back {N w b gh ch ga ca g M} (h : Lies N w b (some ⟨gh, 0, none⟩) ch (some ⟨ga, 0, none⟩) ca g) (ok : g.Ok M) (hM : M ≤ 1000) (bk : List Nat) (p n x : Nat) (hbk : g.bk = bk ++ [p]) (hn : g.ts[p]? = some n) (hx : n * 4294967296 + p + 1 = x) :
    Calls Try.prog 25 #[.pointer (some ⟨b, 0, none⟩)] w (TookP AtP N w ⟨b, 0, none⟩ g.take x 0) := by
  have HM := Lib.hid (own_made h)
  have HLies := Lib.hid h
  obtain ⟨c0, c1, c2⟩ := h.box.cells
  have hbl : g.bk.length = bk.length + 1 := by rw [hbk]; simp
  rw [hbl] at c2
  have h1 := ok.fits
  have h2 := ok.small
  have h3 := ok.cnt
  obtain ⟨hca, hca2⟩ := own_cap h.ra
  have hpf := ok.free p (by rw [hbk]; simp)
  have hpl := (List.getElem?_eq_some_iff.1 hpf).1
  have hn1 := ok.le p n hn
  have cx : w.cell? ⟨ga, bk.length, none⟩ = some (.int .u64 (x : Int)) := by
    rw [h.ra.cellAt bk.length (by omega), List.getElem?_map]
    unfold againRow
    rw [hbk]
    simp [hn, u64V, ← hx]
  have HL := Lib.hid (own_last ga bk.length ca x w (by omega) (by omega) hca2 cx)
  have hs : spoken x = p := by unfold spoken; omega
  have HS := Lib.hid (fun w' => own_placeOf x w' (by omega))
  rw [hs] at HS
  have hpz : (p : Int) < (g.l.length : Int) := by omega
  have hb := h.box.lt
  have HOK := Lib.hid ok
  have HBK := Lib.hid hbk
  have HN := Lib.hid hn
  clear h ok hbl h3 cx hbk hn hpf hs
  go_enter Try.func25, Try.ntmps25
  go_wp2_with fail
  refine HM.out.mono ?_
  rintro e w1 ⟨rfl, rfl⟩
  go_wp2_with fail
  refine HL.out.mono ?_
  rintro e w2 ⟨rfl, g2⟩
  have HL2 := Lib.hid (HLies.out.below g2)
  obtain ⟨d0, d1, d2⟩ := HL2.out.box.cells
  have fx := HL2.out.box.frozen
  have hgb : gh ≠ b := fun e => HL2.out.box.not_row HL2.out.rh (by decide) (by rw [e]; rfl)
  clear c0 c1 c2
  go_upto_region 6 with fail
  have HG := Lib.hid g2
  have HW := Lib.hid (HL2.out.took HOK.out HBK.out HN.out hx)
  have rh3 := HL2.out.box.row (i := 2) (u := .slice (some ⟨ga, 0, none⟩) bk.length ca) HL2.out.rh (by decide)
  have X3 := HL2.out.box.set2 (.slice (some ⟨ga, 0, none⟩) bk.length ca)
  obtain ⟨W3, HW3⟩ : ∃ W3, Hid (w2.setCell ⟨b, 2, none⟩ (.slice (some ⟨ga, 0, none⟩) bk.length ca) = W3) := ⟨_, Lib.hid rfl⟩
  rw [HW3.out] at X3 rh3 ⊢
  obtain ⟨e0, e1, e2⟩ := X3.cells
  have cp : ∃ v, W3.cell? ⟨gh, p, none⟩ = some v := ⟨_, by rw [rh3.cellAt p (by omega), List.getElem?_map, heldRow_get hpl]; rfl⟩
  obtain ⟨v, cp⟩ := cp
  have fp := rh3.frozenAt p
  clear d0 d1 d2 fx X3 rh3 g2 HL2 HLies HL
  go_region_held3 (fun w' => w'.cell? ⟨b, 1, none⟩ = some (.slice (some ⟨gh, 0, none⟩) g.l.length ch))
    (first | go_keep | exact e1)
    (first | (go_at_call 35; refine (HS.out _).mono ?_; rintro e w3 ⟨rfl, rfl⟩))
  go_wp2_with fail
  rw [← HW3.out]
  go_ret2
  exact ⟨rfl, (HW.out).after HG.out⟩

end Go.Proofs.Ytmaofmbnlfggiab
