/-
  The program's own Take of a new place, and its own Give (package arena).
-/
import Derived.Test.YtmaofmbnlfggiabArenaOwnT
import Derived.Test.YtmaofmbnlfggiabArenaOwnB
namespace Go.Proofs.Ytmaofmbnlfggiab
open Go.RowKit
set_option linter.unusedVariables false

theorem info_u64 : (Try.prog.info? 32).map (fun i => (i.zero, i.size, i.bytes)) = some (some (.int .u64 0), 1, 8) := by kernel_rfl

theorem Boxed3.not_own {w : World} {b : Nat} {v0 v1 v2 : Value} (h : Boxed3 w b v0 v1 v2) {base e size n : Nat} {v : Value} {xs : List Value} (hr : w.ownsRow base e size v n xs) (he : e ≠ 86) : some b ≠ v.ownBlock :=
  fun e => h.not_row hr he e.symm
section
variable {N : Nat → Prop} {W w5 : World} {b : Nat} {ph : Option Addr} {ch : Nat} {pa : Option Addr} {ca : Nat} {g : Gh} {o : Obj} {v : Value} {x : Nat}
/-- A new place is appended. -/
theorem Lies.newly (h : Lies N W b ph ch pa ca g) (hb0 : g.bk = []) (hl : g.ts.length = g.l.length) (hx : g.l.length + 1 = x) (own : w5.ownsRow 0 32 1 v (g.l.length + 1) ((heldRow g).map u64V ++ [.int .u64 (x : Int)])) (gr : (W.alloc o).grownBy w5 (Value.slice ph g.l.length ch).ownBlock) (loc : v.ownBlock = (Value.slice ph g.l.length ch).ownBlock ∨ v.ownBlock = some (W.alloc o).heap.size) :
    Went AtP N W ⟨b, 0, none⟩ ⟨g.ts ++ [1], g.l ++ [true], g.bk, g.room⟩ (w5.setCell ⟨b, 1, none⟩ v) := by
  obtain ⟨p', c', rfl⟩ := owns_slice own
  have X5 := (h.box.alloc o).grown gr (h.box.not_own h.rh (by decide))
  have hs : W.heap.size ≤ (W.alloc o).heap.size := by simp
  have hs5 := gr.size
  have ra5 := (h.ra.alloc o).kept gr (far_or h.ne)
  have hfar : ∀ k, (Value.slice pa g.bk.length ca).ownBlock = some k → (Value.slice p' (g.l.length + 1) c').ownBlock ≠ some k := by
    intro k hk e
    rcases loc with e2 | e2
    · exact h.ne k hk (e2.symm.trans e)
    · rw [e] at e2
      have h1 := (h.ra.lt k hk).2
      have h2 : k = (W.alloc o).heap.size := Option.some.inj e2
      omega
  have hnew : ∀ k, (Value.slice p' (g.l.length + 1) c').ownBlock = some k → N k ∨ W.heap.size ≤ k := by
    intro k e
    rcases loc with e2 | e2
    · exact .inl (h.nh k (e2.symm.trans e))
    · rw [e] at e2
      have h2 : k = (W.alloc o).heap.size := Option.some.inj e2
      exact .inr (by omega)
  refine ⟨fun k => N k ∨ (Value.slice p' (g.l.length + 1) c').ownBlock = some k, ⟨b, p', c', pa, ca, rfl, ?_⟩, (((Turned.refl N W).alloc o).grown gr (fun k e _ => h.nh k e)).set h.nb _, fun k hk => hk.elim .inl (hnew k)⟩
  have eA : againRow ⟨g.ts ++ [1], g.l ++ [true], g.bk, g.room⟩ = againRow g := by simp [againRow, hb0]
  refine { box := ?_, rh := ?_, ra := by rw [eA]; exact X5.row ra5 (by decide), ne := ?_, nb := .inl h.nb, nh := ?_, na := fun k e => .inl (h.na k e), lt := ?_, pos := h.pos }
  · show Boxed3 _ b _ (.slice p' (g.l ++ [true]).length c') _
    rw [List.length_append]
    exact X5.set1 _
  · show World.ownsRow _ 0 _ 1 (.slice p' (g.l ++ [true]).length c') (g.l ++ [true]).length _
    rw [heldRow_newly hl, List.length_append, List.map_append, hx]
    exact X5.row own (by decide)
  · show ∀ k, _ → (Value.slice p' (g.l ++ [true]).length c').ownBlock ≠ some k
    rw [List.length_append]
    exact hfar
  · show ∀ k, (Value.slice p' (g.l ++ [true]).length c').ownBlock = some k → _
    rw [List.length_append]
    exact fun k e => .inr e
  · intro k hk
    rw [World.size_setCell]
    rcases hk with hk | hk
    · have := h.lt k hk; omega
    · exact (own.lt k hk).2

/-- A place is not held any more. -/
theorem Lies.freed {gh : Nat} (h : Lies N W b (some ⟨gh, 0, none⟩) ch pa ca g) {p : Nat} (hp : p < g.l.length) :
    Lies N (W.setCell ⟨gh, p, none⟩ (.int .u64 0)) b (some ⟨gh, 0, none⟩) ch pa ca ⟨g.ts, g.l.set p false, g.bk, g.room⟩ := by
  have hgb : b ≠ gh := fun e => h.box.not_row h.rh (by decide) (by rw [e]; rfl)
  have ra := h.ra.kept (grownBy_set W gh p (.int .u64 0)) (far_or (v := .slice (some ⟨gh, 0, none⟩) g.l.length ch) h.ne)
  refine { box := ?_, rh := ?_, ra := ra, ne := h.ne, nb := h.nb, nh := h.nh, na := h.na, lt := fun k hk => by rw [World.size_setCell]; exact h.lt k hk, pos := h.pos }
  · show Boxed3 _ b _ (.slice (some ⟨gh, 0, none⟩) (g.l.set p false).length ch) _
    rw [List.length_set]
    exact h.box.other hgb _
  · show World.ownsRow _ 0 _ 1 (.slice (some ⟨gh, 0, none⟩) (g.l.set p false).length ch) (g.l.set p false).length _
    rw [List.length_set, heldRow_given hp, List.map_set]
    exact (h.rh.stored p (.int .u64 0)).1

/-- A place is appended to those that were given back. -/
theorem Lies.backed (h : Lies N W b ph ch pa ca g) {p : Nat} (hx : (g.ts[p]?.getD 0) * 4294967296 + p + 1 = x) (own : w5.ownsRow 0 32 1 v (g.bk.length + 1) ((againRow g).map u64V ++ [.int .u64 (x : Int)])) (gr : (W.alloc o).grownBy w5 (Value.slice pa g.bk.length ca).ownBlock) (loc : v.ownBlock = (Value.slice pa g.bk.length ca).ownBlock ∨ v.ownBlock = some (W.alloc o).heap.size) :
    Went AtP N W ⟨b, 0, none⟩ ⟨g.ts, g.l, g.bk ++ [p], g.room⟩ (w5.setCell ⟨b, 2, none⟩ v) := by
  obtain ⟨p', c', rfl⟩ := owns_slice own
  have X5 := (h.box.alloc o).grown gr (h.box.not_own h.ra (by decide))
  have hs : W.heap.size ≤ (W.alloc o).heap.size := by simp
  have hs5 := gr.size
  have rh5 := (h.rh.alloc o).kept gr (far_or fun k hk e => h.ne k e hk)
  have hfar : ∀ k, (Value.slice p' (g.bk.length + 1) c').ownBlock = some k → (Value.slice ph g.l.length ch).ownBlock ≠ some k := by
    intro k e hk
    rcases loc with e2 | e2
    · exact h.ne k (e2.symm.trans e) hk
    · rw [e] at e2
      have h1 := (h.rh.lt k hk).2
      have h2 : k = (W.alloc o).heap.size := Option.some.inj e2
      omega
  have hnew : ∀ k, (Value.slice p' (g.bk.length + 1) c').ownBlock = some k → N k ∨ W.heap.size ≤ k := by
    intro k e
    rcases loc with e2 | e2
    · exact .inl (h.na k (e2.symm.trans e))
    · rw [e] at e2
      have h2 : k = (W.alloc o).heap.size := Option.some.inj e2
      exact .inr (by omega)
  refine ⟨fun k => N k ∨ (Value.slice p' (g.bk.length + 1) c').ownBlock = some k, ⟨b, ph, ch, p', c', rfl, ?_⟩, (((Turned.refl N W).alloc o).grown gr (fun k e _ => h.na k e)).set h.nb _, fun k hk => hk.elim .inl (hnew k)⟩
  refine { box := ?_, rh := X5.row rh5 (by decide), ra := ?_, ne := ?_, nb := .inl h.nb, nh := fun k e => .inl (h.nh k e), na := ?_, lt := ?_, pos := h.pos }
  · show Boxed3 _ b _ _ (.slice p' (g.bk ++ [p]).length c')
    rw [List.length_append]
    exact X5.set2 _
  · show World.ownsRow _ 0 _ 1 (.slice p' (g.bk ++ [p]).length c') (g.bk ++ [p]).length _
    have e : againRow ⟨g.ts, g.l, g.bk ++ [p], g.room⟩ = againRow g ++ [x] := by
      unfold againRow
      simp [hx]
    rw [e, List.length_append, List.map_append]
    exact X5.row own (by decide)
  · show ∀ k, (Value.slice p' (g.bk ++ [p]).length c').ownBlock = some k → _
    rw [List.length_append]
    exact hfar
  · show ∀ k, (Value.slice p' (g.bk ++ [p]).length c').ownBlock = some k → _
    rw [List.length_append]
    exact fun k e => .inr e
  · intro k hk
    rw [World.size_setCell]
    rcases hk with hk | hk
    · have := h.lt k hk; omega
    · exact (own.lt k hk).2
end

theorem own_take_new {N w b ph ch pa ca g M} (h : Lies N w b ph ch pa ca g) (ok : g.Ok M) (hb0 : g.bk = []) (hf : ¬ g.full) (x : Nat) (hx : g.l.length + 1 = x) :
    Calls Try.prog 25 #[.pointer (some ⟨b, 0, none⟩)] w (TookP AtP N w ⟨b, 0, none⟩ ⟨g.ts ++ [1], g.l ++ [true], g.bk, g.room⟩ x 0) := by
  obtain ⟨i0, hi, hz0, hz1, hz2⟩ := info_parts info_u64
  have HM := Lib.hid (own_made h)
  have HLies := Lib.hid h
  obtain ⟨c0, c1, c2⟩ := h.box.cells
  have h1 := ok.fits
  have h2 := ok.small
  have h3 := ok.cnt
  have h4 : g.l.count true ≠ g.room := hf
  have h5 : g.bk.length = 0 := by rw [hb0]; rfl
  have h6 : ((g.l.length : Int) == (g.room : Int)) = false := by rw [beq_eq_false_iff_ne]; omega
  have hlt : g.l.length < 65536 := by omega
  rw [h5] at c2
  have HL := Lib.hid (own_last_none pa ca w)
  have hb := h.box.lt
  have HLEN := Lib.hid ok.len
  have hx2 : g.l.length + 1 ≤ maxLen := by unfold maxLen; omega
  have HX := Lib.hid hx
  have HB0 := Lib.hid hb0
  clear h ok hf h3 h4 h5 hx hb0
  go_enter Try.func25, Try.ntmps25
  go_wp2_with fail
  refine HM.out.mono ?_
  rintro e w1 ⟨rfl, rfl⟩
  go_wp2_with fail
  refine HL.out.mono ?_
  rintro e w2 ⟨rfl, g2⟩
  have d0 := (g2.cell (p := ⟨b, 0, none⟩) hb).trans c0
  have d1 := (g2.cell (p := ⟨b, 1, none⟩) hb).trans c1
  clear c0 c1 c2
  go_wp2_with fail
  go_quiet (fail)
  have HB3 := Lib.hid (below_drewN g2 nq)
  have HL3 := Lib.hid (HLies.out.below HB3.out)
  obtain ⟨W3, HW3⟩ : ∃ W3, Hid (w2.drewN nq = W3) := ⟨_, Lib.hid rfl⟩
  rw [HW3.out] at HB3 HL3 ⊢
  clear d0 d1 g2 HW3 HLies HL HM
  obtain ⟨e0, e1, e2⟩ := HL3.out.box.cells
  have rh4 := HL3.out.rh.alloc (.cells #[.int .u64 ((g.l.length : Int) + 1)] 32)
  go_upto_region 12 with (first | (at_builtin; (refine wpList_append_own_at _ rfl (.tmp 54) (.tmp 56) 38 rfl 0 32 i0 (.int .u64 0) 1 8 Try.underlying38 hi hz0 hz1 hz2 rfl (by decide) (.slice ph g.l.length ch) g.l.length _ rfl rh4 ⟨W3.heap.size, 0, none⟩ 1 1 [.int .u64 ((g.l.length : Int) + 1)] rfl rfl (cell_one_new _ _ _) (by intro u hu; simp at hu; subst hu; rfl) hx2 (by omega) (Nat.zero_le _) ?_; intro v5 w5 own5 gr5 nil5 loc5; obtain ⟨p5, c5, rfl⟩ := owns_slice own5; have X5 := (HL3.out.box.alloc (.cells #[.int .u64 ((g.l.length : Int) + 1)] 32)).grown gr5 (HL3.out.box.not_own HL3.out.rh (by decide)); have fx := X5.frozen; obtain ⟨k0, k1, k2⟩ := X5.cells)))
  have HXZ : Hid ((x : Int) = (g.l.length : Int) + 1) := by have := HX.out; show (x : Int) = _; omega
  have HO := Lib.hid own5
  rw [← HXZ.out] at HO
  have HW := Lib.hid ((HL3.out.newly HB0.out HLEN.out HX.out HO.out gr5 loc5).after HB3.out)
  clear HO own5 gr5 loc5 nil5 X5 fx k0 k1 k2 e0 e1 e2 rh4
  go_wp2_with fail
  go_ret2
  exact ⟨by rw [HXZ.out]; rfl, HW.out⟩

theorem own_give_no {N w b ph ch pa ca g M} (h : Lies N w b ph ch pa ca g) (ok : g.Ok M) (hM : M ≤ 1000) (x : Nat) (hx : x < 18446744073709551616) (hn : placeOf g.ts g.l x = none) :
    Calls Try.prog 30 #[.pointer (some ⟨b, 0, none⟩), .int .u64 (x : Int)] w fun e w' => e = .returned (.int .i64 40) ∧ w' = w := by
  have HM := Lib.hid (own_made h)
  have HP := Lib.hid (own_place h ok (by omega) x hx)
  rw [hn] at HP
  clear h ok hn
  go_enter Try.func30, Try.ntmps30
  go_wp2_with fail
  refine HM.out.mono ?_
  rintro e w1 ⟨rfl, rfl⟩
  go_wp2_with fail
  refine HP.out.mono ?_
  rintro e w1 ⟨rfl, rfl⟩
  unfold placeV
  simp only [Option.getD_none, Option.isSome_none]
  go_wp2_with fail
  go_ret
  exact ⟨rfl, rfl⟩

theorem own_give {N w b gh ch pa ca g M} (h : Lies N w b (some ⟨gh, 0, none⟩) ch pa ca g) (ok : g.Ok M) (hM : M ≤ 1000) (x p n y : Nat) (hx : x < 18446744073709551616) (hp : placeOf g.ts g.l x = some p) (hpl : p < g.l.length) (hn : g.ts[p]? = some n) (hy : n * 4294967296 + p + 1 = y) (hxy : x + 4294967296 = y) :
    Calls Try.prog 30 #[.pointer (some ⟨b, 0, none⟩), .int .u64 (x : Int)] w (GaveP AtP N w ⟨b, 0, none⟩ (g.give p) 0) := by
  obtain ⟨i0, hi, hz0, hz1, hz2⟩ := info_parts info_u64
  have HM := Lib.hid (own_made h)
  have HP := Lib.hid (own_place h ok (by omega) x hx)
  rw [hp] at HP
  have HLies := Lib.hid h
  obtain ⟨c0, c1, c2⟩ := h.box.cells
  have h1 := ok.fits
  have h2 := ok.small
  have h3 := ok.cnt
  have hn1 := ok.le p n hn
  have hpz : (p : Int) < (g.l.length : Int) := by omega
  have hgb : gh ≠ b := fun e => h.box.not_row h.rh (by decide) (by rw [e]; rfl)
  have cp : ∃ v, w.cell? ⟨gh, p, none⟩ = some v := ⟨_, by rw [h.rh.cellAt p (by omega), List.getElem?_map, heldRow_get hpl]; rfl⟩
  obtain ⟨v, cp⟩ := cp
  have fp := h.rh.frozenAt p
  have hx2 : g.bk.length + 1 ≤ maxLen := by unfold maxLen; omega
  have hx3 : g.bk.length ≤ 65536 := by omega
  have hxy2 : IntKind.u64.wrap ((x : Int) + 4294967296) = (y : Int) := by rw [IntKind.wrap_u64]; omega
  have HN := Lib.hid hn
  have HY := Lib.hid hy
  have HXY := Lib.hid hxy
  clear h ok hn hp hy hxy h3
  go_enter Try.func30, Try.ntmps30
  go_wp2_with fail
  refine HM.out.mono ?_
  rintro e w1 ⟨rfl, rfl⟩
  go_wp2_with fail
  refine HP.out.mono ?_
  rintro e w1 ⟨rfl, rfl⟩
  unfold placeV
  simp only [Option.getD_some, Option.isSome_some]
  go_upto_region 7 with fail
  have HL3 := Lib.hid (HLies.out.freed hpl)
  have HT3 := Lib.hid ((Turned.refl N w1).set (b := gh) (i := p) (HLies.out.nh gh rfl) (.int .u64 0))
  have HS3 : Hid ((w1.setCell ⟨gh, p, none⟩ (.int .u64 0)).heap.size = w1.heap.size) := by show _ = _; simp
  obtain ⟨W3, HW3⟩ : ∃ W3, Hid (w1.setCell ⟨gh, p, none⟩ (.int .u64 0) = W3) := ⟨_, Lib.hid rfl⟩
  rw [HW3.out] at HL3 HT3 HS3 ⊢
  clear HW3 HLies HM HP c0 c1 c2 cp fp
  obtain ⟨e0, e1, e2⟩ := HL3.out.box.cells
  have e2' : W3.cell? ⟨b, 2, none⟩ = some (.slice pa g.bk.length ca) := e2
  clear e0 e1 e2
  have rh4 : (W3.alloc (.cells #[.int .u64 (y : Int)] 32)).ownsRow 0 32 1 (.slice pa g.bk.length ca) g.bk.length ((againRow g).map u64V) := HL3.out.ra.alloc (.cells #[.int .u64 (y : Int)] 32)
  go_upto_region 8 with (first | (at_builtin; (refine wpList_append_own_at _ rfl (.tmp 28) (.tmp 31) 38 rfl 0 32 i0 (.int .u64 0) 1 8 Try.underlying38 hi hz0 hz1 hz2 rfl (by decide) (.slice pa g.bk.length ca) g.bk.length _ rfl rh4 ⟨W3.heap.size, 0, none⟩ 1 1 [.int .u64 (y : Int)] rfl rfl (cell_one_new _ _ _) (by intro u hu; simp at hu; subst hu; rfl) hx2 (by omega) (Nat.zero_le _) ?_; intro v5 w5 own5 gr5 nil5 loc5; obtain ⟨p5, c5, rfl⟩ := owns_slice own5; have X5 := (HL3.out.box.alloc (.cells #[.int .u64 (y : Int)] 32)).grown gr5 (HL3.out.box.not_own HL3.out.ra (by decide)); have fx := X5.frozen; obtain ⟨k0, k1, k2⟩ := X5.cells)))
  have HW := Lib.hid (HL3.out.backed (p := p) (x := y) (by show (g.ts[p]?.getD 0) * 4294967296 + p + 1 = y; rw [HN.out]; exact HY.out) own5 gr5 loc5)
  clear own5 gr5 loc5 nil5 X5 fx k0 k1 k2 rh4 e2'
  go_wp2_with fail
  go_ret
  obtain ⟨N', q1, q2, q3⟩ := HW.out
  exact ⟨rfl, N', q1, HT3.out.trans q2, fun k hk => (q3 k hk).imp id (fun h => by rw [HS3.out] at h; exact h)⟩

end Go.Proofs.Ytmaofmbnlfggiab
