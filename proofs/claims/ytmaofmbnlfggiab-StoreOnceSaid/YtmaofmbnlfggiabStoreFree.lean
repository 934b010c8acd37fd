/-
  The program's own store: Free.
-/
import Derived.Test.YtmaofmbnlfggiabStorePut
namespace Go.Proofs.Ytmaofmbnlfggiab
open Go.RowKit
set_option linter.unusedVariables false
set_option linter.unusedSimpArgs false

theorem slie_free {w : World} {b p k : Nat} {aa : Addr} {NA : Nat → Prop} {hv' : Value} {hl : List Hl} {g : Sg} {M : Nat} {x : Hl} (ok : g.Ok M) (hat : g.a.at k = some p) (hlk : look g.l k = some x) (hpl : p < hl.length) (hslots : ∀ j x, hl[j]? = some x → x = g.slot j) (hout : ∀ j, hl.length ≤ j → hd g.a.ts g.a.l j = none) (hlen : hl.length ≤ 65536)
    (box : SBox w b aa hv' (g.bytes - x.pk.len) g.next) (ar : arenaK.At NA w aa (g.a.give p)) (row : w.ownsRow 0 48 7 hv' (setL hl p Hl.zero).length (flatH (setL hl p Hl.zero))) (nab : ¬ NA b) (nar : ∀ k, NA k → hv'.ownBlock ≠ some k) :
    SLie w b aa NA hv' (setL hl p Hl.zero) (g.free k p) := by
  have hL : (setL hl p Hl.zero).length = hl.length := by rw [setL_len]; omega
  refine ⟨?_, ar, row, fun j y hy => ?_, fun j hj => ?_, by rw [hL]; exact hlen, nab, nar⟩
  · have e : (g.free k p).bytes = g.bytes - x.pk.len := bytes_one ok.nodup hlk
    rw [e]
    exact box
  · have hj : j < max hl.length (p + 1) := by rw [← setL_len hl p Hl.zero]; exact (List.getElem?_eq_some_iff.1 hy).1
    rw [setL_get _ _ _ _ hj] at hy
    rw [slot_free ok hat, ← Option.some.inj hy]
    by_cases c : j = p
    · rw [if_pos c, if_pos c]
    · rw [if_neg c, if_neg c]
      have c2 : j < hl.length := by omega
      rw [List.getElem?_eq_getElem c2]
      exact hslots j _ (List.getElem?_eq_getElem c2)
  · rw [hL] at hj
    exact hd_give (hout j hj)
def FreeOut (x : Hl) (t : Bool) : Ending := .returned (.tuple #[x.v, .bool t])
theorem zeros_box (W : World) : Box (W.alloc (.cells #[.int .u64 0, .int .u64 0, .int .i64 0, .int .u8 0, .int .u64 0, .int .u64 0, .int .u64 0] 48)) W.heap.size 48 #[.int .u64 0, .int .u64 0, .int .i64 0, .int .u8 0, .int .u64 0, .int .u64 0, .int .u64 0] := Box.new _ _ _
section
variable {w : World} {b : Nat} {aa : Addr} {NA N : Nat → Prop} {hv : Value} {hl : List Hl} {g : Sg} {M : Nat} {a : Addr}
set_option maxHeartbeats 8000000 in
set_option maxRecDepth 100000 in
theorem s_free_no (h : AtS N w a g) (ok : g.Ok M) (hM : M ≤ 1000) (k : Nat) (hk : k < 18446744073709551616) (hlk : look g.l k = none) : Calls Try.prog 13 #[.pointer (some a), .int .u64 (k : Int)] w fun e w' => e = FreeOut Hl.zero false ∧ WentG AtS N w a g w' := by
  have HAtS := Lib.hid h
  obtain ⟨b, aa, NA, hv, hl, rfl, h, hN⟩ := h
  have HB1 := Lib.hid ((Below.refl _ w).alloc (Nat.le_refl _) (.cells #[.int .u64 0, .int .u64 0, .int .i64 0, .int .u8 0, .int .u64 0, .int .u64 0, .int .u64 0] 48))
  have HX1 := Lib.hid (zeros_box w)
  have hG := s_get (h.below HB1.out) ok hM k hk
  have HG : Hid (Calls Try.prog 15 #[.pointer (some ⟨b, 0, none⟩), .int .u64 (k : Int)] (w.alloc (.cells #[.int .u64 0, .int .u64 0, .int .i64 0, .int .u8 0, .int .u64 0, .int .u64 0, .int .u64 0] 48)) fun e w' => e = .returned (.tuple #[.agg #[.int .u64 0, .int .u64 0, .int .i64 0, .int .u8 0, .int .u64 0, .int .u64 0, .int .u64 0], .bool false]) ∧ Below (w.alloc (.cells #[.int .u64 0, .int .u64 0, .int .i64 0, .int .u8 0, .int .u64 0, .int .u64 0, .int .u64 0] 48)).heap.size (w.alloc (.cells #[.int .u64 0, .int .u64 0, .int .i64 0, .int .u8 0, .int .u64 0, .int .u64 0, .int .u64 0] 48)) w') := Lib.hid (hG.mono fun e w' (hh : _ ∧ _) => ⟨by rw [hh.1, hlk]; rfl, hh.2⟩)
  clear h hN hG hlk ok
  go_enter Try.func13, Try.ntmps13
  go_upto_region 1 with fail
  obtain ⟨rb, HRb⟩ : ∃ rb, Hid (w.heap.size = rb) := ⟨_, Lib.hid rfl⟩
  obtain ⟨W1, HW1⟩ : ∃ W1, Hid (w.alloc (.cells #[.int .u64 0, .int .u64 0, .int .i64 0, .int .u8 0, .int .u64 0, .int .u64 0, .int .u64 0] 48) = W1) := ⟨_, Lib.hid rfl⟩
  rw [HW1.out] at HB1 HX1 HG ⊢
  rw [HRb.out] at HX1 ⊢
  clear HW1
  go_wp2_with fail
  refine HG.out.mono ?_
  rintro e W2 ⟨rfl, b2⟩
  have HB2 := Lib.hid (below_tr HB1.out b2)
  have HX2 := Lib.hid (HX1.out.below b2 HX1.out.lt)
  have HB3 := Lib.hid (HB2.out.alloc HB2.out.size (.cells #[.int .u64 0, .int .u64 0, .int .i64 0, .int .u8 0, .int .u64 0, .int .u64 0, .int .u64 0] 48))
  have HX3 := Lib.hid (HX2.out.alloc (.cells #[.int .u64 0, .int .u64 0, .int .i64 0, .int .u8 0, .int .u64 0, .int .u64 0, .int .u64 0] 48))
  clear b2 HG HB1 HX1
  go_upto_region 2 with fail
  obtain ⟨W3, HW3⟩ : ∃ W3, Hid (W2.alloc (.cells #[.int .u64 0, .int .u64 0, .int .i64 0, .int .u8 0, .int .u64 0, .int .u64 0, .int .u64 0] 48) = W3) := ⟨_, Lib.hid rfl⟩
  rw [HW3.out] at HB3 HX3 ⊢
  clear HW3
  have r0 : W3.cell? ⟨rb, 0, none⟩ = some (.int .u64 0) := HX3.out.cell 0
  have r1 : W3.cell? ⟨rb, 1, none⟩ = some (.int .u64 0) := HX3.out.cell 1
  have r2 : W3.cell? ⟨rb, 2, none⟩ = some (.int .i64 0) := HX3.out.cell 2
  have r3 : W3.cell? ⟨rb, 3, none⟩ = some (.int .u8 0) := HX3.out.cell 3
  have r4 : W3.cell? ⟨rb, 4, none⟩ = some (.int .u64 0) := HX3.out.cell 4
  have r5 : W3.cell? ⟨rb, 5, none⟩ = some (.int .u64 0) := HX3.out.cell 5
  have r6 : W3.cell? ⟨rb, 6, none⟩ = some (.int .u64 0) := HX3.out.cell 6
  have f0 := HX3.out.frozen 0
  have f1 := HX3.out.frozen 1
  have f2 := HX3.out.frozen 2
  have f3 := HX3.out.frozen 3
  have f4 := HX3.out.frozen 4
  have f5 := HX3.out.frozen 5
  have f6 := HX3.out.frozen 6
  have HF := Lib.hid (fill7 HX3.out Hl.zero)
  have HEnd : Hid (WentG AtS N w ⟨b, 0, none⟩ g (put7 W3 rb 0 Hl.zero)) := Lib.hid (went_s HAtS.out (put7_below HB3.out (by rw [HRb.out]; exact Nat.le_refl _) _))
  go_wp2_with fail
  change bodyPost _ _ _ _ _ (put7 W3 rb 0 Hl.zero)
  obtain ⟨W4, HW4⟩ : ∃ W4, Hid (put7 W3 rb 0 Hl.zero = W4) := ⟨_, Lib.hid rfl⟩
  rw [HW4.out] at HEnd HF ⊢
  have k0 := HF.out.cell 0
  have k1 := HF.out.cell 1
  have k2 := HF.out.cell 2
  have k3 := HF.out.cell 3
  have k4 := HF.out.cell 4
  have k5 := HF.out.cell 5
  have k6 := HF.out.cell 6
  simp only [Hl.cells, Hl.zero, Pk.zero, List.getElem?_toArray, List.getElem?_cons_zero, List.getElem?_cons_succ] at k0 k1 k2 k3 k4 k5 k6
  refine bodyPost_ret (v := .tuple #[Hl.v Hl.zero, .bool false]) ?_ rfl ⟨rfl, HEnd.out⟩
  simp [results, Try.f13, go_sem, k0, k1, k2, k3, k4, k5, k6, Hl.v, Hl.cells, Hl.zero, Pk.zero]
set_option maxHeartbeats 8000000 in
set_option maxRecDepth 100000 in
theorem s_free (h : AtS N w a g) (ok : g.Ok M) (hM : M ≤ 1000) (k : Nat) (hk : k < 18446744073709551616) (p : Nat) (hat : g.a.at k = some p) (x : Hl) (hx : look g.l k = some x) : Calls Try.prog 13 #[.pointer (some a), .int .u64 (k : Int)] w fun e w' => e = FreeOut x true ∧ WentG AtS N w a (g.free k p) w' := by
  obtain ⟨b, aa, NA, hv, hl, rfl, h, hN⟩ := h
  have HLie := Lib.hid h
  have HOk := Lib.hid ok
  have HNn := Lib.hid hN
  have HAt := Lib.hid hat
  have HLk := Lib.hid hx
  have hby := bytes_le ok
  have hbyl : g.bytes ≤ 4294967296 := by
    have h5 := ok.cnt
    have h6 := ok.a.fits
    have h7 := ok.a.small
    have h8 : g.a.l.count true ≤ g.a.l.length := List.count_le_length
    omega
  have hmay := (ok.fits _ (look_mem hx)).2.1
  obtain ⟨X, HX⟩ : ∃ X, Hid (x = X) := ⟨_, Lib.hid rfl⟩
  have hXl : X.pk.len = x.pk.len := by rw [HX.out]
  have hlen0 : 1 ≤ x.pk.len ∧ x.pk.len ≤ 65536 := ⟨hmay.1, hmay.2.1⟩
  obtain ⟨_, _, _, _, hpl⟩ := h.at_ ok hat
  have hpl65 : p < 65536 := by have := h.len; omega
  rw [HX.out] at HLk hx ⊢
  obtain ⟨⟨sock, cookie, len, prio, at_⟩, seq, came⟩ := x
  simp only at hlen0 hXl
  have HXl := Lib.hid hXl
  have hXv : X.v = .agg #[.int .u64 (sock : Int), .int .u64 (cookie : Int), .int .i64 len, .int .u8 (prio : Int), .int .u64 (at_ : Int), .int .u64 (seq : Int), .int .u64 (came : Int)] := by rw [← HX.out]; rfl
  have hXc : X.cells.toArray = #[.int .u64 (sock : Int), .int .u64 (cookie : Int), .int .i64 len, .int .u8 (prio : Int), .int .u64 (at_ : Int), .int .u64 (seq : Int), .int .u64 (came : Int)] := by rw [← HX.out]; rfl
  have HXc := Lib.hid hXc
  have HXv := Lib.hid hXv
  have HB1 := Lib.hid ((Below.refl _ w).alloc (Nat.le_refl _) (.cells #[.int .u64 0, .int .u64 0, .int .i64 0, .int .u8 0, .int .u64 0, .int .u64 0, .int .u64 0] 48))
  have HX1 := Lib.hid (zeros_box w)
  have HLie1 := Lib.hid (h.below HB1.out)
  have hG := s_get HLie1.out ok hM k hk
  have HG : Hid (Calls Try.prog 15 #[.pointer (some ⟨b, 0, none⟩), .int .u64 (k : Int)] (w.alloc (.cells #[.int .u64 0, .int .u64 0, .int .i64 0, .int .u8 0, .int .u64 0, .int .u64 0, .int .u64 0] 48)) fun e w' => e = .returned (.tuple #[.agg #[.int .u64 (sock : Int), .int .u64 (cookie : Int), .int .i64 len, .int .u8 (prio : Int), .int .u64 (at_ : Int), .int .u64 (seq : Int), .int .u64 (came : Int)], .bool true]) ∧ Below (w.alloc (.cells #[.int .u64 0, .int .u64 0, .int .i64 0, .int .u8 0, .int .u64 0, .int .u64 0, .int .u64 0] 48)).heap.size (w.alloc (.cells #[.int .u64 0, .int .u64 0, .int .i64 0, .int .u8 0, .int .u64 0, .int .u64 0, .int .u64 0] 48)) w') := Lib.hid (hG.mono fun e w' (hh : _ ∧ _) => ⟨by rw [hh.1, hx, ← hXv]; rfl, hh.2⟩)
  have hZv : Hl.zero.v = .agg #[.int .u64 0, .int .u64 0, .int .i64 0, .int .u8 0, .int .u64 0, .int .u64 0, .int .u64 0] := rfl
  have HZv := Lib.hid hZv
  clear h hN hG hx ok hat hXl hXv hXc hmay hZv
  go_enter Try.func13, Try.ntmps13
  go_upto_region 1 with fail
  obtain ⟨rb, HRb⟩ : ∃ rb, Hid (w.heap.size = rb) := ⟨_, Lib.hid rfl⟩
  obtain ⟨W1, HW1⟩ : ∃ W1, Hid (w.alloc (.cells #[.int .u64 0, .int .u64 0, .int .i64 0, .int .u8 0, .int .u64 0, .int .u64 0, .int .u64 0] 48) = W1) := ⟨_, Lib.hid rfl⟩
  rw [HW1.out] at HB1 HX1 HG HLie1 ⊢
  rw [HRb.out] at HX1 ⊢
  clear HW1
  go_wp2_with fail
  refine HG.out.mono ?_
  rintro e W2 ⟨rfl, b2⟩
  have HB2 := Lib.hid (below_tr HB1.out b2)
  have HX2 := Lib.hid (HX1.out.below b2 HX1.out.lt)
  have HLie2 := Lib.hid (HLie1.out.below b2)
  have HA3 := Lib.hid ((Below.refl _ W2).alloc (Nat.le_refl _) (.cells #[.int .u64 (sock : Int), .int .u64 (cookie : Int), .int .i64 len, .int .u8 (prio : Int), .int .u64 (at_ : Int), .int .u64 (seq : Int), .int .u64 (came : Int)] 48))
  have HY3 := Lib.hid (Box.new W2 48 #[.int .u64 (sock : Int), .int .u64 (cookie : Int), .int .i64 len, .int .u8 (prio : Int), .int .u64 (at_ : Int), .int .u64 (seq : Int), .int .u64 (came : Int)])
  clear b2 HG
  go_upto_region 2 with fail
  obtain ⟨xb, HXb⟩ : ∃ xb, Hid (W2.heap.size = xb) := ⟨_, Lib.hid rfl⟩
  obtain ⟨W3, HW3⟩ : ∃ W3, Hid (W2.alloc (.cells #[.int .u64 (sock : Int), .int .u64 (cookie : Int), .int .i64 len, .int .u8 (prio : Int), .int .u64 (at_ : Int), .int .u64 (seq : Int), .int .u64 (came : Int)] 48) = W3) := ⟨_, Lib.hid rfl⟩
  rw [HW3.out] at HA3 HY3 ⊢
  have HB3 := Lib.hid (below_tr HB2.out HA3.out)
  have HX3 := Lib.hid (HX2.out.below HA3.out HX2.out.lt)
  have HLie3 := Lib.hid (HLie2.out.below HA3.out)
  rw [HXb.out] at HY3 ⊢
  clear HW3 HX1 HX2 HLie1 HLie2
  have HPl := Lib.hid (arenaK.place k HLie3.out.ar HOk.out.a hM hk)
  have hpo : placeOf g.a.ts g.a.l k = some p := HAt.out
  rw [hpo] at HPl
  clear hpo
  obtain ⟨c0, c1, c2, c3, c4⟩ := HLie3.out.box.cells
  go_wp2_with fail
  refine HPl.out.mono ?_
  rintro e W4 ⟨rfl, b4⟩
  have HB4 := Lib.hid (below_tr HB3.out b4)
  have HX4 := Lib.hid (HX3.out.below b4 HX3.out.lt)
  have HY4 := Lib.hid (HY3.out.below b4 HY3.out.lt)
  have HLie4 := Lib.hid (HLie3.out.below b4)
  have HLay := Lib.hid (s_lay HLie4.out.box HLie4.out.row HLie4.out.len p hpl65 Hl.zero)
  rw [HZv.out] at HLay
  clear b4 HPl c0 c1 c2 c3 c4 HX3 HY3 HLie3
  simp only [placeV, Option.getD_some, Option.isSome_some]
  go_wp2_with fail
  refine HLay.out.mono ?_
  rintro e W5 ⟨rfl, hv', l5⟩
  have HL5 := Lib.hid l5
  have hxbs : w.heap.size ≤ xb := by have := HB2.out.size; have := HXb.out; omega
  have hrb1 : ¬ (rb = b ∨ hv.ownBlock = some rb) := by
    have := HLie.out.box.lt
    have := HRb.out
    rintro (e | e)
    · omega
    · have := (HLie.out.row.lt rb e).2; omega
  have hxb1 : ¬ (xb = b ∨ hv.ownBlock = some xb) := by
    have := HLie.out.box.lt
    rintro (e | e)
    · omega
    · have := (HLie.out.row.lt xb e).2; omega
  have HX5 := Lib.hid (HX4.out.turned l5.lo hrb1)
  have HY5 := Lib.hid (HY4.out.turned l5.lo hxb1)
  have HAr5 : Hid (arenaK.At NA W5 aa g.a) := Lib.hid (arenaK.kept HLie4.out.ar (fun j hj => l5.lo.block j (arenaK.lt HLie4.out.ar j hj) (fun e => e.elim (fun e => HLie.out.nab (e ▸ hj)) (fun e => HLie.out.nar j hj e))) l5.lo.size)
  clear l5 HLay
  have y2 : W5.cell? ⟨xb, 2, none⟩ = some (.int .i64 len) := HY5.out.cell 2
  have c3 : W5.cell? ⟨b, 3, none⟩ = some (.int .i64 g.bytes) := HL5.out.box.cells.2.2.2.1
  have fz := HL5.out.box.frozen 3
  have hsum : IntKind.i64.wrap (g.bytes - len) = g.bytes - len := by rw [IntKind.wrap_i64]; omega
  have HBox6 : Hid (SBox (W5.setCell ⟨b, 3, none⟩ (.int .i64 (g.bytes - len))).drew b aa hv' (g.bytes - len) g.next) := Lib.hid (Box.set (show Box W5 b _ _ from HL5.out.box) 3 _)
  go_upto_region 6 with fail
  go_still_tail 10, (by kernel_rfl)
  change wpList _ _ _ _ _ W5.drew
  go_upto_region 7 with fail
  clear y2 c3 fz hsum
  obtain ⟨W6, HW6⟩ : ∃ W6, Hid ((W5.setCell ⟨b, 3, none⟩ (.int .i64 (g.bytes - len))).drew = W6) := ⟨_, Lib.hid rfl⟩
  have hrbb : rb ≠ b := fun e => hrb1 (.inl e)
  have hxbb : xb ≠ b := fun e => hxb1 (.inl e)
  have HT6 : Hid (Turned (fun k => k = b ∨ hv.ownBlock = some k) W4 W6) := by rw [← HW6.out]; exact Lib.hid ((HL5.out.lo.set (.inl rfl) _).drew)
  have HRow6 : Hid (W6.ownsRow 0 48 7 hv' (setL hl p Hl.zero).length (flatH (setL hl p Hl.zero))) := by rw [← HW6.out]; exact Lib.hid ((Box.row (i := 3) (u := .int .i64 (g.bytes - len)) (show Box W5 b _ _ from HL5.out.box) HL5.out.row (by decide)))
  have HX6 : Hid (Box W6 rb 48 #[.int .u64 0, .int .u64 0, .int .i64 0, .int .u8 0, .int .u64 0, .int .u64 0, .int .u64 0]) := by rw [← HW6.out]; exact Lib.hid (HX5.out.other hrbb _)
  have HY6 : Hid (Box W6 xb 48 #[.int .u64 (sock : Int), .int .u64 (cookie : Int), .int .i64 len, .int .u8 (prio : Int), .int .u64 (at_ : Int), .int .u64 (seq : Int), .int .u64 (came : Int)]) := by rw [← HW6.out]; exact Lib.hid (HY5.out.other hxbb _)
  have HAr6 : Hid (arenaK.At NA W6 aa g.a) := by
    rw [← HW6.out]
    exact Lib.hid (arenaK.kept HAr5.out (fun j hj => Below.heap_setCell W5 ⟨b, 3, none⟩ _ j (fun e => HLie.out.nab (by have : j = b := e; rw [← this]; exact hj))) (by show W5.heap.size ≤ (W5.setCell _ _).heap.size; simp))
  rw [HW6.out] at HBox6 ⊢
  clear HW6 HX5 HY5 HAr5
  have HGv := Lib.hid (arenaK.give k p HAr6.out HOk.out.a hM hk HAt.out)
  obtain ⟨c0, c1, c2, c3, c4⟩ := HBox6.out.cells
  go_wp2_with fail
  refine HGv.out.mono ?_
  rintro e W7 ⟨rfl, NA7, k1, k2, k3⟩
  have hNAlt : ∀ j, NA j → j < w.heap.size := fun j hj => arenaK.lt HLie.out.ar j hj
  have hs4 := HB4.out.size
  have hs6 := HT6.out.size
  have hrbw := HRb.out
  have hrb4 := HX4.out.lt
  have hxb4 := HY4.out.lt
  have HX7 := Lib.hid (HX6.out.turned k2 (fun hn => by have := hNAlt rb hn; omega))
  have HY7 := Lib.hid (HY6.out.turned k2 (fun hn => by have := hNAlt xb hn; omega))
  have hNA7 : ∀ j, NA7 j → j ≠ b ∧ hv'.ownBlock ≠ some j ∧ j ≠ rb := fun j hj => by
    rcases k3 j hj with h5 | h5
    · refine ⟨fun e => HLie.out.nab (e ▸ h5), fun e => ?_, fun e => by have := hNAlt j h5; omega⟩
      rcases HL5.out.own j e with h6 | h6
      · exact HLie.out.nar j h5 h6
      · have := hNAlt j h5; omega
    · have h6 := HBox6.out.lt
      refine ⟨fun e => by omega, fun e => ?_, fun e => by omega⟩
      have := (HRow6.out.lt j e).2
      omega
  have HLie7 : Hid (SLie W7 b aa NA7 hv' (setL hl p Hl.zero) (g.free k p)) := by
    refine Lib.hid (slie_free HOk.out HAt.out HLk.out hpl HLie.out.slots HLie.out.out HLie.out.len ?_ k1 ?_ (fun hk => (hNA7 b hk).1 rfl) (fun j hj => (hNA7 j hj).2.1))
    · rw [HXl.out]
      exact (k2.block b HBox6.out.lt (fun hn => HLie.out.nab hn)).trans HBox6.out
    · refine own_same HRow6.out fun j hj => k2.block j (HRow6.out.lt j hj).2 (fun hn => ?_)
      rcases HL5.out.own j hj with h6 | h6
      · exact HLie.out.nar j hn h6
      · have := hNAlt j hn; omega
  have HEnd : Hid (WentG AtS N w ⟨b, 0, none⟩ (g.free k p) (put7 W7 rb 0 ⟨⟨sock, cookie, len, prio, at_⟩, seq, came⟩)) := by
    have hbw := HLie.out.box.lt
    have hown : ∀ j, hv'.ownBlock = some j → hv.ownBlock = some j ∨ W4.heap.size ≤ j := fun j hj => HL5.out.own j hj
    refine Lib.hid ⟨fun j => j = b ∨ NA7 j ∨ hv'.ownBlock = some j, ⟨b, aa, NA7, hv', _, rfl, HLie7.out.kept (fun j hj => put7_heap (fun e => ?_)) (by rw [put7_size]; exact Nat.le_refl _), fun j => Iff.rfl⟩, ?_, ?_⟩
    · rcases hj with h5 | h5 | h5
      · omega
      · exact (hNA7 j h5).2.2 e
      · rcases hown j h5 with h6 | h6
        · have := (HLie.out.row.lt j h6).2; omega
        · omega
    · have t1 : Turned N w W4 := Turned.below HB4.out
      have t2 : Turned N W4 W6 := ⟨HT6.out.os, HT6.out.tape, HT6.out.output, HT6.out.size, fun j hj hn => HT6.out.block j hj (fun e => hn ((HNn.out j).2 (e.elim .inl (fun e => .inr (.inr e)))))⟩
      have t3 : Turned N W6 W7 := ⟨k2.os, k2.tape, k2.output, k2.size, fun j hj hn => k2.block j hj (fun e => hn ((HNn.out j).2 (.inr (.inl e))))⟩
      have t4 := (t1.trans t2).trans t3
      have t5 := put7_turned (w := W7) (g := rb) (p := 0) (x := ⟨⟨sock, cookie, len, prio, at_⟩, seq, came⟩)
      exact ⟨t5.os.trans t4.os, t5.tape.trans t4.tape, t5.output.trans t4.output, Nat.le_trans t4.size t5.size, fun j hj hn => (t5.block j (Nat.lt_of_lt_of_le hj t4.size) (fun e => by have e' : j = rb := e; omega)).trans (t4.block j hj hn)⟩
    · rintro j (e | e | e)
      · exact .inl ((HNn.out j).2 (.inl e))
      · rcases k3 j e with h5 | h5
        · exact .inl ((HNn.out j).2 (.inr (.inl h5)))
        · exact .inr (by omega)
      · rcases hown j e with h6 | h6
        · exact .inl ((HNn.out j).2 (.inr (.inr h6)))
        · exact .inr (by omega)
  have HF := Lib.hid (fill7 HX7.out ⟨⟨sock, cookie, len, prio, at_⟩, seq, came⟩)
  have r0 : W7.cell? ⟨rb, 0, none⟩ = some (.int .u64 0) := HX7.out.cell 0
  have r1 : W7.cell? ⟨rb, 1, none⟩ = some (.int .u64 0) := HX7.out.cell 1
  have r2 : W7.cell? ⟨rb, 2, none⟩ = some (.int .i64 0) := HX7.out.cell 2
  have r3 : W7.cell? ⟨rb, 3, none⟩ = some (.int .u8 0) := HX7.out.cell 3
  have r4 : W7.cell? ⟨rb, 4, none⟩ = some (.int .u64 0) := HX7.out.cell 4
  have r5 : W7.cell? ⟨rb, 5, none⟩ = some (.int .u64 0) := HX7.out.cell 5
  have r6 : W7.cell? ⟨rb, 6, none⟩ = some (.int .u64 0) := HX7.out.cell 6
  have f0 := HX7.out.frozen 0
  have f1 := HX7.out.frozen 1
  have f2 := HX7.out.frozen 2
  have f3 := HX7.out.frozen 3
  have f4 := HX7.out.frozen 4
  have f5 := HX7.out.frozen 5
  have f6 := HX7.out.frozen 6
  have x0 : W7.cell? ⟨xb, 0, none⟩ = some (.int .u64 (sock : Int)) := HY7.out.cell 0
  have x1 : W7.cell? ⟨xb, 1, none⟩ = some (.int .u64 (cookie : Int)) := HY7.out.cell 1
  have x2 : W7.cell? ⟨xb, 2, none⟩ = some (.int .i64 len) := HY7.out.cell 2
  have x3 : W7.cell? ⟨xb, 3, none⟩ = some (.int .u8 (prio : Int)) := HY7.out.cell 3
  have x4 : W7.cell? ⟨xb, 4, none⟩ = some (.int .u64 (at_ : Int)) := HY7.out.cell 4
  have x5 : W7.cell? ⟨xb, 5, none⟩ = some (.int .u64 (seq : Int)) := HY7.out.cell 5
  have x6 : W7.cell? ⟨xb, 6, none⟩ = some (.int .u64 (came : Int)) := HY7.out.cell 6
  clear k1 k2 k3 c0 c1 c2 c3 c4 hs4 hs6 hrbw hrb4 hxb4 hNA7 hNAlt hxbs hrb1 hxb1 hrbb hxbb HGv
  go_wp2_with fail
  change bodyPost _ _ _ _ _ (put7 W7 rb 0 ⟨⟨sock, cookie, len, prio, at_⟩, seq, came⟩)
  obtain ⟨W8, HW8⟩ : ∃ W8, Hid (put7 W7 rb 0 ⟨⟨sock, cookie, len, prio, at_⟩, seq, came⟩ = W8) := ⟨_, Lib.hid rfl⟩
  rw [HW8.out] at HEnd HF ⊢
  have j0 := HF.out.cell 0
  have j1 := HF.out.cell 1
  have j2 := HF.out.cell 2
  have j3 := HF.out.cell 3
  have j4 := HF.out.cell 4
  have j5 := HF.out.cell 5
  have j6 := HF.out.cell 6
  simp only [Hl.cells, List.getElem?_toArray, List.getElem?_cons_zero, List.getElem?_cons_succ] at j0 j1 j2 j3 j4 j5 j6
  refine bodyPost_ret (v := .tuple #[Hl.v ⟨⟨sock, cookie, len, prio, at_⟩, seq, came⟩, .bool true]) ?_ rfl ⟨by rw [← HX.out]; rfl, HEnd.out⟩
  simp [results, Try.f13, go_sem, j0, j1, j2, j3, j4, j5, j6, Hl.v, Hl.cells]
end

end Go.Proofs.Ytmaofmbnlfggiab
