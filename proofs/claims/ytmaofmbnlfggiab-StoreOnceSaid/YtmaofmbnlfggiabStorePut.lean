/-
  The program's own store: Put.
-/
import Derived.Test.YtmaofmbnlfggiabStoreCalls
namespace Go.Proofs.Ytmaofmbnlfggiab
open Go.RowKit
set_option linter.unusedVariables false
set_option linter.unusedSimpArgs false

/-- Behind a taking and a laying: the store with one more. -/
theorem slie_put {w : World} {b pl : Nat} {aa : Addr} {NA : Nat → Prop} {hv' : Value} {hl : List Hl} {g : Sg} {M : Nat} {p : Pk} {now : Nat} (ok : g.Ok M) (hr : ¬ g.a.full) (hpl : g.a.next = pl) (hp65 : pl < 65536) (hslots : ∀ j x, hl[j]? = some x → x = g.slot j) (hout : ∀ j, hl.length ≤ j → hd g.a.ts g.a.l j = none) (hlen : hl.length ≤ 65536)
    (box : SBox w b aa hv' (g.bytes + p.len) (g.next + 1)) (ar : arenaK.At NA w aa g.a.take) (row : w.ownsRow 0 48 7 hv' (setL hl pl ⟨p, g.next, now⟩).length (flatH (setL hl pl ⟨p, g.next, now⟩))) (nab : ¬ NA b) (nar : ∀ k, NA k → hv'.ownBlock ≠ some k) :
    SLie w b aa NA hv' (setL hl pl ⟨p, g.next, now⟩) (g.put p now) := by
  subst hpl
  refine ⟨?_, ar, row, fun j x hx => ?_, fun j hj => ?_, by rw [setL_len]; omega, nab, nar⟩
  · rw [bytes_put]; exact box
  · have hj : j < max hl.length (g.a.next + 1) := by rw [← setL_len hl g.a.next ⟨p, g.next, now⟩]; exact (List.getElem?_eq_some_iff.1 hx).1
    rw [setL_get _ _ _ _ hj] at hx
    rw [slot_put ok hr, ← Option.some.inj hx]
    by_cases c : j = g.a.next
    · rw [if_pos c, if_pos c]
    · rw [if_neg c, if_neg c]
      by_cases c2 : j < hl.length
      · rw [List.getElem?_eq_getElem c2]
        exact hslots j _ (List.getElem?_eq_getElem c2)
      · rw [List.getElem?_eq_none (by omega)]
        unfold Sg.slot
        rw [hout j (by omega)]
        rfl
  · rw [setL_len] at hj
    show hd g.a.take.ts g.a.take.l j = none
    rw [hd_take ok hr, if_neg (by omega)]
    exact hout j (by omega)
def PutOut (h x : Nat) : Ending := .returned (.tuple #[.int .u64 (h : Int), .int .i64 (x : Int)])
section
variable {w : World} {b : Nat} {aa : Addr} {NA N : Nat → Prop} {hv : Value} {hl : List Hl} {g : Sg} {M : Nat} {a : Addr}
set_option maxHeartbeats 2000000 in
theorem s_put_arg (h : SLie w b aa NA hv hl g) (p : Pk) (hp : ¬ p.may) (now : Nat) : Calls Try.prog 11 #[.pointer (some ⟨b, 0, none⟩), p.v, .int .u64 (now : Int)] w fun e w' => e = PutOut 0 2 ∧ Below w.heap.size w w' := by
  have HMay := Lib.hid (fun W => s_may p false ⟨fun h => (by cases h), fun h => absurd h hp⟩ W)
  obtain ⟨sock, cookie, len, prio, at_⟩ := p
  unfold Pk.v Pk.cells at *
  have HB1 := Lib.hid ((Below.refl _ w).alloc (Nat.le_refl _) (.cells #[.int .u64 (sock : Int), .int .u64 (cookie : Int), .int .i64 len, .int .u8 (prio : Int), .int .u64 (at_ : Int)] 40))
  have HX1 := Lib.hid (Box.new w 40 #[.int .u64 (sock : Int), .int .u64 (cookie : Int), .int .i64 len, .int .u8 (prio : Int), .int .u64 (at_ : Int)])
  have HM := Lib.hid (s_made (h.below HB1.out).box)
  clear h hp
  go_enter Try.func11, Try.ntmps11
  go_upto_region 1 with fail
  obtain ⟨rb, HRb⟩ : ∃ rb, Hid (w.heap.size = rb) := ⟨_, Lib.hid rfl⟩
  obtain ⟨W1, HW1⟩ : ∃ W1, Hid (w.alloc (.cells #[.int .u64 (sock : Int), .int .u64 (cookie : Int), .int .i64 len, .int .u8 (prio : Int), .int .u64 (at_ : Int)] 40) = W1) := ⟨_, Lib.hid rfl⟩
  rw [HW1.out] at HB1 HX1 HM ⊢
  rw [HRb.out] at HX1 ⊢
  clear HW1
  have x0 : W1.cell? ⟨rb, 0, none⟩ = some (.int .u64 (sock : Int)) := HX1.out.cell 0
  have x1 : W1.cell? ⟨rb, 1, none⟩ = some (.int .u64 (cookie : Int)) := HX1.out.cell 1
  have x2 : W1.cell? ⟨rb, 2, none⟩ = some (.int .i64 len) := HX1.out.cell 2
  have x3 : W1.cell? ⟨rb, 3, none⟩ = some (.int .u8 (prio : Int)) := HX1.out.cell 3
  have x4 : W1.cell? ⟨rb, 4, none⟩ = some (.int .u64 (at_ : Int)) := HX1.out.cell 4
  go_wp2_with fail
  refine HM.out.mono ?_
  rintro e w2 ⟨rfl, rfl⟩
  go_wp2_with fail
  refine (HMay.out _).mono ?_
  rintro e W2 ⟨rfl, b2⟩
  have HB2 := Lib.hid (below_tr HB1.out b2)
  clear b2 x0 x1 x2 x3 x4
  go_wp2_with fail
  go_ret2
  exact ⟨rfl, HB2.out⟩
set_option maxHeartbeats 8000000 in
set_option maxRecDepth 100000 in
theorem s_put (h : AtS N w a g) (ok : g.Ok M) (hM : M ≤ 999) (p : Pk) (hm : p.may) (hp : p.Fits) (now : Nat) (hnow : now < 18446744073709551616) (hf : ¬ g.a.full) : Calls Try.prog 11 #[.pointer (some a), p.v, .int .u64 (now : Int)] w fun e w' => e = PutOut g.a.handle 0 ∧ WentG AtS N w a (g.put p now) w' := by
  obtain ⟨b, aa, NA, hv, hl, rfl, h, hN⟩ := h
  have HMay := Lib.hid (fun W => s_may p true ⟨fun _ => hm, fun _ => rfl⟩ W)
  have hby := bytes_le ok
  have hbyl : g.bytes ≤ 4294967296 := by
    have h5 := ok.cnt
    have h6 := ok.a.fits
    have h7 := ok.a.small
    have h8 : g.a.l.count true ≤ g.a.l.length := List.count_le_length
    omega
  have hlen0 : 1 ≤ p.len ∧ p.len ≤ 65536 := ⟨hm.1, hm.2.1⟩
  have hnx := ok.next
  have HPk := Lib.hid (Eq.refl p)
  obtain ⟨P, HP⟩ : ∃ P, Hid (p = P) := ⟨_, Lib.hid rfl⟩
  rw [HP.out] at hm hp ⊢
  have HPf := Lib.hid hp
  obtain ⟨sock, cookie, len, prio, at_⟩ := p
  simp only at hlen0
  unfold Pk.v Pk.cells at HMay
  have hPv : P.v = .agg #[.int .u64 (sock : Int), .int .u64 (cookie : Int), .int .i64 len, .int .u8 (prio : Int), .int .u64 (at_ : Int)] := by rw [← HP.out]; rfl
  rw [hPv]
  have hPl : P.len = len := by rw [← HP.out]
  have HPl := Lib.hid hPl
  have hXv : ∀ s c, Hl.v ⟨P, s, c⟩ = .agg #[.int .u64 (sock : Int), .int .u64 (cookie : Int), .int .i64 len, .int .u8 (prio : Int), .int .u64 (at_ : Int), .int .u64 (s : Int), .int .u64 (c : Int)] := fun s c => by rw [← HP.out]; rfl
  have HXv := Lib.hid hXv
  have HB1 := Lib.hid ((Below.refl _ w).alloc (Nat.le_refl _) (.cells #[.int .u64 (sock : Int), .int .u64 (cookie : Int), .int .i64 len, .int .u8 (prio : Int), .int .u64 (at_ : Int)] 40))
  have HX1 := Lib.hid (Box.new w 40 #[.int .u64 (sock : Int), .int .u64 (cookie : Int), .int .i64 len, .int .u8 (prio : Int), .int .u64 (at_ : Int)])
  have HM := Lib.hid (s_made (h.below HB1.out).box)
  have HLie := Lib.hid h
  have HOk := Lib.hid ok
  have HFull := Lib.hid hf
  have HNn := Lib.hid hN
  have hbw := h.box.lt
  have HAt := Lib.hid (at_take_new ok.a hf)
  have HOk2 := Lib.hid (ok.a.take hf)
  have hpl := (hd_lt HOk2.out ((at_iff HOk2.out).1 HAt.out)).1
  obtain ⟨pl, HPl2⟩ : ∃ pl, Hid (g.a.next = pl) := ⟨_, Lib.hid rfl⟩
  rw [HPl2.out] at HAt hpl
  obtain ⟨hd, HHd⟩ : ∃ hd, Hid (g.a.handle = hd) := ⟨_, Lib.hid rfl⟩
  have hhs := ok.a.handle_small (by omega)
  rw [HHd.out] at HAt hhs ⊢
  clear h ok hf hN hPv hPl hXv hm hp HPk
  go_enter Try.func11, Try.ntmps11
  go_upto_region 1 with fail
  obtain ⟨rb, HRb⟩ : ∃ rb, Hid (w.heap.size = rb) := ⟨_, Lib.hid rfl⟩
  obtain ⟨W1, HW1⟩ : ∃ W1, Hid (w.alloc (.cells #[.int .u64 (sock : Int), .int .u64 (cookie : Int), .int .i64 len, .int .u8 (prio : Int), .int .u64 (at_ : Int)] 40) = W1) := ⟨_, Lib.hid rfl⟩
  rw [HW1.out] at HB1 HX1 HM ⊢
  have HLie1 := Lib.hid (HLie.out.below HB1.out)
  rw [HRb.out] at HX1 ⊢
  clear HW1
  have x0 : W1.cell? ⟨rb, 0, none⟩ = some (.int .u64 (sock : Int)) := HX1.out.cell 0
  have x1 : W1.cell? ⟨rb, 1, none⟩ = some (.int .u64 (cookie : Int)) := HX1.out.cell 1
  have x2 : W1.cell? ⟨rb, 2, none⟩ = some (.int .i64 len) := HX1.out.cell 2
  have x3 : W1.cell? ⟨rb, 3, none⟩ = some (.int .u8 (prio : Int)) := HX1.out.cell 3
  have x4 : W1.cell? ⟨rb, 4, none⟩ = some (.int .u64 (at_ : Int)) := HX1.out.cell 4
  go_wp2_with fail
  refine HM.out.mono ?_
  rintro e w2 ⟨rfl, rfl⟩
  go_wp2_with fail
  refine (HMay.out _).mono ?_
  rintro e W2 ⟨rfl, b2⟩
  have HB2 := Lib.hid (below_tr HB1.out b2)
  have HLie2 := Lib.hid (HLie1.out.below b2)
  have HX2 := Lib.hid (HX1.out.below b2 HX1.out.lt)
  clear b2 x0 x1 x2 x3 x4 HB1 HX1 HLie1 HM
  have HTk := Lib.hid (arenaK.take HLie2.out.ar HOk.out.a (by omega) HFull.out)
  rw [HHd.out] at HTk
  obtain ⟨c0, c1, c2, c3, c4⟩ := HLie2.out.box.cells
  go_wp2_with fail
  refine HTk.out.mono ?_
  rintro e W3 ⟨rfl, NA3, k1, k2, k3⟩
  have HAr3 := Lib.hid k1
  have HT3 := Lib.hid (And.intro k2 k3)
  have HBox3 : Hid (SBox W3 b aa hv g.bytes g.next) := Lib.hid ((k2.block b HLie2.out.box.lt HLie2.out.nab).trans HLie2.out.box)
  have HRow3 := Lib.hid (own_same HLie2.out.row (fun k hk => k2.block k (HLie2.out.row.lt k hk).2 (fun hn => HLie2.out.nar k hn hk)))
  have hrbN : ¬ NA rb := fun hn => by have := arenaK.lt HLie.out.ar rb hn; have := HRb.out; omega
  have HX3 := Lib.hid (HX2.out.turned k2 hrbN)
  have HPl3 := Lib.hid (arenaK.place hd k1 HOk2.out (by omega) hhs)
  have hpo : placeOf g.a.take.ts g.a.take.l hd = some pl := HAt.out
  rw [hpo] at HPl3
  clear k1 k2 k3 c0 c1 c2 c3 c4 HTk hpo
  obtain ⟨c0, c1, c2, c3, c4⟩ := HBox3.out.cells
  go_wp2_with fail
  refine HPl3.out.mono ?_
  rintro e W4 ⟨rfl, b4⟩
  have HAr4 := Lib.hid (arenaK.below HAr3.out b4)
  have HBox4 : Hid (SBox W4 b aa hv g.bytes g.next) := Lib.hid (Box.below (show Box W3 b _ _ from HBox3.out) b4 HBox3.out.lt)
  have HRow4 := Lib.hid (owns_below HRow3.out b4)
  have HX4 := Lib.hid (HX3.out.below b4 HX3.out.lt)
  have HS4 := Lib.hid b4.size
  have HT4 := Lib.hid (HT3.out.1.trans (Turned.below b4))
  clear b4 c0 c1 c2 c3 c4 HPl3
  simp only [placeV, Option.getD_some, Option.isSome_some]
  go_upto_region 9 with fail
  have x0 : W4.cell? ⟨rb, 0, none⟩ = some (.int .u64 (sock : Int)) := HX4.out.cell 0
  have x1 : W4.cell? ⟨rb, 1, none⟩ = some (.int .u64 (cookie : Int)) := HX4.out.cell 1
  have x2 : W4.cell? ⟨rb, 2, none⟩ = some (.int .i64 len) := HX4.out.cell 2
  have x3 : W4.cell? ⟨rb, 3, none⟩ = some (.int .u8 (prio : Int)) := HX4.out.cell 3
  have x4 : W4.cell? ⟨rb, 4, none⟩ = some (.int .u64 (at_ : Int)) := HX4.out.cell 4
  have c4 : W4.cell? ⟨b, 4, none⟩ = some (.int .u64 (g.next : Int)) := HBox4.out.cells.2.2.2.2
  have HLay := Lib.hid (s_lay (w := W4.drew) (Box.below (show Box W4 b _ _ from HBox4.out) (Below.refl W4.heap.size W4).drew HBox4.out.lt) (owns_below HRow4.out (Below.refl W4.heap.size W4).drew) HLie.out.len pl hpl ⟨P, g.next, now⟩)
  rw [HXv.out] at HLay
  have hrbh : ¬ (rb = b ∨ hv.ownBlock = some rb) := by
    rintro (e | e)
    · have := HRb.out; omega
    · have := (HLie.out.row.lt rb e).2; have := HRb.out; omega
  go_cut [] (fun wx => ∃ W5 hv', W5 = wx ∧ Hid (LayM W4.drew wx b aa hv hv' g.bytes g.next (setL hl pl ⟨P, g.next, now⟩)))
  case first =>
    go_region_held3 (fun w' => w'.cell? ⟨rb, 0, none⟩ = some (.int .u64 (sock : Int)) ∧ w'.cell? ⟨rb, 1, none⟩ = some (.int .u64 (cookie : Int)) ∧ w'.cell? ⟨rb, 2, none⟩ = some (.int .i64 len) ∧ w'.cell? ⟨rb, 3, none⟩ = some (.int .u8 (prio : Int)) ∧ w'.cell? ⟨rb, 4, none⟩ = some (.int .u64 (at_ : Int)) ∧ w'.cell? ⟨b, 4, none⟩ = some (.int .u64 (g.next : Int))) (go_keep)
      (first
        | ((go_at_call 27; refine HLay.out.mono ?_; rintro e W5 ⟨rfl, hv', l5⟩; have HL5 := Lib.hid l5; have hx5 := HX4.out.turned (w' := W5) ((Turned.below (Below.refl W4.heap.size W4).drew).trans l5.lo) hrbh; have y0 : W5.cell? ⟨rb, 0, none⟩ = some (.int .u64 (sock : Int)) := hx5.cell 0; have y1 : W5.cell? ⟨rb, 1, none⟩ = some (.int .u64 (cookie : Int)) := hx5.cell 1; have y2 : W5.cell? ⟨rb, 2, none⟩ = some (.int .i64 len) := hx5.cell 2; have y3 : W5.cell? ⟨rb, 3, none⟩ = some (.int .u8 (prio : Int)) := hx5.cell 3; have y4 : W5.cell? ⟨rb, 4, none⟩ = some (.int .u64 (at_ : Int)) := hx5.cell 4; have d4 : W5.cell? ⟨b, 4, none⟩ = some (.int .u64 (g.next : Int)) := l5.box.cells.2.2.2.2; clear l5 hx5)))
    all_goals
      go_wp2_with fail
      go_meet
      exact ⟨_, hv', rfl, HL5⟩
  case rest =>
    obtain ⟨W5, hv', rfl, HL5⟩ := hcut
    clear x0 x1 x2 x3 x4 c4
    have HX5 := Lib.hid (HX4.out.turned (w' := W5) ((Turned.below (Below.refl W4.heap.size W4).drew).trans HL5.out.lo) hrbh)
    have x2 : W5.cell? ⟨rb, 2, none⟩ = some (.int .i64 len) := HX5.out.cell 2
    have c3 : W5.cell? ⟨b, 3, none⟩ = some (.int .i64 g.bytes) := HL5.out.box.cells.2.2.2.1
    have fz := HL5.out.box.frozen 3
    have hsum : IntKind.i64.wrap (g.bytes + len) = g.bytes + len := by rw [IntKind.wrap_i64]; omega
    have HBox6 : Hid (SBox (W5.setCell ⟨b, 3, none⟩ (.int .i64 (g.bytes + len))).drew b aa hv' (g.bytes + len) g.next) := Lib.hid (Box.set (show Box W5 b _ _ from HL5.out.box) 3 _)
    go_upto_region 10 with fail
    go_still_tail 9, (by kernel_rfl)
    change wpList _ _ _ _ _ W5.drew
    go_upto_region 11 with fail
    clear x2 c3 fz hsum
    obtain ⟨W6, HW6⟩ : ∃ W6, Hid ((W5.setCell ⟨b, 3, none⟩ (.int .i64 (g.bytes + len))).drew = W6) := ⟨_, Lib.hid rfl⟩
    have HT6 : Hid (Turned (fun k => k = b ∨ hv.ownBlock = some k) W4.drew W6) := by rw [← HW6.out]; exact Lib.hid ((HL5.out.lo.set (.inl rfl) _).drew)
    have HRow6 : Hid (W6.ownsRow 0 48 7 hv' (setL hl pl ⟨P, g.next, now⟩).length (flatH (setL hl pl ⟨P, g.next, now⟩))) := by rw [← HW6.out]; exact Lib.hid ((Box.row (i := 3) (u := .int .i64 (g.bytes + len)) (show Box W5 b _ _ from HL5.out.box) HL5.out.row (by decide)))
    rw [HW6.out] at HBox6 ⊢
    clear HW6
    have c4 : W6.cell? ⟨b, 4, none⟩ = some (.int .u64 (g.next : Int)) := HBox6.out.cells.2.2.2.2
    have fz := HBox6.out.frozen 4
    have hEnd : WentG AtS N w ⟨b, 0, none⟩ (g.put P now) (W6.setCell ⟨b, 4, none⟩ (.int .u64 ((g.next : Int) + 1))) := by
      have hNb : N b := (HNn.out b).2 (.inl rfl)
      have hNA : ∀ k, NA3 k → k ≠ b ∧ hv.ownBlock ≠ some k := fun k hk => by
        rcases HT3.out.2 k hk with h5 | h5
        · exact ⟨fun e => HLie.out.nab (e ▸ h5), HLie.out.nar k h5⟩
        · have h6 := HLie2.out.box.lt
          exact ⟨fun e => by omega, fun e => by have := (HLie2.out.row.lt k e).2; omega⟩
      have hbox : SBox (W6.setCell ⟨b, 4, none⟩ (.int .u64 ((g.next : Int) + 1))) b aa hv' (g.bytes + P.len) (g.next + 1) := by
        have h5 := Box.set (show Box W6 b _ _ from HBox6.out) 4 (.int .u64 (((g.next + 1 : Nat)) : Int))
        have e : (((g.next + 1 : Nat)) : Int) = (g.next : Int) + 1 := by omega
        rw [e] at h5
        unfold SBox
        rw [HPl.out, e]
        exact h5
      have har : arenaK.At NA3 (W6.setCell ⟨b, 4, none⟩ (.int .u64 ((g.next : Int) + 1))) aa g.a.take := by
        refine arenaK.kept HAr4.out (fun k hk => ?_) (by rw [World.size_setCell]; exact HT6.out.size)
        have h5 := hNA k hk
        rw [Below.heap_setCell W6 ⟨b, 4, none⟩ _ k h5.1]
        exact HT6.out.block k (arenaK.lt HAr4.out k hk) (fun e => e.elim h5.1 h5.2)
      have hrow := Box.row (i := 4) (u := .int .u64 ((g.next : Int) + 1)) (show Box W6 b _ _ from HBox6.out) HRow6.out (by decide)
      have hnar : ∀ k, NA3 k → hv'.ownBlock ≠ some k := fun k hk e => by
        rcases HL5.out.own k e with h5 | h5
        · exact (hNA k hk).2 h5
        · have h6 := arenaK.lt HAr4.out k hk
          have h7 : W4.heap.size ≤ k := h5
          omega
      refine ⟨fun k => k = b ∨ NA3 k ∨ hv'.ownBlock = some k, ⟨b, aa, NA3, hv', setL hl pl ⟨P, g.next, now⟩, rfl, slie_put HOk.out HFull.out HPl2.out hpl HLie.out.slots HLie.out.out HLie.out.len hbox har hrow (fun hk => (hNA b hk).1 rfl) hnar, fun k => Iff.rfl⟩, ?_, ?_⟩
      · have t1 : Turned N w W4 := (Turned.below HB2.out).trans ⟨HT4.out.os, HT4.out.tape, HT4.out.output, HT4.out.size, fun k hk hn => HT4.out.block k hk (fun e => hn ((HNn.out k).2 (.inr (.inl e))))⟩
        have t2 : Turned N W4 W6 := ⟨HT6.out.os, HT6.out.tape, HT6.out.output, HT6.out.size, fun k hk hn => HT6.out.block k hk (fun e => hn ((HNn.out k).2 (e.elim .inl (fun e => .inr (.inr e)))))⟩
        exact (t1.trans t2).set hNb _
      · have hs2 := HB2.out.size
        have hs4 := HT4.out.size
        rintro k (e | e | e)
        · exact .inl ((HNn.out k).2 (.inl e))
        · rcases HT3.out.2 k e with h5 | h5
          · exact .inl ((HNn.out k).2 (.inr (.inl h5)))
          · exact .inr (by omega)
        · rcases HL5.out.own k e with h5 | h5
          · exact .inl ((HNn.out k).2 (.inr (.inr h5)))
          · have h7 : W4.heap.size ≤ k := h5
            exact .inr (by omega)
    have HEnd := Lib.hid hEnd
    clear hEnd hrbh
    go_wp2_with fail
    go_ret2
    exact ⟨rfl, HEnd.out⟩
set_option maxHeartbeats 4000000 in
set_option maxRecDepth 100000 in
theorem s_put_full (h : AtS N w a g) (ok : g.Ok M) (hM : M ≤ 999) (p : Pk) (hm : p.may) (now : Nat) (hf : g.a.full) : Calls Try.prog 11 #[.pointer (some a), p.v, .int .u64 (now : Int)] w fun e w' => e = PutOut 0 4 ∧ WentG AtS N w a g w' := by
  obtain ⟨b, aa, NA, hv, hl, rfl, h, hN⟩ := h
  have HMay := Lib.hid (fun W => s_may p true ⟨fun _ => hm, fun _ => rfl⟩ W)
  obtain ⟨sock, cookie, len, prio, at_⟩ := p
  unfold Pk.v Pk.cells at *
  have HB1 := Lib.hid ((Below.refl _ w).alloc (Nat.le_refl _) (.cells #[.int .u64 (sock : Int), .int .u64 (cookie : Int), .int .i64 len, .int .u8 (prio : Int), .int .u64 (at_ : Int)] 40))
  have HX1 := Lib.hid (Box.new w 40 #[.int .u64 (sock : Int), .int .u64 (cookie : Int), .int .i64 len, .int .u8 (prio : Int), .int .u64 (at_ : Int)])
  have HM := Lib.hid (s_made (h.below HB1.out).box)
  have HLie := Lib.hid h
  have HOk := Lib.hid ok
  have HFull := Lib.hid hf
  have HNn := Lib.hid hN
  clear h hm hf hN ok
  go_enter Try.func11, Try.ntmps11
  go_upto_region 1 with fail
  obtain ⟨rb, HRb⟩ : ∃ rb, Hid (w.heap.size = rb) := ⟨_, Lib.hid rfl⟩
  obtain ⟨W1, HW1⟩ : ∃ W1, Hid (w.alloc (.cells #[.int .u64 (sock : Int), .int .u64 (cookie : Int), .int .i64 len, .int .u8 (prio : Int), .int .u64 (at_ : Int)] 40) = W1) := ⟨_, Lib.hid rfl⟩
  rw [HW1.out] at HB1 HX1 HM ⊢
  have HLie1 := Lib.hid (HLie.out.below HB1.out)
  rw [HRb.out] at HX1 ⊢
  clear HW1
  have x0 : W1.cell? ⟨rb, 0, none⟩ = some (.int .u64 (sock : Int)) := HX1.out.cell 0
  have x1 : W1.cell? ⟨rb, 1, none⟩ = some (.int .u64 (cookie : Int)) := HX1.out.cell 1
  have x2 : W1.cell? ⟨rb, 2, none⟩ = some (.int .i64 len) := HX1.out.cell 2
  have x3 : W1.cell? ⟨rb, 3, none⟩ = some (.int .u8 (prio : Int)) := HX1.out.cell 3
  have x4 : W1.cell? ⟨rb, 4, none⟩ = some (.int .u64 (at_ : Int)) := HX1.out.cell 4
  go_wp2_with fail
  refine HM.out.mono ?_
  rintro e w2 ⟨rfl, rfl⟩
  go_wp2_with fail
  refine (HMay.out _).mono ?_
  rintro e W2 ⟨rfl, b2⟩
  have HB2 := Lib.hid (below_tr HB1.out b2)
  have HLie2 := Lib.hid (HLie1.out.below b2)
  clear b2 x0 x1 x2 x3 x4 HB1 HX1 HLie1 HM
  have HTk := Lib.hid (arenaK.take_full HLie2.out.ar HOk.out.a (by omega) HFull.out)
  obtain ⟨c0, c1, c2, c3, c4⟩ := HLie2.out.box.cells
  go_wp2_with fail
  refine HTk.out.mono ?_
  rintro e W3 ⟨rfl, NA3, k1, k2, k3⟩
  have HEnd : Hid (WentG AtS N w ⟨b, 0, none⟩ g W3) := by
    have hNA : ∀ k, NA3 k → k ≠ b ∧ hv.ownBlock ≠ some k := fun k hk => by
      rcases k3 k hk with h5 | h5
      · exact ⟨fun e => HLie.out.nab (e ▸ h5), HLie.out.nar k h5⟩
      · have h6 := HLie2.out.box.lt
        exact ⟨fun e => by omega, fun e => by have := (HLie2.out.row.lt k e).2; omega⟩
    refine Lib.hid ⟨fun k => k = b ∨ NA3 k ∨ hv.ownBlock = some k, ⟨b, aa, NA3, hv, hl, rfl, ⟨(k2.block b HLie2.out.box.lt HLie2.out.nab).trans HLie2.out.box, k1, own_same HLie2.out.row (fun k hk => k2.block k (HLie2.out.row.lt k hk).2 (fun hn => HLie2.out.nar k hn hk)), HLie.out.slots, HLie.out.out, HLie.out.len, fun hk => (hNA b hk).1 rfl, fun k hk => (hNA k hk).2⟩, fun k => Iff.rfl⟩, ?_, ?_⟩
    · exact (Turned.below HB2.out).trans ⟨k2.os, k2.tape, k2.output, k2.size, fun k hk hn => k2.block k hk (fun e => hn ((HNn.out k).2 (.inr (.inl e))))⟩
    · have hs2 := HB2.out.size
      rintro k (e | e | e)
      · exact .inl ((HNn.out k).2 (.inl e))
      · rcases k3 k e with h5 | h5
        · exact .inl ((HNn.out k).2 (.inr (.inl h5)))
        · exact .inr (by omega)
      · exact .inl ((HNn.out k).2 (.inr (.inr e)))
  clear k1 k2 k3 c0 c1 c2 c3 c4 HTk
  go_wp2_with fail
  go_ret2
  exact ⟨rfl, HEnd.out⟩
end

end Go.Proofs.Ytmaofmbnlfggiab
