/-
  The program's own store: how it lies, Get, Count, Bytes, Next, New.
-/
import Derived.Test.YtmaofmbnlfggiabStoreLay
namespace Go.Proofs.Ytmaofmbnlfggiab
open Go.RowKit
set_option linter.unusedVariables false
set_option linter.unusedSimpArgs false

structure SLie (w : World) (b : Nat) (aa : Addr) (NA : Nat → Prop) (hv : Value) (hl : List Hl) (g : Sg) : Prop where
  box : SBox w b aa hv g.bytes g.next
  ar : arenaK.At NA w aa g.a
  row : w.ownsRow 0 48 7 hv hl.length (flatH hl)
  slots : ∀ j x, hl[j]? = some x → x = g.slot j
  out : ∀ j, hl.length ≤ j → hd g.a.ts g.a.l j = none
  len : hl.length ≤ 65536
  nab : ¬ NA b
  nar : ∀ k, NA k → hv.ownBlock ≠ some k
def AtS (N : Nat → Prop) (w : World) (a : Addr) (g : Sg) : Prop := ∃ b aa NA hv hl, a = ⟨b, 0, none⟩ ∧ SLie w b aa NA hv hl g ∧ ∀ k, N k ↔ k = b ∨ NA k ∨ hv.ownBlock = some k
section
variable {w w' : World} {b : Nat} {aa : Addr} {NA N : Nat → Prop} {hv : Value} {hl : List Hl} {g : Sg} {M : Nat} {a : Addr}
theorem SLie.lt (h : SLie w b aa NA hv hl g) : ∀ k, (k = b ∨ NA k ∨ hv.ownBlock = some k) → k < w.heap.size := by
  rintro k (rfl | hk | hk)
  · exact h.box.lt
  · exact arenaK.lt h.ar k hk
  · exact (h.row.lt k hk).2
theorem SLie.kept (h : SLie w b aa NA hv hl g) (e : ∀ k, (k = b ∨ NA k ∨ hv.ownBlock = some k) → w'.heap[k]? = w.heap[k]?) (s : w.heap.size ≤ w'.heap.size) : SLie w' b aa NA hv hl g :=
  ⟨(e b (.inl rfl)).trans h.box, arenaK.kept h.ar (fun k hk => e k (.inr (.inl hk))) s, own_same h.row (fun k hk => e k (.inr (.inr hk))), h.slots, h.out, h.len, h.nab, h.nar⟩
theorem SLie.below (h : SLie w b aa NA hv hl g) (l : Below w.heap.size w w') : SLie w' b aa NA hv hl g := h.kept (fun k hk => l.block k (h.lt k hk)) l.size
theorem AtS.lt (h : AtS N w a g) : ∀ k, N k → k < w.heap.size := by
  obtain ⟨b, aa, NA, hv, hl, rfl, h1, h2⟩ := h
  exact fun k hk => h1.lt k ((h2 k).1 hk)
theorem AtS.below (h : AtS N w a g) (l : Below w.heap.size w w') : AtS N w' a g := by
  obtain ⟨b, aa, NA, hv, hl, rfl, h1, h2⟩ := h
  exact ⟨b, aa, NA, hv, hl, rfl, h1.below l, h2⟩
theorem went_s (h : AtS N w a g) (l : Below w.heap.size w w') : WentG AtS N w a g w' := ⟨N, h.below l, Turned.below l, fun k hk => .inl hk⟩
/-- Where a handle holds, something lies. -/
theorem SLie.at_ (h : SLie w b aa NA hv hl g) (ok : g.Ok M) {k p : Nat} (hp : g.a.at k = some p) : ∃ x, look g.l k = some x ∧ hl[p]? = some x ∧ 1 ≤ x.seq ∧ p < hl.length := by
  obtain ⟨x, hx, hs, h1⟩ := slot_at ok hp
  have hlt : p < hl.length := by
    refine Nat.lt_of_not_le fun hle => ?_
    have h5 := h.out p hle
    rw [(at_iff ok.a).1 hp] at h5
    cases h5
  have h6 := h.slots p _ (List.getElem?_eq_getElem hlt)
  exact ⟨x, hx, by rw [List.getElem?_eq_getElem hlt, h6, hs], h1, hlt⟩
theorem s_count (h : SLie w b aa NA hv hl g) (ok : g.Ok M) : Calls Try.prog 17 #[.pointer (some ⟨b, 0, none⟩)] w fun e w' => e = .returned (.int .i64 (g.l.length : Nat)) ∧ Below w.heap.size w w' := by
  have HM := Lib.hid (s_made h.box)
  have HU := Lib.hid (arenaK.used h.ar ok.a)
  have hc := ok.cnt
  rw [← hc] at HU
  obtain ⟨c0, c1, c2, c3, c4⟩ := h.box.cells
  clear h ok hc
  go_enter Try.func17, Try.ntmps17
  go_wp2_with fail
  refine HM.out.mono ?_
  rintro e w1 ⟨rfl, rfl⟩
  go_wp2_with fail
  refine HU.out.mono ?_
  rintro e w2 ⟨rfl, b2⟩
  go_wp2_with fail
  go_ret
  exact ⟨rfl, b2⟩
theorem s_bytes (h : SLie w b aa NA hv hl g) : Calls Try.prog 18 #[.pointer (some ⟨b, 0, none⟩)] w fun e w' => e = .returned (.int .i64 g.bytes) ∧ w' = w := by
  have HM := Lib.hid (s_made h.box)
  obtain ⟨c0, c1, c2, c3, c4⟩ := h.box.cells
  clear h
  go_enter Try.func18, Try.ntmps18
  go_wp2_with fail
  refine HM.out.mono ?_
  rintro e w1 ⟨rfl, rfl⟩
  go_wp2_with fail
  go_ret
  exact ⟨rfl, rfl⟩
theorem s_next (h : SLie w b aa NA hv hl g) : Calls Try.prog 20 #[.pointer (some ⟨b, 0, none⟩)] w fun e w' => e = .returned (.int .u64 (g.next : Int)) ∧ w' = w := by
  have HM := Lib.hid (s_made h.box)
  obtain ⟨c0, c1, c2, c3, c4⟩ := h.box.cells
  clear h
  go_enter Try.func20, Try.ntmps20
  go_wp2_with fail
  refine HM.out.mono ?_
  rintro e w1 ⟨rfl, rfl⟩
  go_wp2_with fail
  go_ret
  exact ⟨rfl, rfl⟩
end
theorem s_new (room : Nat) (h1 : 1 ≤ room) (h2 : room ≤ 65536) (w : World) : Calls Try.prog 8 #[.int .i64 (room : Int)] w fun e w' => ∃ a N, e = .returned (.tuple #[.pointer (some a), .int .i64 0]) ∧ AtS N w' a (Sg.new room) ∧ (∀ k, N k → w.heap.size ≤ k) ∧ Below w.heap.size w w' := by
  have HN := Lib.hid (arenaK.new room w h1 h2)
  go_enter Try.func8, Try.ntmps8
  go_wp2_with fail
  refine HN.out.mono ?_
  rintro e w1 ⟨aa, NA, rfl, k1, k2, k3⟩
  have bx := Box.new w1 66 #[.pointer (some aa), .pointer (some ⟨w1.heap.size, 0, none⟩), .slice none 0 0, .int .i64 0, .int .u64 1]
  have bl := (Below.refl _ w1).alloc (Nat.le_refl _) (.cells #[.pointer (some aa), .pointer (some ⟨w1.heap.size, 0, none⟩), .slice none 0 0, .int .i64 0, .int .u64 1] 66)
  have HE : Hid (AtS (fun k => k = w1.heap.size ∨ NA k ∨ (Value.slice none 0 0).ownBlock = some k) (w1.alloc (.cells #[.pointer (some aa), .pointer (some ⟨w1.heap.size, 0, none⟩), .slice none 0 0, .int .i64 0, .int .u64 1] 66)) ⟨w1.heap.size, 0, none⟩ (Sg.new room)) := by
    refine Lib.hid ⟨_, aa, NA, .slice none 0 0, [], rfl, ⟨bx, arenaK.below k1 bl, ⟨rfl, .inl ⟨rfl, rfl⟩⟩, fun j x hx => by simp at hx, fun j _ => hd_none (by simp [Sg.new, Gh.new]), by simp, fun hk => ?_, fun k hk e => by simp [Value.ownBlock] at e⟩, fun k => Iff.rfl⟩
    have := arenaK.lt k1 _ hk
    omega
  have HO : Hid (∀ k, (k = w1.heap.size ∨ NA k ∨ (Value.slice none 0 0).ownBlock = some k) → w.heap.size ≤ k) := by
    apply Lib.hid
    have := k3.size
    rintro k (e | e | e)
    · omega
    · exact k2 k e
    · simp [Value.ownBlock] at e
  have HL := Lib.hid (below_tr k3 bl)
  clear bx bl k1 k2 k3 HN
  go_wp2_with fail
  go_ret2
  exact ⟨_, _, rfl, HE.out, HO.out, HL.out⟩
theorem s_new_no (room : Int) (h : room < 1 ∨ 65536 < room) (w : World) : Calls Try.prog 8 #[.int .i64 room] w fun e w' => e = .returned (.tuple #[.pointer none, .int .i64 2]) ∧ Below w.heap.size w w' := by
  have HN := Lib.hid (arenaK.new_no room w h)
  clear h
  go_enter Try.func8, Try.ntmps8
  go_wp2_with fail
  refine HN.out.mono ?_
  rintro e w1 ⟨rfl, b1⟩
  have HB := Lib.hid b1
  clear b1 HN
  go_wp2_with fail
  go_ret2
  exact ⟨rfl, HB.out⟩

/-- A fresh struct is filled. -/
theorem fill7 {W : World} {rb : Nat} (h : Box W rb 48 #[.int .u64 0, .int .u64 0, .int .i64 0, .int .u8 0, .int .u64 0, .int .u64 0, .int .u64 0]) (x : Hl) : Box (put7 W rb 0 x) rb 48 x.cells.toArray := by
  have h5 := ((((((h.set 0 (.int .u64 (x.pk.sock : Int))).set 1 (.int .u64 (x.pk.cookie : Int))).set 2 (.int .i64 x.pk.len)).set 3 (.int .u8 (x.pk.prio : Int))).set 4 (.int .u64 (x.pk.at_ : Int))).set 5 (.int .u64 (x.seq : Int))).set 6 (.int .u64 (x.came : Int))
  exact h5
theorem put7_below {B : Nat} {w W : World} {rb : Nat} (h : Below B w W) (hr : B ≤ rb) (x : Hl) : Below B w (put7 W rb 0 x) := by
  unfold put7
  exact ((((((h.setCell (p := ⟨rb, 0 * 7, none⟩) hr _).setCell (p := ⟨rb, 0 * 7 + 1, none⟩) hr _).setCell (p := ⟨rb, 0 * 7 + 2, none⟩) hr _).setCell (p := ⟨rb, 0 * 7 + 3, none⟩) hr _).setCell (p := ⟨rb, 0 * 7 + 4, none⟩) hr _).setCell (p := ⟨rb, 0 * 7 + 5, none⟩) hr _).setCell (p := ⟨rb, 0 * 7 + 6, none⟩) hr _
def GotP (g : Sg) (k : Nat) (w : World) (e : Ending) (w' : World) : Prop := e = .returned (.tuple #[((look g.l k).getD Hl.zero).v, .bool (look g.l k).isSome]) ∧ Below w.heap.size w w'
set_option maxHeartbeats 4000000 in
set_option maxRecDepth 100000 in
theorem s_get {w : World} {b : Nat} {aa : Addr} {NA : Nat → Prop} {hv : Value} {hl : List Hl} {g : Sg} {M : Nat} (h : SLie w b aa NA hv hl g) (ok : g.Ok M) (hM : M ≤ 1000) (k : Nat) (hk : k < 18446744073709551616) :
    Calls Try.prog 15 #[.pointer (some ⟨b, 0, none⟩), .int .u64 (k : Int)] w (GotP g k w) := by
  have HLie := Lib.hid h
  have HOk := Lib.hid ok
  have HB1 := Lib.hid ((Below.refl _ w).alloc (Nat.le_refl _) (.cells #[.int .u64 0, .int .u64 0, .int .i64 0, .int .u8 0, .int .u64 0, .int .u64 0, .int .u64 0] 48))
  have HX1 := Lib.hid (Box.new w 48 #[.int .u64 0, .int .u64 0, .int .i64 0, .int .u8 0, .int .u64 0, .int .u64 0, .int .u64 0])
  have HM := Lib.hid (s_made (h.below HB1.out).box)
  have HP := Lib.hid (arenaK.place k (h.below HB1.out).ar ok.a hM hk)
  have hpo : placeOf g.a.ts g.a.l k = g.a.at k := rfl
  rw [hpo] at HP
  have hbx := h.box.lt
  clear h ok hpo
  go_enter Try.func15, Try.ntmps15
  go_upto_region 1 with fail
  obtain ⟨rb, HRb⟩ : ∃ rb, Hid (w.heap.size = rb) := ⟨_, Lib.hid rfl⟩
  obtain ⟨W1, HW1⟩ : ∃ W1, Hid (w.alloc (.cells #[.int .u64 0, .int .u64 0, .int .i64 0, .int .u8 0, .int .u64 0, .int .u64 0, .int .u64 0] 48) = W1) := ⟨_, Lib.hid rfl⟩
  rw [HW1.out] at HB1 HX1 HM HP ⊢
  have HLie1 := Lib.hid (HLie.out.below HB1.out)
  rw [HRb.out] at HX1 ⊢
  obtain ⟨c0, c1, c2, c3, c4⟩ := HLie1.out.box.cells
  clear HW1
  go_wp2_with fail
  refine HM.out.mono ?_
  rintro e w2 ⟨rfl, rfl⟩
  go_wp2_with fail
  refine HP.out.mono ?_
  rintro e W2 ⟨rfl, b2⟩
  have HB2 := Lib.hid (below_tr HB1.out b2)
  have HX2 := Lib.hid (HX1.out.below b2 HX1.out.lt)
  have HLie2 := Lib.hid (HLie1.out.below b2)
  clear b2 c0 c1 c2 c3 c4 HP HM HB1 HX1 HLie1
  have r0 : W2.cell? ⟨rb, 0, none⟩ = some (.int .u64 0) := HX2.out.cell 0
  have r1 : W2.cell? ⟨rb, 1, none⟩ = some (.int .u64 0) := HX2.out.cell 1
  have r2 : W2.cell? ⟨rb, 2, none⟩ = some (.int .i64 0) := HX2.out.cell 2
  have r3 : W2.cell? ⟨rb, 3, none⟩ = some (.int .u8 0) := HX2.out.cell 3
  have r4 : W2.cell? ⟨rb, 4, none⟩ = some (.int .u64 0) := HX2.out.cell 4
  have r5 : W2.cell? ⟨rb, 5, none⟩ = some (.int .u64 0) := HX2.out.cell 5
  have r6 : W2.cell? ⟨rb, 6, none⟩ = some (.int .u64 0) := HX2.out.cell 6
  have f0 := HX2.out.frozen 0
  have f1 := HX2.out.frozen 1
  have f2 := HX2.out.frozen 2
  have f3 := HX2.out.frozen 3
  have f4 := HX2.out.frozen 4
  have f5 := HX2.out.frozen 5
  have f6 := HX2.out.frozen 6
  cases hat : g.a.at k with
  | none =>
    have hlk := (look_at HOk.out k).2 hat
    have HE : Hid (GotP g k w (.returned (.tuple #[Hl.zero.v, .bool false])) (put7 W2 rb 0 Hl.zero)) := Lib.hid ⟨by rw [hlk]; rfl, put7_below HB2.out (by rw [HRb.out]; exact Nat.le_refl _) _⟩
    have HF := Lib.hid (fill7 HX2.out Hl.zero)
    clear hat hlk
    simp only [placeV, Option.getD_none, Option.isSome_none]
    go_wp2_with fail
    change bodyPost _ _ _ _ _ (put7 W2 rb 0 Hl.zero)
    obtain ⟨W3, HW3⟩ : ∃ W3, Hid (put7 W2 rb 0 Hl.zero = W3) := ⟨_, Lib.hid rfl⟩
    rw [HW3.out] at HE HF ⊢
    have k0 := HF.out.cell 0
    have k1 := HF.out.cell 1
    have k2 := HF.out.cell 2
    have k3 := HF.out.cell 3
    have k4 := HF.out.cell 4
    have k5 := HF.out.cell 5
    have k6 := HF.out.cell 6
    simp only [Hl.cells, Hl.zero, Pk.zero, List.getElem?_toArray, List.getElem?_cons_zero, List.getElem?_cons_succ] at k0 k1 k2 k3 k4 k5 k6
    refine bodyPost_ret (v := .tuple #[Hl.v Hl.zero, .bool false]) ?_ rfl HE.out
    simp [results, Try.f15, go_sem, k0, k1, k2, k3, k4, k5, k6, Hl.v, Hl.cells, Hl.zero, Pk.zero]
  | some p =>
    obtain ⟨x, hx, hlx, hsq, hpl⟩ := HLie2.out.at_ HOk.out hat
    have HE : Hid (GotP g k w (.returned (.tuple #[Hl.v x, .bool true])) (put7 W2 rb 0 x)) := Lib.hid ⟨by rw [hx]; rfl, put7_below HB2.out (by rw [HRb.out]; exact Nat.le_refl _) _⟩
    have HF := Lib.hid (fill7 HX2.out x)
    obtain ⟨q, c, hq⟩ := owns_slice HLie2.out.row
    have hrow := HLie2.out.row
    rw [hq] at hrow
    obtain ⟨gh, rfl, hcs, hfs⟩ := held_cell hrow rfl hlx
    obtain ⟨c0, c1, c2, c3, c4⟩ := HLie2.out.box.cells
    rw [hq] at c2
    have y0 : W2.cell? ⟨gh, p * 7, none⟩ = some (.int .u64 (x.pk.sock : Int)) := hcs 0 (by omega)
    have y1 : W2.cell? ⟨gh, p * 7 + 1, none⟩ = some (.int .u64 (x.pk.cookie : Int)) := hcs 1 (by omega)
    have y2 : W2.cell? ⟨gh, p * 7 + 2, none⟩ = some (.int .i64 x.pk.len) := hcs 2 (by omega)
    have y3 : W2.cell? ⟨gh, p * 7 + 3, none⟩ = some (.int .u8 (x.pk.prio : Int)) := hcs 3 (by omega)
    have y4 : W2.cell? ⟨gh, p * 7 + 4, none⟩ = some (.int .u64 (x.pk.at_ : Int)) := hcs 4 (by omega)
    have y5 : W2.cell? ⟨gh, p * 7 + 5, none⟩ = some (.int .u64 (x.seq : Int)) := hcs 5 (by omega)
    have y6 : W2.cell? ⟨gh, p * 7 + 6, none⟩ = some (.int .u64 (x.came : Int)) := hcs 6 (by omega)
    have hl6 := HLie2.out.len
    have hpz0 : (0 : Int) ≤ (p : Int) := by omega
    have hpz : (p : Int) < (hl.length : Int) := by omega
    have hpy : ¬ (hl.length : Int) ≤ (p : Int) := by omega
    have hpx : decide ((hl.length : Int) ≤ (p : Int)) = false := by simpa using hpy
    have hpw : decide (hl.length ≤ p) = false := by simpa using hpl
    have hsz : ((x.seq : Int) == 0) = false := by rw [beq_eq_false_iff_ne]; omega
    have hsy : (x.seq == 0) = false := by rw [beq_eq_false_iff_ne]; omega
    have hsx : ¬ (x.seq : Int) = 0 := by omega
    have hsw : ¬ x.seq = 0 := by omega
    clear hat hx hlx hsq hpl hq hrow hcs hfs
    simp only [placeV, Option.getD_some, Option.isSome_some]
    go_wp2_with fail
    change bodyPost _ _ _ _ _ (put7 W2 rb 0 x)
    obtain ⟨W3, HW3⟩ : ∃ W3, Hid (put7 W2 rb 0 x = W3) := ⟨_, Lib.hid rfl⟩
    rw [HW3.out] at HE HF ⊢
    have k0 := HF.out.cell 0
    have k1 := HF.out.cell 1
    have k2 := HF.out.cell 2
    have k3 := HF.out.cell 3
    have k4 := HF.out.cell 4
    have k5 := HF.out.cell 5
    have k6 := HF.out.cell 6
    simp only [Hl.cells, List.getElem?_toArray, List.getElem?_cons_zero, List.getElem?_cons_succ] at k0 k1 k2 k3 k4 k5 k6
    refine bodyPost_ret (v := .tuple #[Hl.v x, .bool true]) ?_ rfl HE.out
    simp [results, Try.f15, go_sem, k0, k1, k2, k3, k4, k5, k6, Hl.v, Hl.cells]

end Go.Proofs.Ytmaofmbnlfggiab
