/-
  The program's own store: lay, which puts what is held, or nothing, at a place.
-/
import Derived.Test.YtmaofmbnlfggiabStoreOwn
import Derived.Deep.AppendLies
namespace Go.Proofs.Ytmaofmbnlfggiab
open Go.RowKit
set_option linter.unusedVariables false
set_option linter.unusedSimpArgs false

theorem own_put1 {w : World} {base e s n c g j : Nat} {xs : List Value} (h : w.ownsRow base e s (.slice (some ⟨g, 0, none⟩) n c) n xs) (v : Value) : (w.setCell ⟨g, j, none⟩ v).ownsRow base e s (.slice (some ⟨g, 0, none⟩) n c) n (xs.set j v) := by
  refine ⟨by rw [List.length_set]; exact h.1, ?_⟩
  rcases h.2 with ⟨h1, _⟩ | ⟨g', cap, cur, h1, h2, h3, h4, h5, h6, h7⟩
  · cases h1
  · cases h1
    have hb : Box w g e cur := h3
    refine .inr ⟨g, c, _, rfl, h2, hb.set j v, h4, h5, by simpa using h6, ?_⟩
    rw [Array.toList_setIfInBounds, List.take_set, h7]
def sets7 (xs : List Value) (k : Nat) (x : Hl) : List Value := ((((((xs.set k (.int .u64 (x.pk.sock : Int))).set (k + 1) (.int .u64 (x.pk.cookie : Int))).set (k + 2) (.int .i64 x.pk.len)).set (k + 3) (.int .u8 (x.pk.prio : Int))).set (k + 4) (.int .u64 (x.pk.at_ : Int))).set (k + 5) (.int .u64 (x.seq : Int))).set (k + 6) (.int .u64 (x.came : Int))
theorem set_right {a b : List Value} {k j : Nat} {v : Value} (ha : a.length = 7) (hk : k = j + 7) : (a ++ b).set k v = a ++ b.set j v := by
  subst hk
  rw [List.set_append_right _ _ (by omega), ha, Nat.add_sub_cancel]
theorem flatH_set : ∀ {l : List Hl} {p : Nat} (x : Hl), p < l.length → flatH (l.set p x) = sets7 (flatH l) (p * 7) x
  | [], p, x, h => absurd h (by simp)
  | y :: l, 0, x, _ => by
    rw [List.set_cons_zero, flatH_cons, flatH_cons]
    rfl
  | y :: l, p + 1, x, h => by
    have ih := flatH_set (l := l) (p := p) x (by simpa using h)
    have hy : y.cells.length = 7 := rfl
    rw [List.set_cons_succ, flatH_cons, flatH_cons, ih]
    unfold sets7
    rw [set_right hy (j := p * 7) (by omega), set_right hy (j := p * 7 + 1) (by omega), set_right hy (j := p * 7 + 2) (by omega), set_right hy (j := p * 7 + 3) (by omega), set_right hy (j := p * 7 + 4) (by omega), set_right hy (j := p * 7 + 5) (by omega), set_right hy (j := p * 7 + 6) (by omega)]
theorem own_put7 {w : World} {base n c g p : Nat} {l : List Hl} (h : w.ownsRow base 48 7 (.slice (some ⟨g, 0, none⟩) n c) n (flatH l)) (x : Hl) (hp : p < l.length) : (put7 w g p x).ownsRow base 48 7 (.slice (some ⟨g, 0, none⟩) n c) n (flatH (l.set p x)) := by
  rw [flatH_set x hp]
  exact own_put1 (own_put1 (own_put1 (own_put1 (own_put1 (own_put1 (own_put1 h _) _) _) _) _) _) _
theorem put7_heap {w : World} {g p k : Nat} {x : Hl} (hk : k ≠ g) : (put7 w g p x).heap[k]? = w.heap[k]? := by
  unfold put7
  rw [Below.heap_setCell _ ⟨g, _, none⟩ _ k hk, Below.heap_setCell _ ⟨g, _, none⟩ _ k hk, Below.heap_setCell _ ⟨g, _, none⟩ _ k hk, Below.heap_setCell _ ⟨g, _, none⟩ _ k hk, Below.heap_setCell _ ⟨g, _, none⟩ _ k hk, Below.heap_setCell _ ⟨g, _, none⟩ _ k hk, Below.heap_setCell _ ⟨g, _, none⟩ _ k hk]
theorem put7_size {w : World} {g p : Nat} {x : Hl} : (put7 w g p x).heap.size = w.heap.size := by unfold put7; simp only [World.size_setCell]
theorem put7_turned {w : World} {g p : Nat} {x : Hl} : Turned (fun k => k = g) w (put7 w g p x) := by
  unfold put7
  exact (((((((Turned.refl (fun k => k = g) w).set (b := g) rfl _).set (b := g) rfl _).set (b := g) rfl _).set (b := g) rfl _).set (b := g) rfl _).set (b := g) rfl _).set (b := g) rfl _
theorem LayM.put' {w W W2 : World} {b : Nat} {aa : Addr} {hv : Value} {bytes : Int} {next : Nat} {hl l2 : List Hl} {g n c : Nat} (h : LayM w W b aa hv (.slice (some ⟨g, 0, none⟩) n c) bytes next hl) (e : ∀ k, k ≠ g → W2.heap[k]? = W.heap[k]?) (es : W2.heap.size = W.heap.size) (eo : W2.os = W.os) (et : W2.tape = W.tape) (ep : W2.output = W.output)
    (r : W2.ownsRow 0 48 7 (.slice (some ⟨g, 0, none⟩) n c) l2.length (flatH l2)) : LayM w W2 b aa hv (.slice (some ⟨g, 0, none⟩) n c) bytes next l2 := by
  have hgb : b ≠ g := fun e => h.nb (by rw [e]; rfl)
  refine ⟨(e b hgb).trans h.box, r, h.own, ⟨eo.trans h.lo.os, et.trans h.lo.tape, ep.trans h.lo.output, by rw [es]; exact h.lo.size, fun k hk hnk => ?_⟩⟩
  by_cases e' : k = g
  · subst e'
    rcases h.own k rfl with h1 | h1
    · exact absurd (.inr h1) hnk
    · omega
  · rw [e k e']
    exact h.lo.block k hk hnk
theorem LayM.put {w W : World} {b : Nat} {aa : Addr} {hv : Value} {bytes : Int} {next : Nat} {hl : List Hl} {g n c p : Nat} (h : LayM w W b aa hv (.slice (some ⟨g, 0, none⟩) n c) bytes next hl) (hn : hl.length = n) (x : Hl) (hp : p < n) : LayM w (put7 W g p x) b aa hv (.slice (some ⟨g, 0, none⟩) n c) bytes next (hl.set p x) := by
  subst hn
  have hr : (put7 W g p x).ownsRow 0 48 7 (.slice (some ⟨g, 0, none⟩) hl.length c) (hl.set p x).length (flatH (hl.set p x)) := by
    rw [List.length_set]
    exact own_put7 h.row x hp
  have t := put7_turned (w := W) (g := g) (p := p) (x := x)
  exact h.put' (fun k hk => put7_heap hk) put7_size t.os t.tape t.output hr
theorem held_cell {W : World} {base n c i : Nat} {q : Option Addr} {l : List Hl} {x : Hl} (h : W.ownsRow base 48 7 (.slice q n c) n (flatH l)) (hl : l.length = n) (hx : l[i]? = some x) :
    ∃ g, q = some ⟨g, 0, none⟩ ∧ (∀ j, j < 7 → W.cell? ⟨g, i * 7 + j, none⟩ = x.cells[j]?) ∧ (∀ j, W.frozen? ⟨g, j, none⟩ = false) := by
  have hi := (List.getElem?_eq_some_iff.1 hx).1
  rcases h.2 with ⟨_, e⟩ | ⟨g, cap, cur, e, h2, h3, h4, h5, h6, h7⟩
  · omega
  · cases e
    have hb : Box W g _ cur := h3
    refine ⟨g, rfl, fun j hj => ?_, fun j => hb.frozen j⟩
    rw [hb.cell, ← flatH_get hx hj, ← h7, List.getElem?_take, if_pos (by omega), Array.getElem?_toList]

theorem rep_more {L hl : List Hl} (h : L = hl ++ List.replicate (L.length - hl.length) Hl.zero) : L ++ [Hl.zero] = hl ++ List.replicate ((L ++ [Hl.zero]).length - hl.length) Hl.zero := by
  have hle : hl.length ≤ L.length := by
    have := congrArg List.length h
    rw [List.length_append] at this
    omega
  have e : (L ++ [Hl.zero]).length - hl.length = (L.length - hl.length) + 1 := by simp; omega
  rw [e, List.replicate_succ', ← List.append_assoc, ← h]
theorem ne_own {gg xb n c m : Nat} {v : Value} (hne : v.ownBlock ≠ some xb) (hat : v.ownBlock = some gg ∨ gg = m) (hm : xb < m) : (Value.slice (some ⟨gg, 0, none⟩) n c).ownBlock ≠ some xb := by
  intro e
  have e' : gg = xb := by simpa [Value.ownBlock] using e
  rcases hat with h1 | h1
  · exact hne (by rw [h1, e'])
  · omega
set_option maxHeartbeats 8000000 in
set_option maxRecDepth 100000 in
theorem s_lay {w : World} {b : Nat} {aa : Addr} {hv : Value} {bytes : Int} {next : Nat} {hl : List Hl} (h : SBox w b aa hv bytes next) (hr : w.ownsRow 0 48 7 hv hl.length (flatH hl)) (hlen : hl.length ≤ 65536) (p : Nat) (hp : p < 65536) (x : Hl) :
    Calls Try.prog 27 #[.pointer (some ⟨b, 0, none⟩), .int .i64 (p : Int), x.v] w fun e w' => e = .returned (.tuple #[]) ∧ ∃ hv', LayM w w' b aa hv hv' bytes next (setL hl p x) := by
  obtain ⟨⟨sock, cookie, len, prio, at_⟩, seq, came⟩ := x
  unfold Hl.v Hl.cells
  obtain ⟨q, c, rfl⟩ := owns_slice hr
  have HR0 : Hid (LayM w w b aa (.slice q hl.length c) (.slice q hl.length c) bytes next hl) := Lib.hid ⟨h, hr, fun k hk => .inl hk, Turned.refl _ _⟩
  have hbw := h.lt
  have HRow0 := Lib.hid (fun k hk => (hr.lt k hk).2)
  obtain ⟨inf, hi1, hi2, hi3, hi4⟩ := info_parts (P := Try.prog) (e := 48) (z := .agg #[.int .u64 0, .int .u64 0, .int .i64 0, .int .u8 0, .int .u64 0, .int .u64 0, .int .u64 0]) (size := 7) (bytes := 56) (by kernel_rfl)
  have HI := Lib.hid (And.intro hi1 (And.intro hi2 (And.intro hi3 hi4)))
  have HB1 := Lib.hid ((Below.refl _ w).alloc (Nat.le_refl _) (.cells #[.int .u64 (sock : Int), .int .u64 (cookie : Int), .int .i64 len, .int .u8 (prio : Int), .int .u64 (at_ : Int), .int .u64 (seq : Int), .int .u64 (came : Int)] 48))
  have HX1 := Lib.hid (Box.new w 48 #[.int .u64 (sock : Int), .int .u64 (cookie : Int), .int .i64 len, .int .u8 (prio : Int), .int .u64 (at_ : Int), .int .u64 (seq : Int), .int .u64 (came : Int)])
  clear h hr hi1 hi2 hi3 hi4
  go_enter Try.func27, Try.ntmps27
  go_wp2_with fail
  obtain ⟨xb, HXb⟩ : ∃ xb, Hid (w.heap.size = xb) := ⟨_, Lib.hid rfl⟩
  obtain ⟨W1, HW1⟩ : ∃ W1, Hid (w.alloc (.cells #[.int .u64 (sock : Int), .int .u64 (cookie : Int), .int .i64 len, .int .u8 (prio : Int), .int .u64 (at_ : Int), .int .u64 (seq : Int), .int .u64 (came : Int)] 48) = W1) := ⟨_, Lib.hid rfl⟩
  rw [HW1.out] at HB1 HX1 ⊢
  have HR1 := Lib.hid (HR0.out.below HB1.out)
  rw [HXb.out] at HX1 ⊢
  clear HR0 HW1
  go_loopg [] (p + 1 - hl.length) (fun r wx => ∃ (L : List Hl) (q' : Option Addr) (c' : Nat), p + 1 - L.length = r ∧ hl.length ≤ L.length ∧ L.length ≤ max hl.length (p + 1) ∧ Hid (L = hl ++ List.replicate (L.length - hl.length) Hl.zero ∧ LayM w wx b aa (.slice q hl.length c) (.slice q' L.length c') bytes next L ∧ Box wx xb 48 #[.int .u64 (sock : Int), .int .u64 (cookie : Int), .int .i64 len, .int .u8 (prio : Int), .int .u64 (at_ : Int), .int .u64 (seq : Int), .int .u64 (came : Int)] ∧ (Value.slice q' L.length c').ownBlock ≠ some xb))
  case atStart => exact ⟨hl, q, c, rfl, Nat.le_refl _, Nat.le_max_left _ _, Lib.hid ⟨by simp, HR1.out, HX1.out, fun e => by have := HRow0.out xb e; have := HXb.out; omega⟩⟩
  case round =>
    obtain ⟨L, q', c', hr0, hL1, hL2, HR⟩ := hrel
    have HMs := Lib.hid hr0
    clear HR1 HX1 hr0
    have hL6 : L.length ≤ 65536 := by omega
    obtain ⟨c0, c1, c2, c3, c4⟩ := HR.out.2.1.box.cells
    by_cases hle : L.length ≤ p
    · have hlz : (L.length : Int) ≤ (p : Int) := by omega
      have fz := HR.out.2.1.box.frozen 2
      have A1 := Lib.hid ((Below.refl _ wr).alloc (Nat.le_refl _) (.cells #[.int .u64 0, .int .u64 0, .int .i64 0, .int .u8 0, .int .u64 0, .int .u64 0, .int .u64 0] 48))
      have HR2 := Lib.hid (HR.out.2.1.below A1.out)
      have HX2 := Lib.hid (HR.out.2.2.1.below A1.out HR.out.2.2.1.lt)
      have HNe := Lib.hid HR.out.2.2.2
      have hxlt := HR.out.2.2.1.lt
      have hbx : xb ≠ b := by have := HXb.out; omega
      go_wp2_with (at_builtin; refine wpList_append_lies _ rfl (.tmp 17) (.tmp 19) _ rfl 0 48 inf _ 7 56 Try.underlying64 HI.out.1 HI.out.2.1 HI.out.2.2.1 HI.out.2.2.2 rfl (by omega) _ L.length _ rfl HR2.out.row ⟨wr.heap.size, 0, none⟩ 1 1 [.int .u64 0, .int .u64 0, .int .i64 0, .int .u8 0, .int .u64 0, .int .u64 0, .int .u64 0] rfl rfl (World.news_of_block (cs := #[.int .u64 0, .int .u64 0, .int .i64 0, .int .u8 0, .int .u64 0, .int .u64 0, .int .u64 0]) (t := 48) (fr := (0, 0)) (heap_alloc_new wr _)) (by simp [Value.oneCell']) (by omega) (by simp [maxLen]; omega) (by omega) (by omega) (wr.heap.size + 1) (by simp) ?_; intro gg cap w5 o5 g5 hat hlt; have HR5 := Lib.hid (HR2.out.more hbw o5 g5 (hat.imp id (fun e => e.trans (by simp)))); have HX5 : Hid (Box (w5.setCell ⟨b, 2, none⟩ (.slice (some ⟨gg, 0, none⟩) (L.length + 1) cap)) xb 48 #[.int .u64 (sock : Int), .int .u64 (cookie : Int), .int .i64 len, .int .u8 (prio : Int), .int .u64 (at_ : Int), .int .u64 (seq : Int), .int .u64 (came : Int)]) := (Box.grown HX2.out g5 (fun e => HNe.out e.symm)).other hbx _; have hne5 := ne_own (n := L.length + 1) (c := cap) HNe.out hat (by omega); have HNe5 := Lib.hid hne5; clear hne5; have d2 := (g5.cell_far ⟨b, 2, none⟩ HR2.out.box.lt (fun e => HR2.out.nb e.symm)).trans HR2.out.box.cells.2.2.1; have f2 := (Box.grown (show Box _ b _ _ from HR2.out.box) g5 (fun e => HR2.out.nb e.symm)).frozen 2; clear o5 g5 hat hlt c0 c1 c2 c3 c4 fz)
      go_roundg (p + 1 - (L.length + 1))
      case measure => have := HMs.out; omega
      case rel => exact ⟨L ++ [Hl.zero], some ⟨gg, 0, none⟩, cap, by simp, by simp; omega, by simp; omega, Lib.hid ⟨rep_more HR.out.1, by simpa using HR5.out, HX5.out, by simpa using HNe5.out⟩⟩
    · have hlz : ¬ (L.length : Int) ≤ (p : Int) := by omega
      have hpad : L = padL hl p := by
        have h5 := HR.out.1
        unfold padL
        have e : L.length - hl.length = p + 1 - hl.length := by omega
        rw [e] at h5
        exact h5
      obtain ⟨y, hy⟩ : ∃ y, L[p]? = some y := ⟨_, List.getElem?_eq_getElem (by omega)⟩
      obtain ⟨g, rfl, hcs, hfs⟩ := held_cell HR.out.2.1.row rfl hy
      have HP := Lib.hid (HR.out.2.1.put rfl ⟨⟨sock, cookie, len, prio, at_⟩, seq, came⟩ (by omega : p < L.length))
      have HSet : Hid (setL hl p ⟨⟨sock, cookie, len, prio, at_⟩, seq, came⟩ = L.set p ⟨⟨sock, cookie, len, prio, at_⟩, seq, came⟩) := Lib.hid (by unfold setL; rw [← hpad])
      have HX3 := HR.out.2.2.1
      have x0 := HX3.cell 0
      have x1 := HX3.cell 1
      have x2 := HX3.cell 2
      have x3 := HX3.cell 3
      have x4 := HX3.cell 4
      have x5 := HX3.cell 5
      have x6 := HX3.cell 6
      have y0 : wr.cell? ⟨g, p * 7, none⟩ = some (.int .u64 (y.pk.sock : Int)) := hcs 0 (by omega)
      have y1 : wr.cell? ⟨g, p * 7 + 1, none⟩ = some (.int .u64 (y.pk.cookie : Int)) := hcs 1 (by omega)
      have y2 : wr.cell? ⟨g, p * 7 + 2, none⟩ = some (.int .i64 y.pk.len) := hcs 2 (by omega)
      have y3 : wr.cell? ⟨g, p * 7 + 3, none⟩ = some (.int .u8 (y.pk.prio : Int)) := hcs 3 (by omega)
      have y4 : wr.cell? ⟨g, p * 7 + 4, none⟩ = some (.int .u64 (y.pk.at_ : Int)) := hcs 4 (by omega)
      have y5 : wr.cell? ⟨g, p * 7 + 5, none⟩ = some (.int .u64 (y.seq : Int)) := hcs 5 (by omega)
      have y6 : wr.cell? ⟨g, p * 7 + 6, none⟩ = some (.int .u64 (y.came : Int)) := hcs 6 (by omega)
      have z0 := hfs (p * 7)
      have z1 := hfs (p * 7 + 1)
      have z2 := hfs (p * 7 + 2)
      have z3 := hfs (p * 7 + 3)
      have z4 := hfs (p * 7 + 4)
      have z5 := hfs (p * 7 + 5)
      have z6 := hfs (p * 7 + 6)
      have hpz0 : (0 : Int) ≤ (p : Int) := by omega
      have hpz : (p : Int) < (L.length : Int) := by omega
      unfold put7 at HP
      clear hpad hcs hfs hy HX3
      go_wp2_with fail
      go_still_tail 7, (by kernel_rfl)
      change wpList _ _ _ _ _ wr.drew
      go_wp2_with fail
      go_end0
      exact ⟨rfl, _, by rw [HSet.out]; exact HP.out.below (Below.refl _ _).drew⟩

end Go.Proofs.Ytmaofmbnlfggiab
