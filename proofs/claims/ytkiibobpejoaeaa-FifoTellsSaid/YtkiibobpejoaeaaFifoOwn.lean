/-
  The program's own queue (package fifo): how it lies, and its small calls.
-/
import Derived.Test.YtkiibobpejoaeaaFifoGhost
import Derived.Test.YtkiibobpejoaeaaTreeProg
import Derived.LaidEqlPtr
import Derived.Deep.RegionLaw
namespace Go.Proofs.Ytkiibobpejoaeaa
open Go.RowKit
set_option linter.unusedVariables false
set_option maxRecDepth 100000
set_option linter.unusedSimpArgs false

def pkC (e : En) : List Value := [.int .u64 e.val, .int .u64 (e.key.at_ : Int), .int .u64 (e.key.seq : Int)]
def FBox (w : World) (b : Nat) (rv : Value) (gone : Nat) (ta : Addr) : Prop := Box w b 112 #[.pointer (some ⟨b, 0, none⟩), rv, .int .i64 (gone : Int), .pointer (some ta)]
/-- A queue: how many there may be, and all, by rising keys, each with its handle. -/
structure Fg where
  room : Nat
  l : List En
structure Fg.Ok (g : Fg) : Prop where
  rises : Rises g.l
  fits : ∀ e, e ∈ g.l → e.key.Fits ∧ Hw e.val
  room : g.l.length ≤ g.room
  one : 1 ≤ g.room
  small : g.room ≤ 65536
structure FLie (w : World) (b : Nat) (ta : Addr) (NT : Nat → Prop) (rv : Value) (gone : Nat) (P r : List En) (tg : Tg) (g : Fg) : Prop where
  box : FBox w b rv gone ta
  tr : treeK.At NT w ta tg
  tok : tg.Ok
  troom : tg.room = g.room
  row : w.ownsRow 0 116 3 rv P.length (P.flatMap pkC)
  drop : P.drop gone = r
  gl : gone ≤ P.length
  gr : gone ≤ r.length
  parts : Parts g.l r tg.l
  nb : ¬ NT b
  nr : ∀ k, NT k → rv.ownBlock ≠ some k
def AtF (N : Nat → Prop) (w : World) (a : Addr) (g : Fg) : Prop := ∃ b ta NT rv gone P r tg, a = ⟨b, 0, none⟩ ∧ FLie w b ta NT rv gone P r tg g ∧ ∀ k, N k ↔ k = b ∨ NT k ∨ rv.ownBlock = some k
section
variable {w w' : World} {b gone : Nat} {ta a : Addr} {NT N : Nat → Prop} {rv : Value} {P r : List En} {tg : Tg} {g : Fg}
theorem FBox.cells (h : FBox w b rv gone ta) : w.cell? ⟨b, 0, none⟩ = some (.pointer (some ⟨b, 0, none⟩)) ∧ w.cell? ⟨b, 1, none⟩ = some rv ∧ w.cell? ⟨b, 2, none⟩ = some (.int .i64 (gone : Int)) ∧ w.cell? ⟨b, 3, none⟩ = some (.pointer (some ta)) := by
  have h' : Box w b _ _ := h
  exact ⟨h'.cell 0, h'.cell 1, h'.cell 2, h'.cell 3⟩
theorem FBox.lt (h : FBox w b rv gone ta) : b < w.heap.size := Box.lt (show Box w b _ _ from h)
theorem FBox.frozen (h : FBox w b rv gone ta) (i : Nat) : w.frozen? ⟨b, i, none⟩ = false := Box.frozen (show Box w b _ _ from h) i
theorem FLie.lt (h : FLie w b ta NT rv gone P r tg g) : ∀ k, (k = b ∨ NT k ∨ rv.ownBlock = some k) → k < w.heap.size := by
  rintro k (rfl | hk | hk)
  · exact h.box.lt
  · exact treeK.lt h.tr k hk
  · exact (h.row.lt k hk).2
theorem FLie.kept (h : FLie w b ta NT rv gone P r tg g) (e : ∀ k, (k = b ∨ NT k ∨ rv.ownBlock = some k) → w'.heap[k]? = w.heap[k]?) (s : w.heap.size ≤ w'.heap.size) : FLie w' b ta NT rv gone P r tg g :=
  ⟨(e b (.inl rfl)).trans h.box, treeK.kept h.tr (fun k hk => e k (.inr (.inl hk))) s, h.tok, h.troom, own_same h.row (fun k hk => e k (.inr (.inr hk))), h.drop, h.gl, h.gr, h.parts, h.nb, h.nr⟩
theorem FLie.below (h : FLie w b ta NT rv gone P r tg g) (l : Below w.heap.size w w') : FLie w' b ta NT rv gone P r tg g := h.kept (fun k hk => l.block k (h.lt k hk)) l.size
theorem AtF.lt (h : AtF N w a g) : ∀ k, N k → k < w.heap.size := by
  obtain ⟨b, ta, NT, rv, gone, P, r, tg, rfl, h1, h2⟩ := h
  exact fun k hk => h1.lt k ((h2 k).1 hk)
theorem AtF.kept (h : AtF N w a g) (e : ∀ k, N k → w'.heap[k]? = w.heap[k]?) (s : w.heap.size ≤ w'.heap.size) : AtF N w' a g := by
  obtain ⟨b, ta, NT, rv, gone, P, r, tg, rfl, h1, h2⟩ := h
  exact ⟨b, ta, NT, rv, gone, P, r, tg, rfl, h1.kept (fun k hk => e k ((h2 k).2 hk)) s, h2⟩
theorem AtF.below (h : AtF N w a g) (l : Below w.heap.size w w') : AtF N w' a g := h.kept (fun k hk => l.block k (h.lt k hk)) l.size
theorem f_made (h : FBox w b rv gone ta) :
    Calls Try.prog 48 #[.pointer (some ⟨b, 0, none⟩)] w fun e w' => e = .returned (.bool true) ∧ w' = w := by
  obtain ⟨c0, c1, c2, c3⟩ := h.cells
  clear h
  obtain ⟨inf, hi1, _⟩ := info_parts (P := Try.prog) (e := 112) (z := .agg #[.pointer none, .slice none 0 0, .int .i64 0, .pointer none]) (size := 4) (bytes := 48) (by kernel_rfl)
  have hq := fun w : World => run_eql_ptr_same (P := Try.prog) (w := w) (tp := 59) (te := 112) ⟨b, 0, none⟩ (by kernel_rfl) hi1
  go_enter Try.func48, Try.ntmps48
  go_wp2_with fail
  go_ret
  exact ⟨rfl, rfl⟩
end
/-- A slice whose elements are these packets. -/
def RowAt (W : World) (v : Value) (r : List En) : Prop := ∃ p c, v = .slice p r.length c ∧ r.length ≤ c ∧ c ≤ 9223372036854775807 ∧ ∀ i e, r[i]? = some e → ∃ g o, p = some ⟨g, o, none⟩ ∧ W.cell? ⟨g, o + i * 3, none⟩ = some (.int .u64 e.val) ∧ W.cell? ⟨g, o + i * 3 + 1, none⟩ = some (.int .u64 (e.key.at_ : Int)) ∧ W.cell? ⟨g, o + i * 3 + 2, none⟩ = some (.int .u64 (e.key.seq : Int))
theorem RowAt.below {W W' : World} {v : Value} {r : List En} (h : RowAt W v r) (b : Below W.heap.size W W') : RowAt W' v r := by
  obtain ⟨p, c, h1, h2, h3, h4⟩ := h
  refine ⟨p, c, h1, h2, h3, fun i e he => ?_⟩
  obtain ⟨g, o, k1, k2, k3, k4⟩ := h4 i e he
  exact ⟨g, o, k1, (b.cell (World.block_lt_of_cell? W _ k2)).trans k2, (b.cell (World.block_lt_of_cell? W _ k3)).trans k3, (b.cell (World.block_lt_of_cell? W _ k4)).trans k4⟩
/-- What lies behind the first ones. -/
theorem pk_cells3 {W : World} {gh cap k : Nat} {cur : Array Value} {P r : List En} (h : Box W gh 116 cur) (ht : cur.toList.take (P.length * 3) = P.flatMap pkC) (hd : P.drop k = r) {i : Nat} {e : En} (he : r[i]? = some e) : W.cell? ⟨gh, k * 3 + i * 3, none⟩ = some (.int .u64 e.val) ∧ W.cell? ⟨gh, k * 3 + i * 3 + 1, none⟩ = some (.int .u64 (e.key.at_ : Int)) ∧ W.cell? ⟨gh, k * 3 + i * 3 + 2, none⟩ = some (.int .u64 (e.key.seq : Int)) := by
  have he2 : P[k + i]? = some e := by rw [← hd, List.getElem?_drop] at he; exact he
  have hlt := (List.getElem?_eq_some_iff.1 he2).1
  have key : ∀ j, j < 3 → W.cell? ⟨gh, k * 3 + i * 3 + j, none⟩ = (pkC e)[j]? := fun j hj => by
    have e1 := flat_get pkC 3 (fun _ => rfl) P (k + i) j hj
    rw [he2, Nat.add_mul] at e1
    rw [h.cell, ← Array.getElem?_toList]
    have e2 : (cur.toList.take (P.length * 3))[k * 3 + i * 3 + j]? = cur.toList[k * 3 + i * 3 + j]? := by rw [List.getElem?_take, if_pos (by omega)]
    rw [← e2, ht, e1]
    rfl
  exact ⟨key 0 (by omega), key 1 (by omega), key 2 (by omega)⟩
set_option maxHeartbeats 1000000 in
theorem f_waitingS {w : World} {b gone : Nat} {ta : Addr} {rv : Value} {P r : List En} (hbox : FBox w b rv gone ta) (hrow : w.ownsRow 0 116 3 rv P.length (P.flatMap pkC)) (hdrop : P.drop gone = r) (hgl : gone ≤ P.length) :
    Calls Try.prog 57 #[.pointer (some ⟨b, 0, none⟩)] w fun e w' => ∃ v, e = .returned v ∧ RowAt w' v r ∧ Below w.heap.size w w' ∧ (∀ gh n c, rv = .slice (some ⟨gh, 0, none⟩) n c → ∃ o c', v = .slice (some ⟨gh, o, none⟩) r.length c') ∧ (v = .slice none 0 0 ∨ ∃ gh o c', v = .slice (some ⟨gh, o, none⟩) r.length c') ∧ ∀ W0 : World, W0.ownsRow 0 116 3 rv P.length (P.flatMap pkC) → RowAt W0 v r := by
  have h1 := hgl
  have h3 := congrArg List.length hdrop
  rw [List.length_drop] at h3
  obtain ⟨c0, c1, c2, c3⟩ := hbox.cells
  rcases hrow.2 with ⟨rfl, e⟩ | ⟨gh, cap, cur, rfl, _, k1, k2, k3, k4, k5⟩
  · obtain rfl : gone = 0 := by omega
    have hr : r = [] := List.eq_nil_of_length_eq_zero (by omega)
    have HR : Hid (∀ n, RowAt (w.drewN n) (.slice none 0 0) r) := by
      subst hr
      exact Lib.hid fun n => ⟨none, 0, rfl, Nat.le_refl _, by decide, fun i e he => by simp at he⟩
    have HS : Hid (∀ W0 : World, W0.ownsRow 0 116 3 (.slice none 0 0) P.length (P.flatMap pkC) → RowAt W0 (.slice none 0 0) r) := by
      subst hr
      exact Lib.hid fun W0 _ => ⟨none, 0, rfl, Nat.le_refl _, by decide, fun i e he => by simp at he⟩
    clear hbox hrow hdrop hgl h1 h3 hr
    go_enter Try.func57, Try.ntmps57
    go_upto_region 1 with fail
    go_quiet (fail)
    go_wp2_with fail
    go_ret
    exact ⟨_, rfl, HR.out _, below_drewN (Below.refl _ _) _, fun _ _ _ e => (by cases e), .inl rfl, HS.out⟩
  · have HC := Lib.hid (fun i e he => pk_cells3 (cap := cap) (W := w) (i := i) (e := e) k1 k5 hdrop he)
    have hk3 : cap ≤ 9223372036854775807 := k3
    have a1 : (gone : Int) ≤ (P.length : Int) := by omega
    have a2 : (0 : Int) ≤ (gone : Int) := by omega
    have a3 : (P.length : Int) ≤ (cap : Int) := by omega
    by_cases hcg : cap = gone
    · subst hcg
      have hr0 : r.length = 0 := by omega
      have HR : Hid (∀ n, RowAt (w.drewN n) (.slice (some ⟨gh, 0, none⟩) r.length 0) r) :=
        Lib.hid fun n => ⟨_, _, rfl, by omega, by omega, fun i e he => by have hi := (List.getElem?_eq_some_iff.1 he).1; omega⟩
      have HS : Hid (∀ W0 : World, W0.ownsRow 0 116 3 (.slice (some ⟨gh, 0, none⟩) P.length cap) P.length (P.flatMap pkC) → RowAt W0 (.slice (some ⟨gh, 0, none⟩) r.length 0) r) :=
        Lib.hid fun W0 _ => ⟨_, _, rfl, by omega, by omega, fun i e he => by have hi := (List.getElem?_eq_some_iff.1 he).1; omega⟩
      clear hbox hrow hdrop hgl k1 k4 k5 k3 HC hr0
      go_enter Try.func57, Try.ntmps57
      go_upto_region 1 with fail
      go_quiet (fail)
      go_wp2_with fail
      go_ret
      exact ⟨_, rfl, HR.out _, below_drewN (Below.refl _ _) _, fun _ _ _ e => (by cases e; exact ⟨_, _, rfl⟩), .inr ⟨_, _, _, rfl⟩, HS.out⟩
    · have HR : Hid (∀ n, RowAt (w.drewN n) (.slice (some ⟨gh, gone * 3, none⟩) r.length (cap - gone)) r) := by
        refine Lib.hid fun n => ⟨_, _, rfl, by omega, by omega, fun i e he => ?_⟩
        obtain ⟨x0, x1, x2⟩ := HC.out i e he
        exact ⟨gh, gone * 3, rfl, x0, x1, x2⟩
      have HS : Hid (∀ W0 : World, W0.ownsRow 0 116 3 (.slice (some ⟨gh, 0, none⟩) P.length cap) P.length (P.flatMap pkC) → RowAt W0 (.slice (some ⟨gh, gone * 3, none⟩) r.length (cap - gone)) r) := by
        refine Lib.hid fun W0 h0 => ⟨_, _, rfl, by omega, by omega, fun i e he => ?_⟩
        rcases h0.2 with ⟨e0, _⟩ | ⟨gh', cap', cur', e0, _, j1, _, _, _, j5⟩
        · cases e0
        · cases e0
          obtain ⟨x0, x1, x2⟩ := pk_cells3 (cap := cap) (W := W0) (i := i) (e := e) j1 j5 hdrop he
          exact ⟨gh, gone * 3, rfl, x0, x1, x2⟩
      clear hbox hrow hdrop hgl k1 k4 k5 k3 HC
      go_enter Try.func57, Try.ntmps57
      go_upto_region 1 with fail
      go_quiet (fail)
      go_wp2_with fail
      go_ret
      exact ⟨_, rfl, HR.out _, below_drewN (Below.refl _ _) _, fun _ _ _ e => (by cases e; exact ⟨_, _, rfl⟩), .inr ⟨_, _, _, rfl⟩, HS.out⟩
theorem f_waiting {w : World} {b gone : Nat} {ta : Addr} {rv : Value} {P r : List En} (hbox : FBox w b rv gone ta) (hrow : w.ownsRow 0 116 3 rv P.length (P.flatMap pkC)) (hdrop : P.drop gone = r) (hgl : gone ≤ P.length) :
    Calls Try.prog 57 #[.pointer (some ⟨b, 0, none⟩)] w fun e w' => ∃ v, e = .returned v ∧ RowAt w' v r ∧ Below w.heap.size w w' :=
  (f_waitingS hbox hrow hdrop hgl).mono fun e w' ⟨v, h1, h2, h3, _⟩ => ⟨v, h1, h2, h3⟩
theorem f_before (a b : Ky) (w : World) : Calls Try.prog 71 #[kyV a, kyV b] w fun e w' => e = .returned (.bool (decide (a.lt b))) ∧ Below w.heap.size w w' := by
  unfold kyV
  have x1 := (Box.new w 68 #[.int .u64 (a.at_ : Int), .int .u64 (a.seq : Int)]).alloc (.cells #[.int .u64 (b.at_ : Int), .int .u64 (b.seq : Int)] 68)
  have x2 := Box.new (w.alloc (.cells #[.int .u64 (a.at_ : Int), .int .u64 (a.seq : Int)] 68)) 68 #[.int .u64 (b.at_ : Int), .int .u64 (b.seq : Int)]
  rw [World.size_alloc] at x2
  have HB := Lib.hid (((Below.refl _ w).alloc (Nat.le_refl _) (.cells #[.int .u64 (a.at_ : Int), .int .u64 (a.seq : Int)] 68)).alloc (by rw [World.size_alloc]; omega) (.cells #[.int .u64 (b.at_ : Int), .int .u64 (b.seq : Int)] 68))
  obtain ⟨W, HW⟩ : ∃ W, Hid (((w.alloc (.cells #[.int .u64 (a.at_ : Int), .int .u64 (a.seq : Int)] 68)).alloc (.cells #[.int .u64 (b.at_ : Int), .int .u64 (b.seq : Int)] 68)) = W) := ⟨_, Lib.hid rfl⟩
  rw [HW.out] at x1 x2 HB
  have c0 : W.cell? ⟨w.heap.size, 0, none⟩ = some (.int .u64 (a.at_ : Int)) := x1.cell 0
  have c1 : W.cell? ⟨w.heap.size, 1, none⟩ = some (.int .u64 (a.seq : Int)) := x1.cell 1
  have d0 : W.cell? ⟨w.heap.size + 1, 0, none⟩ = some (.int .u64 (b.at_ : Int)) := x2.cell 0
  have d1 : W.cell? ⟨w.heap.size + 1, 1, none⟩ = some (.int .u64 (b.seq : Int)) := x2.cell 1
  clear x1 x2
  by_cases h1 : a.at_ < b.at_
  · have h1z : (a.at_ : Int) < (b.at_ : Int) := by omega
    have HE : Hid (decide (a.lt b) = true) := Lib.hid (decide_eq_true (.inl h1))
    clear h1
    go_enter Try.func71, Try.ntmps71
    go_upto_region 1 with fail
    rw [HW.out]
    go_wp2_with fail
    go_ret
    exact ⟨by rw [HE.out]; rfl, HB.out⟩
  · have h1z : ¬ (a.at_ : Int) < (b.at_ : Int) := by omega
    by_cases h2 : a.at_ = b.at_
    · have h2z : ((a.at_ : Int) == (b.at_ : Int)) = true := by simp [h2]
      by_cases h3 : a.seq < b.seq
      · have h3z : (a.seq : Int) < (b.seq : Int) := by omega
        have HE : Hid (decide (a.lt b) = true) := Lib.hid (decide_eq_true (.inr ⟨h2, h3⟩))
        clear h1 h2 h3
        go_enter Try.func71, Try.ntmps71
        go_upto_region 1 with fail
        rw [HW.out]
        go_wp2_with fail
        go_ret
        exact ⟨by rw [HE.out]; rfl, HB.out⟩
      · have h3z : ¬ (a.seq : Int) < (b.seq : Int) := by omega
        have HE : Hid (decide (a.lt b) = false) := Lib.hid (decide_eq_false (by unfold Ky.lt; omega))
        clear h1 h2 h3
        go_enter Try.func71, Try.ntmps71
        go_upto_region 1 with fail
        rw [HW.out]
        go_wp2_with fail
        go_ret
        exact ⟨by rw [HE.out]; rfl, HB.out⟩
    · have h2z : ((a.at_ : Int) == (b.at_ : Int)) = false := by rw [beq_eq_false_iff_ne]; omega
      have HE : Hid (decide (a.lt b) = false) := Lib.hid (decide_eq_false (by unfold Ky.lt; omega))
      clear h1 h2
      go_enter Try.func71, Try.ntmps71
      go_upto_region 1 with fail
      rw [HW.out]
      go_wp2_with fail
      go_ret
      exact ⟨by rw [HE.out]; rfl, HB.out⟩

set_option maxHeartbeats 4000000 in
/-- sort.Search over a closure: the least place from which on it says yes. -/
theorem f_search (gf : Nat) (cb : Array Value) (n j0 : Nat) (hj : j0 ≤ n) (hn : n ≤ 65536) (w : World) (hf : Hid (∀ (W : World) (i : Nat), Below w.heap.size w W → i < n → Calls Try.prog gf (#[.int .i64 (i : Int)] ++ cb) W fun e w' => e = .returned (.bool (decide (j0 ≤ i))) ∧ Below W.heap.size W w')) (eg : ∀ args w, (callFunc gf args).run Try.prog w = .ok (.enter gf args) w) :
    Calls Try.prog 80 #[.int .i64 (n : Int), .func (.func gf) #[] cb] w fun e w' => e = .returned (.int .i64 (j0 : Int)) ∧ Below w.heap.size w w' := by
  go_enter Try.func80, Try.ntmps80
  go_wp2_with fail
  go_loopg [5, 6] n (fun k v5 v6 wx => ∃ (lo hi : Nat) (V : World), V = wx ∧ v5 = .int .i64 (lo : Int) ∧ v6 = .int .i64 (hi : Int) ∧ lo ≤ j0 ∧ j0 ≤ hi ∧ hi ≤ n ∧ hi - lo ≤ k ∧ Hid (Below w.heap.size w V))
  case atStart => exact ⟨0, n, _, rfl, rfl, rfl, by omega, hj, Nat.le_refl _, by omega, Lib.hid (Below.refl _ _)⟩
  case round =>
    obtain ⟨lo, hi, V, rfl, rfl, rfl, h1, h2, h3, h4, HB⟩ := hrel
    by_cases hlt : lo < hi
    · have hc := hf.out V ((lo + hi) / 2) HB.out (by omega)
      have e1 : (((lo + hi) / 2 : Nat) : Int) = ((lo : Int) + (hi : Int)) / 2 := by omega
      rw [e1] at hc
      have HE := Lib.hid e1
      clear e1
      by_cases hd : j0 ≤ (lo + hi) / 2
      · rw [decide_eq_true hd] at hc
        clear hf
        go_wp2_with fail
        refine hc.mono ?_
        rintro e w1 ⟨rfl, b1⟩
        clear hc
        go_wp2_with fail
        go_roundg ((lo + hi) / 2 - lo)
        case measure => omega
        case rel => exact ⟨lo, (lo + hi) / 2, _, rfl, rfl, by rw [HE.out], h1, hd, by omega, by omega, Lib.hid (below_tr HB.out b1)⟩
      · rw [decide_eq_false hd] at hc
        clear hf
        go_wp2_with fail
        refine hc.mono ?_
        rintro e w1 ⟨rfl, b1⟩
        clear hc
        go_wp2_with fail
        go_roundg (hi - ((lo + hi) / 2 + 1))
        case measure => omega
        case rel => exact ⟨(lo + hi) / 2 + 1, hi, _, rfl, by rw [← HE.out]; exact congrArg (Value.int .i64) (by omega), rfl, by omega, h2, h3, by omega, Lib.hid (below_tr HB.out b1)⟩
    · obtain rfl : lo = hi := by omega
      obtain rfl : lo = j0 := by omega
      go_wp2_with fail
      go_ret
      exact ⟨rfl, HB.out⟩

end Go.Proofs.Ytkiibobpejoaeaa
