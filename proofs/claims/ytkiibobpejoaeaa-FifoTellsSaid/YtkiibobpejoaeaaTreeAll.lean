/-
  The program's own tree: All.
-/
import Derived.Test.YtkiibobpejoaeaaTreeAlong
namespace Go.Proofs.Ytkiibobpejoaeaa
open Go.RowKit
set_option linter.unusedVariables false
set_option maxRecDepth 100000

/-- Rows of elements of as many cells each. -/
def RowE {α : Type} (w : World) (E : Nat) (ty : TypeId) (s k : Nat) (cf : α → List Value) (f : Nat → α) : Prop := ∃ cs : Array Value, Box w E ty cs ∧ cs.size = k * s ∧ ∀ i, i < k → ∀ j, j < s → cs[i * s + j]? = (cf (f i))[j]?
section
variable {α : Type} {w w' : World} {E s k : Nat} {ty : TypeId} {cf : α → List Value} {f : Nat → α}
theorem RowE.lt (h : RowE w E ty s k cf f) : E < w.heap.size := by
  obtain ⟨cs, h1, _⟩ := h
  exact h1.lt
theorem RowE.same (h : RowE w E ty s k cf f) (e : w'.heap[E]? = w.heap[E]?) : RowE w' E ty s k cf f := by
  obtain ⟨cs, h1, h2⟩ := h
  exact ⟨cs, e.trans h1, h2⟩
theorem RowE.cell (h : RowE w E ty s k cf f) {i j : Nat} (hi : i < k) (hj : j < s) : w.cell? ⟨E, i * s + j, none⟩ = (cf (f i))[j]? := by
  obtain ⟨cs, h1, h2, h3⟩ := h
  rw [h1.cell]
  exact h3 i hi j hj
theorem RowE.frozen (h : RowE w E ty s k cf f) (i : Nat) : w.frozen? ⟨E, i, none⟩ = false := by
  obtain ⟨cs, h1, _⟩ := h
  exact h1.frozen i
theorem RowE.congr {f' : Nat → α} (h : RowE w E ty s k cf f) (e : ∀ i, i < k → f i = f' i) : RowE w E ty s k cf f' := by
  obtain ⟨cs, h1, h2, h3⟩ := h
  exact ⟨cs, h1, h2, fun i hi j hj => by rw [h3 i hi j hj, e i hi]⟩
theorem RowE.owns (h : RowE w E ty s k cf f) (l : List α) (hl : l.length = k) (hs : ∀ x, (cf x).length = s) (h0 : 0 < s) (hf : ∀ i (hi : i < l.length), f i = l[i]) {base : Nat} (hb : base ≤ E) (hk : k ≤ maxLen) : w.ownsRow base ty s (.slice (some ⟨E, 0, none⟩) l.length k) l.length (l.flatMap cf) := by
  obtain ⟨cs, h1, h2, h3⟩ := h
  have hlen : (l.flatMap cf).length = l.length * s := by
    clear hf hl h3
    induction l with
    | nil => simp
    | cons a l ih => rw [List.flatMap_cons, List.length_append, hs, ih, List.length_cons, Nat.succ_mul]; omega
  refine ⟨hlen, .inr ⟨E, k, cs, rfl, hb, h1, by omega, hk, h2, ?_⟩⟩
  apply List.ext_getElem?
  intro i
  by_cases hi : i < l.length * s
  · obtain ⟨p, j, rfl, hj⟩ : ∃ p j, i = p * s + j ∧ j < s := ⟨i / s, i % s, by rw [Nat.mul_comm]; exact (Nat.div_add_mod i s).symm, Nat.mod_lt _ h0⟩
    have hp : p < l.length := by
      apply Nat.lt_of_mul_lt_mul_right (a := s)
      omega
    rw [List.getElem?_take, if_pos hi, Array.getElem?_toList, h3 p (by omega) j hj, flat_get cf s hs _ p j hj, hf p hp, List.getElem?_eq_getElem hp]
    rfl
  · rw [List.getElem?_take, if_neg hi, List.getElem?_eq_none (by rw [hlen]; omega)]
end
/-- An entry is stored. -/
theorem RowE.set3 {w : World} {E k : Nat} {ty : TypeId} {f : Nat → En} (h : RowE w E ty 3 k enC f) {i : Nat} (hi : i < k) (e : En) : RowE (((w.setCell ⟨E, i * 3, none⟩ (.int .u64 (e.key.at_ : Int))).setCell ⟨E, i * 3 + 1, none⟩ (.int .u64 (e.key.seq : Int))).setCell ⟨E, i * 3 + 2, none⟩ (.int .i64 e.val)) E ty 3 k enC (fun q => if q = i then e else f q) := by
  obtain ⟨cs, k1, k2, k3⟩ := h
  refine ⟨_, ((k1.set _ _).set _ _).set _ _, by simp [k2], fun q hq j hj => ?_⟩
  show _ = (enC (if q = i then e else f q))[j]?
  by_cases hqp : q = i
  · subst hqp
    rw [if_pos rfl]
    rcases (by omega : j = 0 ∨ j = 1 ∨ j = 2) with rfl | rfl | rfl
    · rw [Array.getElem?_setIfInBounds_ne (by omega), Array.getElem?_setIfInBounds_ne (by omega), Nat.add_zero, Array.getElem?_setIfInBounds_self_of_lt (by rw [k2]; omega)]
      rfl
    · rw [Array.getElem?_setIfInBounds_ne (by omega), Array.getElem?_setIfInBounds_self_of_lt (by simp [k2]; omega)]
      rfl
    · rw [Array.getElem?_setIfInBounds_self_of_lt (by simp [k2]; omega)]
      rfl
  · rw [if_neg hqp, Array.getElem?_setIfInBounds_ne (by omega), Array.getElem?_setIfInBounds_ne (by omega), Array.getElem?_setIfInBounds_ne (by omega), k3 q hq j hj]
/-- What stands at the places, in order. -/
theorem rep_at {G : Gr} : ∀ (t : T) (u : Nat), Rep G t u → ∀ (i x : Nat), t.pls[i]? = some x → ∃ e, t.toL[i]? = some e ∧ G.key x = e.key ∧ G.val x = e.val
  | .leaf, _, _, i, x, h => by simp [T.pls] at h
  | .node p c l e r, u, ⟨h1, h2, h3, h4, h5, h6, h7, h8, h9⟩, i, x, h => by
    have hl := T.pls_len l
    rw [T.pls] at h
    show ∃ e', (l.toL ++ e :: r.toL)[i]? = some e' ∧ _
    by_cases c1 : i < l.pls.length
    · rw [List.getElem?_append_left c1] at h
      rw [List.getElem?_append_left (by omega)]
      exact rep_at l p h8 i x h
    · rw [List.getElem?_append_right (by omega)] at h
      rw [List.getElem?_append_right (by omega), ← hl]
      by_cases c2 : i = l.pls.length
      · rw [c2, Nat.sub_self] at h ⊢
        have h' := Option.some.inj h
        subst h'
        exact ⟨e, rfl, h2, h3⟩
      · obtain ⟨j, hj⟩ : ∃ j, i - l.pls.length = j + 1 := ⟨i - l.pls.length - 1, by omega⟩
        rw [hj, List.getElem?_cons_succ] at h ⊢
        exact rep_at r p h9 j x h

theorem raw_all {w : World} {b B c room n : Nat} {G : Gr} {t0 : T} (h : LieT w b B c room n G [] t0) (hn : t0.toL.length + 1 = n) :
    Calls Try.prog 59 #[.pointer (some ⟨b, 0, none⟩)] w (AllC w t0.toL) := by
  have HRi := Lib.hid (raw_rising h hn)
  have n2 := h.raw.n2
  have hpl := T.pls_len t0
  have hk : t0.pls.length ≤ 65536 := by omega
  have HAt : Hid (∀ (i : Nat), i < t0.pls.length → ∃ x e, t0.pls[i]? = some x ∧ t0.toL[i]? = some e ∧ G.key x = e.key ∧ G.val x = e.val ∧ x < n) := by
    refine Lib.hid fun i hi => ?_
    obtain ⟨e, e1, e2, e3⟩ := rep_at t0 0 h.sits.rep i _ (List.getElem?_eq_getElem hi)
    exact ⟨_, e, List.getElem?_eq_getElem hi, e1, e2, e3, h.lt _ (by
      have := (T.pls_occ t0 _).1 (List.getElem_mem hi)
      simpa [occZ] using this)⟩
  have HR := Lib.hid h.raw
  have HPL := Lib.hid hpl
  obtain ⟨inf, hi1, hi2, hi3, hi4⟩ := info_parts (P := Try.prog) (e := 126) (z := .agg #[.int .u64 0, .int .u64 0, .int .i64 0]) (size := 3) (bytes := 24) (by kernel_rfl)
  have r1 := run_make_cells (P := Try.prog) 123 126 inf (.agg #[.int .u64 0, .int .u64 0, .int .i64 0]) 3 rfl hi1 hi2 hi3 (t0.pls.length : Int) t0.pls.length rfl (by rw [hi4]; omega) (by omega)
  obtain ⟨zc, HZ⟩ : ∃ z, Hid (madeCells (Value.agg #[.int .u64 0, .int .u64 0, .int .i64 0]).cells (t0.pls.length * 3) = z) := ⟨_, Lib.hid rfl⟩
  rw [HZ.out] at r1
  have HZC : Hid (zc.size = t0.pls.length * 3 ∧ ∀ i, i < t0.pls.length → ∀ j, j < 3 → zc[i * 3 + j]? = (enC noEn)[j]?) := by
    rw [← HZ.out]
    refine Lib.hid ⟨by rw [size_madeCells], fun i hi j hj => ?_⟩
    have hb : i * 3 + j < t0.pls.length * 3 := by omega
    have hm : (i * 3 + j) % 3 = j := by omega
    rcases (by omega : j = 0 ∨ j = 1 ∨ j = 2) with rfl | rfl | rfl <;> simp [madeCells, Value.cells, enC, noEn] <;> simp_all <;> omega
  clear hi1 hi2 hi3 hi4 HZ h hn hpl
  obtain ⟨k, HK⟩ : ∃ k, Hid (t0.pls.length = k) := ⟨_, Lib.hid rfl⟩
  rw [HK.out] at hk r1 HZC HAt
  go_enter Try.func59, Try.ntmps59
  go_wp2_with fail
  refine HRi.out.mono ?_
  rintro e w1 ⟨p1, k1, rfl, o1, b1⟩
  clear HRi
  rw [HK.out] at o1 ⊢
  have HO1 := Lib.hid o1
  have HB1 := Lib.hid b1
  clear o1 b1
  go_upto_region 3 with fail
  obtain ⟨W, HW⟩ : ∃ W, Hid (w1.alloc (.cells zc 126) = W) := ⟨_, Lib.hid rfl⟩
  have bl : Below w1.heap.size w1 W := by
    rw [← HW.out]
    exact (Below.refl _ _).alloc (Nat.le_refl _) _
  have HX : Hid (RowE W w1.heap.size 126 3 k enC (fun _ => noEn)) := by
    rw [← HW.out]
    exact Lib.hid ⟨zc, Box.new _ _ _, HZC.out.1, HZC.out.2⟩
  rw [HW.out]
  have HB2 := Lib.hid (below_tr HB1.out bl)
  have HO2 := Lib.hid (owns_below HO1.out bl)
  have hwE := HB1.out.size
  obtain ⟨E, HEE⟩ : ∃ E, Hid (w1.heap.size = E) := ⟨_, Lib.hid rfl⟩
  rw [HEE.out] at HX hwE
  rw [HEE.out]
  clear HW bl HO1 HB1 r1 HZC
  go_wp2_with fail
  go_loopg [14] k (fun kk v14 wx => ∃ j : Nat, k - j = kk ∧ j ≤ k ∧ v14 = .int .i64 (j : Int) ∧ Hid (RowE wx E 126 3 k enC (fun i => if i < j then t0.toL[i]?.getD noEn else noEn)) ∧ Hid (wx.ownsRow w.heap.size 3 1 (.slice p1 k k1) k (t0.pls.map natV)) ∧ Hid (Below w.heap.size w wx))
  case atStart => exact ⟨0, rfl, by omega, rfl, Lib.hid (HX.out.congr fun i _ => rfl), HO2, HB2⟩
  case round =>
    obtain ⟨j, rfl, hj, rfl, HX', HO', HB'⟩ := hrel
    clear HX HO2 HB2
    by_cases hjk : j = k
    · have hz : ¬ (j : Int) < (k : Int) := by omega
      have HE : Hid (AllC w t0.toL (.returned (.slice (some ⟨E, 0, none⟩) k k)) wr) := by
        have hkl : t0.toL.length = k := by rw [← HK.out, HPL.out]
        refine Lib.hid ⟨some ⟨E, 0, none⟩, k, by rw [hkl], ?_, HB'.out⟩
        exact HX'.out.owns t0.toL hkl (fun _ => rfl) (by omega) (fun i hi => by rw [if_pos (by omega), List.getElem?_eq_getElem hi]; rfl) hwE (by simp [maxLen]; omega)
      clear hjk HX' HO' HB' HAt
      go_wp2_with fail
      go_ret
      exact HE.out
    · have hz : (j : Int) < (k : Int) := by omega
      have hjk' : j < k := by omega
      obtain ⟨x, e, hx, he, hxk, hxv, hxn⟩ := HAt.out j hjk'
      have r := HR.out.below HB'.out
      have HEn := Lib.hid (raw_entry r hxn)
      rw [hxk, hxv] at HEn
      unfold enV at HEn
      obtain ⟨hkl, hform⟩ := owns_nat (l := t0.pls) (by have := HO'.out; rw [← HK.out] at this; exact this)
      obtain ⟨g, rfl, hgl, hgc⟩ : ∃ g, p1 = some ⟨g, 0, none⟩ ∧ g < wr.heap.size ∧ ∀ i (hi : i < t0.pls.length), wr.cell? ⟨g, i, none⟩ = some (.int .i64 (t0.pls[i] : Int)) := by
        rcases hform with ⟨_, h2⟩ | h2
        · rw [← HK.out, h2] at hjk'
          exact absurd hjk' (by simp)
        · exact h2
      have d0 := hgc j (by rw [HK.out]; exact hjk')
      have hxj : t0.pls[j]'(by rw [HK.out]; exact hjk') = x := by
        have h1 := List.getElem?_eq_getElem (l := t0.pls) (i := j) (by rw [HK.out]; exact hjk')
        rw [hx] at h1
        exact (Option.some.inj h1).symm
      rw [hxj] at d0
      have hxz : (x : Int) < (n : Int) := by omega
      have HEt : Hid (t0.toL[j]?.getD noEn = e) := Lib.hid (by rw [he]; rfl)
      clear hform hgc hxj hx he hxk hxv r hkl hjk
      go_wp2_with fail
      refine HEn.out.mono ?_
      rintro e' w4 ⟨rfl, b4⟩
      have X4 := HX'.out.same (b4.block E HX'.out.lt)
      have hjj : (if j < j then t0.toL[j]?.getD noEn else noEn) = noEn := if_neg (by omega)
      have q0 : w4.cell? ⟨E, j * 3, none⟩ = some (.int .u64 0) := (X4.cell (i := j) (j := 0) hjk' (by omega)).trans (by rw [hjj]; rfl)
      have q1 : w4.cell? ⟨E, j * 3 + 1, none⟩ = some (.int .u64 0) := (X4.cell (i := j) (j := 1) hjk' (by omega)).trans (by rw [hjj]; rfl)
      have q2 : w4.cell? ⟨E, j * 3 + 2, none⟩ = some (.int .i64 0) := (X4.cell (i := j) (j := 2) hjk' (by omega)).trans (by rw [hjj]; rfl)
      clear hjj
      have f0 := X4.frozen (j * 3)
      have f1 := X4.frozen (j * 3 + 1)
      have f2 := X4.frozen (j * 3 + 2)
      have HX5 := Lib.hid ((X4.set3 hjk' e).congr (f' := fun i => if i < j + 1 then t0.toL[i]?.getD noEn else noEn) (fun i hi => by
        by_cases h1 : i = j
        · subst h1
          rw [if_pos rfl, if_pos (by omega), HEt.out]
        · rw [if_neg h1]
          by_cases h2 : i < j
          · rw [if_pos h2, if_pos (by omega)]
          · rw [if_neg h2, if_neg (by omega)]))
      have HO5 : Hid ((((w4.setCell ⟨E, j * 3, none⟩ (.int .u64 (e.key.at_ : Int))).setCell ⟨E, j * 3 + 1, none⟩ (.int .u64 (e.key.seq : Int))).setCell ⟨E, j * 3 + 2, none⟩ (.int .i64 e.val)).ownsRow w.heap.size 3 1 (.slice (some ⟨g, 0, none⟩) k k1) k (t0.pls.map natV)) := by
        obtain ⟨cs, kb, _⟩ := X4
        have o4 := owns_below HO'.out b4
        have hne := kb.not_row o4 (by decide)
        exact Lib.hid (own_set (own_set (own_set o4 hne) hne) hne)
      have HB5 : Hid (Below w.heap.size w (((w4.setCell ⟨E, j * 3, none⟩ (.int .u64 (e.key.at_ : Int))).setCell ⟨E, j * 3 + 1, none⟩ (.int .u64 (e.key.seq : Int))).setCell ⟨E, j * 3 + 2, none⟩ (.int .i64 e.val))) :=
        Lib.hid ((((below_tr HB'.out b4).setCell hwE _).setCell hwE _).setCell hwE _)
      clear X4 b4 HX' HO' HB' HEn HEt d0
      go_wp2_with fail
      go_roundg (k - (j + 1))
      case measure => omega
      case rel => exact ⟨j + 1, rfl, by omega, by go_num, HX5, HO5, HB5⟩

end Go.Proofs.Ytkiibobpejoaeaa
