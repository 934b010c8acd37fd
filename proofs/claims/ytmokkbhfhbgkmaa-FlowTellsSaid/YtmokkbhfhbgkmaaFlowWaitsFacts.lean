/-
  FlowWaits: rows of integers that came in; one flow between two packets, at whatever rate.
-/
import Derived.Test.YtmokkbhfhbgkmaaFlowEq
namespace Go.Proofs.Ytmokkbhfhbgkmaa
open Go.RowKit
set_option linter.unusedVariables false
set_option linter.unusedSimpArgs false

/-- The integer at a place of a row that came in. -/
def rowI (rows : List (List Value)) (j : Nat) : Int := match rows[j]? with | some [.int _ x] => x | _ => 0
theorem row_int {k : IntKind} {w : World} {A : Option Addr} {len cap : Nat} {rows : List (List Value)} (h : RowOf [some k] w A len cap rows) {j : Nat} (hj : j < len) :
    ∃ a, A = some a ∧ (Lit.int k (rowI rows j)).wf = true ∧ ∀ W, Below w.heap.size w W → W.cell? (a.add j) = some (.int k (rowI rows j)) := by
  obtain ⟨h1, _, h3⟩ := h
  obtain ⟨hf, a, rfl, hc⟩ := h3 j (by omega)
  obtain ⟨v, e⟩ : ∃ v, rows[j] = [v] := by
    have := hf.length
    match hr : rows[j], this with
    | [v], _ => exact ⟨v, rfl⟩
  rw [e] at hf hc
  obtain ⟨⟨n0, rfl, w0⟩, _⟩ := hf
  have er : rowI rows j = n0 := by
    unfold rowI
    rw [List.getElem?_eq_getElem (by omega : j < rows.length), e]
  rw [er]
  have c0 := hc 0 _ rfl
  have c1 : w.cell? (a.add j) = some (.int k n0) := by simpa using c0
  exact ⟨a, rfl, w0, fun W b => (b.cell (World.block_lt_of_cell? w _ c1)).trans c1⟩
theorem u16_of {x : Int} (h : (Lit.int .u16 x).wf = true) : 0 ≤ x ∧ x < 65536 := by
  simp [Lit.wf, IntKind.min, IntKind.max, IntKind.signed, IntKind.bits] at h
  omega
theorem u32_of {x : Int} (h : (Lit.int .u32 x).wf = true) : 0 ≤ x ∧ x < 4294967296 := by
  simp [Lit.wf, IntKind.min, IntKind.max, IntKind.signed, IntKind.bits] at h
  omega
theorem u8_of {x : Int} (h : (Lit.int .u8 x).wf = true) : 0 ≤ x ∧ x < 256 := by
  simp [Lit.wf, IntKind.min, IntKind.max, IntKind.signed, IntKind.bits] at h
  omega

/-- Between two packets: what it owes is D, at t; i packets have left. -/
structure WSt2 (p : Pc) (R : Int) (i : Nat) (f : Fl) (D t : Int) : Prop where
  fits : f.Fits
  t : Num.Word t
  by_ : f.by p = R
  lo : -65536 ≤ f.cr
  hi : f.cr ≤ 1048576
  d0 : 0 ≤ D
  d1 : D ≤ (i : Int) * 65536
  paced : R ≠ 0 → f.db = D
  free : R = 0 → f.db = 0
section
variable {p : Pc} {R : Int} {i : Nat} {f : Fl} {D t : Int}
theorem WSt2.fill (h : WSt2 p R i f D t) (hp : p.right = true) (hc : f.cr ≤ 0) : WSt2 p R i (f.fill p) D t ∧ (f.fill p).cr = f.cr + p.q := by
  obtain ⟨⟨q0, q1⟩, _⟩ := Pc.right_iff.1 hp
  have lo := h.lo
  have e : (f.fill p).cr = f.cr + p.q := half_in (by unfold Half; omega)
  exact ⟨⟨h.fits.fill p, h.t, h.by_, by omega, by omega, h.d0, h.d1, h.paced, h.free⟩, e⟩
theorem WSt2.ready (h : WSt2 p R i f D t) : WSt2 p R i f D (max t f.nx) :=
  ⟨h.fits, Num.max_word h.t h.fits.nx, h.by_, h.lo, h.hi, h.d0, h.d1, h.paced, h.free⟩
/-- A packet of n bytes leaves at t: what its charge makes of the flow, three ways. -/
theorem WSt2.charge (h : WSt2 p R i f D t) (hp : p.Fits) (hc : 0 < f.cr) {n : Int} (h0 : 1 ≤ n) (h1 : n ≤ 65536) (hi : i < 30) :
    (R = 0 ∧ (f.charge n t p).nx = f.nx ∧ (f.charge n t p).db = 0 ∧ (f.charge n t p).cr = f.cr - n ∧ WSt2 p R (i + 1) (f.charge n t p) (D + n) t) ∨
    (R ≠ 0 ∧ (R < p.low ∨ f.cr - n ≤ 0) ∧ (f.charge n t p).nx = max f.nx (Num.add t (Num.time (D + n) R)) ∧ (f.charge n t p).db = 0 ∧ (f.charge n t p).cr ≤ 0 ∧ WSt2 p R (i + 1) (f.charge n t p) 0 t) ∨
    (R ≠ 0 ∧ ¬ R < p.low ∧ 0 < f.cr - n ∧ (f.charge n t p).nx = f.nx ∧ (f.charge n t p).db = D + n ∧ (f.charge n t p).cr = f.cr - n ∧ WSt2 p R (i + 1) (f.charge n t p) (D + n) t) := by
  have hf := h.fits
  have hb := h.by_
  have hlo := h.lo
  have hhi := h.hi
  have hd0 := h.d0
  have hd1 := h.d1
  have ft := hf.charge hp (n := n) (now := t) ⟨by omega, by omega⟩ h.t
  have ecr : (f.spend n).cr = f.cr - n := half_in (by unfold Half; omega)
  have hby : (f.charge n t p).by p = R := by
    unfold Fl.charge
    split
    · exact hb
    · split
      · exact hb
      · split <;> exact hb
  have hcast : ((i + 1 : Nat) : Int) * 65536 = (i : Int) * 65536 + 65536 := by rw [Int.natCast_succ, Int.add_mul, Int.one_mul]
  have hi30 : (i : Int) * 65536 ≤ 29 * 65536 := Int.mul_le_mul_of_nonneg_right (by omega) (by omega)
  by_cases c0 : R = 0
  · have e : f.charge n t p = f.spend n := by unfold Fl.charge; rw [hb, if_pos c0]
    rw [e] at ft hby ⊢
    exact .inl ⟨c0, rfl, h.free c0, ecr, ft, h.t, hby, by omega, by omega, by omega, by omega, fun hr => absurd c0 hr, fun _ => h.free c0⟩
  have hdb := h.paced c0
  have edb : Num.add f.db n = D + n := by rw [hdb]; unfold Num.add Num.kept; rw [if_pos (by omega)]
  by_cases c1 : R < p.low
  · have e : f.charge n t p = (((f.spend n).owe n).pay t R).forgo := by unfold Fl.charge; rw [hb, if_neg c0, if_pos c1]
    have ec : (f.charge n t p).cr = min (f.cr - n) 0 := by rw [e]; show min (f.spend n).cr 0 = _; rw [ecr]
    have en : (f.charge n t p).nx = max f.nx (Num.add t (Num.time (D + n) R)) := by
      rw [e]
      show max f.nx (Num.add t (Num.time (Num.add f.db n) R)) = _
      rw [edb]
    have ed : (f.charge n t p).db = 0 := by rw [e]; rfl
    exact .inr (.inl ⟨c0, .inl c1, en, ed, by omega, ft, h.t, hby, by omega, by omega, by omega, by omega, fun _ => ed, fun hr => absurd hr c0⟩)
  by_cases c2 : 0 < f.cr - n
  · have e : f.charge n t p = (f.spend n).owe n := by unfold Fl.charge; rw [hb, if_neg c0, if_neg c1, if_pos (by rw [ecr]; exact c2)]
    have ec : (f.charge n t p).cr = f.cr - n := by rw [e]; exact ecr
    have ed : (f.charge n t p).db = D + n := by rw [e]; exact edb
    have en : (f.charge n t p).nx = f.nx := by rw [e]; rfl
    exact .inr (.inr ⟨c0, c1, c2, en, ed, ec, ft, h.t, hby, by omega, by omega, by omega, by omega, fun _ => ed, fun hr => absurd hr c0⟩)
  · have e : f.charge n t p = ((f.spend n).owe n).pay t R := by unfold Fl.charge; rw [hb, if_neg c0, if_neg c1, if_neg (by rw [ecr]; exact c2)]
    have ec : (f.charge n t p).cr = f.cr - n := by rw [e]; exact ecr
    have en : (f.charge n t p).nx = max f.nx (Num.add t (Num.time (D + n) R)) := by
      rw [e]
      show max f.nx (Num.add t (Num.time (Num.add f.db n) R)) = _
      rw [edb]
    have ed : (f.charge n t p).db = 0 := by rw [e]; rfl
    exact .inr (.inl ⟨c0, .inr (by omega), en, ed, by omega, ft, h.t, hby, by omega, by omega, by omega, by omega, fun _ => ed, fun hr => absurd hr c0⟩)
end

end Go.Proofs.Ytmokkbhfhbgkmaa
