/-
  The program's own bitmap: Has, down.
-/
import Derived.Test.YtkiibobpejoaeaaDoorBitOwn
namespace Go.Proofs.YtkiibobpejoaeaaDoor
open Go.RowKit
set_option linter.unusedVariables false

section
variable {w w' : World} {b gf cf k n cnt : Nat} {fb : Nat → Nat} {X : Nat → Nat → Nat} {m : Nat → Bool}
theorem has_val {x p : Nat} {t : Bool} (hx : x < 18446744073709551616) (ht : x.testBit (p % 64) = t) : (bits .and .u64 (x : Int) ((2 ^ (p % 64) : Nat) : Int) != 0) = t := by
  rw [bits_and_u64_nat x _ hx (pow_lt64 p), ← ht]
  have h := and_pow_ne (x := x) (t := p % 64)
  cases c : x.testBit (p % 64)
  · rw [c] at h
    have : x &&& 2 ^ (p % 64) = 0 := Classical.byContradiction fun e => absurd (h.1 e) (by simp)
    rw [this]
    rfl
  · have h1 := h.2 c
    simp only [bne_iff_ne, ne_eq]
    omega
theorem bit_has (h : BMem w b gf cf k n cnt fb X) (hG : ∀ f, f < k → GoodF n m f (X f)) (i : Int) (t : Bool) (ht : t = true ↔ 0 ≤ i ∧ i < n ∧ m i.toNat = true) :
    Calls Tryd.prog 59 #[.pointer (some ⟨b, 0, none⟩), .int .i64 i] w fun e w' => e = .returned (.bool t) ∧ Below w.heap.size w w' := by
  by_cases a1 : 0 ≤ i ∧ i < n
  · obtain ⟨p, rfl⟩ : ∃ p : Nat, i = (p : Int) := ⟨i.toNat, by omega⟩
    have hp : p < n := by omega
    have HT := Lib.hid (fun i => bit_there (h.drewN i) (p : Int) true ⟨fun _ => a1, fun _ => rfl⟩)
    have HK := Lib.hid (fun i => bit_mark p (by have := h.n2; omega) (w.drewN i))
    obtain ⟨c0, c1, c2, c3⟩ := h.cells
    have k1 := h.k1
    have d0 := h.fl.cell (f := 0) (by omega)
    have d1 := (h.row 0 (by omega)).cell (i := p / 64) (by simpa using wn_lt hp 0)
    have hw : p / 64 < wn n 0 := by simpa using wn_lt hp 0
    have hw1 := wn_le h.n2 0
    have g0 := hG 0 (by omega)
    have HE : Hid (Ending.returned (.bool (bits .and .u64 (X 0 (p / 64) : Int) ((2 ^ (p % 64) : Nat) : Int) != 0)) = .returned (.bool t)) := by
      show _ = _
      rw [has_val (t := t) (g0 _ hw).1]
      rw [good_has g0 hp]
      cases c : m p
      · cases t
        · rfl
        · have := (ht.1 rfl).2.2
          simp [c] at this
      · exact (ht.2 ⟨a1.1, a1.2, by simpa using c⟩).symm
    have hn2 := h.n2
    generalize X 0 (p / 64) = x at *
    generalize wn n 0 = wn0 at *
    generalize fb 0 = f0 at *
    generalize 2 ^ (p % 64) = mk at *
    clear h hG g0 ht
    go_enter Tryd.func59, Tryd.ntmps59
    go_upto_region 1 with fail
    go_quiet (first
      | (go_at_call 58; exact Calls.quiet_of_same (HT.out _))
      | (go_at_call 60; exact Calls.quiet_of_same (HK.out _)))
    go_wp2_with fail
    go_ret
    exact ⟨HE.out, below_drewN (Below.refl _ _) _⟩
  · obtain rfl : t = false := by
      cases t
      · rfl
      · exact absurd ⟨(ht.1 rfl).1, (ht.1 rfl).2.1⟩ a1
    have HT := Lib.hid (fun d => bit_there (h.drewN d) i false ⟨fun h => (by cases h), fun h => absurd h a1⟩)
    clear h hG ht a1
    go_enter Tryd.func59, Tryd.ntmps59
    go_upto_region 1 with fail
    go_quiet (first | (go_at_call 58; exact Calls.quiet_of_same (HT.out _)))
    go_wp2_with fail
    go_ret
    exact ⟨rfl, below_drewN (Below.refl _ _) _⟩

/-- down: the least marked place below a mark of a floor. -/
theorem bit_down (h : BMem w b gf cf k n cnt fb X) (hG : ∀ f, f < k → GoodF n m f (X f)) (hm : ∀ q, m q = true → q < n) (hT : Tab w) (top c : Nat) (ht : top < k) (hc : Fl m top c) :
    Calls Tryd.prog 80 #[.pointer (some ⟨b, 0, none⟩), .int .i64 (top : Int), .int .i64 (c : Int)] w fun e w' => ∃ cur, e = .returned (.int .i64 (cur : Nat)) ∧ Down m top c 0 cur ∧ w' = w := by
  have D0 := Lib.hid (down_init hc)
  have H := Lib.hid h
  have HG := Lib.hid hG
  have HTab := Lib.hid hT
  have hk3 := h.k3
  have hc0 : c < 65536 := by
    obtain ⟨q, hq, e⟩ := hc
    have := hm q hq
    have := h.n2
    have := Nat.div_le_self q (64 ^ top)
    omega
  obtain ⟨c0, c1, c2, c3⟩ := h.cells
  clear h hG hT hc
  go_enter Tryd.func80, Tryd.ntmps80
  go_upto_region 2 with fail
  go_loopg [2, 10] top (fun s v2 v10 wx => ∃ (j cur : Nat), top - j = s ∧ j ≤ top ∧ v2 = .int .i64 (cur : Int) ∧ v10 = .int .i64 (j : Int) ∧ cur < 65536 ∧ Hid (Down m top c (top - j) cur) ∧ wx = w)
  case atStart => exact ⟨0, c, rfl, by omega, rfl, rfl, hc0, D0, rfl⟩
  case round =>
    obtain ⟨j, cur, rfl, hj, rfl, rfl, hcur, D, rfl⟩ := hrel
    by_cases hjl : j = top
    · have hz : ¬ (j : Int) < (top : Int) := by omega
      have HE := D.out
      subst hjl
      rw [Nat.sub_self] at HE
      replace HE := Lib.hid HE
      go_wp2_with fail
      go_ret
      exact ⟨cur, rfl, HE.out, rfl⟩
    · have hz : (j : Int) < (top : Int) := by omega
      obtain ⟨f, hf⟩ : ∃ f, top - j = f + 1 := ⟨top - j - 1, by omega⟩
      have D' := D.out
      rw [hf] at D'
      have hfk : f < k := by omega
      obtain ⟨e1, e2, e3, e4⟩ := down_step (HG.out f hfk) hm D'
      have d0 := H.out.fl.cell hfk
      have d1 := (H.out.row f hfk).cell e1
      have hw1 := wn_le H.out.n2 f
      have HZ := Lib.hid (tz64 (X f cur) e2 e3 wr HTab.out)
      obtain ⟨t1, _⟩ := ctz_bit e2 e3
      have hnext : cur * 64 + Lib.ctz 64 (X f cur) < 65536 := by
        obtain ⟨q, hq, eq⟩ := e4.fl
        have h1 := hm q hq
        have h2 := H.out.n2
        have h3 := Nat.div_le_self q (64 ^ f)
        omega
      have HD := Lib.hid e4
      have hfi : (top : Int) - 1 - (j : Int) = (f : Int) := by omega
      clear D D' e4 e2 e3
      generalize X f cur = x at *
      generalize Lib.ctz 64 x = t at *
      generalize wn n f = wnf at *
      generalize fb f = bf at *
      go_wp2_with (go_at_call 81; refine HZ.out.mono ?_; rintro e w1 ⟨rfl, rfl⟩)
      go_roundg (top - (j + 1))
      case measure => omega
      case rel => exact ⟨j + 1, cur * 64 + t, rfl, by omega, by go_num, by go_num, hnext, Lib.hid (by rw [show top - (j + 1) = f by omega]; exact HD.out), rfl⟩
end

end Go.Proofs.YtkiibobpejoaeaaDoor
