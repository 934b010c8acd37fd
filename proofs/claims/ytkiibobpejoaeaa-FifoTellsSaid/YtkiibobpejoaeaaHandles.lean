/-
  Handles: two rows of handles, whether they are the same.
-/
import Derived.Test.YtkiibobpejoaeaaMem
namespace Go.Proofs.Ytkiibobpejoaeaa
open Go.RowKit
set_option linter.unusedVariables false

def uV (i : Int) : Value := .int .u64 i
theorem owns_u {w : World} {base e : Nat} {p : Option Addr} {n c : Nat} {l : List Int} (h : w.ownsRow base e 1 (.slice p n c) l.length (l.map uV)) :
    n = l.length ∧ ((p = none ∧ l = []) ∨ ∃ g, p = some ⟨g, 0, none⟩ ∧ g < w.heap.size ∧ ∀ j (hj : j < l.length), w.cell? ⟨g, j, none⟩ = some (.int .u64 l[j])) := by
  rcases h.2 with ⟨h1, h2⟩ | ⟨g, cap, cur, h1, _, h3, _⟩
  · cases h1
    exact ⟨h2.symm, .inl ⟨rfl, List.length_eq_zero_iff.1 h2⟩⟩
  · have h' := h
    rw [h1] at h'
    cases h1
    refine ⟨rfl, .inr ⟨g, rfl, (Array.getElem?_eq_some_iff.1 h3).1, fun j hj => ?_⟩⟩
    rw [h'.cellAt j (by omega)]
    simp [hj, uV]
/-- Handles: two rows of handles are the same. -/
theorem law_handles (p q : Option Addr) (c d b1 b2 : Nat) (l m : List Int) (w : World) (hl : l.length ≤ 65536) (hm : m.length ≤ 65536) (h1 : w.ownsRow b1 32 1 (.slice p l.length c) l.length (l.map uV)) (h2 : w.ownsRow b2 32 1 (.slice q m.length d) m.length (m.map uV)) :
    Calls Try.prog 30 #[.slice p l.length c, .slice q m.length d] w fun e w' => e = .returned (.bool (decide (l = m))) ∧ Below w.heap.size w w' := by
  by_cases hlen : l.length = m.length
  · have HL := Lib.hid hlen
    have hz : ((l.length : Int) != (m.length : Int)) = false := by simp [hlen]
    have HC1 : Hid (∀ (j : Nat) (h : j < l.length), ∃ gb, p = some ⟨gb, 0, none⟩ ∧ ∀ W, Below w.heap.size w W → W.cell? ⟨gb, j, none⟩ = some (.int .u64 l[j])) := by
      intro j h
      obtain ⟨_, hq⟩ := owns_u h1
      rcases hq with ⟨_, e⟩ | ⟨gb, rfl, hg, hc⟩
      · rw [e] at h; simp at h
      · exact ⟨gb, rfl, fun W b => (b.cell (p := ⟨gb, j, none⟩) hg).trans (hc j h)⟩
    have HC2 : Hid (∀ (j : Nat) (h : j < m.length), ∃ gb, q = some ⟨gb, 0, none⟩ ∧ ∀ W, Below w.heap.size w W → W.cell? ⟨gb, j, none⟩ = some (.int .u64 m[j])) := by
      intro j h
      obtain ⟨_, hq⟩ := owns_u h2
      rcases hq with ⟨_, e⟩ | ⟨gb, rfl, hg, hc⟩
      · rw [e] at h; simp at h
      · exact ⟨gb, rfl, fun W b => (b.cell (p := ⟨gb, j, none⟩) hg).trans (hc j h)⟩
    clear h1 h2 hlen
    go_enter Try.func30, Try.ntmps30
    go_wp2_with fail
    go_loopg [13] l.length (fun k i wx => ∃ (j : Nat), l.length - j = k ∧ j ≤ l.length ∧ i = .int .i64 (j : Int) ∧ Hid (l.take j = m.take j) ∧ Hid (Below w.heap.size w wx))
    case atStart => exact ⟨0, rfl, by omega, rfl, rfl, Below.refl _ _⟩
    case round =>
      obtain ⟨j, rfl, hj, rfl, HT, HB⟩ := hrel
      by_cases h0 : j = l.length
      · have h0z : ¬ (j : Int) < (l.length : Int) := by omega
        have HE : Hid (decide (l = m) = true) := by
          have h := HT.out
          rw [h0, List.take_length, HL.out, List.take_length] at h
          exact decide_eq_true h
        clear h0
        go_wp2_with fail
        go_ret
        exact ⟨by rw [HE.out]; rfl, HB.out⟩
      · have hjl : j < l.length := by omega
        have hjm : j < m.length := by have := HL.out; omega
        have hjz : (j : Int) < (l.length : Int) := by omega
        have hjz2 : (j : Int) < (m.length : Int) := by omega
        obtain ⟨g1, rfl, k1⟩ := HC1.out j hjl
        obtain ⟨g2, rfl, k2⟩ := HC2.out j hjm
        have c1 := k1 wr HB.out
        have c2 := k2 wr HB.out
        clear k1 k2 h0
        by_cases he : l[j] = m[j]
        · have HT2 : Hid (l.take (j + 1) = m.take (j + 1)) := by
            show _ = _
            rw [List.take_succ_eq_append_getElem hjl, List.take_succ_eq_append_getElem hjm, HT.out, he]
          rw [← he] at c2
          have hx : (l[j] != l[j]) = false := by simp
          clear he
          generalize l[j] = x at *
          go_upto_region 6 with fail
          go_quiet (fail)
          go_wp2_with fail
          go_roundg (l.length - (j + 1))
          case measure => omega
          case rel => exact ⟨j + 1, rfl, by omega, by go_num, HT2, below_drewN HB.out _⟩
        · have hx : (l[j] != m[j]) = true := by rw [bne_iff_ne]; exact he
          have HE : Hid (decide (l = m) = false) := by
            show _ = _
            rw [decide_eq_false_iff_not]
            intro e
            subst e
            exact he rfl
          clear he
          generalize l[j] = x at *
          generalize m[j] = y at *
          go_upto_region 6 with fail
          go_quiet (fail)
          go_wp2_with fail
          go_ret
          exact ⟨by rw [HE.out]; rfl, below_drewN HB.out _⟩
  · have hz : ((l.length : Int) != (m.length : Int)) = true := by rw [bne_iff_ne]; omega
    have hd : decide (l = m) = false := by rw [decide_eq_false_iff_not]; exact fun e => hlen (by rw [e])
    rw [hd]
    clear h1 h2 hlen hd
    go_enter Try.func30, Try.ntmps30
    go_wp2_with fail
    go_ret
    exact ⟨rfl, Below.refl _ _⟩

end Go.Proofs.Ytkiibobpejoaeaa
