/-
  Ints: two rows of numbers, whether they are the same.
-/
import Derived.Test.YtkiibobpejoaeaaDoorMem
namespace Go.Proofs.YtkiibobpejoaeaaDoor
open Go.RowKit
set_option linter.unusedVariables false

/-- Ints: two rows of numbers are the same. -/
theorem law_ints (p q : Option Addr) (c d b1 b2 : Nat) (l m : List Nat) (w : World) (hl : l.length ≤ 65536) (hm : m.length ≤ 65536) (h1 : w.ownsRow b1 3 1 (.slice p l.length c) l.length (l.map natV)) (h2 : w.ownsRow b2 3 1 (.slice q m.length d) m.length (m.map natV)) :
    Calls Tryd.prog 19 #[.slice p l.length c, .slice q m.length d] w fun e w' => e = .returned (.bool (decide (l = m))) ∧ Below w.heap.size w w' := by
  by_cases hlen : l.length = m.length
  · have HL := Lib.hid hlen
    have hz : ((l.length : Int) != (m.length : Int)) = false := by simp [hlen]
    have HC1 : Hid (∀ (j : Nat) (h : j < l.length), ∃ gb, p = some ⟨gb, 0, none⟩ ∧ ∀ W, Below w.heap.size w W → W.cell? ⟨gb, j, none⟩ = some (.int .i64 (l[j] : Int))) := by
      intro j h
      obtain ⟨_, hq⟩ := owns_nat h1
      rcases hq with ⟨_, e⟩ | ⟨gb, rfl, hg, hc⟩
      · rw [e] at h; simp at h
      · exact ⟨gb, rfl, fun W b => (b.cell (p := ⟨gb, j, none⟩) hg).trans (hc j h)⟩
    have HC2 : Hid (∀ (j : Nat) (h : j < m.length), ∃ gb, q = some ⟨gb, 0, none⟩ ∧ ∀ W, Below w.heap.size w W → W.cell? ⟨gb, j, none⟩ = some (.int .i64 (m[j] : Int))) := by
      intro j h
      obtain ⟨_, hq⟩ := owns_nat h2
      rcases hq with ⟨_, e⟩ | ⟨gb, rfl, hg, hc⟩
      · rw [e] at h; simp at h
      · exact ⟨gb, rfl, fun W b => (b.cell (p := ⟨gb, j, none⟩) hg).trans (hc j h)⟩
    clear h1 h2 hlen
    go_enter Tryd.func19, Tryd.ntmps19
    go_wp2_with fail
    go_loopg [13] l.length (fun k i wx => ∃ (j : Nat), l.length - j = k ∧ j ≤ l.length ∧ i = .int .i64 (j : Int) ∧ Hid (l.take j = m.take j) ∧ Hid (Below w.heap.size w wx))
    case atStart => exact ⟨0, rfl, by omega, rfl, rfl, Below.refl _ _⟩
    case round =>
      obtain ⟨j, rfl, hj, rfl, HT, HB⟩ := hrel
      by_cases h0 : j = l.length
      · have h0z : ¬ (j : Int) < (l.length : Int) := by omega
        have HE : Hid (decide (l = m) = true) := by
          have h := HT.out
          rw [h0, List.take_length, HL.out, List.take_length] at h
          exact decide_eq_true h
        clear h0
        go_wp2_with fail
        go_ret
        exact ⟨by rw [HE.out]; rfl, HB.out⟩
      · have hjl : j < l.length := by omega
        have hjm : j < m.length := by have := HL.out; omega
        have hjz : (j : Int) < (l.length : Int) := by omega
        have hjz2 : (j : Int) < (m.length : Int) := by omega
        obtain ⟨g1, rfl, k1⟩ := HC1.out j hjl
        obtain ⟨g2, rfl, k2⟩ := HC2.out j hjm
        have c1 := k1 wr HB.out
        have c2 := k2 wr HB.out
        clear k1 k2 h0
        by_cases he : l[j] = m[j]
        · have HT2 : Hid (l.take (j + 1) = m.take (j + 1)) := by
            show _ = _
            rw [List.take_succ_eq_append_getElem hjl, List.take_succ_eq_append_getElem hjm, HT.out, he]
          rw [← he] at c2
          have hx : ((l[j] : Int) != (l[j] : Int)) = false := by simp
          clear he
          generalize l[j] = x at *
          go_upto_region 6 with fail
          go_quiet (fail)
          go_wp2_with fail
          go_roundg (l.length - (j + 1))
          case measure => omega
          case rel => exact ⟨j + 1, rfl, by omega, by go_num, HT2, below_drewN HB.out _⟩
        · have hx : ((l[j] : Int) != (m[j] : Int)) = true := by rw [bne_iff_ne]; omega
          have HE : Hid (decide (l = m) = false) := by
            show _ = _
            rw [decide_eq_false_iff_not]
            intro e
            subst e
            exact he rfl
          clear he
          generalize l[j] = x at *
          generalize m[j] = y at *
          go_upto_region 6 with fail
          go_quiet (fail)
          go_wp2_with fail
          go_ret
          exact ⟨by rw [HE.out]; rfl, below_drewN HB.out _⟩
  · have hz : ((l.length : Int) != (m.length : Int)) = true := by rw [bne_iff_ne]; omega
    have hd : decide (l = m) = false := by rw [decide_eq_false_iff_not]; exact fun e => hlen (by rw [e])
    rw [hd]
    clear h1 h2 hlen hd
    go_enter Tryd.func19, Tryd.ntmps19
    go_wp2_with fail
    go_ret
    exact ⟨rfl, Below.refl _ _⟩

end Go.Proofs.YtkiibobpejoaeaaDoor
