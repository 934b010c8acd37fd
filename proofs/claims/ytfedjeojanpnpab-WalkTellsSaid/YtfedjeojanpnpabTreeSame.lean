/-
  The laws' own Same of layer 6: are two rows of entries the same?
-/
import Derived.Test.YtfedjeojanpnpabTreeK
namespace Go.Proofs.Ytfedjeojanpnpab
open Go.RowKit
set_option linter.unusedVariables false

set_option maxHeartbeats 1000000 in
theorem law_same (p q : Option Addr) (c d b1 b2 : Nat) (l m : List En) (w : World) (hl : l.length ≤ 65536) (hm : m.length ≤ 65536) (h1 : w.ownsRow b1 52 3 (.slice p l.length c) l.length (l.flatMap enC)) (h2 : w.ownsRow b2 52 3 (.slice q m.length d) m.length (m.flatMap enC)) :
    Calls Try.prog 12 #[.slice p l.length c, .slice q m.length d] w fun e w' => e = .returned (.bool (decide (l = m))) ∧ Below w.heap.size w w' := by
  by_cases hlen : l.length = m.length
  · have HL := Lib.hid hlen
    have hz : ((l.length : Int) != (m.length : Int)) = false := by simp [hlen]
    have HC1 : Hid (∀ (j : Nat) (h : j < l.length), ∃ gb, p = some ⟨gb, 0, none⟩ ∧ ∀ W, Below w.heap.size w W → W.cell? ⟨gb, j * 3, none⟩ = some (.int .u64 (l[j].key.at_ : Int)) ∧ W.cell? ⟨gb, j * 3 + 1, none⟩ = some (.int .u64 (l[j].key.seq : Int)) ∧ W.cell? ⟨gb, j * 3 + 2, none⟩ = some (.int .i64 l[j].val)) := by
      refine Lib.hid fun j h => ?_
      obtain ⟨gb, rfl, hg, c0, c1, c2⟩ := en_cells h1 h
      exact ⟨gb, rfl, fun W b => ⟨(b.cell (p := ⟨gb, j * 3, none⟩) hg).trans c0, (b.cell (p := ⟨gb, j * 3 + 1, none⟩) hg).trans c1, (b.cell (p := ⟨gb, j * 3 + 2, none⟩) hg).trans c2⟩⟩
    have HC2 : Hid (∀ (j : Nat) (h : j < m.length), ∃ gb, q = some ⟨gb, 0, none⟩ ∧ ∀ W, Below w.heap.size w W → W.cell? ⟨gb, j * 3, none⟩ = some (.int .u64 (m[j].key.at_ : Int)) ∧ W.cell? ⟨gb, j * 3 + 1, none⟩ = some (.int .u64 (m[j].key.seq : Int)) ∧ W.cell? ⟨gb, j * 3 + 2, none⟩ = some (.int .i64 m[j].val)) := by
      refine Lib.hid fun j h => ?_
      obtain ⟨gb, rfl, hg, c0, c1, c2⟩ := en_cells h2 h
      exact ⟨gb, rfl, fun W b => ⟨(b.cell (p := ⟨gb, j * 3, none⟩) hg).trans c0, (b.cell (p := ⟨gb, j * 3 + 1, none⟩) hg).trans c1, (b.cell (p := ⟨gb, j * 3 + 2, none⟩) hg).trans c2⟩⟩
    clear h1 h2 hlen
    go_enter Try.func12, Try.ntmps12
    go_wp2_with fail
    go_loopg [13] l.length (fun k i wx => ∃ (j : Nat), l.length - j = k ∧ j ≤ l.length ∧ i = .int .i64 (j : Int) ∧ Hid (l.take j = m.take j) ∧ Hid (Below w.heap.size w wx))
    case atStart => exact ⟨0, rfl, by omega, rfl, rfl, Below.refl _ _⟩
    case round =>
      obtain ⟨j, rfl, hj, rfl, HT, HB⟩ := hrel
      by_cases h0 : j = l.length
      · have h0z : ¬ (j : Int) < (l.length : Int) := by omega
        have HE : Hid (decide (l = m) = true) := by
          have h := HT.out
          rw [h0, List.take_length, HL.out, List.take_length] at h
          exact decide_eq_true h
        clear h0
        go_wp2_with fail
        go_ret
        exact ⟨by rw [HE.out]; rfl, HB.out⟩
      · have hjl : j < l.length := by omega
        have hjm : j < m.length := by have := HL.out; omega
        have hjz : (j : Int) < (l.length : Int) := by omega
        have hjz2 : (j : Int) < (m.length : Int) := by omega
        obtain ⟨g1, rfl, k1⟩ := HC1.out j hjl
        obtain ⟨g2, rfl, k2⟩ := HC2.out j hjm
        obtain ⟨c0, c1, c2⟩ := k1 wr HB.out
        obtain ⟨d0, d1, d2⟩ := k2 wr HB.out
        clear k1 k2 h0
        by_cases he : l[j] = m[j]
        · have HT2 : Hid (l.take (j + 1) = m.take (j + 1)) := by
            show _ = _
            rw [List.take_succ_eq_append_getElem hjl, List.take_succ_eq_append_getElem hjm, HT.out, he]
          rw [← he] at d0 d1 d2
          clear he
          generalize l[j] = x at *
          go_upto_region 6 with fail
          go_quiet (fail)
          go_wp2_with fail
          go_roundg (l.length - (j + 1))
          case measure => omega
          case rel => exact ⟨j + 1, rfl, by omega, by go_num, HT2, below_drewN HB.out _⟩
        · have HE : Hid (decide (l = m) = false) := by
            show _ = _
            rw [decide_eq_false_iff_not]
            intro e
            subst e
            exact he rfl
          have hne : ¬ ((l[j].key.at_ : Int) = (m[j].key.at_ : Int) ∧ (l[j].key.seq : Int) = (m[j].key.seq : Int) ∧ l[j].val = m[j].val) := by
            rintro ⟨h1, h2, h3⟩
            refine he ?_
            cases hx : l[j] with
            | mk a b =>
            cases hy : m[j] with
            | mk a' b' =>
              rw [hx, hy] at h1 h2 h3
              cases a
              cases a'
              simp only at h1 h2 h3
              simp only [En.mk.injEq, Ky.mk.injEq]
              exact ⟨⟨by omega, by omega⟩, h3⟩
          clear he
          generalize (l[j].key.at_ : Int) = a1 at *
          generalize (m[j].key.at_ : Int) = a2 at *
          generalize (l[j].key.seq : Int) = s1 at *
          generalize (m[j].key.seq : Int) = s2 at *
          generalize l[j].val = v1 at *
          generalize m[j].val = v2 at *
          by_cases q1 : a1 = a2
          · subst q1
            by_cases q2 : s1 = s2
            · subst q2
              have q3 : ¬ v1 = v2 := fun e => hne ⟨rfl, rfl, e⟩
              have q3z : (v1 == v2) = false := by rw [beq_eq_false_iff_ne]; exact q3
              clear hne
              go_upto_region 6 with fail
              go_quiet (fail)
              go_wp2_with fail
              go_ret
              exact ⟨by rw [HE.out]; rfl, below_drewN HB.out _⟩
            · have q2z : (s1 == s2) = false := by rw [beq_eq_false_iff_ne]; exact q2
              clear hne
              go_upto_region 6 with fail
              go_quiet (fail)
              go_wp2_with fail
              go_ret
              exact ⟨by rw [HE.out]; rfl, below_drewN HB.out _⟩
          · have q1z : (a1 == a2) = false := by rw [beq_eq_false_iff_ne]; exact q1
            clear hne
            go_upto_region 6 with fail
            go_quiet (fail)
            go_wp2_with fail
            go_ret
            exact ⟨by rw [HE.out]; rfl, below_drewN HB.out _⟩
  · have hz : ((l.length : Int) != (m.length : Int)) = true := by rw [bne_iff_ne]; omega
    have hd : decide (l = m) = false := by rw [decide_eq_false_iff_not]; exact fun e => hlen (by rw [e])
    rw [hd]
    clear h1 h2 hlen hd
    go_enter Try.func12, Try.ntmps12
    go_wp2_with fail
    go_ret
    exact ⟨rfl, Below.refl _ _⟩

end Go.Proofs.Ytfedjeojanpnpab
