/-
  What the document's own answers of layer 4 (package sandglassref04) are: over lists in place of slices.
-/
import Derived.Test.YtmaofmbnlfggiabMem
import Derived.Below
import Derived.Deep.QuietTactic
import Derived.BigQuiet
import Derived.Deep.DeepCutAuto
import Derived.Deep.CutBlock
import Derived.Deep.LoopGhost
import Derived.OwnWalk
import Derived.WalkSmall
namespace Go.Proofs.Ytmaofmbnlfggiab
open Go.RowKit
set_option linter.unusedVariables false

/-- How many of the first j are true. -/
def trues (l : List Bool) (j : Nat) : Nat := (l.take j).countP (· = true)
theorem trues_succ (l : List Bool) (j : Nat) (h : j < l.length) : trues l (j + 1) = trues l j + (if l[j] = true then 1 else 0) := by
  unfold trues
  rw [List.take_succ_eq_append_getElem h, List.countP_append]
  simp [List.countP_cons]
theorem trues_le (l : List Bool) (j : Nat) : trues l j ≤ j := by
  unfold trues
  exact Nat.le_trans (List.countP_le_length) (by simp; omega)

/-- What a slice of bools that owns its row reads. -/
theorem owns_bool {w : World} {base e : Nat} {p : Option Addr} {n c : Nat} {l : List Bool} (h : w.ownsRow base e 1 (.slice p n c) l.length (l.map Value.bool)) :
    n = l.length ∧ ((p = none ∧ l = []) ∨ ∃ g, p = some ⟨g, 0, none⟩ ∧ g < w.heap.size ∧ ∀ j (hj : j < l.length), w.cell? ⟨g, j, none⟩ = some (.bool l[j])) := by
  rcases h.2 with ⟨h1, h2⟩ | ⟨g, cap, cur, h1, _, h3, _⟩
  · cases h1
    exact ⟨h2.symm, .inl ⟨rfl, List.length_eq_zero_iff.1 h2⟩⟩
  · have h' := h
    rw [h1] at h'
    cases h1
    refine ⟨rfl, .inr ⟨g, rfl, (Array.getElem?_eq_some_iff.1 h3).1, fun j hj => ?_⟩⟩
    rw [h'.cellAt j (by omega)]
    simp [hj]

set_option maxHeartbeats 1000000 in
theorem ref_used (pt pk pb : Option Addr) (nt ct nk ck nb cb : Nat) (room : Int) (l : List Bool) (w : World) (hl : l.length ≤ 65536) (hk : w.ownsRow 0 4 1 (.slice pk nk ck) l.length (l.map Value.bool)) :
    Calls Try.prog 36 #[.agg #[.slice pt nt ct, .slice pk nk ck, .slice pb nb cb, .int .i64 room]] w fun e w' => e = .returned (.int .i64 (trues l l.length : Nat)) ∧ Below w.heap.size w w' := by
  obtain ⟨rfl, hp⟩ := owns_bool hk
  clear hk
  go_enter Try.func36, Try.ntmps36
  go_wp2_with fail
  go_loopg [3, 4] l.length (fun g y i wx => ∃ (j y' : Nat), l.length - j = g ∧ j ≤ l.length ∧ i = .int .i64 (j : Int) ∧ y = .int .i64 (y' : Int) ∧ Hid (y' = trues l j) ∧ wx = w.alloc (.cells #[.slice pt nt ct, .slice pk l.length ck, .slice pb nb cb, .int .i64 room] 30))
  case atStart => exact ⟨0, 0, rfl, by omega, rfl, rfl, rfl, rfl⟩
  case round =>
    obtain ⟨j, y, rfl, hj, rfl, rfl, HA, rfl⟩ := hrel
    have hy : y ≤ j := by rw [HA.out]; exact trues_le _ _
    by_cases h0 : j = l.length
    · have h0z : ¬ (j : Int) < (l.length : Int) := by omega
      have HE : Hid (y = trues l l.length) := by show y = _; rw [HA.out, h0]
      clear h0
      go_wp2_with fail
      go_ret
      exact ⟨by rw [← HE.out]; rfl, (Below.refl _ w).alloc (Nat.le_refl _) _⟩
    · have hj' : j < l.length := by omega
      have h0z : (j : Int) < (l.length : Int) := by omega
      obtain ⟨g, rfl, hg, hcell⟩ : ∃ g, pk = some ⟨g, 0, none⟩ ∧ g < w.heap.size ∧ ∀ j (hj : j < l.length), w.cell? ⟨g, j, none⟩ = some (.bool l[j]) := by
        rcases hp with ⟨_, h⟩ | h
        · rw [h] at hj'; simp at hj'
        · exact h
      have HN := Lib.hid (trues_succ l j hj')
      have cj := (((Below.refl _ w).alloc (Nat.le_refl _) (.cells #[.slice pt nt ct, .slice (some ⟨g, 0, none⟩) l.length ck, .slice pb nb cb, .int .i64 room] 30)).cell (p := ⟨g, j, none⟩) hg).trans (hcell j hj')
      obtain ⟨b, Hb⟩ : ∃ b, Hid (l[j] = b) := ⟨l[j], Lib.hid rfl⟩
      rw [Hb.out] at cj
      rw [Hb.out, ← HA.out] at HN
      clear hp hcell Hb h0
      cases b
      · rw [if_neg (by decide), Nat.add_zero] at HN
        go_wp2_with fail
        go_roundg (l.length - (j + 1))
        case measure => omega
        case rel => exact ⟨j + 1, y, rfl, by omega, by go_num, rfl, HN.out.symm, rfl⟩
      · rw [if_pos rfl] at HN
        go_wp2_with fail
        go_roundg (l.length - (j + 1))
        case measure => omega
        case rel => exact ⟨j + 1, y + 1, rfl, by omega, by go_num, by go_num, HN.out.symm, rfl⟩

set_option maxHeartbeats 1000000 in
/-- Handle, of a place that is not taken, or is none. -/
theorem ref_handle_none (pt pk pb : Option Addr) (nt ct nk ck nb cb : Nat) (room p : Int) (l : List Bool) (w : World) (hl : l.length ≤ 65536) (hk : w.ownsRow 0 4 1 (.slice pk nk ck) l.length (l.map Value.bool))
    (hp : p < 0 ∨ (l.length : Int) ≤ p ∨ ∃ j : Nat, p = (j : Int) ∧ l[j]? = some false) :
    Calls Try.prog 38 #[.agg #[.slice pt nt ct, .slice pk nk ck, .slice pb nb cb, .int .i64 room], .int .i64 p] w fun e w' => e = .returned (.tuple #[.int .u64 0, .bool false]) ∧ Below w.heap.size w w' := by
  obtain ⟨rfl, hq⟩ := owns_bool hk
  clear hk
  rcases hp with hp | hp
  · go_enter Try.func38, Try.ntmps38
    go_wp2_with fail
    go_ret2
    exact ⟨rfl, (Below.refl _ w).alloc (Nat.le_refl _) _⟩
  by_cases h0 : p < 0
  · go_enter Try.func38, Try.ntmps38
    go_wp2_with fail
    go_ret2
    exact ⟨rfl, (Below.refl _ w).alloc (Nat.le_refl _) _⟩
  rcases hp with hp | ⟨j, rfl, hj⟩
  · go_enter Try.func38, Try.ntmps38
    go_wp2_with fail
    go_ret2
    exact ⟨rfl, (Below.refl _ w).alloc (Nat.le_refl _) _⟩
  · obtain ⟨hj', hf⟩ := List.getElem?_eq_some_iff.1 hj
    have hjz : ¬ (l.length : Int) ≤ (j : Int) := by omega
    obtain ⟨g, rfl, hg, hcell⟩ : ∃ g, pk = some ⟨g, 0, none⟩ ∧ g < w.heap.size ∧ ∀ j (hj : j < l.length), w.cell? ⟨g, j, none⟩ = some (.bool l[j]) := by
      rcases hq with ⟨_, h⟩ | h
      · rw [h] at hj'; simp at hj'
      · exact h
    have cj := (((Below.refl _ w).alloc (Nat.le_refl _) (.cells #[.slice pt nt ct, .slice (some ⟨g, 0, none⟩) l.length ck, .slice pb nb cb, .int .i64 room] 30)).cell (p := ⟨g, j, none⟩) hg).trans (hcell j hj')
    rw [hf] at cj
    clear hq hcell hf hj
    go_enter Try.func38, Try.ntmps38
    go_wp2_with fail
    go_ret2
    exact ⟨rfl, (Below.refl _ w).alloc (Nat.le_refl _) _⟩

set_option maxHeartbeats 1000000 in
/-- Handle, of a place that is taken, for the nth time. -/
theorem ref_handle_some (pt pk pb : Option Addr) (nt ct nk ck nb cb : Nat) (room : Int) (ts : List Nat) (l : List Bool) (j n : Nat) (w : World) (hl : l.length ≤ 65536) (hlen : ts.length = l.length)
    (ht : w.ownsRow 0 3 1 (.slice pt nt ct) ts.length (ts.map natV)) (hk : w.ownsRow 0 4 1 (.slice pk nk ck) l.length (l.map Value.bool)) (hj : l[j]? = some true) (hn : ts[j]? = some (n + 1)) (hn1 : n < 2147483648) :
    Calls Try.prog 38 #[.agg #[.slice pt nt ct, .slice pk nk ck, .slice pb nb cb, .int .i64 room], .int .i64 (j : Int)] w fun e w' => e = .returned (.tuple #[.int .u64 (n * 4294967296 + j + 1 : Nat), .bool true]) ∧ Below w.heap.size w w' := by
  obtain ⟨rfl, hq⟩ := owns_bool hk
  obtain ⟨rfl, hr⟩ := owns_nat ht
  clear hk ht
  obtain ⟨hj', hf⟩ := List.getElem?_eq_some_iff.1 hj
  obtain ⟨hj2, hf2⟩ := List.getElem?_eq_some_iff.1 hn
  have hjz : ¬ (l.length : Int) ≤ (j : Int) := by omega
  obtain ⟨g, rfl, hg, hcell⟩ : ∃ g, pk = some ⟨g, 0, none⟩ ∧ g < w.heap.size ∧ ∀ j (hj : j < l.length), w.cell? ⟨g, j, none⟩ = some (.bool l[j]) := by
    rcases hq with ⟨_, h⟩ | h
    · rw [h] at hj'; simp at hj'
    · exact h
  obtain ⟨g2, rfl, hg2, hcell2⟩ : ∃ g, pt = some ⟨g, 0, none⟩ ∧ g < w.heap.size ∧ ∀ j (hj : j < ts.length), w.cell? ⟨g, j, none⟩ = some (.int .i64 (ts[j] : Int)) := by
    rcases hr with ⟨_, h⟩ | h
    · rw [h] at hj2; simp at hj2
    · exact h
  have hB := (Below.refl _ w).alloc (Nat.le_refl _) (.cells #[.slice (some ⟨g2, 0, none⟩) ts.length ct, .slice (some ⟨g, 0, none⟩) l.length ck, .slice pb nb cb, .int .i64 room] 30)
  have cj := (hB.cell (p := ⟨g, j, none⟩) hg).trans (hcell j hj')
  have ck := (hB.cell (p := ⟨g2, j, none⟩) hg2).trans (hcell2 j hj2)
  rw [hf] at cj
  rw [hf2] at ck
  clear hq hr hcell hcell2 hf hj hf2 hn hlen
  have hj0 : ¬ (j : Int) < 0 := by omega
  have hn2 : ((n + 1 : Nat) : Int) = (n : Int) + 1 := by omega
  rw [hn2] at ck
  clear hn2
  go_enter Try.func38, Try.ntmps38
  go_wp2_with fail
  go_ret2
  exact ⟨ret_hb (by omega), hB⟩

end Go.Proofs.Ytmaofmbnlfggiab
