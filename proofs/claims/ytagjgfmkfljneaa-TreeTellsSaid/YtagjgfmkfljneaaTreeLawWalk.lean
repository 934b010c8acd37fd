/-
  The laws' own walk of layer 6: of a shape that is a red-black tree's it tells how many black ones are on each way.
-/
import Derived.Test.YtagjgfmkfljneaaTreeLaws
namespace Go.Proofs.Ytagjgfmkfljneaa
open Go.RowKit
set_option linter.unusedVariables false

/-- What stands above a part: nothing, or a node outside of it, of such a colour. -/
def UpOk (l : List Tw) (off size : Nat) (up : Int) (pr : Bool) : Prop :=
  (up = -1 ∧ pr = true) ∨ ∃ (u : Nat) (x : Tw), up = (u : Int) ∧ l[u]? = some x ∧ (u < off ∨ off + size ≤ u) ∧ x.red = pr
theorem UpOk.out {l : List Tw} {off size : Nat} {up : Int} {pr : Bool} (h : UpOk l off size up pr) : up < (off : Int) ∨ ((off + size : Nat) : Int) ≤ up := by
  rcases h with ⟨h, _⟩ | ⟨u, x, h, _, h2, _⟩
  · exact .inl (by omega)
  · omega

theorem law_walk_leaf (p : Option Addr) (c : Nat) (l : List Tw) (w : World) (off : Nat) (up : Int) (n : Nat) (hb : n = 0) :
    Calls Try.prog 28 #[.slice p l.length c, .int .i64 (off : Int), .int .i64 ((off + RB.leaf.size : Nat) : Int), .int .i64 up] w fun e w' => e = .returned (.int .i64 (n : Int)) ∧ w' = w := by
  subst hb
  have e0 : off + RB.leaf.size = off := rfl
  rw [e0]
  go_enter Try.func28, Try.ntmps28
  go_wp2_with fail
  go_ret
  exact ⟨rfl, rfl⟩

set_option maxHeartbeats 4000000 in
theorem law_walk_node (p : Option Addr) (c base : Nat) (l : List Tw) (w : World) (hl : l.length ≤ 65536) (h : w.ownsRow base 56 4 (.slice p l.length c) l.length (l.flatMap twC))
    (cr : Bool) (tl : RB) (e : En) (tr : RB) (off : Nat) (up : Int) (pr : Bool) (n m : Nat) (hin : ∀ (i : Nat) (x : Tw), ((RB.node cr tl e tr).twigs off up)[i]? = some x → l[off + i]? = some x) (hsz : off + (RB.node cr tl e tr).size ≤ l.length) (hcp : cr = true → pr = false) (hn : n = if cr then m else m + 1) (hm : m ≤ 65536) (hup : UpOk l off (RB.node cr tl e tr).size up pr)
    (kl : Calls Try.prog 28 #[.slice p l.length c, .int .i64 (off : Int), .int .i64 ((off + tl.size : Nat) : Int), .int .i64 ((off + tl.size : Nat) : Int)] w fun e w' => e = .returned (.int .i64 (m : Int)) ∧ w' = w)
    (kr : Calls Try.prog 28 #[.slice p l.length c, .int .i64 ((off + tl.size + 1 : Nat) : Int), .int .i64 ((off + tl.size + 1 + tr.size : Nat) : Int), .int .i64 ((off + tl.size : Nat) : Int)] w fun e w' => e = .returned (.int .i64 (m : Int)) ∧ w' = w) :
    Calls Try.prog 28 #[.slice p l.length c, .int .i64 (off : Int), .int .i64 ((off + (RB.node cr tl e tr).size : Nat) : Int), .int .i64 up] w fun e w' => e = .returned (.int .i64 (n : Int)) ∧ w' = w := by
  have hszn : (RB.node cr tl e tr).size = tl.size + 1 + tr.size := rfl
  have htw : (RB.node cr tl e tr).twigs off up = tl.twigs off ((off + tl.size : Nat) : Int) ++ ⟨e.key, cr, up⟩ :: tr.twigs (off + tl.size + 1) ((off + tl.size : Nat) : Int) := rfl
  have hll := RB.size_twigs tl off ((off + tl.size : Nat) : Int)
  obtain ⟨rt, hrt⟩ : ∃ rt, off + tl.size = rt := ⟨_, rfl⟩
  obtain ⟨tz, hto⟩ : ∃ tz, off + (RB.node cr tl e tr).size = tz := ⟨_, rfl⟩
  have hroot : l[rt]? = some ⟨e.key, cr, up⟩ := by
    rw [← hrt]
    refine hin tl.size _ ?_
    rw [htw, List.getElem?_append_right (by omega), hll, Nat.sub_self]
    rfl
  have hrtl : rt < tz := by omega
  have htol : tz ≤ l.length := by omega
  have KL := Lib.hid kl
  have KR := Lib.hid kr
  rw [hrt] at KL KR
  rw [show rt + 1 + tr.size = tz by omega] at KR
  clear kl kr
  have HU : Hid (∀ i, i < tz → off ≤ i → ∃ B u, p = some ⟨B, 0, none⟩ ∧ w.cell? ⟨B, i * 4 + 3, none⟩ = some (.int .i64 u) ∧ ((i = rt ∧ u = up) ∨ (i ≠ rt ∧ u ≠ up))) := by
    refine Lib.hid fun i hi ho => ?_
    have hil : i < l.length := by omega
    obtain ⟨B, rfl, _, _, _, _, c3⟩ := tw_cells h hil
    refine ⟨B, _, rfl, c3, ?_⟩
    have hj : i - off < ((RB.node cr tl e tr).twigs off up).length := by rw [RB.size_twigs]; omega
    have h1 := hin (i - off) _ (List.getElem?_eq_getElem hj)
    rw [show off + (i - off) = i by omega, List.getElem?_eq_getElem hil] at h1
    have h2 := Option.some.inj h1
    rw [h2]
    rcases RB.ups (RB.node cr tl e tr) off up (i - off) _ (List.getElem?_eq_getElem hj) with ⟨h3, c', l', e', r', h4, h5⟩ | ⟨h3, h4, h5⟩
    · cases h4
      exact .inl ⟨by omega, h3⟩
    · refine .inr ⟨fun e0 => ?_, fun e1 => ?_⟩
      · have h6 := h2
        have h7 := hroot
        rw [← e0, List.getElem?_eq_getElem hil] at h7
        have h8 := Option.some.inj h7
        rw [← h2, h8] at h3 h4
        have h9 := hup.out
        simp only at h3 h4
        omega
      · have h9 := hup.out
        omega
  obtain ⟨B, hpB, cR'⟩ : ∃ B, p = some ⟨B, 0, none⟩ ∧ w.cell? ⟨B, rt * 4 + 2, none⟩ = some (.bool cr) := by
    have hrl : rt < l.length := by omega
    obtain ⟨B, hpB, _, _, _, cR, _⟩ := tw_cells h hrl
    rw [List.getElem?_eq_getElem hrl] at hroot
    rw [Option.some.inj hroot] at cR
    exact ⟨B, hpB, cR⟩
  subst hpB
  have HA : Hid (cr = false ∨ ∃ u : Nat, cr = true ∧ up = (u : Int) ∧ u < l.length ∧ w.cell? ⟨B, u * 4 + 2, none⟩ = some (.bool false)) := by
    cases cr with
    | false => exact Lib.hid (.inl rfl)
    | true =>
      have hpf := hcp rfl
      refine Lib.hid (.inr ?_)
      rcases hup with ⟨_, h2⟩ | ⟨u, x, h1, h2, h3, h4⟩
      · rw [hpf] at h2; cases h2
      · have hul := (List.getElem?_eq_some_iff.1 h2).1
        obtain ⟨B', e', _, _, _, c2, _⟩ := tw_cells h hul
        cases e'
        rw [List.getElem?_eq_getElem hul] at h2
        have h5 := Option.some.inj h2
        rw [h5, h4, hpf] at c2
        exact ⟨u, rfl, h1, hul, c2⟩
  have HN := Lib.hid hn
  rw [hto]
  have hup1 : I64 up := by
    rcases hup with ⟨h1, _⟩ | ⟨u, x, h1, h2, _, _⟩
    · exact ⟨by omega, by omega⟩
    · have := (List.getElem?_eq_some_iff.1 h2).1
      exact ⟨by omega, by omega⟩
  have hft : ((off : Int) == (tz : Int)) = false := by rw [beq_eq_false_iff_ne]; omega
  have hof : off ≤ rt := by omega
  have e1 : ((rt + 1 : Nat) : Int) = (rt : Int) + 1 := by omega
  rw [e1] at KR
  have hrt0 : rt ≤ 65536 := by omega
  clear h hin hsz hup hroot hcp hn htw hll hszn e1 hrt hto
  go_enter Try.func28, Try.ntmps28
  go_wp2_with fail
  go_loopg [9, 10] (tz - off) (fun k v i wx => ∃ (j : Nat), tz - j = k ∧ off ≤ j ∧ j ≤ tz ∧ i = .int .i64 (j : Int) ∧ v = .int .i64 (if rt < j then (rt : Int) else -1) ∧ wx = w)
  case atStart => exact ⟨off, rfl, by omega, by omega, rfl, by rw [if_neg (by omega)], rfl⟩
  case round =>
    obtain ⟨j, rfl, hj1, hj2, rfl, rfl, rfl⟩ := hrel
    by_cases hjz : j = tz
    · have hz : ¬ (j : Int) < (tz : Int) := by omega
      rw [if_pos (by omega)]
      have hr0 : ¬ (rt : Int) < 0 := by omega
      have hr1 : (rt : Int) < (l.length : Int) := by omega
      have hm0 : ¬ (m : Int) < 0 := by omega
      have hmm : ((m : Int) != (m : Int)) = false := by simp
      clear hjz hj1 hj2 HU
      rcases HA.out with rfl | ⟨u, rfl, rfl, hul, cu⟩
      · have HN2 : Hid ((n : Int) = (m : Int) + 1) := by
          have h1 := HN.out
          simp at h1
          exact Lib.hid (by omega)
        clear HA HN
        go_wp2_with fail
        refine KL.out.mono ?_
        rintro e w1 ⟨rfl, rfl⟩
        go_wp2_with fail
        refine KR.out.mono ?_
        rintro e w1 ⟨rfl, rfl⟩
        go_wp2_with fail
        go_ret
        exact ⟨by rw [HN2.out]; rfl, rfl⟩
      · have HN2 : Hid ((n : Int) = (m : Int)) := by
          have h1 := HN.out
          simp at h1
          exact Lib.hid (by omega)
        have hu0 : ¬ (u : Int) < 0 := by omega
        have hu1 : (u : Int) < (l.length : Int) := by omega
        clear HA HN
        go_wp2_with fail
        refine KL.out.mono ?_
        rintro e w1 ⟨rfl, rfl⟩
        go_wp2_with fail
        refine KR.out.mono ?_
        rintro e w1 ⟨rfl, rfl⟩
        go_wp2_with fail
        go_ret
        exact ⟨by rw [HN2.out]; rfl, rfl⟩
    · have hz : (j : Int) < (tz : Int) := by omega
      obtain ⟨B', u, e', cu, hcase⟩ := HU.out j (by omega) hj1
      cases e'
      have hjl : (j : Int) < (l.length : Int) := by omega
      have hj6 : j ≤ 65536 := by omega
      rcases hcase with ⟨rfl, rfl⟩ | ⟨hne, hue⟩
      · have huz : (u == u) = true := by simp
        have hi1 : (if j < j then (j : Int) else -1) = -1 := if_neg (Nat.lt_irrefl _)
        rw [hi1]
        clear hjz
        go_wp2_with fail
        go_roundg (tz - (j + 1))
        case measure => omega
        case rel => exact ⟨j + 1, rfl, by omega, by omega, by go_num, by rw [if_pos (by omega)], rfl⟩
      · have huz : (u == up) = false := by rw [beq_eq_false_iff_ne]; exact hue
        obtain ⟨rv, hrv⟩ : ∃ rv : Int, (if rt < j then (rt : Int) else -1) = rv := ⟨_, rfl⟩
        have HRV : Hid ((if rt < j + 1 then (rt : Int) else -1) = rv) := by
          rw [← hrv]
          refine Lib.hid ?_
          by_cases c0 : rt < j
          · rw [if_pos c0, if_pos (by omega)]
          · rw [if_neg c0, if_neg (by omega)]
        rw [hrv]
        clear hrv hjz hne hue
        go_wp2_with fail
        go_roundg (tz - (j + 1))
        case measure => omega
        case rel => exact ⟨j + 1, rfl, by omega, by omega, by go_num, by rw [HRV.out], rfl⟩

theorem law_walk (p : Option Addr) (c base : Nat) (l : List Tw) (w : World) (hl : l.length ≤ 65536) (h : w.ownsRow base 56 4 (.slice p l.length c) l.length (l.flatMap twC)) (t : RB) :
    ∀ (off : Nat) (up : Int) (pr : Bool) (n : Nat), (∀ (i : Nat) (x : Tw), (t.twigs off up)[i]? = some x → l[off + i]? = some x) → off + t.size ≤ l.length → t.Bal pr n → UpOk l off t.size up pr →
    Calls Try.prog 28 #[.slice p l.length c, .int .i64 (off : Int), .int .i64 ((off + t.size : Nat) : Int), .int .i64 up] w fun e w' => e = .returned (.int .i64 (n : Int)) ∧ w' = w := by
  induction t with
  | leaf =>
    intro off up pr n hin hsz hb hup
    exact law_walk_leaf p c l w off up n hb
  | node cr tl e tr ihl ihr =>
    intro off up pr n hin hsz hb hup
    obtain ⟨hcp, m, hn, hbl, hbr⟩ := hb
    have hszn : (RB.node cr tl e tr).size = tl.size + 1 + tr.size := rfl
    have htw : (RB.node cr tl e tr).twigs off up = tl.twigs off ((off + tl.size : Nat) : Int) ++ ⟨e.key, cr, up⟩ :: tr.twigs (off + tl.size + 1) ((off + tl.size : Nat) : Int) := rfl
    have hll := RB.size_twigs tl off ((off + tl.size : Nat) : Int)
    have hroot : l[off + tl.size]? = some ⟨e.key, cr, up⟩ := by
      refine hin tl.size _ ?_
      rw [htw, List.getElem?_append_right (by omega), hll, Nat.sub_self]
      rfl
    have hm : m ≤ 65536 := by
      have h1 := RB.bal_size tl cr m hbl
      have h2 : m < 2 ^ m := Nat.lt_two_pow_self
      omega
    refine law_walk_node p c base l w hl h cr tl e tr off up pr n m hin hsz hcp hn hm hup (ihl off _ cr m (fun i x hx => hin i x ?_) (by omega) hbl (.inr ⟨off + tl.size, _, rfl, hroot, .inr (by omega), rfl⟩)) (ihr (off + tl.size + 1) _ cr m (fun i x hx => ?_) (by omega) hbr (.inr ⟨off + tl.size, _, rfl, hroot, .inl (by omega), rfl⟩))
    · rw [htw, List.getElem?_append_left (List.getElem?_eq_some_iff.1 hx).1]
      exact hx
    · have h1 := hin (tl.size + 1 + i) x (by
        rw [htw, List.getElem?_append_right (by omega), hll, show tl.size + 1 + i - tl.size = i + 1 by omega, List.getElem?_cons_succ]
        exact hx)
      rw [show off + tl.size + 1 + i = off + (tl.size + 1 + i) by omega]
      exact h1

end Go.Proofs.Ytagjgfmkfljneaa
