/-
  The program's own queue: leaveRow.
-/
import Derived.Test.YtkiibobpejoaeaaFifoOwn
namespace Go.Proofs.Ytkiibobpejoaeaa
open Go.RowKit
set_option linter.unusedVariables false
set_option maxRecDepth 100000
set_option linter.unusedSimpArgs false

theorem flat_len (l : List En) : (l.flatMap pkC).length = l.length * 3 := by
  induction l with
  | nil => rfl
  | cons x l ih => rw [List.flatMap_cons, List.length_append, ih, List.length_cons, Nat.succ_mul]; show 3 + _ = _; omega
theorem RowAt.cells {W : World} {g o n c : Nat} {r : List En} (h : RowAt W (.slice (some ⟨g, o, none⟩) n c) r) : n = r.length ∧ ∀ j v, (r.flatMap pkC)[j]? = some v → W.cell? ((⟨g, o, none⟩ : Addr).add j) = some v := by
  obtain ⟨p, c', e, h2, h3, h4⟩ := h
  cases e
  refine ⟨rfl, fun j v hj => ?_⟩
  have hl := (List.getElem?_eq_some_iff.1 hj).1
  rw [flat_len] at hl
  have hi : j / 3 < r.length := by omega
  obtain ⟨g', o', e1, k0, k1, k2⟩ := h4 (j / 3) r[j / 3] (List.getElem?_eq_getElem hi)
  cases e1
  have e2 := flat_get pkC 3 (fun _ => rfl) r (j / 3) (j % 3) (Nat.mod_lt _ (by decide))
  rw [Nat.div_add_mod' j 3, hj, List.getElem?_eq_getElem hi] at e2
  rw [Addr.add_lit]
  have hm : j % 3 = 0 ∨ j % 3 = 1 ∨ j % 3 = 2 := by omega
  rcases hm with e3 | e3 | e3
  · rw [e3] at e2
    rw [show o + j = o + j / 3 * 3 by omega, k0, e2]
    rfl
  · rw [e3] at e2
    rw [show o + j = o + j / 3 * 3 + 1 by omega, k1, e2]
    rfl
  · rw [e3] at e2
    rw [show o + j = o + j / 3 * 3 + 2 by omega, k2, e2]
    rfl
theorem own_empty {w : World} {base e s n c g : Nat} {xs : List Value} (h : w.ownsRow base e s (.slice (some ⟨g, 0, none⟩) n c) n xs) : w.ownsRow base e s (.slice (some ⟨g, 0, none⟩) 0 c) 0 [] := by
  refine ⟨by simp, ?_⟩
  rcases h.2 with ⟨h1, _⟩ | ⟨g', cap, cur, h1, h2, h3, h4, h5, h6, h7⟩
  · cases h1
  · cases h1
    exact .inr ⟨g, c, cur, rfl, h2, h3, Nat.zero_le _, h5, h6, by simp⟩
set_option maxHeartbeats 4000000 in
set_option maxRecDepth 100000 in
theorem f_leave {w : World} {b gone : Nat} {ta : Addr} {NT : Nat → Prop} {rv : Value} {P r : List En} {x : En} {tg : Tg} {g : Fg} (h : FLie w b ta NT rv gone P (x :: r) tg g) (hsz : P.length ≤ 131072) (l' : List En) (hp : Parts l' r tg.l) :
    Calls Try.prog 56 #[.pointer (some ⟨b, 0, none⟩)] w fun e w' => e = .returned (.tuple #[]) ∧ ∃ rv' gone' P', FLie w' b ta NT rv' gone' P' r tg ⟨g.room, l'⟩ ∧ Turned (fun k => k = b ∨ rv.ownBlock = some k) w w' ∧ (rv'.ownBlock = rv.ownBlock ∨ ∃ k, rv'.ownBlock = some k ∧ w.heap.size ≤ k) := by
  have hP := congrArg List.length h.drop
  rw [List.length_drop, List.length_cons] at hP
  have hgr := h.gr
  rw [List.length_cons] at hgr
  obtain ⟨gh, cap, cur, rfl, _⟩ : ∃ gh cap cur, rv = .slice (some ⟨gh, 0, none⟩) P.length cap ∧ w.heap[gh]? = some (.cells cur 116 (0, 0)) := by
    rcases h.row.2 with ⟨_, e⟩ | ⟨gh, cap, cur, e, _, k, _⟩
    · omega
    · exact ⟨gh, cap, cur, e, k⟩
  have hbg : gh ≠ b := fun e => Box.not_row (show Box w b _ _ from h.box) h.row (by decide) (by rw [e]; rfl)
  have hdr : P.drop (gone + 1) = r := by
    have e := congrArg (List.drop 1) h.drop
    rw [List.drop_drop] at e
    simpa using e
  obtain ⟨W1, HW1⟩ : ∃ W1, Hid (w.setCell ⟨b, 2, none⟩ (.int .i64 ((gone + 1 : Nat) : Int)) = W1) := ⟨_, Lib.hid rfl⟩
  have box1 : FBox W1 b (.slice (some ⟨gh, 0, none⟩) P.length cap) (gone + 1) ta := by rw [← HW1.out]; exact Box.set (show Box w b _ _ from h.box) 2 _
  have row1 : W1.ownsRow 0 116 3 (.slice (some ⟨gh, 0, none⟩) P.length cap) P.length (P.flatMap pkC) := by rw [← HW1.out]; exact Box.row (show Box w b _ _ from h.box) h.row (by decide)
  have T1 : Turned (fun k => k = b ∨ (Value.slice (some ⟨gh, 0, none⟩) P.length cap).ownBlock = some k) w W1 := by rw [← HW1.out]; exact Turned.set (b := b) (Turned.refl _ w) (.inl rfl) _
  have KW := Lib.hid (f_waitingS box1 row1 hdr (by omega))
  obtain ⟨c0, c1, c2, c3⟩ := h.box.cells
  have f2 := h.box.frozen 2
  have hw1 : IntKind.i64.wrap ((gone : Int) + 1) = ((gone + 1 : Nat) : Int) := by rw [IntKind.wrap_i64]; omega
  have HL := Lib.hid h
  have HT1 := Lib.hid T1
  have HX1 := Lib.hid box1
  have HR1 := Lib.hid row1
  have ecast : ((gone + 1 : Nat) : Int) = (gone : Int) + 1 := by omega
  rw [ecast] at HW1
  clear h T1 box1 row1 ecast
  go_enter Try.func56, Try.ntmps56
  go_upto_region 1 with fail
  rw [HW1.out]
  clear c0 c1 c2 c3 f2 hw1 HW1
  go_upto_region 2 with (go_at_call 57; refine KW.out.mono ?_; rintro e W2 ⟨v, rfl, hR, b2, hv, _⟩)
  obtain ⟨o, c', rfl⟩ := hv gh P.length cap rfl
  have HT2 := Lib.hid (HT1.out.trans (Turned.below b2))
  have HX2 := Lib.hid (show FBox W2 b _ _ ta from Box.below (show Box W1 b _ _ from HX1.out) b2 HX1.out.lt)
  have HR2 := Lib.hid (owns_below HR1.out b2)
  obtain ⟨c0, c1, c2, c3⟩ := HX2.out.cells
  have HRc := Lib.hid hR.cells
  clear KW HT1 HX1 HR1 b2 hR hv
  by_cases hc : r.length ≤ gone + 1
  · have hcz : (r.length : Int) ≤ ((gone + 1 : Nat) : Int) := by omega
    have o0 := own_empty HR2.out
    obtain ⟨i0, hi0, hz0, hz1, hz2⟩ := info_parts (P := Try.prog) (e := 116) (z := .agg #[.int .u64 0, .int .u64 0, .int .u64 0]) (size := 3) (bytes := 24) (by kernel_rfl)
    have hr64 : r.length ≤ 131072 := by omega
    have hml : 0 + r.length ≤ maxLen := by unfold maxLen; omega
    have h1c : ∀ u, u ∈ r.flatMap pkC → u.oneCell' = true := fun u hu => by
      obtain ⟨e, _, he⟩ := List.mem_flatMap.1 hu
      simp only [pkC, List.mem_cons, List.not_mem_nil, or_false] at he
      rcases he with rfl | rfl | rfl <;> rfl
    go_upto_region 3 with fail
    go_wp2_with (first | (at_builtin; refine wpList_append_own_at _ rfl (.tmp 24) (.tmp 25) 110 rfl 0 116 i0 (.agg #[.int .u64 0, .int .u64 0, .int .u64 0]) 3 24 Try.underlying110 hi0 hz0 hz1 hz2 rfl (by decide) (.slice (some ⟨gh, 0, none⟩) 0 cap) 0 [] rfl o0 ⟨gh, o, none⟩ r.length c' (r.flatMap pkC) rfl (flat_len r) HRc.out.2 h1c hml (by omega) (Nat.zero_le _) ?_; intro v6 w6 own6 gr6 ex6 loc6; rw [Nat.zero_add, List.nil_append] at own6; obtain ⟨p6, c6, rfl⟩ := owns_slice own6; clear ex6; have X6 : FBox w6 b (.slice (some ⟨gh, 0, none⟩) P.length cap) (gone + 1) ta := Box.grown (show Box W2 b _ _ from HX2.out) gr6 (ne_some (fun e => hbg e.symm)); have g1 := X6.frozen 1; have g2 := X6.frozen 2; obtain ⟨d0, d1, d2, d3⟩ := X6.cells))
    go_end0
    have h := HL.out
    have X7 := (X6.set 1 (.slice p6 r.length c6)).set 2 (.int .i64 0)
    have R7 := Box.row (i := 2) (u := .int .i64 0) (X6.set 1 (.slice p6 r.length c6)) (Box.row (i := 1) (u := .slice p6 r.length c6) (show Box w6 b _ _ from X6) own6 (by decide)) (by decide)
    have T7 := Turned.set (b := b) (i := 2) (Turned.set (b := b) (i := 1) (HT2.out.grown gr6 (fun k hk _ => .inr hk)) (.inl rfl) (.slice p6 r.length c6)) (.inl rfl) (.int .i64 0)
    refine ⟨rfl, .slice p6 r.length c6, ⟨0, r, X7, treeK.kept h.tr (fun k hk => T7.block k (treeK.lt h.tr k hk) (fun e => ?_)) T7.size, h.tok, h.troom, R7, rfl, Nat.zero_le _, Nat.zero_le _, hp, h.nb, fun k hk e => ?_⟩, T7, ?_⟩
    · rcases e with rfl | e
      · exact h.nb hk
      · exact h.nr k hk e
    · rcases loc6 with e6 | e6
      · exact h.nr k hk (e6.symm.trans e)
      · rw [e6] at e
        have h1 := Option.some.inj e
        have h2 := treeK.lt h.tr k hk
        have h3 := HT2.out.size
        omega
    · rcases loc6 with e6 | e6
      · exact .inl e6
      · exact .inr ⟨_, e6, HT2.out.size⟩
  · have hcz : ¬ (r.length : Int) ≤ ((gone + 1 : Nat) : Int) := by omega
    have hcd : decide ((r.length : Int) ≤ ((gone + 1 : Nat) : Int)) = false := by simpa using hcz
    have HE : Hid (FLie W2 b ta NT (.slice (some ⟨gh, 0, none⟩) P.length cap) (gone + 1) P r tg ⟨g.room, l'⟩) := by
      have h := HL.out
      refine Lib.hid ⟨HX2.out, treeK.kept h.tr (fun k hk => HT2.out.block k (treeK.lt h.tr k hk) (fun e => ?_)) HT2.out.size, h.tok, h.troom, HR2.out, hdr, by omega, by omega, hp, h.nb, h.nr⟩
      rcases e with rfl | e
      · exact h.nb hk
      · exact h.nr k hk e
    clear HRc
    go_wp2_with fail
    go_end0
    exact ⟨rfl, _, ⟨_, _, HE.out⟩, HT2.out, .inl rfl⟩

end Go.Proofs.Ytkiibobpejoaeaa
