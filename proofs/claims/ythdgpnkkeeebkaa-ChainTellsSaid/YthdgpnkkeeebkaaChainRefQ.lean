/-
  The document's own chains: Push of a node that is in no list.
-/
import Derived.Test.YthdgpnkkeeebkaaChainRefP
namespace Go.Proofs.Ythdgpnkkeeebkaa
open Go.RowKit
set_option linter.unusedVariables false

section
variable {M : Nat → Prop} {w : World} {s : Value} {g : Ch} {vs : List Value}
/-- with, of a row of the call's own. -/
theorem ref_with_own {P : Option Addr} {C B : Nat} {W : World} (h : RefAt M w (.slice P g.ls.length C) g vs) (ok : g.Ok) (i : Nat) (hi : i < g.ls.length) (l : List Nat) (T : TwoB w W (.int .i64 (g.nodes : Int)) (.slice P g.ls.length C) B) (p : Option Addr) (c k : Nat) (hk : l.length = k) (o : W.ownsRow w.heap.size 3 1 (.slice p k c) k (l.map natV)) :
    Calls Try.prog 31 #[.agg #[.int .i64 (g.nodes : Int), .slice P g.ls.length C], .int .i64 (i : Int), .slice p k c] W fun e W' => ∃ P' C' M' vs', e = .returned (.agg #[.int .i64 (g.nodes : Int), .slice P' g.ls.length C']) ∧ RefAt M' W' (.slice P' g.ls.length C') ⟨g.ls.set i l, g.nodes⟩ vs' ∧ (∀ k, M' k → M k ∨ w.heap.size ≤ k) ∧ TwoB w W' (.int .i64 (g.nodes : Int)) (.slice P g.ls.length C) B := by
  subst hk
  have H1 : RefAt (fun k => M k ∨ (w.heap.size ≤ k ∧ k < W.heap.size)) W (.slice P g.ls.length C) g vs :=
    (h.kept (fun i hi => T.lo.block i (h.lt i hi)) T.lo.size).more (fun k hk => .inl hk) (fun k hk => hk.elim (fun h' => Nat.lt_of_lt_of_le (h.lt k h') T.lo.size) (fun h => h.2))
  refine (ref_with H1 ok i hi l _ ⟨p, c, rfl, own_zero o, fun k hk => .inr (o.lt k hk)⟩).mono ?_
  rintro e W' ⟨s', M', vs', rfl, R2, hM', b2⟩
  obtain ⟨P', C', rfl⟩ := R2.form
  have el : (⟨g.ls.set i l, g.nodes⟩ : Ch).ls.length = g.ls.length := by simp
  rw [el] at R2 ⊢
  refine ⟨P', C', M', vs', rfl, R2, fun k hk => ?_, T.below b2⟩
  rcases hM' k hk with (h' | h') | h'
  · exact .inl h'
  · exact .inr h'.1
  · exact .inr (Nat.le_trans T.lo.size h')

theorem ref_done {M7 : Nat → Prop} {ls : List (List Nat)} {n len B C7 : Nat} {W : World} {P7 : Option Addr} {s : Value} {vs7 : List Value} (f : Value → Value) (R7 : RefAt M7 W (.slice P7 len C7) ⟨ls, n⟩ vs7) (hM7 : ∀ k, M7 k → M k ∨ w.heap.size ≤ k) (T : TwoB w W (.int .i64 (n : Int)) s B) :
    RefC f M w ⟨ls, n⟩ (.returned (f (.agg #[.int .i64 (n : Int), .slice P7 len C7]))) ((W.setCell ⟨B + 1, 0, none⟩ (.int .i64 (n : Int))).setCell ⟨B + 1, 1, none⟩ (.slice P7 len C7)) ∧
      ((W.setCell ⟨B + 1, 0, none⟩ (.int .i64 (n : Int))).setCell ⟨B + 1, 1, none⟩ (.slice P7 len C7)).cell? ⟨B + 1, 0, none⟩ = some (.int .i64 (n : Int)) ∧
      ((W.setCell ⟨B + 1, 0, none⟩ (.int .i64 (n : Int))).setCell ⟨B + 1, 1, none⟩ (.slice P7 len C7)).cell? ⟨B + 1, 1, none⟩ = some (.slice P7 len C7) := by
  obtain ⟨r6, x6⟩ := R7.put (u0 := .int .i64 (n : Int)) (u1 := .slice P7 len C7) T.b4
  have lo6 := below_put (q := B + 1) (.int .i64 (n : Int)) (.slice P7 len C7) T.lo (by have := T.hB; omega)
  exact ⟨⟨_, M7, vs7, rfl, r6, hM7, lo6⟩, x6.cell 0, x6.cell 1⟩
theorem own6_of {W : World} {base k x : Nat} {v : Value} {L : List Nat} (h : W.ownsRow base 3 1 v k (([] ++ L.map natV) ++ [.int .i64 (x : Int)])) : W.ownsRow base 3 1 v k ((L ++ [x]).map natV) := by
  rw [List.map_append]
  exact h
set_option maxHeartbeats 8000000 in
theorem ref_push_put (h : RefAt M w s g vs) (ok : g.Ok) (i x : Nat) (L : List Nat) (hL : g.ls[i]? = some L) (hx : x < g.nodes) (ha : g.at x = none) :
    Calls Try.prog 13 #[refV g s, .int .i64 (i : Int), .int .i64 (x : Int)] w (RefC (fun v => .tuple #[v, .int .i64 0]) M w ⟨g.ls.set i (L ++ [x]), g.nodes⟩) := by
  unfold refV
  have hi := (List.getElem?_eq_some_iff.1 hL).1
  have hlen := ok.len
  have hsm := ok.small
  have hLl := Nat.le_trans (short_list ok hL) hsm
  obtain ⟨G, C, q, d, rfl, cG, hinn⟩ := h.reads hL
  obtain ⟨i0, hi0, hz0, hz1, hz2⟩ := info_parts (P := Try.prog) (e := 3) (z := .int .i64 0) (size := 1) (bytes := 8) (by kernel_rfl)
  obtain ⟨B, HBE⟩ : ∃ B, Hid (w.heap.size = B) := ⟨_, Lib.hid rfl⟩
  have S0 := Lib.hid (TwoB.start w (.int .i64 (g.nodes : Int)) (.slice (some ⟨G, 0, none⟩) g.ls.length C) B HBE.out)
  obtain ⟨W, HW⟩ : ∃ W, Hid (((w.alloc (.cells #[.int .i64 (g.nodes : Int), .slice (some ⟨G, 0, none⟩) g.ls.length C] 29)).alloc (.cells #[.int .i64 0, .slice none 0 0] 29)) = W) := ⟨_, Lib.hid rfl⟩
  rw [HW.out] at S0
  obtain ⟨d0, d1, d2, d3, d4, d5⟩ := S0.out.cells
  have KI := ref_in (h.kept (fun i hi => S0.out.lo.block i (h.lt i hi)) S0.out.lo.size) ok (x : Int)
  rw [Ch.inn_nat, ha] at KI
  have KI' : Hid (Calls Try.prog 24 #[.agg #[.int .i64 (g.nodes : Int), .slice (some ⟨G, 0, none⟩) g.ls.length C], .int .i64 (x : Int)] W fun e w' => e = .returned (.tuple #[.int .i64 0, .bool false]) ∧ Below W.heap.size W w') := KI
  have HH := Lib.hid h
  have HOK := Lib.hid ok
  have HG := Lib.hid cG
  have h1 : ¬ (g.ls.length : Int) ≤ (i : Int) := by omega
  have h2 : ¬ (g.nodes : Int) ≤ (x : Int) := by omega
  have hiz : (i : Int) < (g.ls.length : Int) := by omega
  obtain ⟨_, _, e', hrow, _⟩ := hinn
  cases e'
  have HRW := Lib.hid hrow
  clear h ok KI ha cG hrow hL
  go_enter Try.func13, Try.ntmps13
  go_upto_region 1 with fail
  rw [HW.out, HBE.out]
  go_wp2_with fail
  refine KI'.out.mono ?_
  rintro e w1 ⟨rfl, b1⟩
  have S1 := Lib.hid (S0.out.below b1)
  clear d0 d1 d2 d3 d4 d5 b1 KI' S0
  obtain ⟨k0, k1, k2⟩ := S1.out.reads HG.out
  have HBW := Lib.hid S1.out.lo.size
  have hbw := HBW.out
  go_upto_region 6 with fail
  have hml : L.length ≤ maxLen := by simp [maxLen]; omega
  have hml1 : L.length + 1 ≤ maxLen := by simp [maxLen]; omega
  -- the worlds ahead of the first append
  have T1 : Hid (TwoB w (w1.alloc (.cells #[] 3)).drew (.int .i64 (g.nodes : Int)) (.slice (some ⟨G, 0, none⟩) g.ls.length C) B) := Lib.hid (S1.out.below (((Below.refl _ w1).alloc (Nat.le_refl _) _).drew))
  have T2 : Hid (TwoB w ((w1.alloc (.cells #[] 3)).alloc (.cells #[.int .i64 (x : Int)] 3)).drew (.int .i64 (g.nodes : Int)) (.slice (some ⟨G, 0, none⟩) g.ls.length C) B) := Lib.hid (S1.out.below ((((Below.refl _ w1).alloc (Nat.le_refl _) _).alloc (by rw [World.size_alloc]; omega) _).drew))
  have T3 : Hid (TwoB w ((w1.alloc (.cells #[.int .i64 (x : Int)] 3)).alloc (.cells #[] 3)).drew (.int .i64 (g.nodes : Int)) (.slice (some ⟨G, 0, none⟩) g.ls.length C) B) := Lib.hid (S1.out.below ((((Below.refl _ w1).alloc (Nat.le_refl _) _).alloc (by rw [World.size_alloc]; omega) _).drew))
  have E1 : Hid ((w1.alloc (.cells #[] 3)).drew.ownsRow w.heap.size 3 1 (.slice (some ⟨w1.heap.size, 0, none⟩) 0 0) 0 []) := Lib.hid (lit_empty (e := 3) w1 w.heap.size HBW.out)
  have E2 : Hid (((w1.alloc (.cells #[] 3)).alloc (.cells #[.int .i64 (x : Int)] 3)).drew.ownsRow w.heap.size 3 1 (.slice (some ⟨w1.heap.size, 0, none⟩) 0 0) 0 []) := Lib.hid ((lit_empty (e := 3) w1 w.heap.size HBW.out).alloc _)
  have E3 : Hid (((w1.alloc (.cells #[.int .i64 (x : Int)] 3)).alloc (.cells #[] 3)).drew.ownsRow w.heap.size 3 1 (.slice (some ⟨w1.heap.size + 1, 0, none⟩) 0 0) 0 []) := by
    have h := lit_empty (e := 3) (w1.alloc (.cells #[.int .i64 (x : Int)] 3)) w.heap.size (by rw [World.size_alloc]; have := HBW.out; omega)
    rw [World.size_alloc] at h
    exact Lib.hid h
  have O2 : Hid (((w1.alloc (.cells #[] 3)).alloc (.cells #[.int .i64 (x : Int)] 3)).drew.ownsRow 0 3 1 (.slice (some ⟨w1.heap.size + 1, 0, none⟩) 1 1) 1 [.int .i64 (x : Int)]) := by
    have h := lit_one (e := 3) (w1.alloc (.cells #[] 3)) (.int .i64 (x : Int))
    rw [World.size_alloc] at h
    exact Lib.hid h
  have O3 : Hid (((w1.alloc (.cells #[.int .i64 (x : Int)] 3)).alloc (.cells #[] 3)).drew.ownsRow 0 3 1 (.slice (some ⟨w1.heap.size, 0, none⟩) 1 1) 1 [.int .i64 (x : Int)]) := Lib.hid ((lit_one (e := 3) w1 (.int .i64 (x : Int))).alloc _)
  have R1 := Lib.hid (owns_below HRW.out T1.out.lo)
  have R2 := Lib.hid (owns_below HRW.out T2.out.lo)
  have R3 := Lib.hid (owns_below HRW.out T3.out.lo)
  have HONE : Hid (∀ u ∈ L.map natV, u.oneCell' = true) := by
    refine Lib.hid fun u hu => ?_
    obtain ⟨y, _, rfl⟩ := List.mem_map.1 hu
    rfl
  go_region_held3 (fun w' => w'.cell? ⟨B, 0, none⟩ = some (.int .i64 (g.nodes : Int)) ∧ w'.cell? ⟨B, 1, none⟩ = some (.slice (some ⟨G, 0, none⟩) g.ls.length C) ∧ w'.cell? ⟨G, i, none⟩ = some (.slice q L.length d))
    (first | go_keep | exact k5 | exact k6 | exact k7 | exact k8)
    (first
      | (refine step_append_any (by rfl) (.tmp 40) (.tmp 45) _ (by rfl) w.heap.size 3 i0 _ 1 8 Try.underlying43 hi0 hz0 hz1 hz2 rfl (by omega) (.slice (some ⟨w1.heap.size, 0, none⟩) 0 0) 0 [] (by rfl) E1.out 0 (.slice q L.length d) L.length (L.map natV) (by rfl) R1.out HONE.out L.length (by omega) hml (by omega) (by simp; omega) ?_; intro p5 c5 w5 own5 gr5 loc5; have T5 := T1.out.grown E1.out (Nat.le_refl _) (by decide) gr5; have k5 := T5.reads HG.out;  clear gr5 loc5)
      | (refine step_append_any (by rfl) (.tmp 40) (.tmp 45) _ (by rfl) w.heap.size 3 i0 _ 1 8 Try.underlying43 hi0 hz0 hz1 hz2 rfl (by omega) (.slice (some ⟨w1.heap.size, 0, none⟩) 0 0) 0 [] (by rfl) E2.out 0 (.slice q L.length d) L.length (L.map natV) (by rfl) R2.out HONE.out L.length (by omega) hml (by omega) (by simp; omega) ?_; intro p5 c5 w5 own5 gr5 loc5; have T5 := T2.out.grown E2.out (Nat.le_refl _) (by decide) gr5; have k5 := T5.reads HG.out; have ox5 := O2.out.kept gr5 (.inr (by simp [Value.ownBlock])); clear gr5 loc5)
      | (refine step_append_any (by rfl) (.tmp 40) (.tmp 45) _ (by rfl) w.heap.size 3 i0 _ 1 8 Try.underlying43 hi0 hz0 hz1 hz2 rfl (by omega) (.slice (some ⟨w1.heap.size + 1, 0, none⟩) 0 0) 0 [] (by rfl) E3.out 0 (.slice q L.length d) L.length (L.map natV) (by rfl) R3.out HONE.out L.length (by omega) hml (by omega) (by simp; omega) ?_; intro p5 c5 w5 own5 gr5 loc5; have T5 := T3.out.grown E3.out (Nat.le_refl _) (by decide) gr5; have k5 := T5.reads HG.out; have ox5 := O3.out.kept gr5 (.inr (by simp [Value.ownBlock])); clear gr5 loc5)
      | (refine step_append_any (by rfl) (.tmp 46) (.tmp 48) _ (by rfl) w.heap.size 3 i0 _ 1 8 Try.underlying43 hi0 hz0 hz1 hz2 rfl (by omega) (.slice p5 L.length c5) L.length ([] ++ L.map natV) (by rfl) own5 0 _ 1 [.int .i64 (x : Int)] (by rfl) ox5 (by intro u hu; simp at hu; subst hu; rfl) (L.length + 1) rfl hml1 (by omega) (by have := T5.lo.size; first | omega | (simp; omega)) ?_; intro p6 c6 w6 own6 gr6 loc6; have T6 := T5.grown own5 (Nat.le_refl _) (by decide) gr6; have k6 := T6.reads HG.out; have o6 := own6_of own6; clear own6 gr6 loc6)
      | (refine step_append_any (by rfl) (.tmp 46) (.tmp 48) _ (by rfl) w.heap.size 3 i0 _ 1 8 Try.underlying43 hi0 hz0 hz1 hz2 rfl (by omega) (.slice p5 L.length c5) L.length ([] ++ L.map natV) (by rfl) (own5.alloc (.cells #[.int .i64 (x : Int)] 3)) 0 _ 1 [.int .i64 (x : Int)] (by rfl) (lit_one w5 _) (by intro u hu; simp at hu; subst hu; rfl) (L.length + 1) rfl hml1 (by omega) (by have := T5.lo.size; first | omega | (simp; omega)) ?_; intro p6 c6 w6 own6 gr6 loc6; have T6 := (T5.below ((Below.refl _ w5).alloc (Nat.le_refl _) (.cells #[.int .i64 (x : Int)] 3))).grown (own5.alloc (.cells #[.int .i64 (x : Int)] 3)) (Nat.le_refl _) (by decide) gr6; have k6 := T6.reads HG.out; have o6 := own6_of own6; clear own6 gr6 loc6)
      | (go_at_call 31; refine (ref_with_own HH.out HOK.out i hi (L ++ [x]) T6 p6 c6 (L.length + 1) (by simp) o6).mono ?_; rintro e w7 ⟨P7, C7, M7, vs7, rfl, R7, hM7, T7⟩; have k7 := T7.reads HG.out; have k8 := T7.put (u0 := .int .i64 (g.nodes : Int)) (u1 := .slice P7 g.ls.length C7) HG.out; obtain ⟨_, _, g2, g3, g4, g5⟩ := T7.cells))
  all_goals
    obtain ⟨hE, e0, e1⟩ := ref_done (fun v => .tuple #[v, .int .i64 0]) R7 hM7 T7
    have HE := Lib.hid hE
    clear hE k5 k6 k7 k8 R7 hM7 T7
    go_wp2_with fail
    refine bodyPost_ret (v := .tuple #[.agg #[.int .i64 (g.nodes : Int), .slice P7 g.ls.length C7], .int .i64 0]) ?_ rfl HE.out
    simp [results, Try.f13, go_sem, e0, e1]

theorem ref_push (h : RefAt M w s g vs) (ok : g.Ok) (i n : Int) :
    Calls Try.prog 13 #[refV g s, .int .i64 i, .int .i64 n] w (RefC (fun v => .tuple #[v, .int .i64 (g.pushE i n : Nat)]) M w (g.push i n)) := by
  by_cases hno : i < 0 ∨ (g.ls.length : Int) ≤ i ∨ n < 0 ∨ (g.nodes : Int) ≤ n
  · have e1 : g.pushE i n = 2 := by
      unfold Ch.pushE
      rw [if_pos]
      by_cases c : i < 0 ∨ (g.ls.length : Int) ≤ i
      · refine .inl ?_
        rcases c with c | c
        · rw [Ch.row_neg c]; rfl
        · obtain ⟨k, rfl⟩ : ∃ k : Nat, i = (k : Int) := ⟨i.toNat, by omega⟩
          rw [Ch.row_nat, List.getElem?_eq_none (by omega)]
          rfl
      · refine .inr fun h => ?_
        have h3 := h.1
        have h4 := h.2
        omega
    have e2 : g.push i n = g := by unfold Ch.push; rw [e1]; rfl
    rw [e1, e2]
    exact ref_push_no h ok i n hno
  · obtain ⟨k, rfl⟩ : ∃ k : Nat, i = (k : Int) := ⟨i.toNat, by omega⟩
    obtain ⟨x, rfl⟩ : ∃ x : Nat, n = (x : Int) := ⟨n.toNat, by omega⟩
    have hk : k < g.ls.length := by omega
    have hx : x < g.nodes := by omega
    obtain ⟨l, hl⟩ := ch_row hk
    cases ha : g.at x with
    | some j =>
      have e1 : g.pushE (k : Int) (x : Int) = 50 := push_in hl hx ha
      have e2 : g.push (k : Int) (x : Int) = g := by unfold Ch.push; rw [e1]; rfl
      rw [e1, e2]
      exact ref_push_in h ok k x j hk hx ha
    | none =>
      obtain ⟨e1, e2⟩ := push_is hl hx ha
      have e3 : g.put k x = ⟨g.ls.set k (l ++ [x]), g.nodes⟩ := by unfold Ch.put; rw [hl]; rfl
      rw [e1, e2, e3]
      exact ref_push_put h ok k x l hl hx ha
end
end Go.Proofs.Ythdgpnkkeeebkaa
