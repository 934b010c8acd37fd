/-
  The program's own flow: what each of its functions answers.
-/
import Derived.Test.YtmokkbhfhbgkmaaFlowBecomes
namespace Go.Proofs.Ytmokkbhfhbgkmaa
open Go.RowKit
set_option linter.unusedVariables false
set_option linter.unusedSimpArgs false
set_option maxRecDepth 100000

/-- A flow, a pace, as a value. -/
def Fl.v (f : Fl) : Value := .agg f.c
def Pc.v (p : Pc) : Value := .agg p.c
theorem half_zero : Half 0 := by unfold Half; omega
theorem flow_rate (f : Fl) (p : Pc) (hf : f.Fits) (hp : p.Fits) (w : World) :
    Calls Try.prog 34 #[f.v, p.v] w fun e w' => e = .returned (.int .u64 (f.by p)) ∧ w' = (w.alloc (.cells f.c 63)).alloc (.cells p.c 59) := by
  have HC := Lib.hid fun W => span_lesser f.rate p.most W hf.rate hp.most
  obtain ⟨so, ck, rate, cr, nx, db, ag⟩ := f
  obtain ⟨q, first, refill, most, low⟩ := p
  clear hf hp
  simp only [Fl.v, Pc.v, Fl.c, Pc.c, Fl.by] at HC ⊢
  go_enter Try.func34, Try.ntmps34
  go_wp2_with (go_at_call 67; refine (HC.out _).mono ?_; rintro e w' ⟨rfl, rfl⟩)
  go_ret
  exact ⟨rfl, rfl⟩
theorem flow_ready (f : Fl) (at' : Int) (hf : f.Fits) (ha : Num.Word at') (w : World) :
    Calls Try.prog 36 #[f.v, .int .u64 at'] w fun e w' => e = .returned (.int .u64 (max at' f.nx)) ∧ Below w.heap.size w w' := by
  obtain ⟨so, ck, rate, cr, nx, db, ag⟩ := f
  obtain ⟨n0, n1⟩ := hf.nx
  obtain ⟨a0, a1⟩ := ha
  clear hf
  simp only [Fl.v, Fl.c] at n0 n1 ⊢
  go_enter Try.func36, Try.ntmps36
  go_wp2_with fail
  go_ret
  exact ⟨rfl, (Below.refl _ _).alloc (Nat.le_refl _) _⟩
theorem flow_born (so ck : Int) (p : Pc) (w : World) :
    Calls Try.prog 24 #[.int .u64 so, .int .u64 ck, p.v] w fun e w' => e = .returned (Fl.born so ck p).v ∧ Below w.heap.size w w' := by
  obtain ⟨q, first, refill, most, low⟩ := p
  simp only [Fl.v, Pc.v, Fl.c, Pc.c, Fl.born]
  go_enter Try.func24, Try.ntmps24
  go_wp2_with fail
  exact bodyPost_ret (v := .agg #[.int .u64 so, .int .u64 ck, .int .u64 0, .int .i64 first, .int .u64 0, .int .u64 0, .int .u64 0]) (by simp [results, Try.f24, go_sem]) rfl ⟨rfl, ((Below.refl _ _).alloc (Nat.le_refl _) _).alloc (by simp) _⟩
theorem right_credit (c : Int) (w : World) :
    Calls Try.prog 54 #[.int .i64 c] w fun e w' => e = .returned (.bool (decide (1 ≤ c ∧ c ≤ 1048576))) ∧ w = w' := by
  by_cases h1 : 1 ≤ c
  · by_cases h2 : c ≤ 1048576
    · have e : decide (1 ≤ c ∧ c ≤ 1048576) = true := by simp [h1, h2]
      rw [e]
      clear e
      go_enter Try.func54, Try.ntmps54
      go_wp2_with fail
      go_ret
      exact ⟨rfl, rfl⟩
    · have e : decide (1 ≤ c ∧ c ≤ 1048576) = false := by simp [h2]
      have h3 : decide (c ≤ 1048576) = false := by simpa using h2
      rw [e]
      clear e
      go_enter Try.func54, Try.ntmps54
      go_wp2_with fail
      go_ret
      exact ⟨rfl, rfl⟩
  · have e : decide (1 ≤ c ∧ c ≤ 1048576) = false := by simp [h1]
    have h3 : decide (1 ≤ c) = false := by simpa using h1
    rw [e]
    clear e
    go_enter Try.func54, Try.ntmps54
    go_wp2_with fail
    go_ret
    exact ⟨rfl, rfl⟩
theorem flow_right (p : Pc) (w : World) :
    Calls Try.prog 21 #[p.v] w fun e w' => e = .returned (.bool p.right) ∧ Below w.heap.size w w' := by
  obtain ⟨q, first, refill, most, low⟩ := p
  simp only [Pc.v, Pc.c]
  have HB := Lib.hid ((Below.refl _ w).alloc (Nat.le_refl _) (.cells #[.int .i64 q, .int .i64 first, .int .u64 refill, .int .u64 most, .int .u64 low] 59))
  obtain ⟨b1, h1⟩ : ∃ b, decide (1 ≤ q ∧ q ≤ 1048576) = b := ⟨_, rfl⟩
  obtain ⟨b2, h2⟩ : ∃ b, decide (1 ≤ first ∧ first ≤ 1048576) = b := ⟨_, rfl⟩
  obtain ⟨b3, h3⟩ : ∃ b, decide (most ≤ 1099511627776) = b := ⟨_, rfl⟩
  obtain ⟨b4, h4⟩ : ∃ b, decide (low ≤ 1099511627776) = b := ⟨_, rfl⟩
  have E : Hid (Pc.right ⟨q, first, refill, most, low⟩ = (b1 && b2 && b3 && b4)) := by
    refine Lib.hid ?_
    rw [← h1, ← h2, ← h3, ← h4]
    unfold Pc.right
    simp [Bool.and_assoc]
  have K1 := Lib.hid fun W => h1 ▸ right_credit q W
  have K2 := Lib.hid fun W => h2 ▸ right_credit first W
  clear h1 h2
  cases b1 with
  | false =>
    clear h3 h4
    go_enter Try.func21, Try.ntmps21
    go_wp2_with (go_at_call 54; refine (K1.out _).mono ?_; rintro e w' ⟨rfl, rfl⟩)
    go_ret
    exact ⟨by rw [E.out]; rfl, HB.out⟩
  | true =>
    cases b2 with
    | false =>
      clear h3 h4
      go_enter Try.func21, Try.ntmps21
      go_wp2_with fail
      refine (K1.out _).mono ?_
      rintro e w' ⟨rfl, rfl⟩
      go_wp2_with fail
      refine (K2.out _).mono ?_
      rintro e w' ⟨rfl, rfl⟩
      go_wp2_with fail
      go_ret
      exact ⟨by rw [E.out]; rfl, HB.out⟩
    | true =>
      cases b3 with
      | false =>
        clear h4
        go_enter Try.func21, Try.ntmps21
        go_wp2_with fail
        refine (K1.out _).mono ?_
        rintro e w' ⟨rfl, rfl⟩
        go_wp2_with fail
        refine (K2.out _).mono ?_
        rintro e w' ⟨rfl, rfl⟩
        go_wp2_with fail
        go_ret
        exact ⟨by rw [E.out]; rfl, HB.out⟩
      | true =>
        go_enter Try.func21, Try.ntmps21
        go_wp2_with fail
        refine (K1.out _).mono ?_
        rintro e w' ⟨rfl, rfl⟩
        go_wp2_with fail
        refine (K2.out _).mono ?_
        rintro e w' ⟨rfl, rfl⟩
        go_wp2_with fail
        go_ret
        exact ⟨by rw [E.out]; rfl, HB.out⟩

theorem flow_fill (f : Fl) (p : Pc) (hf : f.Fits) (hp : p.Fits) (w : World) :
    Calls Try.prog 28 #[f.v, p.v] w fun e w' => e = .returned (f.fill p).v ∧ Below w.heap.size w w' := by
  have HC := Lib.hid fun b W hb => becomes_of [(62, fun f t => f.fill t.p)] (by simpa using step_fill) f ⟨p, 0, 0, 0⟩ hf ⟨hp, Num.zero_word, Num.zero_word, ⟨Int.le_refl 0, by show (0 : Int) ≤ 65536; omega⟩⟩ 1 rfl (by omega) b W hb
  obtain ⟨g, hg⟩ : ∃ g, Hid (f.fill p = g) := ⟨_, Lib.hid rfl⟩
  have HC2 : Hid (∀ b W, Box W b 127 #[.func (.func 62) #[] #[]] → Calls Try.prog 55 #[.agg f.c, .agg (Tm.c ⟨p, 0, 0, 0⟩), .slice (some ⟨b, 0, none⟩) 1 1] W fun e w' => e = .returned (.agg g.c) ∧ Below W.heap.size W w') := by
    rw [← hg.out]
    exact Lib.hid fun b W hb => HC.out b W hb
  rw [hg.out]
  obtain ⟨so, ck, rate, cr, nx, db, ag⟩ := f
  obtain ⟨q, first, refill, most, low⟩ := p
  clear hf hp
  clear HC hg
  simp only [Fl.v, Pc.v, Fl.c, Pc.c, Tm.c] at HC2 ⊢
  go_enter Try.func28, Try.ntmps28
  go_wp2_with fail
  refine (HC2.out _ _ ?_).mono ?_
  · have h := Box.new (((w.alloc (.cells #[.int .u64 so, .int .u64 ck, .int .u64 rate, .int .i64 cr, .int .u64 nx, .int .u64 db, .int .u64 ag] 63)).alloc (.cells #[.int .i64 q, .int .i64 first, .int .u64 refill, .int .u64 most, .int .u64 low] 59)).alloc (.cells #[.int .u64 0, .int .u64 0, .int .u64 0, .int .i64 0, .int .u64 0, .int .u64 0, .int .u64 0] 63)) 127 #[.func (.func 62) #[] #[]]
    simp only [World.size_alloc] at h
    exact h
  rintro e W3 ⟨rfl, g3⟩
  have fz := (Box.new ((w.alloc (.cells #[.int .u64 so, .int .u64 ck, .int .u64 rate, .int .i64 cr, .int .u64 nx, .int .u64 db, .int .u64 ag] 63)).alloc (.cells #[.int .i64 q, .int .i64 first, .int .u64 refill, .int .u64 most, .int .u64 low] 59)) 63 #[.int .u64 0, .int .u64 0, .int .u64 0, .int .i64 0, .int .u64 0, .int .u64 0, .int .u64 0]).alloc (.cells #[.func (.func 62) #[] #[]] 127)
  have LO3 := Lib.hid (below_tr (((((Below.refl w.heap.size w).alloc (Nat.le_refl _) (.cells #[.int .u64 so, .int .u64 ck, .int .u64 rate, .int .i64 cr, .int .u64 nx, .int .u64 db, .int .u64 ag] 63)).alloc (by simp; try omega) (.cells #[.int .i64 q, .int .i64 first, .int .u64 refill, .int .u64 most, .int .u64 low] 59)).alloc (by simp; try omega) (.cells #[.int .u64 0, .int .u64 0, .int .u64 0, .int .i64 0, .int .u64 0, .int .u64 0, .int .u64 0] 63)).alloc (by simp; try omega) (.cells #[.func (.func 62) #[] #[]] 127)) g3)
  simp only [World.size_alloc] at fz
  have F3 : FBox W3 (w.heap.size + 1 + 1) 63 ⟨0, 0, 0, 0, 0, 0, 0⟩ := Box.below fz g3 (by simp; try omega)
  clear fz g3 HC2
  obtain ⟨h0, h1, h2, h3, h4, h5, h6⟩ := F3.cells
  obtain ⟨f0, f1, f2, f3, f4, f5, f6⟩ := F3.frozen
  obtain ⟨y0, y1, y2, y3, y4, y5, y6⟩ := (F3.put g).cells
  simp only at h0 h1 h2 h3 h4 h5 h6
  clear F3
  go_wp2_with fail
  exact bodyPost_ret (v := .agg g.c) (by simp [results, Try.f28, go_sem, Fl.c, y0, y1, y2, y3, y4, y5, y6]) rfl ⟨rfl, putF_below LO3.out (by omega) g⟩

theorem flow_rest (f : Fl) (now : Int) (hf : f.Fits) (hn : Num.Word now) (w : World) :
    Calls Try.prog 30 #[f.v, .int .u64 now] w fun e w' => e = .returned (f.rest now).v ∧ Below w.heap.size w w' := by
  have HC := Lib.hid fun b W hb => becomes_of [(63, fun f t => f.rest t.at_)] (by simpa using step_rest) f ⟨⟨0, 0, 0, 0, 0⟩, 0, now, 0⟩ hf ⟨⟨half_zero, half_zero, Num.zero_word, Num.zero_word, Num.zero_word⟩, Num.zero_word, hn, ⟨Int.le_refl 0, by show (0 : Int) ≤ 65536; omega⟩⟩ 1 rfl (by omega) b W hb
  obtain ⟨g, hg⟩ : ∃ g, Hid (f.rest now = g) := ⟨_, Lib.hid rfl⟩
  have HC2 : Hid (∀ b W, Box W b 127 #[.func (.func 63) #[] #[]] → Calls Try.prog 55 #[.agg f.c, .agg (Tm.c ⟨⟨0, 0, 0, 0, 0⟩, 0, now, 0⟩), .slice (some ⟨b, 0, none⟩) 1 1] W fun e w' => e = .returned (.agg g.c) ∧ Below W.heap.size W w') := by
    rw [← hg.out]
    exact Lib.hid fun b W hb => HC.out b W hb
  rw [hg.out]
  obtain ⟨so, ck, rate, cr, nx, db, ag⟩ := f
  clear hf hn
  clear HC hg
  simp only [Fl.v, Fl.c, Tm.c] at HC2 ⊢
  go_enter Try.func30, Try.ntmps30
  go_wp2_with fail
  refine (HC2.out _ _ ?_).mono ?_
  · have h := Box.new ((w.alloc (.cells #[.int .u64 so, .int .u64 ck, .int .u64 rate, .int .i64 cr, .int .u64 nx, .int .u64 db, .int .u64 ag] 63)).alloc (.cells #[.int .u64 0, .int .u64 0, .int .u64 0, .int .i64 0, .int .u64 0, .int .u64 0, .int .u64 0] 63)) 127 #[.func (.func 63) #[] #[]]
    simp only [World.size_alloc] at h
    exact h
  rintro e W3 ⟨rfl, g3⟩
  have fz := (Box.new (w.alloc (.cells #[.int .u64 so, .int .u64 ck, .int .u64 rate, .int .i64 cr, .int .u64 nx, .int .u64 db, .int .u64 ag] 63)) 63 #[.int .u64 0, .int .u64 0, .int .u64 0, .int .i64 0, .int .u64 0, .int .u64 0, .int .u64 0]).alloc (.cells #[.func (.func 63) #[] #[]] 127)
  have LO3 := Lib.hid (below_tr ((((Below.refl w.heap.size w).alloc (Nat.le_refl _) (.cells #[.int .u64 so, .int .u64 ck, .int .u64 rate, .int .i64 cr, .int .u64 nx, .int .u64 db, .int .u64 ag] 63)).alloc (by simp; try omega) (.cells #[.int .u64 0, .int .u64 0, .int .u64 0, .int .i64 0, .int .u64 0, .int .u64 0, .int .u64 0] 63)).alloc (by simp; try omega) (.cells #[.func (.func 63) #[] #[]] 127)) g3)
  simp only [World.size_alloc] at fz
  have F3 : FBox W3 (w.heap.size + 1) 63 ⟨0, 0, 0, 0, 0, 0, 0⟩ := Box.below fz g3 (by simp; try omega)
  clear fz g3 HC2
  obtain ⟨h0, h1, h2, h3, h4, h5, h6⟩ := F3.cells
  obtain ⟨f0, f1, f2, f3, f4, f5, f6⟩ := F3.frozen
  obtain ⟨y0, y1, y2, y3, y4, y5, y6⟩ := (F3.put g).cells
  simp only at h0 h1 h2 h3 h4 h5 h6
  clear F3
  go_wp2_with fail
  exact bodyPost_ret (v := .agg g.c) (by simp [results, Try.f30, go_sem, Fl.c, y0, y1, y2, y3, y4, y5, y6]) rfl ⟨rfl, putF_below LO3.out (by omega) g⟩

end Go.Proofs.Ytmokkbhfhbgkmaa
