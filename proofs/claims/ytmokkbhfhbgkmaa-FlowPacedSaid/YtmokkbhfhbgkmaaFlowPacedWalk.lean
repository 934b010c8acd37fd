/-
  FlowPaced's walk.
-/
import Derived.Test.YtmokkbhfhbgkmaaFlowPacedRow
namespace Go.Proofs.Ytmokkbhfhbgkmaa
open Go.RowKit
set_option linter.unusedVariables false
set_option linter.unusedSimpArgs false
set_option maxRecDepth 100000

theorem ahead_word (x : Int) (h : Num.Word x) : Num.Word (x % 1099511627777) := by unfold Num.Word at *; omega
theorem rate_at (x : Int) (h : Num.Word x) : 1 ≤ 1 + x % 1099511627776 ∧ 1 + x % 1099511627776 ≤ 1099511627776 := by unfold Num.Word at *; omega
theorem lesser_at {a b : Int} (ha : 1 ≤ a) (ha' : a ≤ 1099511627776) (hb : 0 ≤ b) : 1 ≤ Num.lesser a b ∧ Num.lesser a b ≤ 1099511627776 := by unfold Num.lesser; split <;> (try split) <;> omega

theorem pc_fits {q fi re mo lo : Int} (h1 : 1 ≤ q ∧ q ≤ 65536) (h2 : 1 ≤ fi ∧ fi ≤ 65536) (h3 : Num.Word re) (h4 : Num.Word mo) (h5 : Num.Word lo) : (⟨q, fi, re, mo, lo⟩ : Pc).Fits := ⟨⟨by show _ ≤ q; omega, by show q < _; omega⟩, ⟨by show _ ≤ fi; omega, by show fi < _; omega⟩, h3, h4, h5⟩
theorem fl_fits {rt fi : Int} (h1 : 1 ≤ rt ∧ rt ≤ 1099511627776) (h2 : 1 ≤ fi ∧ fi ≤ 65536) : (⟨1, 1, rt, fi, 0, 0, 0⟩ : Fl).Fits := ⟨⟨by show (0 : Int) ≤ 1; omega, by show (1 : Int) < _; omega⟩, ⟨by show (0 : Int) ≤ 1; omega, by show (1 : Int) < _; omega⟩, ⟨by show 0 ≤ rt; omega, by show rt < _; omega⟩, ⟨by show _ ≤ fi; omega, by show fi < _; omega⟩, Num.zero_word, Num.zero_word, Num.zero_word⟩
/-- Between two packets, in memory. -/
structure PBx (w0 w W : World) (b1 b2 : Nat) (p : Pc) (f : Fl) (base : Nat) (n t : Nat → Int) (m : Nat) (pS : Option Addr) (cS : Nat) : Prop where
  pc : PBox W b1 p
  fl : FBox W b2 63 f
  row : W.ownsRow base 84 2 (.slice pS m cS) m (sentL n t m)
  lo : Below w.heap.size w W
  l1 : w.heap.size ≤ b1
  l2 : b1 < b2
  l3 : b2 < base
  l4 : base ≤ W.heap.size
section
variable {w0 w W W' : World} {b1 b2 : Nat} {p : Pc} {f f' : Fl} {base : Nat} {n t : Nat → Int} {m : Nat} {pS : Option Addr} {cS : Nat}
theorem PBx.below (h : PBx w0 w W b1 b2 p f base n t m pS cS) (g : Below W.heap.size W W') : PBx w0 w W' b1 b2 p f base n t m pS cS :=
  ⟨h.pc.below g h.pc.lt, h.fl.below g h.fl.lt, owns_below h.row g, below_tr h.lo g, h.l1, h.l2, h.l3, Nat.le_trans h.l4 g.size⟩
theorem PBx.put (h : PBx w0 w W b1 b2 p f base n t m pS cS) (f' : Fl) : PBx w0 w (putF W b2 f') b1 b2 p f' base n t m pS cS := by
  have h2 := h.l2
  have h3 := h.l3
  have h1 := h.l1
  have hr : ∀ {W : World}, W.ownsRow base 84 2 (.slice pS m cS) m (sentL n t m) → ∀ i u, (W.setCell ⟨b2, i, none⟩ u).ownsRow base 84 2 (.slice pS m cS) m (sentL n t m) := fun r i u => own_set r (fun e => by have := (r.lt b2 e).1; omega)
  refine ⟨putF_other (show Box W b1 _ _ from h.pc) (by omega) f', putF_box h.fl f', ?_, putF_below h.lo (by omega) f', h1, h2, h3, by rw [putF_size]; exact h.l4⟩
  exact hr (hr (hr (hr (hr (hr (hr h.row _ _) _ _) _ _) _ _) _ _) _ _) _ _
theorem PBx.more {p' : Option Addr} {c' : Nat} {v : Int} (h : PBx w0 w W b1 b2 p f base n t m pS cS) (r : W'.ownsRow base 84 2 (.slice p' (m + 1) c') (m + 1) (sentL n t m ++ [.int .i64 (n m), .int .u64 v])) (g : W.grownBy W' (Value.slice pS m cS).ownBlock) : PBx w0 w W' b1 b2 p f base n (updI t m v) (m + 1) p' c' := by
  have h2 := h.l2
  have h3 := h.l3
  have h1 := h.l1
  have far : ∀ k, k < base → some k ≠ (Value.slice pS m cS).ownBlock := fun k hk e => by have := (h.row.lt k e.symm).1; omega
  refine ⟨Box.grown (show Box W b1 _ _ from h.pc) g (far _ (by omega)), Box.grown (show Box W b2 _ _ from h.fl) g (far _ h3), by rw [sentL_more]; exact r, ?_, h1, h2, h3, Nat.le_trans h.l4 g.size⟩
  exact h.lo.trans ⟨g.os, g.tape, g.output, g.size, fun k hk => g.block k (Nat.lt_of_lt_of_le hk h.lo.size) (far k (by omega))⟩
end

set_option maxHeartbeats 8000000 in
/-- Below w.heap.size w w' -/
theorem flowPaced_walk (a0 a1 a2 a3 a4 : Int) (a5 : Option Addr) (len5 cap5 : Nat) (z5 : List (List Value)) (a6 : Option Addr) (len6 cap6 : Nat) (z6 : List (List Value)) (a7 : Option Addr) (len7 cap7 : Nat) (z7 : List (List Value)) (w : World) (w0 : (Lit.int .u16 a0).wf = true) (w1 : (Lit.int .u16 a1).wf = true) (w2 : (Lit.int .u32 a2).wf = true) (w3 : (Lit.int .u64 a3).wf = true) (w4 : (Lit.int .u64 a4).wf = true) (w5 : RowOf [some .u16] w a5 len5 cap5 z5) (w6 : RowOf [some .u32] w a6 len6 cap6 z6) (w7 : RowOf [some .u8] w a7 len7 cap7 z7) :
    Calls Try.prog 6 #[.int .u16 a0, .int .u16 a1, .int .u32 a2, .int .u64 a3, .int .u64 a4, .slice a5 len5 cap5, .slice a6 len6 cap6, .slice a7 len7 cap7] w fun e w' => e = .returned (.bool true) ∧ Below w.heap.size w w' := by
  have h0 := u16_of w0
  have h1 := u16_of w1
  have h2 := u32_of w2
  have h3 := word_of_wf w3
  have h4 := word_of_wf w4
  clear w0 w1 w2 w3 w4
  have hcap5 := row_fit w5
  have hcap6 := row_fit w6
  have hcap7 := row_fit w7
  have HR5 := Lib.hid w5
  have HR6 := Lib.hid w6
  have HR7 := Lib.hid w7
  clear w5 w6 w7
  have LO := Lib.hid (Below.refl w.heap.size w)
  have KP := Lib.hid fun W => law_pace a0 a1 a2 a3 W h0 h1 h2 h3
  have KA := Lib.hid fun W => awake12 W
  obtain ⟨mo, Hmo⟩ : ∃ mo, Hid (a3 % 1099511627777 = mo) := ⟨_, Lib.hid rfl⟩
  obtain ⟨rt, Hrt⟩ : ∃ rt, Hid (1 + a4 % 1099511627776 = rt) := ⟨_, Lib.hid rfl⟩
  have hmo : Num.Word mo := by rw [← Hmo.out]; exact ahead_word a3 h3
  have hrt := rate_at a4 h4
  rw [Hrt.out] at hrt
  rw [Hmo.out] at KP
  obtain ⟨q, Hq⟩ : ∃ q, Hid (1 + a0 = q) := ⟨_, Lib.hid rfl⟩
  obtain ⟨fi, Hfi⟩ : ∃ fi, Hid (1 + a1 = fi) := ⟨_, Lib.hid rfl⟩
  rw [Hq.out, Hfi.out] at KP
  have hq : 1 ≤ q ∧ q ≤ 65536 := by have := Hq.out; omega
  have hfi : 1 ≤ fi ∧ fi ≤ 65536 := by have := Hfi.out; omega
  have hp0 : (⟨q, fi, a2, mo, 0⟩ : Pc).Fits := pc_fits hq hfi ⟨h2.1, by omega⟩ hmo Num.zero_word
  have KB := Lib.hid fun W => flow_born 1 1 ⟨q, fi, a2, mo, 0⟩ W
  have hf0 : (⟨1, 1, rt, fi, 0, 0, 0⟩ : Fl).Fits := fl_fits hrt hfi
  have KRt := Lib.hid fun W => flow_rate_b ⟨1, 1, rt, fi, 0, 0, 0⟩ ⟨q, fi, a2, mo, 0⟩ hf0 hp0 W
  obtain ⟨R, HR⟩ : ∃ R, Hid ((⟨1, 1, rt, fi, 0, 0, 0⟩ : Fl).by ⟨q, fi, a2, mo, 0⟩ = R) := ⟨_, Lib.hid rfl⟩
  have hR : 1 ≤ R ∧ R ≤ 1099511627776 := by
    rw [← HR.out]
    exact lesser_at hrt.1 hrt.2 hmo.1
  rw [HR.out] at KRt
  have HPF : Hid (⟨q, fi, a2, mo, R⟩ : Pc).Fits := Lib.hid (pc_fits hq hfi hp0.refill hmo ⟨by omega, by omega⟩)
  have HPB : Hid (PacedBy ⟨q, fi, a2, mo, R⟩ R) := Lib.hid ⟨hq.1, hq.2, hfi.1, hfi.2, rfl, hR.1, hR.2⟩
  have HF0 := Lib.hid hf0
  have hrem : 1 + a4 % 1099511627776 = rt := Hrt.out
  obtain ⟨h40, h41⟩ := h4
  have HFI := Lib.hid hfi
  have HRT := Lib.hid hrt
  clear h0 h1 h2 h3 hmo hrt hp0 hf0 Hrt Hmo Hq Hfi hq
  simp only [Fl.v, Pc.v, Fl.c, Pc.c, Fl.born] at KB KRt
  obtain ⟨m, Hm⟩ : ∃ m, Hid (min len5 30 = m) := ⟨_, Lib.hid rfl⟩
  have hm1 : m ≤ len5 := by have := Hm.out; omega
  have hm2 : m ≤ 30 := by have := Hm.out; omega
  obtain ⟨i0, hi1, hi2, hi3, hi4⟩ := info_parts (P := Try.prog) (e := 84) (z := .agg #[.int .i64 0, .int .u64 0]) (size := 2) (bytes := 16) (by kernel_rfl)
  have HI := Lib.hid (And.intro hi1 (And.intro hi2 (And.intro hi3 hi4)))
  clear hi1 hi2 hi3 hi4
  go_enter Try.func6, Try.ntmps6
  go_upto_region 2 with (go_at_call 38; refine (KP.out _).mono ?_; rintro e W5 ⟨rfl, g5⟩)
  obtain ⟨V1, b1, hW, hb, XP, LO6⟩ := one_more W5 (Pc.c ⟨q, fi, a2, mo, 0⟩) 59
  simp only [Fl.c, Pc.c] at hW
  rw [hW.out, hb.out]
  have hB1 : Hid (w.heap.size ≤ b1) := Lib.hid (by have h1 := LO.out.size; have h2 := g5.size; have h3 := hb.out; omega)
  have L6 := Lib.hid (below_tr g5 LO6.out)
  replace LO := Lib.hid (below_tr LO.out L6.out)
  have BP : Hid (PBox V1 b1 ⟨q, fi, a2, mo, 0⟩) := XP
  clear hW hb LO6 L6 XP g5
  obtain ⟨cP0, cP1, cP2, cP3, cP4⟩ := (BP.out : PBox _ _ _).cells
  go_upto_region 4 with (go_at_call 24; refine (KB.out _).mono ?_; rintro e W5 ⟨rfl, g5⟩)
  clear cP0 cP1 cP2 cP3 cP4
  have hval : (1 : Int) + a4 % 1099511627776 = rt := hrem
  obtain ⟨V2, b2, hW, hb, XF, LO6⟩ := one_more W5 (Fl.c ⟨1, 1, rt, fi, 0, 0, 0⟩) 63
  simp only [Fl.c, Pc.c] at hW
  have NPF : Hid (b1 < b2) := Lib.hid (by have h1 := BP.out.lt; have h3 := hb.out; have h2 := g5.size; omega)
  rw [hW.out, hb.out]
  have hB2 : Hid (w.heap.size ≤ b2) := Lib.hid (by have h1 := LO.out.size; have h2 := g5.size; have h3 := hb.out; omega)
  have L6 := Lib.hid (below_tr g5 LO6.out)
  replace BP := Lib.hid (BP.out.below L6.out BP.out.lt)
  replace LO := Lib.hid (below_tr LO.out L6.out)
  have BF : Hid (FBox V2 b2 63 ⟨1, 1, rt, fi, 0, 0, 0⟩) := XF
  clear hW hb LO6 L6 XF g5
  clear hrem hval
  obtain ⟨cF0, cF1, cF2, cF3, cF4, cF5, cF6⟩ := (BF.out : FBox _ _ _ _).cells
  obtain ⟨cP0, cP1, cP2, cP3, cP4⟩ := (BP.out : PBox _ _ _).cells
  go_upto_region 5 with (go_at_call 34; refine (KRt.out _).mono ?_; rintro e W5 ⟨rfl, g5⟩)
  clear cF0 cF1 cF2 cF3 cF4 cF5 cF6 cP0 cP1 cP2 cP3 cP4
  replace BP := Lib.hid (BP.out.below g5 BP.out.lt)
  replace BF := Lib.hid (BF.out.below g5 BF.out.lt)
  replace LO := Lib.hid (below_tr LO.out g5)
  clear g5
  obtain ⟨cP0, cP1, cP2, cP3, cP4⟩ := (BP.out : PBox _ _ _).cells
  have zP := (show Box _ b1 _ _ from BP.out).frozen 4
  go_upto_region 6 with fail
  clear zP
  clear cP0 cP1 cP2 cP3 cP4
  have hne12 : b2 ≠ b1 := by have := NPF.out; omega
  obtain ⟨VL, hVL⟩ : ∃ VL, Hid (W5.setCell ⟨b1, 4, none⟩ (.int .u64 R) = VL) := ⟨_, Lib.hid rfl⟩
  have hbp : PBox (W5.setCell ⟨b1, 4, none⟩ (.int .u64 R)) b1 ⟨q, fi, a2, mo, R⟩ := (show Box W5 b1 _ _ from BP.out).set 4 (.int .u64 R)
  replace BP := Lib.hid hbp
  replace BF := Lib.hid (BF.out.other (c := b1) (i := 4) hne12 (.int .u64 R))
  replace LO := Lib.hid (LO.out.setCell (p := ⟨b1, 4, none⟩) hB1.out (.int .u64 R))
  clear hbp
  rw [hVL.out] at BP BF LO ⊢
  clear hVL KP KB KRt HF0
  obtain ⟨n, hn⟩ : ∃ n : Nat → Int, Hid ((fun j => 1 + rowI z5 j) = n) := ⟨_, Lib.hid rfl⟩
  have HS0 : Hid (PSt ⟨q, fi, a2, mo, R⟩ R n (fun _ => 0) 0 (0 : Int) ⟨1, 1, rt, fi, 0, 0, 0⟩ 0 ∧ (⟨1, 1, rt, fi, 0, 0, 0⟩ : Fl).Fits) := Lib.hid ⟨PSt.start HPB.out n (fun _ => 0) (by rw [← HR.out]; rfl) rfl rfl rfl, fl_fits HRT.out HFI.out⟩
  have HX0 : Hid (PBx w w VL b1 b2 ⟨q, fi, a2, mo, R⟩ ⟨1, 1, rt, fi, 0, 0, 0⟩ VL.heap.size n (fun _ => 0) 0 none 0) := Lib.hid ⟨BP.out, BF.out, World.ownsRow_nil _ _ _ _, LO.out, hB1.out, NPF.out, BF.out.lt, Nat.le_refl _⟩
  obtain ⟨base, hbase⟩ : ∃ base, Hid (VL.heap.size = base) := ⟨_, Lib.hid rfl⟩
  rw [hbase.out] at HX0
  clear hbase HR HRT HFI BP BF LO NPF hB1 hB2 hne12
  go_upto_region 8 with fail
  go_cut [54, 55, 56] (fun v54 v55 v56 wx => v54 = .slice a5 m cap5 ∧ v55 = .int .i64 (m : Int) ∧ v56 = .int .i64 0 ∧ VL = wx)
  case first =>
    by_cases h80 : 30 < len5
    · have h80z : (30 : Int) < (len5 : Int) := by omega
      obtain rfl : m = 30 := by have := Hm.out; omega
      go_wp2_with fail
      go_meet
      refine ⟨?_, ?_, rfl, rfl⟩ <;> first | rfl | (congr 1; omega) | (congr 1; simp; omega)
    · have h80z : ¬ (30 : Int) < (len5 : Int) := by omega
      obtain rfl : m = len5 := by have := Hm.out; omega
      go_wp2_with fail
      go_meet
      refine ⟨?_, ?_, rfl, rfl⟩ <;> first | rfl | (congr 1; omega) | (congr 1; simp; omega)
  case rest =>
    obtain ⟨rfl, rfl, rfl, rfl⟩ := hcut
    clear Hm
    go_wp2_with fail
    go_loopg [20, 21, 22, 56] m (fun k v20 v21 v22 v56 wx => ∃ (i : Nat) (f : Fl) (now mx : Int) (t : Nat → Int) (pS : Option Addr) (cS : Nat), i + k = m ∧ v20 = .slice pS i cS ∧ v21 = .int .u64 now ∧ v22 = .int .i64 mx ∧ v56 = .int .i64 (i : Int) ∧ Hid (pmax n i = mx) ∧ Hid (PSt ⟨q, fi, a2, mo, R⟩ R n t i ((i : Int) * 3000000000000000) f now ∧ f.Fits) ∧ Hid (PBx w w wx b1 b2 ⟨q, fi, a2, mo, R⟩ f base n t i pS cS))
    case atStart => exact ⟨0, _, 0, 0, _, none, 0, by omega, rfl, rfl, rfl, rfl, Lib.hid rfl, by simpa using HS0, HX0⟩
    case round =>
      clear HS0 HX0
      obtain ⟨i, f, now, mx, t, pS, cS, hik, rfl, rfl, rfl, rfl, HMx, HS, HX⟩ := hrel
      by_cases hin : i = m
      · have hiz : ¬ (i : Int) < (m : Int) := by omega
        have hnn : Hid (∀ j, j < m → 0 ≤ n j ∧ n j ≤ 65536) := by
          rw [← hn.out]
          refine Lib.hid fun j hj => ?_
          obtain ⟨_, _, hw, _⟩ := row_int HR5.out (show j < len5 by omega)
          have := u16_of hw
          show 0 ≤ 1 + rowI z5 j ∧ 1 + rowI z5 j ≤ 65536
          omega
        have HI' := Lib.hid hin
        have HMx2 : Hid (pmax n m = mx) := by rw [← hin]; exact HMx
        have hmx0 : 0 ≤ mx := by rw [← HMx2.out]; exact pmax_nn n m
        have hmx1 : mx ≤ 65536 := by rw [← HMx2.out]; exact pmax_le (by omega) fun j hj => (hnn.out j hj).2
        have HT : Hid (∀ a b, a ≤ b → b < m → psum n (b + 1) - psum n a ≤ Num.add (Num.bytes (t b - t a) R) (max q fi - 1 + mx)) := Lib.hid fun a b hab hb => by
          have h := HS.out.1.told HPB.out (by omega) (fun j hj => hnn.out j (by omega)) hab (by omega)
          rw [HMx.out] at h
          exact h
        have HRise : Hid (∀ a b, a ≤ b → b < m → t a ≤ t b) := Lib.hid fun a b hab hb => HS.out.1.burst.rise a b hab (by omega)
        have HTW : Hid (∀ a, a < m → 0 ≤ t a ∧ t a < 18446744073709551616) := Lib.hid fun a ha => by
          have h1 := HS.out.1.burst.t0 a (by omega)
          have h2 := HS.out.1.nowB
          have hiB : (i : Int) * 3000000000000000 ≤ 30 * 3000000000000000 := Int.mul_le_mul_of_nonneg_right (by omega) (by omega)
          omega
        have HPS : Hid (∀ a b, a ≤ b → b ≤ m → 0 ≤ psum n b - psum n a ∧ psum n b - psum n a ≤ 1966080) := Lib.hid fun a b hab hb => by
          have h1 : psum n b ≤ (b : Int) * 65536 := psum_le fun j hj => (hnn.out j (by omega)).2
          have h2 : 0 ≤ psum n a := psum_nn fun j hj => (hnn.out j (by omega)).1
          have h3 : psum n a ≤ psum n b := by
            clear h1 h2
            induction b with
            | zero => obtain rfl : a = 0 := by omega
                      exact Int.le_refl _
            | succ b ih =>
              by_cases e : a = b + 1
              · rw [e]; exact Int.le_refl _
              · have := ih (by omega) (by omega)
                have := (hnn.out b (by omega)).1
                rw [psum_succ]
                omega
          have h4 : (b : Int) * 65536 ≤ 30 * 65536 := Int.mul_le_mul_of_nonneg_right (by omega) (by omega)
          omega
        have hq1 := HPB.out.q1
        have hq0 := HPB.out.q0
        simp only at hq1 hq0
        have hRw : Num.Word R := ⟨by omega, by omega⟩
        have HRw := Lib.hid hRw
        clear hRw
        obtain ⟨bu, hbu⟩ : ∃ bu, Hid (max q fi - 1 + mx = bu) := ⟨_, Lib.hid rfl⟩
        have hbu0 : 0 ≤ bu := by have := hbu.out; omega
        have hbu1 : bu ≤ 131072 := by have := hbu.out; omega
        rw [hbu.out] at HT
        clear HS HMx HMx2 hnn hin
        obtain ⟨cP0, cP1, cP2, cP3, cP4⟩ := HX.out.pc.cells
        simp only at cP0 cP1 cP2 cP3 cP4
        have hbe : max q fi - 1 + mx = bu := hbu.out
        go_upto_region 33 with fail
        clear hbe hbu cP0 cP1 cP2 cP3 cP4
        obtain rfl : i = m := HI'.out
        go_wp2_with fail
        go_loopg [161] i (fun k v161 wx => ∃ a : Nat, a + k = i ∧ v161 = .int .i64 (a : Int) ∧ Hid (PBx w w wx b1 b2 ⟨q, fi, a2, mo, R⟩ f base n t i pS cS))
        case atStart => exact ⟨0, by omega, rfl, HX⟩
        case round =>
          clear HX
          obtain ⟨a, hak, rfl, HX⟩ := hrel
          by_cases hai : a = i
          · have haz : ¬ (a : Int) < (i : Int) := by omega
            clear hai
            go_wp2_with (go_at_call 23; refine (KA.out _).mono ?_; rintro e W6 ⟨rfl, g6⟩; replace HX := Lib.hid (HX.out.below g6); clear g6)
            go_ret
            exact ⟨rfl, HX.out.lo⟩
          · have haz : (a : Int) < (i : Int) := by omega
            obtain ⟨gS, rfl, hgS, hcS, hcS2, _⟩ := sent_row HX.out.row (by omega)
            have hai2 : a < i := by omega
            have haz2 : (a : Int) ≤ (i : Int) := by omega
            have haz3 : (a : Int) ≤ (cS : Int) := by omega
            clear hai hgS
            go_upto_region 38 with fail
            obtain ⟨d, Hd⟩ : ∃ d, Hid (i - a = d) := ⟨_, Lib.hid rfl⟩
            rw [Hd.out]
            have hda : d + a = i := by have := Hd.out; omega
            have HDA := Lib.hid hda
            clear Hd hda
            go_loopg [31, 168] d (fun k v31 v168 wx => ∃ (j : Nat) (s0 : Int), j + k = d ∧ v31 = .int .u64 s0 ∧ v168 = .int .i64 (j : Int) ∧ Hid (psum n (a + j) - psum n a = s0) ∧ Hid (PBx w w wx b1 b2 ⟨q, fi, a2, mo, R⟩ f base n t i (some ⟨gS, 0, none⟩) cS))
            case atStart => exact ⟨0, 0, by omega, rfl, rfl, Lib.hid (by rw [Nat.add_zero, Int.sub_self]), HX⟩
            case round =>
              clear HX
              obtain ⟨j, s0, hjk, rfl, rfl, HS0, HX⟩ := hrel
              by_cases hjd : j = d
              · have hjz : ¬ (j : Int) < (d : Int) := by omega
                clear hjd hjk
                go_wp2_with fail
                go_roundg (i - (a + 1))
                case measure => omega
                case rel => exact ⟨a + 1, by omega, by go_num, HX⟩
              · have hjz : (j : Int) < (d : Int) := by omega
                have haj : a + j < i := by have := HDA.out; omega
                obtain ⟨g', e', _, _, _, hcell⟩ := sent_row HX.out.row (by omega)
                obtain rfl : gS = g' := by simpa using e'
                obtain ⟨nj, Hnj⟩ : ∃ nj, Hid (n (a + j) = nj) := ⟨_, Lib.hid rfl⟩
                obtain ⟨tj, Htj⟩ : ∃ tj, Hid (t (a + j) = tj) := ⟨_, Lib.hid rfl⟩
                obtain ⟨ta, Hta⟩ : ∃ ta, Hid (t a = ta) := ⟨_, Lib.hid rfl⟩
                have hcA := hcell (a + j) haj
                have hcB := (hcell a (by omega)).2
                rw [Hnj.out, Htj.out, show (a + j) * 2 = a * 2 + j * 2 by omega] at hcA
                rw [Hta.out] at hcB
                obtain ⟨c0, c1⟩ := hcA
                obtain ⟨hta0, hta1⟩ : 0 ≤ ta ∧ ta < 18446744073709551616 := by rw [← Hta.out]; exact HTW.out a (by omega)
                obtain ⟨htj0, htj1⟩ : 0 ≤ tj ∧ tj < 18446744073709551616 := by rw [← Htj.out]; exact HTW.out _ haj
                have hrise : ta ≤ tj := by rw [← Hta.out, ← Htj.out]; exact HRise.out a (a + j) (by omega) haj
                have hs1 : psum n (a + j + 1) - psum n a = s0 + nj := by rw [psum_succ, ← HS0.out, ← Hnj.out]; omega
                obtain ⟨hs00, hs01⟩ : 0 ≤ s0 ∧ s0 ≤ 1966080 := by rw [← HS0.out]; exact HPS.out a (a + j) (by omega) (by omega)
                have hnj : 0 ≤ nj ∧ nj ≤ 1966080 := by
                  have h := HPS.out (a + j) (a + j + 1) (by omega) (by omega)
                  rw [psum_succ, Hnj.out] at h
                  omega
                obtain ⟨hnj0, hnj1⟩ := hnj
                have htold := HT.out a (a + j) (by omega) haj
                rw [hs1, Htj.out, Hta.out] at htold
                have HN1 : Hid (psum n (a + (j + 1)) - psum n a = s0 + nj) := Lib.hid hs1
                have hdw : Num.Word (tj - ta) := ⟨by omega, by omega⟩
                have KBy := Lib.hid fun W => bytes_b (tj - ta) R W hdw HRw.out
                have hy1w := Num.bytes_word hdw HRw.out
                have KAd := Lib.hid fun W => sat_add (Num.bytes (tj - ta) R) bu W hy1w ⟨by omega, by omega⟩
                obtain ⟨y1, Hy1⟩ : ∃ y1, Hid (Num.bytes (tj - ta) R = y1) := ⟨_, Lib.hid rfl⟩
                rw [Hy1.out] at KBy KAd htold
                obtain ⟨y2, Hy2⟩ : ∃ y2, Hid (Num.add y1 bu = y2) := ⟨_, Lib.hid rfl⟩
                rw [Hy2.out] at KAd htold
                have HTold := Lib.hid htold
                clear Hy1 Hy2 hdw hy1w hs1 htold Hnj Htj Hta hcell e' HS0 hjd
                have hr1 : decide (tj < ta) = false := by rw [decide_eq_false_iff_not]; omega
                go_upto_region 40 with fail
                obtain ⟨W9, b9, hW9, hb9, B9, LO9⟩ := one_more wr #[.int .i64 nj, .int .u64 tj] 84
                rw [hW9.out, hb9.out]
                have hcB9 : W9.cell? ⟨gS, a * 2 + 1, none⟩ = some (.int .u64 ta) := (LO9.out.cell (World.block_lt_of_cell? wr _ hcB)).trans hcB
                replace HX := Lib.hid (HX.out.below LO9.out)
                have q0 : W9.cell? ⟨b9, 0, none⟩ = some (.int .i64 nj) := B9.out.cell 0
                have q1 : W9.cell? ⟨b9, 1, none⟩ = some (.int .u64 tj) := B9.out.cell 1
                clear c0 c1 hcB hW9 hb9 LO9
                go_upto_region 41 with fail
                have hwr : IntKind.u64.wrap (tj - ta) = tj - ta := by rw [IntKind.wrap_u64]; omega
                have hr2 : decide (y2 < s0 + nj) = false := by rw [decide_eq_false_iff_not]; have := HTold.out; omega
                have HgB := Lib.hid (World.block_lt_of_cell? W9 _ hcB9)
                go_region_held3 (fun w' => w'.cell? ⟨b9, 1, none⟩ = some (.int .u64 tj) ∧ w'.cell? ⟨gS, a * 2 + 1, none⟩ = some (.int .u64 ta)) (first | exact ⟨q1, hcB9⟩ | exact ⟨x1, x2⟩)
                  (first
                    | (go_at_call 40; refine (KBy.out _).mono ?_; rintro e W7 ⟨rfl, g7⟩; have G7 := Lib.hid (below_tr (Below.refl _ _).drew g7); have x1 : W7.cell? ⟨b9, 1, none⟩ = some (.int .u64 tj) := (G7.out.cell (World.block_lt_of_cell? W9 _ q1)).trans q1; have x2 : W7.cell? ⟨gS, a * 2 + 1, none⟩ = some (.int .u64 ta) := (G7.out.cell HgB.out).trans hcB9; clear g7)
                    | (go_at_call 39; refine (KAd.out _).mono ?_; rintro e w' ⟨rfl, rfl⟩))
                all_goals
                  clear hwr hr1 hr2
                  go_wp2_with fail
                  go_roundg (d - (j + 1))
                  case measure => omega
                  case rel => exact ⟨j + 1, s0 + nj, by omega, rfl, by go_num, HN1, Lib.hid (HX.out.below G7.out)⟩
      · have hiz : (i : Int) < (m : Int) := by omega
        have hi30 : i < 30 := by omega
        obtain ⟨A5, rfl, hwf5, hcx5⟩ := row_int HR5.out (show i < len5 by omega)
        obtain ⟨x, hx⟩ : ∃ x, Hid (rowI z5 i = x) := ⟨_, Lib.hid rfl⟩
        have HNI : Hid (n i = 1 + x) := by rw [← hn.out, ← hx.out]; exact Lib.hid rfl
        rw [hx.out] at hwf5 hcx5
        obtain ⟨hx0, hx1⟩ := u16_of hwf5
        have cx := hcx5 _ HX.out.lo
        clear hcx5 hwf5 hx hin
        go_upto_region 11 with fail
        clear cx
        go_cut [74] (fun v74 wx => ∃ b : Bool, v74 = .bool b ∧ Hid (b = true → 0 < len7) ∧ wr = wx)
        case first =>
          by_cases hl0 : 0 < len7
          · skip
            obtain ⟨j, Hj⟩ : ∃ j, Hid (i % len7 = j) := ⟨_, Lib.hid rfl⟩
            have hjl : j < len7 := by rw [← Hj.out]; exact Nat.mod_lt _ (by omega)
            obtain ⟨A, rfl, hwf, hcx⟩ := row_int HR7.out hjl
            obtain ⟨y, hy⟩ : ∃ y, Hid (rowI z7 j = y) := ⟨_, Lib.hid rfl⟩
            rw [hy.out] at hwf hcx
            obtain ⟨hy0, hy1⟩ := u8_of hwf
            have hj1 : (i : Int) % (len7 : Int) = (j : Int) := by rw [← Hj.out]; simp
            have hj2 : Int.tmod (i : Int) (len7 : Int) = (j : Int) := by rw [Int.tmod_eq_emod_of_nonneg (by omega)]; exact hj1
            have hjz : (j : Int) < (len7 : Int) := by omega
            have hlz : ((len7 : Int) == 0) = false := by rw [beq_eq_false_iff_ne]; omega
            have hlp : (0 : Int) < (len7 : Int) := by omega
            have cy := hcx _ HX.out.lo
            have HCY := Lib.hid hcx
            clear hcx hwf
            by_cases hy4 : y % 4 = 0
            · have hyz : (y % 4 == 0) = true := by rw [beq_iff_eq]; exact hy4
              go_wp2_with fail
              go_meet
              exact ⟨true, rfl, Lib.hid fun _ => hl0, rfl⟩
            · have hyz : (y % 4 == 0) = false := by rw [beq_eq_false_iff_ne]; exact hy4
              go_wp2_with fail
              go_meet
              exact ⟨false, rfl, Lib.hid (fun h => by cases h), rfl⟩
          · have hlp : ¬ (0 : Int) < (len7 : Int) := by omega
            have hlq : decide ((0 : Int) < (len7 : Int)) = false := by simpa using hlp
            go_wp2_with fail
            go_meet
            exact ⟨false, rfl, Lib.hid (fun h => by cases h), rfl⟩
        case rest =>
          obtain ⟨b, rfl, Hb, rfl⟩ := hcut
          go_upto_if 74 with fail
          go_cut [21] (fun v21 wx => ∃ (f' : Fl) (now' : Int), v21 = .int .u64 now' ∧ Hid (PSt ⟨q, fi, a2, mo, R⟩ R n t i ((i : Int) * 3000000000000000 + 1000000000000000) f' now' ∧ f'.Fits) ∧ Hid (PBx w w wx b1 b2 ⟨q, fi, a2, mo, R⟩ f' base n t i pS cS))
          case first =>
            cases b with
            | false =>
              go_wp2_with fail
              go_meet
              exact ⟨f, now, rfl, Lib.hid ⟨HS.out.1.upto (by omega), HS.out.2⟩, HX⟩
            | true =>
              have hl0 := Hb.out rfl
              clear Hb
              obtain ⟨j, Hj⟩ : ∃ j, Hid (i % len7 = j) := ⟨_, Lib.hid rfl⟩
              have hjl : j < len7 := by rw [← Hj.out]; exact Nat.mod_lt _ (by omega)
              obtain ⟨A, rfl, hwf, hcx⟩ := row_int HR7.out hjl
              obtain ⟨y, hy⟩ : ∃ y, Hid (rowI z7 j = y) := ⟨_, Lib.hid rfl⟩
              rw [hy.out] at hwf hcx
              obtain ⟨hy0, hy1⟩ := u8_of hwf
              have hj1 : (i : Int) % (len7 : Int) = (j : Int) := by rw [← Hj.out]; simp
              have hj2 : Int.tmod (i : Int) (len7 : Int) = (j : Int) := by rw [Int.tmod_eq_emod_of_nonneg (by omega)]; exact hj1
              have hjz : (j : Int) < (len7 : Int) := by omega
              have hlz : ((len7 : Int) == 0) = false := by rw [beq_eq_false_iff_ne]; omega
              have hlp : (0 : Int) < (len7 : Int) := by omega
              have cy := hcx _ HX.out.lo
              have HCY := Lib.hid hcx
              clear hcx hwf
              have hdb := HS.out.1.db HPB.out
              have hnB := HS.out.1.nowB
              have hiB : (i : Int) * 3000000000000000 ≤ 29 * 3000000000000000 := Int.mul_le_mul_of_nonneg_right (by omega) (by omega)
              have hnw : Num.Word now := ⟨by omega, by omega⟩
              have e13 : Num.add now (y * 1000) = now + y * 1000 := by unfold Num.add Num.kept; rw [if_pos (by omega)]
              have KRe := Lib.hid fun W => flow_rest f now HS.out.2 hnw W
              have KS := Lib.hid fun W => sat_add now (y * 1000) W hnw ⟨by omega, by omega⟩
              rw [e13] at KS
              have KW := Lib.hid fun W => flow_wake (f.rest now) (now + y * 1000) ⟨q, fi, a2, mo, R⟩ (HS.out.2.rest hnw) HPF.out ⟨by omega, by omega⟩ W
              have HS2 : Hid (PSt ⟨q, fi, a2, mo, R⟩ R n t i ((i : Int) * 3000000000000000 + 1000000000000000) ((f.rest now).wake (now + y * 1000) ⟨q, fi, a2, mo, R⟩) (now + y * 1000) ∧ ((f.rest now).wake (now + y * 1000) ⟨q, fi, a2, mo, R⟩).Fits) := Lib.hid ⟨HS.out.1.wake HPB.out (by omega) (by omega) (by omega), (HS.out.2.rest hnw).wake HPF.out _⟩
              obtain ⟨f1, Hf1⟩ : ∃ f1, Hid (f.rest now = f1) := ⟨_, Lib.hid rfl⟩
              rw [Hf1.out] at KRe KW HS2
              obtain ⟨f2, Hf2⟩ : ∃ f2, Hid (f1.wake (now + y * 1000) ⟨q, fi, a2, mo, R⟩ = f2) := ⟨_, Lib.hid rfl⟩
              rw [Hf2.out] at KW HS2
              simp only [Fl.v, Pc.v, Fl.c, Pc.c] at KRe KW
              have hno0 : 0 ≤ now := by omega
              have hno1 : now < 1000000000000000000 := by omega
              clear hdb hnB hiB hnw e13 Hf1 Hf2 HS
              obtain ⟨cF0, cF1, cF2, cF3, cF4, cF5, cF6⟩ := HX.out.fl.cells
              obtain ⟨cP0, cP1, cP2, cP3, cP4⟩ := HX.out.pc.cells
              simp only at cP0 cP1 cP2 cP3 cP4
              go_upto_region 13 with (go_at_call 30; refine (KRe.out _).mono ?_; rintro e W5 ⟨rfl, g5⟩; replace HX := Lib.hid (HX.out.below g5); clear g5 cF0 cF1 cF2 cF3 cF4 cF5 cF6 cP0 cP1 cP2 cP3 cP4; obtain ⟨h0, h1, h2, h3, h4, h5, h6⟩ := HX.out.fl.cells; obtain ⟨z0, z1, z2, z3, z4, z5', z6'⟩ := HX.out.fl.frozen)
              replace HX := Lib.hid (HX.out.put f1)
              obtain ⟨V6, hV6⟩ : ∃ V6, Hid (putF W5 b2 f1 = V6) := ⟨_, Lib.hid rfl⟩
              rw [hV6.out] at HX
              have hV7 := hV6.out
              unfold putF at hV7
              rw [hV7]
              clear hV7 hV6 h0 h1 h2 h3 h4 h5 h6 z0 z1 z2 z3 z4 z5' z6' cy KRe
              have cy := HCY.out _ HX.out.lo
              obtain ⟨cF0, cF1, cF2, cF3, cF4, cF5, cF6⟩ := HX.out.fl.cells
              obtain ⟨cP0, cP1, cP2, cP3, cP4⟩ := HX.out.pc.cells
              simp only at cP0 cP1 cP2 cP3 cP4
              go_wp2_with (first
                | (go_at_call 39; refine (KS.out _).mono ?_; rintro e w' ⟨rfl, rfl⟩)
                | (go_at_call 32; refine (KW.out _).mono ?_; rintro e W7 ⟨rfl, g7⟩; replace HX := Lib.hid (HX.out.below g7); clear g7 cF0 cF1 cF2 cF3 cF4 cF5 cF6 cP0 cP1 cP2 cP3 cP4 cy; obtain ⟨h0, h1, h2, h3, h4, h5, h6⟩ := HX.out.fl.cells; obtain ⟨z0, z1, z2, z3, z4, z5', z6'⟩ := HX.out.fl.frozen))
              go_meet
              exact ⟨f2, _, rfl, HS2, Lib.hid (HX.out.put f2)⟩
          case rest =>
            clear Hb HS HX b f now
            obtain ⟨f, now, rfl, HS, HX⟩ := hcut
            go_wp2_with fail
            go_loopg [25] (1 - f.cr).toNat (fun k v25 wx => ∃ (s : Int) (f' : Fl), (1 - f'.cr).toNat = k ∧ v25 = .int .i64 s ∧ 0 ≤ s ∧ s ≤ f'.cr + 65536 ∧ Hid (PSt ⟨q, fi, a2, mo, R⟩ R n t i ((i : Int) * 3000000000000000 + 1000000000000000) f' now ∧ f'.Fits) ∧ Hid (PBx w w wx b1 b2 ⟨q, fi, a2, mo, R⟩ f' base n t i pS cS))
            case atStart => exact ⟨0, f, rfl, rfl, by omega, by have := HS.out.1.lo; omega, HS, HX⟩
            case round =>
              clear HS HX f
              obtain ⟨s, f, hcnt, rfl, hs0, hs1, HS, HX⟩ := hrel
              have hdb := HS.out.1.db HPB.out
              obtain ⟨_, _, hcr9, hno0, hnx0⟩ := hdb
              have hlo := HS.out.1.lo
              by_cases hcr : f.cr ≤ 0
              · have HN := Lib.hid (HS.out.1.fill HPB.out hcr)
                have HNF := Lib.hid (HS.out.2.fill ⟨q, fi, a2, mo, R⟩)
                have KF := Lib.hid fun W => flow_fill f ⟨q, fi, a2, mo, R⟩ HS.out.2 HPF.out W
                have hq1 : 1 ≤ q := HPB.out.q0
                have hs2 : s ≤ 65536 := by omega
                have hsz : decide (65536 < s) = false := by rw [decide_eq_false_iff_not]; omega
                obtain ⟨f', hf'⟩ : ∃ f', Hid (f.fill ⟨q, fi, a2, mo, R⟩ = f') := ⟨_, Lib.hid rfl⟩
                rw [hf'.out] at HN HNF KF
                simp only [Fl.v, Pc.v, Fl.c, Pc.c] at KF
                clear hf' HS
                obtain ⟨cF0, cF1, cF2, cF3, cF4, cF5, cF6⟩ := HX.out.fl.cells
                obtain ⟨cP0, cP1, cP2, cP3, cP4⟩ := HX.out.pc.cells
                simp only at cP0 cP1 cP2 cP3 cP4
                go_wp2_with (go_at_call 28; refine (KF.out _).mono ?_; rintro e W7 ⟨rfl, g7⟩; replace HX := Lib.hid (HX.out.below g7); clear g7 cF0 cF1 cF2 cF3 cF4 cF5 cF6 cP0 cP1 cP2 cP3 cP4; obtain ⟨h0, h1, h2, h3, h4, h5, h6⟩ := HX.out.fl.cells; obtain ⟨z0, z1, z2, z3, z4, z5', z6'⟩ := HX.out.fl.frozen)
                go_roundg (1 - f'.cr).toNat
                case measure => have := HN.out.2; omega
                case rel => exact ⟨s + 1, f', rfl, rfl, by omega, by have := HN.out.2; omega, Lib.hid ⟨HN.out.1, HNF.out⟩, Lib.hid (HX.out.put f')⟩
              · have hcrz : decide (f.cr ≤ 0) = false := by simpa using hcr
                clear hcnt hs0 hs1
                have hnB := HS.out.1.nowB
                have hxB := HS.out.1.nxB
                have hiB : (i : Int) * 3000000000000000 ≤ 29 * 3000000000000000 := Int.mul_le_mul_of_nonneg_right (by omega) (by omega)
                have hnw : Num.Word now := ⟨by omega, by omega⟩
                have KY := Lib.hid fun W => flow_ready f now HS.out.2 hnw W
                obtain ⟨n1, Hn1⟩ : ∃ n1, Hid (max now f.nx = n1) := ⟨_, Lib.hid rfl⟩
                rw [Hn1.out] at KY
                have HS1 : Hid (PSt ⟨q, fi, a2, mo, R⟩ R n t i ((i : Int) * 3000000000000000 + 1000000000000000) f n1 ∧ f.Fits ∧ f.nx ≤ n1) := by
                  have e := Hn1.out
                  exact Lib.hid ⟨HS.out.1.later (by omega) (by omega), HS.out.2, by omega⟩
                have hn10 : 0 ≤ n1 := by have := Hn1.out; omega
                have hn11 : n1 < 1000000000000000000 := by have := Hn1.out; omega
                simp only [Fl.v, Fl.c] at KY
                have hcr1 : 0 < f.cr := by omega
                clear hnB hxB hiB hnw Hn1 HS hcr
                obtain ⟨cF0, cF1, cF2, cF3, cF4, cF5, cF6⟩ := HX.out.fl.cells
                obtain ⟨cP0, cP1, cP2, cP3, cP4⟩ := HX.out.pc.cells
                simp only at cP0 cP1 cP2 cP3 cP4
                go_upto_region 22 with (go_at_call 36; refine (KY.out _).mono ?_; rintro e W7 ⟨rfl, g7⟩; replace HX := Lib.hid (HX.out.below g7); clear g7 cF0 cF1 cF2 cF3 cF4 cF5 cF6 cP0 cP1 cP2 cP3 cP4)
                clear KY hcrz
                go_cut [108] (fun v108 wx => v108 = .bool (decide (0 < len6)) ∧ W7 = wx)
                case first =>
                  by_cases hl0 : 0 < len6
                  · have hlp : (0 : Int) < (len6 : Int) := by omega
                    go_wp2_with fail
                    go_meet
                    exact ⟨by simp [hl0], rfl⟩
                  · have hlp : ¬ (0 : Int) < (len6 : Int) := by omega
                    have hlq : decide ((0 : Int) < (len6 : Int)) = false := by simpa using hlp
                    go_wp2_with fail
                    go_meet
                    exact ⟨by simp [hl0], rfl⟩
                case rest =>
                  obtain ⟨rfl, rfl⟩ := hcut
                  go_upto_if 108 with fail
                  go_cut [21] (fun v21 wx => ∃ n2 : Int, v21 = .int .u64 n2 ∧ Hid (PSt ⟨q, fi, a2, mo, R⟩ R n t i ((i : Int) * 3000000000000000 + 1500000000000000) f n2 ∧ f.nx ≤ n2 ∧ Num.Word n2) ∧ W7 = wx)
                  case first =>
                    by_cases hl0 : 0 < len6
                    · have hdl : decide (0 < len6) = true := by simp [hl0]
                      obtain ⟨j, Hj⟩ : ∃ j, Hid (i % len6 = j) := ⟨_, Lib.hid rfl⟩
                      have hjl : j < len6 := by rw [← Hj.out]; exact Nat.mod_lt _ (by omega)
                      obtain ⟨A, rfl, hwf, hcx⟩ := row_int HR6.out hjl
                      obtain ⟨y, hy⟩ : ∃ y, Hid (rowI z6 j = y) := ⟨_, Lib.hid rfl⟩
                      rw [hy.out] at hwf hcx
                      obtain ⟨hy0, hy1⟩ := u32_of hwf
                      have hj1 : (i : Int) % (len6 : Int) = (j : Int) := by rw [← Hj.out]; simp
                      have hj2 : Int.tmod (i : Int) (len6 : Int) = (j : Int) := by rw [Int.tmod_eq_emod_of_nonneg (by omega)]; exact hj1
                      have hjz : (j : Int) < (len6 : Int) := by omega
                      have hlz : ((len6 : Int) == 0) = false := by rw [beq_eq_false_iff_ne]; omega
                      have hlp : (0 : Int) < (len6 : Int) := by omega
                      have cy := hcx _ HX.out.lo
                      have HCY := Lib.hid hcx
                      clear hcx hwf
                      have hiB : (i : Int) * 3000000000000000 ≤ 29 * 3000000000000000 := Int.mul_le_mul_of_nonneg_right (by omega) (by omega)
                      have hnB := HS1.out.1.nowB
                      have e13 : Num.add n1 y = n1 + y := by unfold Num.add Num.kept; rw [if_pos (by omega)]
                      have KS := Lib.hid fun W => sat_add n1 y W ⟨by omega, by omega⟩ ⟨by omega, by omega⟩
                      rw [e13] at KS
                      have HS2 : Hid (PSt ⟨q, fi, a2, mo, R⟩ R n t i ((i : Int) * 3000000000000000 + 1500000000000000) f (n1 + y) ∧ f.nx ≤ n1 + y ∧ Num.Word (n1 + y)) := Lib.hid ⟨(HS1.out.1.upto (by omega)).later (by omega) (by omega), by have := HS1.out.2.2; omega, by omega, by omega⟩
                      clear hiB hnB e13
                      go_wp2_with (go_at_call 39; refine (KS.out _).mono ?_; rintro e w' ⟨rfl, rfl⟩)
                      go_meet
                      exact ⟨_, rfl, HS2, rfl⟩
                    · have hdl : decide (0 < len6) = false := by simp [hl0]
                      go_wp2_with fail
                      go_meet
                      exact ⟨n1, rfl, Lib.hid ⟨HS1.out.1.upto (by omega), HS1.out.2.2, by omega, by omega⟩, rfl⟩
                  case rest =>
                    obtain ⟨n2, rfl, HS2, rfl⟩ := hcut
                    have HFF := Lib.hid HS1.out.2.1
                    clear HS1 hn10 hn11
                    have hdb := HS2.out.1.db HPB.out
                    obtain ⟨hn20, hn21⟩ := HS2.out.2.2
                    have hiB : (i : Int) * 3000000000000000 ≤ 29 * 3000000000000000 := Int.mul_le_mul_of_nonneg_right (by omega) (by omega)
                    have HCh := Lib.hid (HS2.out.1.charge HPB.out HS2.out.2.1 hcr1 (by rw [HNI.out]; omega) (by rw [HNI.out]; omega) (by omega))
                    have KC := Lib.hid fun W => flow_charge f (1 + x) n2 ⟨q, fi, a2, mo, R⟩ HFF.out HPF.out ⟨by omega, by omega⟩ ⟨hn20, hn21⟩ W
                    have HCF := Lib.hid (HFF.out.charge HPF.out (n := 1 + x) (now := n2) ⟨by omega, by omega⟩ ⟨hn20, hn21⟩)
                    rw [HNI.out] at HCh
                    obtain ⟨G, hG⟩ : ∃ G, Hid (f.charge (1 + x) n2 ⟨q, fi, a2, mo, R⟩ = G) := ⟨_, Lib.hid rfl⟩
                    rw [hG.out] at HCh KC HCF
                    have HN : Hid (PSt ⟨q, fi, a2, mo, R⟩ R n (updI t i n2) (i + 1) (((i + 1 : Nat) : Int) * 3000000000000000) G n2 ∧ G.Fits) := by
                      have e : ((i + 1 : Nat) : Int) * 3000000000000000 = (i : Int) * 3000000000000000 + 3000000000000000 := by rw [Int.natCast_succ, Int.add_mul, Int.one_mul]
                      exact Lib.hid ⟨by rw [e]; exact HCh.out.1.upto (by omega), HCF.out⟩
                    have hle := HCh.out.2
                    have hgx : decide (G.nx < f.nx) = false := by rw [decide_eq_false_iff_not]; omega
                    simp only [Fl.v, Pc.v, Fl.c, Pc.c] at KC
                    clear hdb hiB HCh HCF hG hle HS2 HFF
                    obtain ⟨cF0, cF1, cF2, cF3, cF4, cF5, cF6⟩ := HX.out.fl.cells
                    obtain ⟨cP0, cP1, cP2, cP3, cP4⟩ := HX.out.pc.cells
                    simp only at cP0 cP1 cP2 cP3 cP4
                    go_upto_region 26 with (go_at_call 26; refine (KC.out _).mono ?_; rintro e W8 ⟨rfl, g8⟩; replace HX := Lib.hid (HX.out.below g8); clear g8 cF0 cF1 cF2 cF3 cF4 cF5 cF6 cP0 cP1 cP2 cP3 cP4)
                    clear KC
                    obtain ⟨W9, b3, hW9, hb9, BG, LO9⟩ := one_more W8 (Fl.c G) 63
                    simp only [Fl.c] at hW9
                    rw [hW9.out, hb9.out]
                    replace HX := Lib.hid (HX.out.below LO9.out)
                    clear hW9 hb9 LO9
                    obtain ⟨cG0, cG1, cG2, cG3, cG4, cG5, cG6⟩ := (show FBox W9 b3 63 G from BG.out).cells
                    obtain ⟨cF0, cF1, cF2, cF3, cF4, cF5, cF6⟩ := HX.out.fl.cells
                    obtain ⟨cP0, cP1, cP2, cP3, cP4⟩ := HX.out.pc.cells
                    simp only at cP0 cP1 cP2 cP3 cP4
                    obtain ⟨z0, z1, z2, z3, z4, z5', z6'⟩ := HX.out.fl.frozen
                    go_upto_region 29 with fail
                    replace HX := Lib.hid (HX.out.put G)
                    obtain ⟨V6, hV6⟩ : ∃ V6, Hid (putF W9 b2 G = V6) := ⟨_, Lib.hid rfl⟩
                    rw [hV6.out] at HX
                    have hV7 := hV6.out
                    unfold putF at hV7
                    rw [hV7]
                    clear hV7 hV6 BG z0 z1 z2 z3 z4 z5' z6' cG0 cG1 cG2 cG3 cG4 cG5 cG6 cF0 cF1 cF2 cF3 cF4 cF5 cF6 cP0 cP1 cP2 cP3 cP4
                    have HApp : Hid (∀ (p9 : Option Addr) (c9 : Nat) (w9 : World), w9.ownsRow base 84 2 (.slice p9 (i + 1) c9) (i + 1) (sentL n t i ++ [.int .i64 (1 + x), .int .u64 n2]) → (V6.alloc (.cells #[.int .i64 (1 + x), .int .u64 n2] 84)).grownBy w9 (Value.slice pS i cS).ownBlock → PBx w w w9 b1 b2 ⟨q, fi, a2, mo, R⟩ G base n (updI t i n2) (i + 1) p9 c9) := Lib.hid fun p9 c9 w9 o9 g9 => by
                      have h := HX.out.below ((Below.refl _ _).alloc (Nat.le_refl _) (.cells #[.int .i64 (1 + x), .int .u64 n2] 84))
                      exact h.more (by rw [HNI.out]; exact o9) g9
                    have HMN : Hid (pmax n (i + 1) = max mx (1 + x)) := Lib.hid (by rw [pmax_succ, HMx.out, HNI.out])
                    go_wp2_with (at_builtin; refine wpList_append_any' _ rfl (.tmp 140) (.tmp 144) 81 rfl base 84 i0 (.agg #[.int .i64 0, .int .u64 0]) 2 16 Try.underlying81 HI.out.1 HI.out.2.1 HI.out.2.2.1 HI.out.2.2.2 rfl (by decide) (.slice pS i cS) i (sentL n t i) rfl (HX.out.row.alloc _) 0 _ 1 [.int .i64 (1 + x), .int .u64 n2] rfl (lit_sent V6 _ _) (sent_one _ _) (i + 1) rfl (by omega) (by decide) (by have := HX.out.l4; simp; omega) ?_; intro p9 c9 w9 own9 gr9 lc9; have HA9 := Lib.hid (HApp.out p9 c9 w9 own9 gr9); clear own9 gr9 lc9)
                    go_roundg (m - (i + 1))
                    case measure => omega
                    case rel => exact ⟨i + 1, G, n2, _, _, p9, c9, by omega, rfl, rfl, rfl, by go_num, HMN, HN, HA9⟩

end Go.Proofs.Ytmokkbhfhbgkmaa
