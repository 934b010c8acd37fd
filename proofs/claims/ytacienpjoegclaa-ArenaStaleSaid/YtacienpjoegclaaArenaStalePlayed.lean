/-
  ArenaStale's walk, over whatever the program's arena is (ArenaK).
-/
import Derived.Test.YtacienpjoegclaaArenaStaleSteps
import Derived.Test.YtacienpjoegclaaArenaTurnSteps
namespace Go.Proofs.Ytacienpjoegclaa
open Go.RowKit Go.Maps
set_option linter.unusedVariables false

theorem row_fit' {ks : List (Option IntKind)} {w : World} {A : Option Addr} {len cap : Nat} {rows : List (List Value)} (h : RowOf ks w A len cap rows) : len ≤ cap ∧ cap ≤ 9223372036854775807 := by
  rcases h.2.1 with ⟨_, rfl, rfl⟩ | ⟨_, _, h1, h2⟩
  · exact ⟨Nat.le_refl _, by decide⟩
  · exact ⟨h1, h2⟩

def StaleAt (K : ArenaK) (w W : World) (a : Addr) (g : Gh) (p : Option Addr) (c : Nat) (q : Option Addr) (d : Nat) (H : List Nat) (b1 b2 r : Nat) : Prop :=
  ∃ N D1 D2, Unmet H r D1 ∧ Untaken g H r D2 ∧ Stale K w W a N g p c q d H b1 b2 (2 * r) D1 D2

set_option maxHeartbeats 8000000 in
set_option maxRecDepth 100000 in
theorem arenaStale_of (K : ArenaK) (HA : Hid Awake) (a0 : Option Addr) (len0 cap0 : Nat) (z0 : List (List Value)) (w : World) (w0 : Hid (RowOf [some .u8, some .i64, some .u64] w a0 len0 cap0 z0)) :
    Calls Try.prog 4 #[.slice a0 len0 cap0] w fun e w' => e = .returned (.bool true) ∧ Below w.heap.size w w' := by
  have R1 := Lib.hid (law_played K a0 len0 cap0 z0 w w0 (row_fit' w0.out).1 (row_fit' w0.out).2)
  have hmm := @run_makeMap Try.prog
  go_enter Try.func4, Try.ntmps4
  go_wp2_with fail
  refine R1.out.mono ?_
  rintro e w1 ⟨a, tk, gn, rfl, N0, g, p, c, q, d, H, rfl, rfl, hroom, hH, hT, P0⟩
  have HROOM := Lib.hid hroom
  have HT := Lib.hid hT
  have HP : Hid (StaleAt K w ((w1.alloc (.map #[] 0)).alloc (.map #[] 0)) a g p c q d H w1.heap.size (w1.alloc (.map #[] 0)).heap.size 0) := ⟨N0, _, _, unmet_start H, untaken_start g H, stale_start P0⟩
  clear hroom hT P0 R1
  go_wp2_with fail
  obtain ⟨W0, HW0⟩ : ∃ W0, Hid ((w1.alloc (.map #[] 0)).alloc (.map #[] 0) = W0) := ⟨_, Lib.hid rfl⟩
  obtain ⟨b1, HB1⟩ : ∃ b1, Hid (w1.heap.size = b1) := ⟨_, Lib.hid rfl⟩
  obtain ⟨b2, HB2⟩ : ∃ b2, Hid ((w1.alloc (.map #[] 0)).heap.size = b2) := ⟨_, Lib.hid rfl⟩
  have e2 : w1.heap.size + 1 = b2 := by rw [← HB2.out]; simp
  rw [HW0.out] at HP ⊢
  rw [HB2.out, HB1.out] at HP
  first | rw [e2] | skip
  first | rw [HB1.out] | skip
  clear HW0 HB1 HB2 e2 hmm
  go_loopg [8, 25] H.length (fun k hs i wx => ∃ (r : Nat), H.length - r = k ∧ r ≤ H.length ∧ hs = .int .i64 (((H.take r).countP g.holds : Nat) : Int) ∧ i = .int .i64 (r : Int) ∧ Hid (StaleAt K w wx a g p c q d H b1 b2 r))
  case atStart => exact ⟨0, rfl, by omega, by simp, rfl, HP⟩
  case round =>
    clear HP
    obtain ⟨r, rfl, hr, rfl, rfl, HQ⟩ := hrel
    obtain ⟨N, D1, D2, hU, hV, P⟩ := HQ.out
    have HP := Lib.hid P
    have HU := Lib.hid hU
    have HV := Lib.hid hV
    clear HQ P hU hV
    by_cases hr0 : r = H.length
    · have hrz : ¬ (r : Int) < (H.length : Int) := by omega
      have hrn : ¬ r < H.length := by omega
      have HC : Hid ((H.take r).countP g.holds = g.l.count true) := by show _ = _; rw [hr0, List.take_length]; exact HT.out.cnt
      have HUS := Lib.hid (K.used HP.out.held.at_ HP.out.held.ok)
      rw [← HC.out] at HUS
      generalize (H.take r).countP g.holds = z at *
      clear hr0 HC
      go_wp2_with fail
      refine HUS.out.mono ?_
      rintro e w7 ⟨rfl, b7⟩
      go_wp2_with fail
      refine (HA.out _).mono ?_
      rintro e w8 ⟨rfl, b8⟩
      go_wp2_with fail
      go_ret
      exact ⟨rfl, below_tr (HP.out.held.lo.trans (b7.mono HP.out.held.lo.size)) b8⟩
    · have hrl : r < H.length := by omega
      have hrz : (r : Int) < (H.length : Int) := by omega
      clear hr0
      obtain ⟨_, hf1⟩ := own_form HP.out.held.row
      obtain ⟨gT, rfl⟩ := hf1 (by omega)
      obtain ⟨_, hf2⟩ := own_form HP.out.held.rowG
      obtain ⟨gQ, rfl⟩ := hf2 (by omega)
      clear hf1 hf2
      have HC : Hid (∀ (N2 : Nat → Prop) w2 m E1 E2, Stale K w w2 a N2 g (some ⟨gT, 0, none⟩) c (some ⟨gQ, 0, none⟩) d H b1 b2 m E1 E2 → w2.cell? ⟨gT, r, none⟩ = some (.int .u64 (H[r] : Int)) ∧ w2.cell? ⟨gQ, r, none⟩ = some (.bool (g.at H[r]).isNone)) := by
        intro N2 w2 m E1 E2 h
        have e1 := h.held.row.cellAt r (by omega)
        have e2 := h.held.rowG.cellAt r (by omega)
        rw [List.getElem?_map, List.getElem?_eq_getElem hrl] at e1 e2
        exact ⟨e1, e2⟩
      have HY := Lib.hid (HP.out.held.small H[r] (List.getElem_mem hrl))
      have HY0 := Lib.hid (old_pos (HT.out.old H[r] (List.getElem_mem hrl)))
      have HU2 := Lib.hid (HU.out.step hrl (.lit (.int .i64 1)))
      have HU3 := Lib.hid (HU.out.2 H[r] (unmet_new HT.out.nodup hrl))
      have HV2 := Lib.hid (fun pp (h : g.at H[r] = some pp) => HV.out.step hrl h (.lit (.int .i64 1)))
      have HV3 := Lib.hid (fun pp (h : g.at H[r] = some pp) => HV.out.2 pp (untaken_new HP.out.held.ok HT.out.nodup hrl h))
      have HV4 := Lib.hid (HV.out.none hrl)
      have HST := Lib.hid (holds_step (g := g) hrl)
      have HPL := Lib.hid (fun (N2 : Nat → Prop) w2 (h : K.At N2 w2 a g) => K.place H[r] h HP.out.held.ok (by omega) HY.out)
      generalize H[r] = y at *
      have hy0 : ((y : Int) == 0) = false := by rw [beq_eq_false_iff_ne]; have := HY0.out; omega
      have hwf : (Lit.int .u64 (y : Int)).wf = true := by
        have := HY.out
        simp [Lit.wf, IntKind.min, IntKind.max, IntKind.signed, IntKind.bits]
        omega
      have HKM := Lib.hid (keyOf_int_mk Try.underlying35 hwf)
      obtain ⟨c1, hrun1, hat1, _⟩ := HP.out.m1.lookup_int lawM Try.underlying54 Try.underlying3 (zeroI _) HKM.out
      rw [HU3.out] at hat1
      obtain rfl : c1 = 0 := by simpa using hat1.symm
      obtain ⟨k1, k2⟩ := HC.out _ _ _ _ _ HP.out
      clear hat1 hwf
      go_wp2_with (at_mapUpdate; refine wpList_mapUpdate_own _ rfl _ _ _ 54 rfl 35 3 lawM Try.underlying54 _ b1 (2 * r) D1 rfl HP.out.m1 (by unfold maxLen; omega) _ _ _ rfl rfl HKM.out (.lit (.int .i64 1)) [] (plainElem_int Try.underlying3 (by decide)) ?_; intro w2 own2 gr2)
      have HP2 := Lib.hid (HP.out.put1 own2 gr2 (by omega : 2 * r ≤ 2 * r + 1))
      have HM1 := Lib.hid (atKey_put_same HU.out.1 (k := .int .u64 (y : Int)) trivial (.lit (.int .i64 1)) (.lit (.int .i64 0)))
      obtain ⟨E1, HE1⟩ : ∃ E1, Hid (D1.put (.int .u64 (y : Int)) (.lit (.int .i64 1)) = E1) := ⟨_, Lib.hid rfl⟩
      rw [HE1.out] at HP2 HM1 HU2
      clear own2 gr2 HE1 k1 k2 hrun1 HP HU HU3
      cases ho : g.at y with
      | none =>
        have ho2 : placeOf g.ts g.l y = none := ho
        rw [ho2] at HPL
        have HKG := Lib.hid (fun (N2 : Nat → Prop) w2 (h : K.At N2 w2 a g) => K.give_no y h HP2.out.held.ok (by omega) HY.out ho2)
        have hh : g.holds y = false := by unfold Gh.holds; rw [ho]; rfl
        rw [hh] at HST
        rw [ho] at HC
        clear ho ho2 hh HV2 HV3
        refine (HPL.out _ _ HP2.out.held.at_).mono ?_
        rintro e w3 ⟨rfl, b3⟩
        have HP3 := Lib.hid (HP2.out.below b3)
        obtain ⟨c1, hrun1, hat1, _⟩ := HP3.out.m1.lookup_int lawM Try.underlying54 Try.underlying3 (zeroI _) HKM.out
        rw [HM1.out] at hat1
        obtain rfl : c1 = 1 := by simpa using hat1.symm
        obtain ⟨k1, k2⟩ := HC.out _ _ _ _ _ HP3.out
        simp only [Option.isNone_none] at k2
        clear b3 HP2 HPL hat1
        unfold placeV
        simp only [Option.getD_none, Option.isSome_none]
        go_wp2_with fail
        refine (HKG.out _ _ HP3.out.held.at_).mono ?_
        rintro e w4 ⟨rfl, t⟩
        obtain ⟨N4, P4⟩ := HP3.out.went t
        have HP4 := Lib.hid P4
        rw [show ((40 : Nat) : Int) = 40 from rfl]
        clear t P4 HP3 k1 k2 hrun1 HKG
        have HR : Hid (((H.take r).countP g.holds : Nat) = (H.take (r + 1)).countP g.holds) := by show _ = _; rw [HST.out]; simp
        go_wp2_with fail
        go_roundg (H.length - (r + 1))
        case measure => omega
        case rel => exact ⟨r + 1, rfl, by omega, by rw [HR.out], by go_num, ⟨N4, E1, D2, HU2.out, HV4.out, { HP4.out with m1 := HP4.out.m1.mono (by omega), m2 := HP4.out.m2.mono (by omega) }⟩⟩
      | some pp =>
        have ho2 : placeOf g.ts g.l y = some pp := ho
        rw [ho2] at HPL
        have ok := HP2.out.held.ok
        have hhd := (at_iff ok).1 ho
        have hp10 : pp < 10 := by
          have h1 := (hd_lt ok hhd).2
          have h2 := ok.fits
          have h3 := HROOM.out
          omega
        have HKH := Lib.hid (fun (N2 : Nat → Prop) w2 (h : K.At N2 w2 a g) => K.handle pp h ok (by omega) (by omega))
        rw [hhd] at HKH
        have hh : g.holds y = true := by unfold Gh.holds; rw [ho]; rfl
        rw [hh] at HST
        have HW2 := Lib.hid (HV2.out pp ho)
        have HW3 := Lib.hid (HV3.out pp ho)
        rw [ho] at HC
        clear ho ho2 hh HV2 HV3 HV4 hhd ok
        have hwf : (Lit.int .i64 (pp : Int)).wf = true := by
          simp [Lit.wf, IntKind.min, IntKind.max, IntKind.signed, IntKind.bits]
          omega
        have HKP := Lib.hid (keyOf_int_mk Try.underlying3 hwf)
        clear hwf
        have hcl : (H.take r).countP g.holds ≤ 60 := Nat.le_trans List.countP_le_length (by rw [List.length_take]; omega)
        have hwz : wrap64 (((H.take r).countP g.holds : Nat) + 1 : Int) = (((H.take r).countP g.holds : Nat) + 1 : Int) := by unfold wrap64; omega
        refine (HPL.out _ _ HP2.out.held.at_).mono ?_
        rintro e w3 ⟨rfl, b3⟩
        have HP3 := Lib.hid (HP2.out.below b3)
        obtain ⟨c1, hrun1, hat1, _⟩ := HP3.out.m1.lookup_int lawM Try.underlying54 Try.underlying3 (zeroI _) HKM.out
        rw [HM1.out] at hat1
        obtain rfl : c1 = 1 := by simpa using hat1.symm
        obtain ⟨c2, hrun2, hat2, _⟩ := HP3.out.m2.lookup_int lawP Try.underlying55 Try.underlying3 (zeroI _) HKP.out
        rw [HW3.out] at hat2
        obtain rfl : c2 = 0 := by simpa using hat2.symm
        obtain ⟨k1, k2⟩ := HC.out _ _ _ _ _ HP3.out
        simp only [Option.isNone_some] at k2
        have hz0 : ¬ (pp : Int) < 0 := by omega
        have hz9 : ¬ (9 : Int) < (pp : Int) := by omega
        clear b3 HP2 HPL hat1 hat2
        unfold placeV
        simp only [Option.getD_some, Option.isSome_some]
        go_wp2_with (at_mapUpdate; refine wpList_mapUpdate_own _ rfl _ _ _ 55 rfl 3 3 lawP Try.underlying55 _ b2 (2 * r + 1) D2 rfl HP3.out.m2 (by unfold maxLen; omega) _ _ _ rfl rfl HKP.out (.lit (.int .i64 1)) [] (plainElem_int Try.underlying3 (by decide)) ?_; intro w4 own4 gr4)
        have HP4 := Lib.hid (HP3.out.put2 own4 gr4 (by omega : 2 * r + 1 ≤ 2 * r + 1 + 1))
        have HM2 := Lib.hid (atKey_put_same HV.out.1 (k := .int .i64 (pp : Int)) trivial (.lit (.int .i64 1)) (.lit (.int .i64 0)))
        obtain ⟨E2, HE2⟩ : ∃ E2, Hid (D2.put (.int .i64 (pp : Int)) (.lit (.int .i64 1)) = E2) := ⟨_, Lib.hid rfl⟩
        rw [HE2.out] at HP4 HM2 HW2
        clear own4 gr4 HE2 k1 k2 hrun1 hrun2 HP3 HV HW3
        refine (HKH.out _ _ HP4.out.held.at_).mono ?_
        rintro e w5 ⟨rfl, b5⟩
        have HP5 := Lib.hid (HP4.out.below b5)
        obtain ⟨c2, hrun2, hat2, _⟩ := HP5.out.m2.lookup_int lawP Try.underlying55 Try.underlying3 (zeroI _) HKP.out
        rw [HM2.out] at hat2
        obtain rfl : c2 = 1 := by simpa using hat2.symm
        clear b5 HP4 HKH hat2
        unfold HdOut
        simp only [Option.getD_some, Option.isSome_some]
        go_wp2_with fail
        go_roundg (H.length - (r + 1))
        case measure => omega
        case rel => exact ⟨r + 1, rfl, by omega, by rw [HST.out]; rfl, by go_num, ⟨N, E1, E2, HU2.out, HW2.out, HP5.out⟩⟩

end Go.Proofs.Ytacienpjoegclaa
