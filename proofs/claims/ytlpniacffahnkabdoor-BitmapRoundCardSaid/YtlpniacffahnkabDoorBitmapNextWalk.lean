/-
  BitmapNext, walked.
-/
import Derived.Test.YtlpniacffahnkabDoorBitPlay
namespace Go.Proofs.YtlpniacffahnkabDoor
open Go.RowKit Go.Maps
set_option linter.unusedVariables false

theorem nat_u16' {x : Int} (h : (Lit.int .u16 x).wf = true) : ∃ n : Nat, x = (n : Int) ∧ n < 65536 := by
  simp [Lit.wf, IntKind.min, IntKind.max, IntKind.signed, IntKind.bits] at h
  exact ⟨x.toNat, by omega, by omega⟩
theorem i64_of {x : Int} (h : (Lit.int .i64 x).wf = true) : -9223372036854775808 ≤ x ∧ x ≤ 9223372036854775807 := by
  simp [Lit.wf, IntKind.min, IntKind.max, IntKind.signed, IntKind.bits] at h
  omega
/-- Below w.heap.size w w' -/
theorem bitmapNext_walk (a0 : Int) (a1 : Option Addr) (len1 cap1 : Nat) (z1 : List (List Value)) (fr : Int) (w : World) (w0 : (Lit.int .u16 a0).wf = true) (w1 : RowOf [some .u16] w a1 len1 cap1 z1) (w2 : (Lit.int .i64 fr).wf = true) (hT : Tab w) :
    Calls Tryd.prog 4 #[.int .u16 a0, .slice a1 len1 cap1, .int .i64 fr] w fun e w' => e = .returned (.bool true) ∧ Below w.heap.size w w' := by
  obtain ⟨x, rfl, hx⟩ := nat_u16' w0
  obtain ⟨hf1, hf2⟩ := i64_of w2
  obtain ⟨f, hf⟩ := u16_row w1
  have HP := Lib.hid (play x hx a1 len1 cap1 z1 w w1 f hf)
  have HT := Lib.hid hT
  clear w0 w2 hT hf w1
  go_enter Tryd.func4, Tryd.ntmps4
  go_wp2_with fail
  refine HP.out.mono ?_
  rintro e W0 ⟨a, bm, D, rfl, h0, hM⟩
  have HM := Lib.hid hM
  generalize playG f (1 + x) (min len1 60) = g at *
  generalize min len1 60 = nn at *
  have HN := Lib.hid (h0.next HT.out fr hf1 hf2)
  clear HP hM h0
  go_upto_region 3 with (go_at_call 15; refine HN.out.mono ?_; rintro e W1 ⟨o, ho, rfl, h1⟩)
  have HO := Lib.hid ho
  have H1 := Lib.hid h1
  clear ho h1 HN
  go_cut [51] (fun v51 wx => v51 = .bool false ∧ Hid (PSt w wx a g bm nn D))
  case first =>
    cases o with
    | none =>
      go_wp2_with fail
      go_meet
      exact ⟨rfl, H1⟩
    | some i =>
      have hi := HO.out
      have hin := H1.out.in_ i hi.1
      have hsm := H1.out.small
      have hhas : hasB g (i : Int) = true := hasB_iff.2 ⟨by omega, by omega, by simpa using hi.1⟩
      have HH := Lib.hid (H1.out.has (i : Int))
      rw [hhas] at HH
      have hlf : ¬ (i : Int) < fr := by have := hi.2.1; omega
      have hat0 := HM.out.at_ (i : Int)
      rw [if_pos ⟨by omega, by simpa using hi.1⟩] at hat0
      have HKP := Lib.hid (key_int (wf_small (x := i) (by omega)))
      have HAT := Lib.hid hat0
      clear hi hhas hat0 hin hsm
      go_wp2_with fail
      refine HH.out.mono ?_
      rintro e W2 ⟨rfl, h2⟩
      obtain ⟨c1, hrun1, hat1, _⟩ := h2.map.lookup_int lawP Tryd.underlying46 Tryd.underlying3 (zeroI _) HKP.out
      obtain rfl : c1 = 1 := by
        have := hat1.symm.trans HAT.out
        simpa using this
      have H2 := Lib.hid h2
      clear h2 hat1 HH HKP HAT H1
      go_wp2_with fail
      go_meet
      exact ⟨by rw [decide_eq_false (show ¬ (i : Int) < fr by omega)], H2⟩
  case rest =>
    obtain ⟨rfl, H2⟩ := hcut
    clear H1
    have H2lo := H2.out.lo.size
    go_wp2_with (at_range; refine wpList_range_own _ rfl _ 46 rfl 3 3 lawP Tryd.underlying46 _ bm nn D rfl H2.out.map ?_; intro w3 hrg0 hg0 hs0)
    go_frame
    have HR0 := Lib.hid hrg0
    have HB0 : Hid (Below wc.heap.size wc w3) := Lib.hid ⟨hg0.os, hg0.tape, hg0.output, hg0.size, fun k hk => hg0.block k hk (by simp)⟩
    clear hrg0 hg0 hs0
    go_loopg [12] (Maps.size D) (fun s v12 wx => ∃ left cnt, cnt = s ∧ Hid (wx.ranges Tryd.prog 3 (plainElem Tryd.prog 3) bm wc.heap.size nn D left cnt) ∧ Hid (∀ kl, left kl = true → Maps.has D kl = true) ∧ Hid (Below wc.heap.size wc wx))
    case atStart => exact ⟨_, _, rfl, HR0, Lib.hid fun kl h => h, HB0⟩
    case round =>
      clear HR0 HB0
      obtain ⟨left, cnt, rfl, HR, HL, HB⟩ := hrel
      go_wp2_with (at_next; refine wpList_next_ranges_ii _ rfl _ rfl 3 3 .i64 .i64 lawP Tryd.underlying3 Tryd.underlying3 bm wc.heap.size nn D left cnt rfl HR.out ?_ ?_)
      · intro hc0 hl0
        have H4 := Lib.hid (H2.out.below HB.out)
        have HLn := Lib.hid H4.out.bst.len
        have hml := fun ty => H4.out.map.len (t := 46) (e := 3) Tryd.underlying46 ty
        have hsz := HM.out.size
        have HA := Lib.hid (awake8 wr (HT.out.below H4.out.lo))
        have HL4 := Lib.hid H4.out.lo
        rw [hsz] at hml
        clear hc0 hl0 HR HL HB H2 HO HM hsz H4
        go_wp2_with fail
        refine HLn.out.mono ?_
        rintro e W5 ⟨rfl, rfl⟩
        go_wp2_with fail
        refine HA.out.mono ?_
        rintro e W6 ⟨rfl, b6⟩
        go_wp2_with fail
        go_ret
        exact ⟨rfl, below_tr HL4.out b6⟩
      · intro x' c w' cnt' hwx hwc hlx hat hrg hlt hg1 hs1 hen
        have hD := HL.out _ hlx
        rw [HM.out.has] at hD
        simp only [Bool.and_eq_true, decide_eq_true_eq] at hD
        obtain ⟨hx0, hxm⟩ := hD
        have HR' := Lib.hid hrg
        have HL' : Hid (∀ kl, (left kl && !kl.sameKey (.int .i64 x')) = true → Maps.has D kl = true) := Lib.hid fun kl h => HL.out kl (by simp at h; exact h.1)
        have HB' : Hid (Below wc.heap.size wc w') := Lib.hid (HB.out.trans ⟨hg1.os, hg1.tape, hg1.output, hg1.size, fun k hk => hg1.block k (Nat.lt_of_lt_of_le hk HB.out.size) (fun e => by cases e; omega)⟩)
        have ho := HO.out
        clear HR HL HB hwx hwc hlx hat hrg hg1 hs1 HM H2
        by_cases c1 : fr ≤ x'
        · cases o with
          | none => exact absurd (by omega : fr ≤ ((x'.toNat : Nat) : Int)) (ho x'.toNat hxm)
          | some i =>
            have c2 : ¬ x' < (i : Int) := by have := ho.2.2 x'.toNat hxm (by omega); omega
            clear ho hxm
            go_wp2_with fail
            go_roundg cnt'
            case measure => exact hlt
            case rel => exact ⟨_, cnt', rfl, HR', HL', HB'⟩
        · clear ho hxm
          go_wp2_with fail
          go_roundg cnt'
          case measure => exact hlt
          case rel => exact ⟨_, cnt', rfl, HR', HL', HB'⟩

end Go.Proofs.YtlpniacffahnkabDoor
