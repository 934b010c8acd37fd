/-
  WalkSweep's walk.
-/
import Derived.Test.YtfedjeojanpnpabWalkSweepFacts
import Derived.Test.YtfedjeojanpnpabWalkThroughSt
import Derived.Test.YtfedjeojanpnpabKeyMap
namespace Go.Proofs.Ytfedjeojanpnpab
open Go.RowKit Go.Maps
set_option linter.unusedVariables false
set_option linter.unusedSimpArgs false

abbrev swB (kb : Nat) (k : Ky) : Nat × TypeId × Array Value := (kb, 27, #[.int .u64 (k.at_ : Int), .int .u64 (k.seq : Int)])
section
variable {K : TreeK} {w W : World} {a : Addr} {l : List En} {bx : List (Nat × TypeId × Array Value)} {rs : List (Value × List En)} {mb n : Nat} {D : DataW Unit}
theorem StM.sweep (h : StM K w W a l bx rs mb n D) (k : Ky) (hk : k.Fits) (st : Int) {X : List En} (hX : (roundL k l).take st.toNat = X) {s : Nat} (hs : X.length = s) {kn : Ky} (hkn : lastK X k = kn) : Calls Try.prog 15 #[.pointer (some a), kyV k, .int .i64 st] W fun e W' => ∃ p c, e = .returned (.tuple #[.slice p s c, kyV kn]) ∧ Hid (StM K w W' a l bx ((.slice p s c, X) :: rs) mb n D) := by
  obtain ⟨M, hR⟩ := h.st.reads
  have hl := h.st.len
  refine (walk_sweep hR (by omega) k hk st).mono ?_
  rintro e W' ⟨p, c, rfl, r, b⟩
  have hlen : ((roundL k l).take st.toNat).length ≤ 200 := by rw [List.length_take, round_len]; omega
  rw [hX] at r hlen ⊢
  subst hs
  rw [hkn]
  exact ⟨p, c, rfl, Lib.hid (h.told r rfl b hlen)⟩
theorem StM.box (h : StM K w W a l bx rs mb n D) {b : Nat × TypeId × Array Value} (hb : b ∈ bx) : Box W b.1 b.2.1 b.2.2 := h.st.box hb
end

set_option maxHeartbeats 8000000 in
set_option maxRecDepth 100000 in
theorem walkSweep_core (K : TreeK) {A : Option Addr} {len cap : Nat} {ks : List Ky} (k : Ky) (hk : k.Fits) (nn : Nat) (hnn : nn < 256) (w : World) (hks : KeysAt w A len cap ks)
    (HA : Hid (∀ w : World, Calls Try.prog 23 #[] w fun e w' => e = .returned (.bool true) ∧ Below w.heap.size w w')) :
    Calls Try.prog 5 #[.slice A len cap, kyV k, .int .u8 (nn : Int)] w fun e w' => e = .returned (.bool true) ∧ Below w.heap.size w w' := by
  unfold kyV
  obtain ⟨W, HW⟩ : ∃ W, Hid (w.alloc (.cells #[.int .u64 (k.at_ : Int), .int .u64 (k.seq : Int)] 27) = W) := ⟨_, Lib.hid rfl⟩
  have b1 : Below w.heap.size w W := by rw [← HW.out]; exact (Below.refl _ w).alloc (Nat.le_refl _) _
  have bK : Box W w.heap.size 27 #[.int .u64 (k.at_ : Int), .int .u64 (k.seq : Int)] := by rw [← HW.out]; exact Box.new _ _ _
  have R0 := Lib.hid (law_of K (hks.later b1))
  have HB := Lib.hid (And.intro b1 bK)
  clear b1 bK hks
  go_enter Try.func5, Try.ntmps5
  go_upto_region 1 with fail
  rw [HW.out]
  go_upto_region 2 with (go_at_call 14; refine R0.out.mono ?_; rintro e W1 hO; obtain ⟨b1, bK⟩ := HB.out; obtain ⟨a, p, c, rfl, s1⟩ := st_of' (bx := [swB w.heap.size k]) b1 (fun b hb => by rw [List.mem_singleton.1 hb]; exact ⟨Nat.le_refl _, bK⟩) hO; clear hO R0 HB b1 bK)
  obtain ⟨L, HL⟩ : ∃ L, Hid (ofL ks = L) := ⟨_, Lib.hid rfl⟩
  rw [HL.out] at s1 ⊢
  obtain ⟨kb, HH⟩ : ∃ kb, Hid (w.heap.size = kb) := ⟨_, Lib.hid rfl⟩
  rw [HH.out] at s1 ⊢
  obtain ⟨W2, HW2⟩ : ∃ W2, Hid (W1.alloc (.cells #[.slice p L.length c, .int .i64 60] 41) = W2) := ⟨_, Lib.hid rfl⟩
  have s2 : St K w W2 a L [swB kb k] [] := by rw [← HW2.out]; exact (s1.below ((Below.refl _ _).alloc (Nat.le_refl _) _)).forget (fun b hb => hb) (fun r hr => (by cases hr))
  rw [HW2.out]
  have RA := Lib.hid s2.all
  obtain ⟨n, HN⟩ : ∃ n, Hid (L.length = n) := ⟨_, Lib.hid rfl⟩
  rw [HN.out] at RA ⊢
  have hn60 : n ≤ 60 := by rw [← HN.out]; exact s2.len
  have HRi := Lib.hid s2.rises
  have HFi := Lib.hid s2.fits
  clear s1 s2 HW HL HW2
  obtain ⟨r, Hr⟩ : ∃ r, Hid (nn % 20 = r) := ⟨_, Lib.hid rfl⟩
  have hr20 : r < 20 := by rw [← Hr.out]; exact Nat.mod_lt _ (by omega)
  have hr3 : Int.tmod (nn : Int) 20 = (r : Int) := by rw [← Hr.out]; rfl
  have hr4 : (nn : Int) % 20 = (r : Int) := by rw [← Hr.out]; rfl
  go_upto_region 3 with (go_at_call 11; refine RA.out.mono ?_; rintro e W3 ⟨pw, cw, rfl, s3⟩)
  have S3 := Lib.hid s3
  have hm3 := World.ownsMap_made W3 Try.prog 27 (plainElem (H := Unit) Try.prog 3)
  have S4 : Hid (StM K w (W3.alloc (.map #[] 0)) a L [swB kb k] [(.slice pw n cw, L)] W3.heap.size 0 (.map [])) := Lib.hid (S3.out.mapped ((Below.refl _ _).alloc (Nat.le_refl _) _) hm3 (Nat.le_refl _))
  clear s3 RA S3 hm3 hr3 hr4 Hr
  have hmm := @run_makeMap Try.prog
  go_upto_region 4 with fail
  clear hmm
  obtain ⟨mb, HMB⟩ : ∃ mb, Hid (W3.heap.size = mb) := ⟨_, Lib.hid rfl⟩
  obtain ⟨W4, HW4⟩ : ∃ W4, Hid (W3.alloc (.map #[] 0) = W4) := ⟨_, Lib.hid rfl⟩
  rw [HW4.out, HMB.out] at S4
  rw [HW4.out, HMB.out]
  clear HW4 HMB
  obtain ⟨R, HR⟩ : ∃ R, Hid (roundL k L = R) := ⟨_, Lib.hid rfl⟩
  have HT0 : Hid (Turn7 L R n k 0) := Lib.hid (by rw [← HR.out, ← HN.out]; exact turn_start L k)
  have HRF : Hid (R.Pairwise (fun x y => x.key ≠ y.key) ∧ (∀ e, e ∈ R → e.Fits) ∧ R.length = n) := Lib.hid (by
    rw [← HR.out]
    exact ⟨round_apart HRi.out k, fun e he => HFi.out e (round_mem.1 he), by rw [round_len]; exact HN.out⟩)
  have HM0 : Hid (ReadsK (.map []) R n 0 0) := Lib.hid (readsK_start R n)
  have HKF0 := Lib.hid hk
  obtain ⟨st, HSt⟩ : ∃ st, Hid (1 + r = st) := ⟨_, Lib.hid rfl⟩
  have hst0 : 0 < st ∧ st ≤ 20 := by rw [← HSt.out]; omega
  have hste : (1 : Int) + (r : Int) = (st : Int) := by rw [← HSt.out]; omega
  rw [hste]
  clear hste HSt HR hk hr20
  go_upto_region 5 with fail
  go_loopg [12] (2 * n + 20) (fun sz v12 wx => ∃ (T aa q m : Nat) (kc : Ky) (D : DataW Unit), 2 * n + 20 - T = sz ∧ T ≤ 2 * n + 20 ∧ v12 = .int .i64 (T : Int) ∧ T = n * aa + q ∧ (q < n ∨ (n = 0 ∧ q = 0)) ∧ m ≤ T ∧ Hid (StM K w wx a L [swB kb kc] [(.slice pw n cw, L)] mb m D) ∧ Hid (Turn7 L R n kc T) ∧ Hid (ReadsK D R n aa q) ∧ Hid kc.Fits)
  case atStart => exact ⟨0, 0, 0, 0, k, _, by omega, by omega, rfl, by omega, by omega, Nat.le_refl _, S4, HT0, HM0, HKF0⟩
  case round =>
    obtain ⟨T, aa, q, m, kc, D, rfl, hT, rfl, hTe, hq, hmT, HS, HTu, HRe, HKF⟩ := hrel
    have HTe := Lib.hid hTe
    have HQ := Lib.hid hq
    clear S4 HT0 HM0 HKF0 hTe hq
    have bk : Box wr kb 27 #[.int .u64 (kc.at_ : Int), .int .u64 (kc.seq : Int)] := HS.out.box (b := swB kb kc) (by simp)
    have k0 := bk.cell 0
    have k1 := bk.cell 1
    by_cases hdone : 2 * n ≤ T
    · have hz : ¬ (T : Int) < 2 * (n : Int) := by omega
      have hsz : Maps.size D = n := by
        rw [HRe.out.size]
        have h1 := HTe.out
        split
        · rename_i h
          subst h
          rw [Nat.mul_zero, Nat.zero_add] at h1
          have := HQ.out
          omega
        · rfl
      have RS0 := Lib.hid (HS.out.sweep kc HKF.out (0 : Int) (X := []) rfl (s := 0) rfl (kn := kc) rfl)
      unfold kyV at RS0
      have hszi : ((Maps.size D : Nat) : Int) = (n : Int) := by rw [hsz]
      have HSz := Lib.hid hszi
      clear hsz hszi bk HS HRe HTu
      go_upto_region 19 with (go_at_call 15; refine RS0.out.mono ?_; rintro e V ⟨px, cx, rfl, sV⟩; have sE := Lib.hid (sV.out.alloc #[.int .u64 (kc.at_ : Int), .int .u64 (kc.seq : Int)] 27); have hl1 := (sV.out.box (b := swB kb kc) (by simp)).lt; clear k0 k1 sV)
      obtain ⟨nb, HNB⟩ : ∃ nb, Hid (V.heap.size = nb) := ⟨_, Lib.hid rfl⟩
      obtain ⟨W6, HW6⟩ : ∃ W6, Hid (V.alloc (.cells #[.int .u64 (kc.at_ : Int), .int .u64 (kc.seq : Int)] 27) = W6) := ⟨_, Lib.hid rfl⟩
      rw [HW6.out, HNB.out] at sE
      rw [HW6.out, HNB.out]
      have bk : Box W6 kb 27 #[.int .u64 (kc.at_ : Int), .int .u64 (kc.seq : Int)] := sE.out.box (b := swB kb kc) (by simp)
      have bn : Box W6 nb 27 #[.int .u64 (kc.at_ : Int), .int .u64 (kc.seq : Int)] := sE.out.box (b := swB nb kc) (by simp)
      have k0 := bk.cell 0
      have k1 := bk.cell 1
      have y0 := bn.cell 0
      have y1 := bn.cell 1
      have hszz := HSz.out
      have K9 := Lib.hid (HA.out W6)
      clear HW6 HNB bk bn hl1 RS0
      go_wp2_with (first | (at_len; refine wpList_len_own _ rfl _ 24 rfl 27 3 Try.underlying24 _ mb m D rfl sE.out.map ?_) | (go_at_call 23; refine K9.out.mono ?_; rintro e W9 ⟨rfl, b9⟩; have HB9 := Lib.hid (below_tr sE.out.st.lo b9); clear b9))
      go_ret
      exact ⟨rfl, HB9.out⟩
    · have hz : (T : Int) < 2 * (n : Int) := by omega
      have hn0 : 0 < n := by omega
      obtain ⟨s, Hs⟩ : ∃ s, Hid (min st n = s) := ⟨_, Lib.hid rfl⟩
      have hs1 : 0 < s ∧ s ≤ n ∧ s ≤ st := by have := Hs.out; omega
      have HTn := Lib.hid (turn_step HTu.out HRi.out hs1.1 hs1.2.1)
      obtain ⟨X, HX⟩ : ∃ X, Hid ((roundL kc L).take s = X) := ⟨_, Lib.hid rfl⟩
      have hXl : X.length = s := by rw [← HX.out, List.length_take, HTu.out.len]; omega
      have hX2 : (roundL kc L).take ((st : Int)).toNat = X := by
        rw [Int.toNat_natCast, ← HX.out]
        by_cases c : st ≤ n
        · rw [show s = st by have := Hs.out; omega]
        · rw [List.take_of_length_le (by rw [HTu.out.len]; omega), List.take_of_length_le (by rw [HTu.out.len]; have := Hs.out; omega)]
      have hXF : ∀ e, e ∈ X → e.Fits := fun e he => HFi.out e (round_mem.1 (List.mem_of_mem_take (by rw [HX.out]; exact he)))
      rw [HX.out] at HTn
      obtain ⟨z, hz1, hz2⟩ : ∃ z, X[s - 1]? = some z ∧ lastK X kc = z.key := by
        have h9 : X.getLast? = some (X[s - 1]'(by omega)) := by
          rw [List.getLast?_eq_getElem?, show X.length - 1 = s - 1 by omega]
          exact List.getElem?_eq_getElem _
        refine ⟨X[s - 1]'(by omega), List.getElem?_eq_getElem _, ?_⟩
        unfold lastK
        rw [h9]
        rfl
      have hzF := hXF z (List.mem_of_getElem? hz1)
      rw [hz2] at HTn
      have RS := Lib.hid (HS.out.sweep kc HKF.out (st : Int) hX2 hXl hz2)
      unfold kyV at RS
      have HXs := Lib.hid (And.intro hXl (And.intro hz1 hXF))
      have HZF := Lib.hid hzF.1
      clear hX2 hXl hz1 hz2 hXF hzF bk
      go_upto_region 7 with (go_at_call 15; refine RS.out.mono ?_; rintro e V ⟨px, cx, rfl, sV⟩; have sE := Lib.hid (sV.out.alloc #[.int .u64 (z.key.at_ : Int), .int .u64 (z.key.seq : Int)] 27); have hl1 := (sV.out.box (b := swB kb kc) (by simp)).lt; clear k0 k1 sV)
      obtain ⟨nb, HNB⟩ : ∃ nb, Hid (V.heap.size = nb) := ⟨_, Lib.hid rfl⟩
      obtain ⟨W6, HW6⟩ : ∃ W6, Hid (V.alloc (.cells #[.int .u64 (z.key.at_ : Int), .int .u64 (z.key.seq : Int)] 27) = W6) := ⟨_, Lib.hid rfl⟩
      rw [HW6.out, HNB.out] at sE
      rw [HW6.out, HNB.out]
      have hkn : kb < nb := by rw [← HNB.out]; exact hl1
      clear HW6 HNB RS HS hl1
      obtain ⟨gx, hgx, hgl, x0, x1, x2⟩ := en_cells (p := px) (c := cx) (l := X) (n := s) (i := s - 1) (sE.out.st.row (r := (.slice px s cx, X)) (by simp)) (by rw [HXs.out.1]; omega)
      subst hgx
      clear x2 hgl
      obtain ⟨s', hs'⟩ : ∃ s', s = s' + 1 := ⟨s - 1, by omega⟩
      have hz3 : X[s - 1]'(by rw [HXs.out.1]; omega) = z := Option.some.inj ((List.getElem?_eq_getElem _).symm.trans HXs.out.2.1)
      rw [hz3] at x0 x1
      subst hs'
      have bn : Box W6 nb 27 #[.int .u64 (z.key.at_ : Int), .int .u64 (z.key.seq : Int)] := sE.out.box (b := (nb, 27, #[.int .u64 (z.key.at_ : Int), .int .u64 (z.key.seq : Int)])) (by simp)
      have y0 := bn.cell 0
      have y1 := bn.cell 1
      simp only [Nat.add_sub_cancel] at x0 x1
      have hwl : IntKind.i64.wrap ((s' : Int) + 1 - 1) = (s' : Int) := by rw [IntKind.wrap_i64]; omega
      have hne0 : (((s' : Int) + 1) == 0) = false := by rw [beq_eq_false_iff_ne]; omega
      have hlt0 : (s' : Int) < (s' : Int) + 1 := by omega
      have hge0 : (0 : Int) ≤ (s' : Int) := by omega
      clear bn hz3
      go_cut [65] (fun v65 wx => v65 = .bool false ∧ ∃ k9, wx = W6.drewN k9)
      case first =>
        clear HXs HTn HX HTu HRe sE
        by_cases c : st ≤ n
        · obtain rfl : st = s' + 1 := by have := Hs.out; omega
          have hc : ¬ (n : Int) < (s' : Int) + 1 := by omega
          clear Hs hs1
          go_quiet (fail)
          go_wp2_with fail
          go_meet
          exact ⟨rfl, _, rfl⟩
        · obtain rfl : n = s' + 1 := by have := Hs.out; omega
          have hc : (s' : Int) + 1 < (st : Int) := by omega
          clear Hs hs1
          go_quiet (fail)
          go_wp2_with fail
          go_meet
          exact ⟨rfl, _, rfl⟩
      case rest =>
        obtain ⟨rfl, k9, rfl⟩ := hcut
        have HS9 : Hid (StM K w (W6.drewN k9) a L [swB nb z.key, swB kb kc] [(.slice (some ⟨gx, 0, none⟩) (s' + 1) cx, X), (.slice pw n cw, L)] mb m D) := Lib.hid (sE.out.below (below_drewN (Below.refl _ _) _))
        obtain ⟨W9, HW9⟩ : ∃ W9, Hid (W6.drewN k9 = W9) := ⟨_, Lib.hid rfl⟩
        rw [HW9.out] at HS9
        rw [HW9.out]
        clear sE x0 x1 y0 y1 hwl hne0 hlt0 hge0 HW9
        have hqn : q < n := by have := HQ.out; omega
        have hI0 : Hid (T = T + 0 ∧ T = n * aa + q ∧ q < n) := Lib.hid ⟨rfl, HTe.out, hqn⟩
        go_wp2_with fail
        go_loopg [12, 68] (s' + 1) (fun sz v12 v68 wx => ∃ (i T' aa' q' m' : Nat) (D' : DataW Unit), i + sz = s' + 1 ∧ v12 = .int .i64 (T' : Int) ∧ v68 = .int .i64 (i : Int) ∧ Hid (T' = T + i ∧ T' = n * aa' + q' ∧ q' < n) ∧ m' ≤ T' ∧ T' ≤ 200 ∧ Hid (StM K w wx a L [swB nb z.key, swB kb kc] [(.slice (some ⟨gx, 0, none⟩) (s' + 1) cx, X), (.slice pw n cw, L)] mb m' D') ∧ Hid (ReadsK D' R n aa' q'))
        case atStart => exact ⟨0, T, aa, q, m, D, by omega, rfl, rfl, hI0, hmT, by omega, HS9, HRe⟩
        case round =>
          obtain ⟨i, T', aa', q', m', D', his, rfl, rfl, HI, hm', hT200, HSi, HRi'⟩ := hrel
          clear HS9 hI0 HRe hqn
          have b2 : Box wr nb 27 #[.int .u64 (z.key.at_ : Int), .int .u64 (z.key.seq : Int)] := HSi.out.box (b := swB nb z.key) (by simp)
          by_cases hend : i = s' + 1
          · have hiz : ¬ (i : Int) < (s' : Int) + 1 := by omega
            have y0 := b2.cell 0
            have y1 := b2.cell 1
            have bk : Box wr kb 27 #[.int .u64 (kc.at_ : Int), .int .u64 (kc.seq : Int)] := HSi.out.box (b := swB kb kc) (by simp)
            have k0 := bk.cell 0
            have k1 := bk.cell 1
            have f0 := bk.frozen 0
            have f1 := bk.frozen 1
            have s7 := Lib.hid ((HSi.out.forget (bx' := [swB kb kc]) (rs' := [(.slice pw n cw, L)]) (by simp) (by simp)).set2 (fun b hb => by cases hb) (.int .u64 (z.key.at_ : Int)) (.int .u64 (z.key.seq : Int)))
            have hTT := HI.out.1
            have HTn2 : Hid (Turn7 L R n z.key T') := Lib.hid (by rw [hTT, hend]; exact HTn.out)
            have hTb : T' ≤ 2 * n + 20 := by omega
            have hTl : 2 * n + 20 - T' < 2 * n + 20 - T := by omega
            clear bk b2 hTT
            go_wp2_with fail
            go_roundg (2 * n + 20 - T')
            case measure => exact hTl
            case rel => exact ⟨T', aa', q', m', z.key, D', rfl, hTb, rfl, HI.out.2.1, .inl HI.out.2.2, hm', s7, HTn2, HRi', HZF⟩
          · have hiz : (i : Int) < (s' : Int) + 1 := by omega
            have hil : i < s' + 1 := by omega
            have hqR : q' < R.length := by rw [HRF.out.2.2]; exact HI.out.2.2
            have hiX : i < X.length := by rw [HXs.out.1]; omega
            have hEq : X[i] = R[q'] := by
              have h1 := turn_told HTu.out hs1.2.1 hil HI.out.2.2 (HI.out.1.symm.trans HI.out.2.1)
              rw [HX.out, List.getElem?_eq_getElem hiX, List.getElem?_eq_getElem hqR] at h1
              exact Option.some.inj h1
            obtain ⟨g2, hg2, hg3, x0, x1, x2⟩ := en_cells (p := some ⟨gx, 0, none⟩) (c := cx) (l := X) (n := s' + 1) (i := i) (HSi.out.st.row (r := (.slice (some ⟨gx, 0, none⟩) (s' + 1) cx, X)) (by simp)) hiX
            cases hg2
            rw [hEq] at x0 x1 x2
            have hyF := HRF.out.2.1 _ (List.getElem_mem hqR)
            have HLk := Lib.hid (fun (W : World) (hm : MapAt W mb m' D') => readsK_run HRi'.out hqR hyF.1 hm)
            have HPut := Lib.hid (readsK_put HRi'.out HRF.out.1 HRF.out.2.1 HRF.out.2.2 hqR)
            have HKey := Lib.hid (ky_key hyF.1)
            obtain ⟨y, HY⟩ : ∃ y, Hid (R[q'] = y) := ⟨_, Lib.hid rfl⟩
            rw [HY.out] at x0 x1 x2 HLk HPut HKey
            have hnum := next_num (n := n) (a := aa') (q := q') (T := T') HI.out.2.2 HI.out.2.1
            have hdv0 : T' / n = aa' := by
              rw [HI.out.2.1, Nat.mul_add_div hn0, Nat.div_eq_of_lt HI.out.2.2, Nat.add_zero]
            have haa : aa' ≤ 200 := by rw [← hdv0]; exact Nat.le_trans (Nat.div_le_self _ _) hT200
            have hdv : Int.tdiv (T' : Int) (n : Int) = (aa' : Int) := by rw [← hdv0]; rfl
            have hdv2 : (T' : Int) / (n : Int) = (aa' : Int) := by rw [← hdv0]; rfl
            have hnz : (n : Int) ≠ 0 := by omega
            have HNum := Lib.hid (And.intro hnum hdv0)
            have sA := HSi.out.alloc #[.int .u64 (y.key.at_ : Int), .int .u64 (y.key.seq : Int), .int .i64 y.val] 52
            clear hg3 hEq hyF hnum hdv0 b2 HSi
            go_upto_region 12 with fail
            obtain ⟨eb, HEB⟩ : ∃ eb, Hid (wr.heap.size = eb) := ⟨_, Lib.hid rfl⟩
            obtain ⟨W8, HW8⟩ : ∃ W8, Hid (wr.alloc (.cells #[.int .u64 (y.key.at_ : Int), .int .u64 (y.key.seq : Int), .int .i64 y.val] 52) = W8) := ⟨_, Lib.hid rfl⟩
            rw [HW8.out, HEB.out] at sA
            rw [HW8.out, HEB.out]
            have SA := Lib.hid sA
            have be : Box W8 eb 52 #[.int .u64 (y.key.at_ : Int), .int .u64 (y.key.seq : Int), .int .i64 y.val] := sA.box (b := (eb, 52, #[.int .u64 (y.key.at_ : Int), .int .u64 (y.key.seq : Int), .int .i64 y.val])) (by simp)
            have e0 := be.cell 0
            have e1 := be.cell 1
            have hr0 := HLk.out W8 SA.out.map
            have hr1 := fun j => HLk.out (W8.drewN j) (map_below SA.out.map (below_drewN (Below.refl _ _) j))
            have hr2 := HLk.out W8.drew (map_below SA.out.map (Below.refl _ _).drew)
            clear x0 x1 x2 sA HW8 HEB
            go_quiet (fail)
            have SB0 := Lib.hid (SA.out.below (below_drewN (Below.refl _ _) nq))
            obtain ⟨W9, HW9⟩ : ∃ W9, Hid (W8.drewN nq = W9) := ⟨_, Lib.hid rfl⟩
            rw [HW9.out] at SB0
            rw [HW9.out]
            clear be e0 e1 hr0 hr1 hr2 HW9 SA hdv hdv2 hnz
            have be : Box W9 eb 52 #[.int .u64 (y.key.at_ : Int), .int .u64 (y.key.seq : Int), .int .i64 y.val] := SB0.out.box (b := (eb, 52, #[.int .u64 (y.key.at_ : Int), .int .u64 (y.key.seq : Int), .int .i64 y.val])) (by simp)
            have e0 := be.cell 0
            have e1 := be.cell 1
            have hwf : (Lit.int .i64 ((aa' : Int) + 1)).wf = true := by
              simp [Lit.wf, IntKind.min, IntKind.max, IntKind.signed, IntKind.bits]
              omega
            have hwr : IntKind.i64.wrap ((aa' : Int) + 1) = (aa' : Int) + 1 := by rw [IntKind.wrap_i64]; omega
            have hw2 : IntKind.i64.wrap ((T' : Int) + 1) = ((T' + 1 : Nat) : Int) := by rw [IntKind.wrap_i64]; omega
            have hw3 : IntKind.i64.wrap ((i : Int) + 1) = ((i + 1 : Nat) : Int) := by rw [IntKind.wrap_i64]; omega
            have hat := HRi'.out.at_ q' hqR
            rw [HY.out] at hat
            simp only [cntK, Nat.lt_irrefl, if_false, Nat.add_zero] at hat
            have hm9 : MapAt W9.drew mb m' D' := map_below SB0.out.map (Below.refl _ _).drew
            have hl0 := HLk.out W9.drew hm9
            obtain ⟨sx, w3, he1, own3, gr3, hst⟩ := entry_own hm9 lawK Try.underlying24 Try.underlying3 (zeroI _) HKey.out (by unfold maxLen; omega) hat
            obtain ⟨c4, hl1, hat1, _⟩ := own3.lookup_int lawK Try.underlying24 Try.underlying3 (zeroI _) HKey.out
            rw [atKey_put_same (HRi'.out.tidy.isMap) (show WideAt.IsKeyLit (klit y.key) from trivial)] at hat1
            obtain rfl : (aa' : Int) = c4 := by simpa using hat1
            obtain ⟨w4, he2, own4, gr4⟩ := hst _ hwf
            have SC := Lib.hid ((SB0.out.below (Below.refl _ _).drew).put own4 gr4)
            clear hat hst hwf own3 gr3 own4 gr4 hat1 hm9 be
            go_upto_region 14 with fail
            go_region
            go_wp2_with fail
            go_roundg (s' + 1 - (i + 1))
            case measure => omega
            case rel => exact ⟨i + 1, T' + 1, nextA n aa' q', nextQ n q', m' + 1, _, by omega, by go_num, by go_num, Lib.hid ⟨by have := HI.out.1; omega, HNum.out.1.2, HNum.out.1.1⟩, by omega, by have := HI.out.1; omega, Lib.hid (SC.out.forget (by simp) (fun r hr => hr)), HPut⟩

end Go.Proofs.Ytfedjeojanpnpab
