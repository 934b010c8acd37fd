/-
  WalkThrough's walk: a key that is there all the time is told, whatever others come and go.
-/
import Derived.Test.YtlpniacffahnkaaWalkThroughSt
namespace Go.Proofs.Ytlpniacffahnkaa
open Go.RowKit
set_option linter.unusedVariables false

theorem ahead_lt {m : Ky} {l : List En} (h : ∃ e, e ∈ l ∧ e.key = m) : ahead m l + 1 ≤ l.length := by
  obtain ⟨C, d, D, rfl, h1, h2⟩ := first_at m l h
  rw [ahead_stop h1 h2]
  simp
/-- What a sweep of a round brings, whatever key is there beside. -/
def Nearer (m kc : Ky) (L0 : List En) (j : Nat) (fl : Bool) (x : Ky) (L' : List En) : Prop :=
  x.Fits ∧ (fl = true → j < 30) ∧ ∀ s, 0 < s → (∀ e, e ∈ (roundL kc L').take s → e.key ≠ m) →
    (fl = true → delL x L' = L0 ∧ (getL x L').isSome = true ∧ ahead m (roundL (lastK ((roundL kc L').take s) kc) L0) ≤ ahead m (roundL kc L0)) ∧
    (fl = false → L' = L0 ∧ ahead m (roundL (lastK ((roundL kc L').take s) kc) L0) + 1 ≤ ahead m (roundL kc L0))
theorem nearer_none {m kc : Ky} {L0 : List En} {j : Nat} (h : Rises L0) (hm : ∃ e, e ∈ L0 ∧ e.key = m) : Nearer m kc L0 j false ⟨0, 0⟩ L0 :=
  ⟨⟨by decide, by decide⟩, fun h => (by cases h), fun s hs hno => ⟨fun h => (by cases h), fun _ => ⟨rfl, sweep_none h hm hs hno⟩⟩⟩
theorem nearer_put {m kc x : Ky} {L0 : List En} {j : Nat} (h : Rises L0) (hm : ∃ e, e ∈ L0 ∧ e.key = m) (hl : L0.length < 60) (hx : x.Fits) (hj : j < 30) : Nearer m kc L0 j (decide (putE 60 L0 x = 0)) x (putL 60 L0 x (-1)) := by
  refine ⟨hx, fun _ => hj, fun s hs hno => ?_⟩
  obtain ⟨k1, k2⟩ := extra_step h hm hs hl hno
  constructor
  · intro h0
    exact k1 (by simpa using h0)
  · intro h0
    have h0' : putE 60 L0 x ≠ 0 := by simpa using h0
    obtain ⟨e1, e2⟩ := k2 h0'
    rw [e1]
    exact ⟨rfl, e2⟩
abbrev kyA (k : Ky) : Array Value := #[.int .u64 (k.at_ : Int), .int .u64 (k.seq : Int)]
set_option maxHeartbeats 4000000 in
set_option maxRecDepth 100000 in
theorem walkThrough_core (K : TreeK) {A B : Option Addr} {len cap blen bcap : Nat} {ks os : List Ky} (which n : Nat) (hw : which < 256) (hn : n < 256) (w : World) (hk : KeysAt w A len cap ks) (ho : KeysAt w B blen bcap os)
    (HA : Hid (∀ w : World, Calls Try.prog 25 #[] w fun e w' => e = .returned (.bool true) ∧ Below w.heap.size w w')) :
    Calls Try.prog 6 #[.slice A len cap, .int .u8 (which : Int), .slice B blen bcap, .int .u8 (n : Int)] w fun e w' => e = .returned (.bool true) ∧ Below w.heap.size w w' := by
  have hlc := hk.le
  have hcap := hk.cap
  have hlb := ho.le
  have hcb := ho.cap
  obtain ⟨m, Hm⟩ : ∃ m, Hid (min len 30 = m) := ⟨_, Lib.hid rfl⟩
  have hm1 : m ≤ len := by have := Hm.out; omega
  have hm2 : m ≤ 30 := by have := Hm.out; omega
  have R0 := Lib.hid (law_of K (hk.cut hm1))
  have HO := Lib.hid ho
  have HL30 : Hid ((ofL (ks.take m)).length ≤ 30) := Lib.hid (by
    have h1 := of_len (ks.take m)
    have h2 : (ks.take m).length ≤ 30 := by rw [List.length_take]; omega
    omega)
  obtain ⟨L0, HL0⟩ : ∃ L0, Hid (ofL (ks.take m) = L0) := ⟨_, Lib.hid rfl⟩
  have R1 : Hid (Calls Try.prog 16 #[.slice A m cap] w fun e W' => ∃ a p c, e = .returned (.tuple #[.pointer (some a), .agg #[.slice p L0.length c, .int .i64 60]]) ∧ Hid (St K w W' a L0 [] [])) := by
    refine Lib.hid (R0.out.mono ?_)
    rintro e W' h
    obtain ⟨a, p, c, rfl, s⟩ := st_of (Below.refl _ _) h
    rw [HL0.out] at s ⊢
    exact ⟨a, p, c, rfl, Lib.hid (s.forget (fun b hb => hb) (fun r hr => (by cases hr)))⟩
  rw [HL0.out] at HL30
  clear hk ho R0 HL0
  go_enter Try.func6, Try.ntmps6
  go_upto_region 1 with fail
  go_cut [9] (fun v9 wx => ∃ a, v9 = .pointer (some a) ∧ Hid (St K w wx a L0 [] []))
  case first =>
    by_cases h30 : 30 < len
    · have h30z : (30 : Int) < (len : Int) := by omega
      obtain rfl : m = 30 := by have := Hm.out; omega
      go_wp2_with (go_at_call 16; refine R1.out.mono ?_; rintro e W1 ⟨a, p, c, rfl, s⟩; have s2 := Lib.hid (s.out.below ((Below.refl _ _).alloc (Nat.le_refl _) (.cells #[.slice p L0.length c, .int .i64 60] 41))))
      go_meet
      exact ⟨a, rfl, s2⟩
    · have h30z : ¬ (30 : Int) < (len : Int) := by omega
      obtain rfl : m = len := by have := Hm.out; omega
      go_wp2_with (go_at_call 16; refine R1.out.mono ?_; rintro e W1 ⟨a, p, c, rfl, s⟩; have s2 := Lib.hid (s.out.below ((Below.refl _ _).alloc (Nat.le_refl _) (.cells #[.slice p L0.length c, .int .i64 60] 41))))
      go_meet
      exact ⟨a, rfl, s2⟩
  case rest =>
    obtain ⟨a, rfl, s1⟩ := hcut
    clear R1 Hm hm1 hm2
    have RA := Lib.hid s1.out.all
    obtain ⟨n0, HN0⟩ : ∃ n0, Hid (L0.length = n0) := ⟨_, Lib.hid rfl⟩
    rw [HN0.out] at RA HL30
    go_upto_region 3 with (go_at_call 13; refine RA.out.mono ?_; rintro e W2 ⟨p, c, rfl, s2⟩)
    clear RA s1
    replace s2 := Lib.hid s2
    by_cases hz : n0 = 0
    · subst hz
      go_wp2_with fail
      refine (HA.out _).mono ?_
      rintro e w99 ⟨rfl, b99⟩
      have HB := Lib.hid (below_tr s2.out.lo b99)
      clear b99
      go_wp2_with fail
      go_ret
      exact ⟨rfl, HB.out⟩
    · have hz1 : ((n0 : Int) == 0) = false := by rw [beq_eq_false_iff_ne]; omega
      have hz2 : (n0 : Int) ≠ 0 := by omega
      obtain ⟨i, Hi⟩ : ∃ i, Hid (which % n0 = i) := ⟨_, Lib.hid rfl⟩
      have hi : i < n0 := by rw [← Hi.out]; exact Nat.mod_lt _ (by omega)
      have hr1 : Int.tmod (which : Int) (n0 : Int) = (i : Int) := by rw [← Hi.out]; rfl
      have hr2 : (which : Int) % (n0 : Int) = (i : Int) := by rw [← Hi.out]; rfl
      obtain ⟨r, Hr⟩ : ∃ r, Hid (n % 10 = r) := ⟨_, Lib.hid rfl⟩
      have hr : r < 10 := by rw [← Hr.out]; exact Nat.mod_lt _ (by omega)
      have hr3 : Int.tmod (n : Int) 10 = (r : Int) := by rw [← Hr.out]; rfl
      have hr4 : (n : Int) % 10 = (r : Int) := by rw [← Hr.out]; rfl
      obtain ⟨g, hg, hgl, e0, e1, e2⟩ := en_cells (p := p) (c := c) (l := L0) (n := n0) (i := i) (by have := s2.out.row List.mem_cons_self; rw [HN0.out] at this ⊢; exact this) (by rw [HN0.out]; exact hi)
      subst hg
      obtain ⟨y, HY⟩ : ∃ y, Hid (L0[i]'(by rw [HN0.out]; exact hi) = y) := ⟨_, Lib.hid rfl⟩
      rw [HY.out] at e0 e1
      clear e2 hgl
      have s3 := (s2.out.alloc (kyA y.key) 27).alloc (kyA y.key) 27
      simp only [World.size_alloc] at s3
      go_upto_region 7 with fail
      obtain ⟨mb, HMB⟩ : ∃ mb, Hid (W2.heap.size = mb) := ⟨_, Lib.hid rfl⟩
      obtain ⟨W3, HW3⟩ : ∃ W3, Hid ((W2.alloc (.cells #[.int .u64 (y.key.at_ : Int), .int .u64 (y.key.seq : Int)] 27)).alloc (.cells #[.int .u64 (y.key.at_ : Int), .int .u64 (y.key.seq : Int)] 27) = W3) := ⟨_, Lib.hid rfl⟩
      unfold kyA at s3
      rw [HW3.out, HMB.out] at s3
      rw [HW3.out, HMB.out]
      have S0 : Hid (St K w W3 a L0 [(mb + 1, 27, kyA y.key), (mb, 27, kyA y.key)] []) := Lib.hid (s3.forget (by simp) (by simp))
      have hmem : y ∈ L0 := by rw [← HY.out]; exact List.getElem_mem _
      have HM : Hid (∃ e, e ∈ L0 ∧ e.key = y.key) := Lib.hid ⟨y, hmem, rfl⟩
      have HYF := Lib.hid (s2.out.fits y hmem)
      have HRi := Lib.hid s2.out.rises
      have HF0 : Hid (y.key.Fits ∧ ahead y.key (roundL y.key L0) + (0 - 30) + 1 ≤ n0) := Lib.hid ⟨HYF.out.1, by
        have := ahead_lt (m := y.key) (l := roundL y.key L0) ⟨y, round_mem.2 hmem, rfl⟩
        rw [round_len, HN0.out] at this
        omega⟩
      clear s2 s3 e0 e1 hr1 hr2 hr3 hr4 HW3 HMB hmem HY Hi Hr hi
      have hl30 := HL30.out
      go_upto_block 0 with fail
      go_wp2_with fail
      go_loopg [56] (n0 + 30) (fun k v56 wx => ∃ (j : Nat) (kc : Ky), j + k = n0 + 30 ∧ v56 = .int .i64 (j : Int) ∧ Hid (St K w wx a L0 [(mb + 1, 27, kyA kc), (mb, 27, kyA y.key)] []) ∧ Hid (kc.Fits ∧ ahead y.key (roundL kc L0) + (j - 30) + 1 ≤ n0))
      case atStart => exact ⟨0, y.key, by omega, rfl, S0, HF0⟩
      case round =>
        obtain ⟨j, kc, hjk, rfl, HS, HF⟩ := hrel
        clear S0 HF0
        have hjn : j < n0 + 30 := by have := HF.out.2; omega
        have hjz : (j : Int) < (n0 : Int) + 30 := by omega
        have s1 := HS.out.alloc #[.int .u64 0, .int .u64 0] 27
        obtain ⟨ob, HOB⟩ : ∃ ob, Hid (wr.heap.size = ob) := ⟨_, Lib.hid rfl⟩
        obtain ⟨W4, HW4⟩ : ∃ W4, Hid (wr.alloc (.cells #[.int .u64 0, .int .u64 0] 27) = W4) := ⟨_, Lib.hid rfl⟩
        rw [HW4.out, HOB.out] at s1
        have hob : mb + 1 < ob := by
          rw [← HOB.out]
          exact (HS.out.box (b := (mb + 1, 27, kyA kc)) (by simp)).lt
        have HS1 := Lib.hid s1
        clear s1 HS
        go_upto_region 12 with fail
        rw [HW4.out, HOB.out]
        clear HW4 HOB
        go_cut [63] (fun v63 wx => v63 = .bool (decide (j < min blen 30)) ∧ wx = W4)
        case first =>
          by_cases h30 : 30 < blen
          · have h30z : (30 : Int) < (blen : Int) := by omega
            by_cases hj30 : j < 30
            · have hj30z : (j : Int) < 30 := by omega
              have HE : Hid (decide (j < min blen 30) = true) := Lib.hid (decide_eq_true (by omega))
              go_wp2_with fail
              go_meet
              exact ⟨by rw [HE.out], rfl⟩
            · have hj30z : ¬ (j : Int) < 30 := by omega
              have HE : Hid (decide (j < min blen 30) = false) := Lib.hid (decide_eq_false (by omega))
              go_wp2_with fail
              go_meet
              exact ⟨by rw [HE.out], rfl⟩
          · have h30z : ¬ (30 : Int) < (blen : Int) := by omega
            by_cases hj30 : j < blen
            · have hj30z : (j : Int) < (blen : Int) := by omega
              have HE : Hid (decide (j < min blen 30) = true) := Lib.hid (decide_eq_true (by omega))
              go_wp2_with fail
              go_meet
              exact ⟨by rw [HE.out], rfl⟩
            · have hj30z : ¬ (j : Int) < (blen : Int) := by omega
              have HE : Hid (decide (j < min blen 30) = false) := Lib.hid (decide_eq_false (by omega))
              go_wp2_with fail
              go_meet
              exact ⟨by rw [HE.out], rfl⟩
        case rest =>
          obtain ⟨rfl, rfl⟩ := hcut
          go_upto_if 63 with fail
          go_cut [17] (fun v17 wx => ∃ (fl : Bool) (x : Ky) (L' : List En), v17 = .bool fl ∧ Hid (St K w wx a L' [(ob, 27, kyA x), (mb + 1, 27, kyA kc), (mb, 27, kyA y.key)] []) ∧ Hid (Nearer y.key kc L0 j fl x L'))
          case first =>
            by_cases hb : j < min blen 30
            · have hjb : j < blen := by omega
              have hj30 : j < 30 := by omega
              have hjbz : (j : Int) < (blen : Int) := by omega
              rw [decide_eq_true hb]
              obtain ⟨x, hx⟩ : ∃ x, os[j]? = some x := ⟨_, List.getElem?_eq_getElem (by rw [HO.out.len]; exact hjb)⟩
              have hxf := HO.out.fits x (List.mem_of_getElem? hx)
              obtain ⟨ad, rfl, hc⟩ := HO.out.at_ j x hx
              obtain ⟨o0, o1⟩ := hc wc HS1.out.lo
              have bo := HS1.out.box (b := (ob, 27, #[.int .u64 0, .int .u64 0])) (by simp)
              have p0 := bo.cell 0
              have p1 := bo.cell 1
              have f0 := bo.frozen 0
              have f1 := bo.frozen 1
              have s5 := HS1.out.set2 (fun b hb => by simp at hb; rcases hb with rfl | rfl <;> simp <;> omega) (.int .u64 (x.at_ : Int)) (.int .u64 (x.seq : Int))
              have b5 := s5.box (b := (ob, 27, #[.int .u64 (x.at_ : Int), .int .u64 (x.seq : Int)])) (by simp)
              have q0 := b5.cell 0
              have q1 := b5.cell 1
              have HP := Lib.hid (s5.put x (-1) hxf ⟨by decide, by decide⟩)
              unfold kyV at HP
              have HNx := Lib.hid (nearer_put (kc := kc) (j := j) HRi.out HM.out (by rw [HN0.out]; omega) hxf hj30)
              obtain ⟨pe, HPE⟩ : ∃ pe, Hid (putE 60 L0 x = pe) := ⟨_, Lib.hid rfl⟩
              rw [HPE.out] at HP HNx
              clear hx hxf hc bo s5 b5 hb
              go_wp2_with (go_at_call 11; refine HP.out.mono ?_; rintro e W5 ⟨rfl, s6⟩; have HS6 := Lib.hid s6; clear s6 q0 q1)
              go_meet
              have hpe : ((pe : Int) == 0) = decide (pe = 0) := by
                by_cases h : pe = 0
                · subst h; rfl
                · rw [decide_eq_false h, beq_eq_false_iff_ne]; omega
              exact ⟨decide (pe = 0), x, putL 60 L0 x (-1), by rw [hpe], HS6, HNx⟩
            · rw [decide_eq_false hb]
              have HNx := Lib.hid (nearer_none (kc := kc) (j := j) HRi.out HM.out)
              go_wp2_with fail
              go_meet
              exact ⟨false, ⟨0, 0⟩, L0, rfl, HS1, HNx⟩
          case rest =>
            obtain ⟨fl, x, L', rfl, HS2, HX⟩ := hcut
            clear HS1
            have hkf := HF.out.1
            have bk := HS2.out.box (b := (mb + 1, 27, kyA kc)) (by simp)
            have k0 := bk.cell 0
            have k1 := bk.cell 1
            have hs1 : ((1 : Int) + (r : Int)).toNat = r + 1 := by omega
            have RS := HS2.out.sweep kc hkf (1 + (r : Int))
            rw [hs1] at RS
            have HXn := Lib.hid (HX.out.2.2 (r + 1) (by omega))
            have HXx := Lib.hid (And.intro HX.out.1 HX.out.2.1)
            have HXL : Hid (((roundL kc L').take (r + 1)).length ≤ 200 ∧ ∀ e, e ∈ (roundL kc L').take (r + 1) → e.Fits) := Lib.hid ⟨by
              rw [List.length_take, round_len]
              have := HS2.out.len
              omega, fun e he => HS2.out.fits e (round_mem.1 (List.mem_of_mem_take he))⟩
            obtain ⟨X, HXX⟩ : ∃ X, Hid ((roundL kc L').take (r + 1) = X) := ⟨_, Lib.hid rfl⟩
            rw [HXX.out] at RS HXn HXL
            have hknf : (lastK X kc).Fits := by
              unfold lastK
              cases hl : X.getLast? with
              | none => exact hkf
              | some e => exact (HXL.out.2 e (List.mem_of_getLast? hl)).1
            obtain ⟨kn, HKN⟩ : ∃ kn, Hid (lastK X kc = kn) := ⟨_, Lib.hid rfl⟩
            rw [HKN.out] at RS HXn hknf
            replace RS := Lib.hid RS
            unfold kyV at RS
            obtain ⟨nx, HNX⟩ : ∃ nx, Hid (X.length = nx) := ⟨_, Lib.hid rfl⟩
            rw [HNX.out] at RS
            have hnx : nx ≤ 200 := by rw [← HNX.out]; exact HXL.out.1
            clear HX bk hs1 hkf HXX HKN
            go_upto_region 16 with (go_at_call 17; refine RS.out.mono ?_; rintro e V ⟨px, cx, rfl, sV⟩; have sE := sV.alloc #[.int .u64 (kn.at_ : Int), .int .u64 (kn.seq : Int)] 27; have hl1 := (sV.box (b := (mb + 1, 27, kyA kc)) (by simp)).lt; have hl2 := (sV.box (b := (ob, 27, kyA x)) (by simp)).lt; clear k0 k1 sV)
            obtain ⟨eb, HEB⟩ : ∃ eb, Hid (V.heap.size = eb) := ⟨_, Lib.hid rfl⟩
            obtain ⟨W6, HW6⟩ : ∃ W6, Hid (V.alloc (.cells #[.int .u64 (kn.at_ : Int), .int .u64 (kn.seq : Int)] 27) = W6) := ⟨_, Lib.hid rfl⟩
            rw [HW6.out, HEB.out] at sE
            rw [HW6.out, HEB.out]
            have hebl : mb + 1 < eb ∧ ob < eb := by
              rw [← HEB.out]
              exact ⟨hl1, hl2⟩
            clear hl1 hl2
            replace sE := Lib.hid sE
            clear HW6 HEB RS HS2
            go_upto_block 2 with fail
            go_wp2_with fail
            go_loopg [81] nx (fun k v81 wx => ∃ i : Nat, i + k = nx ∧ v81 = .int .i64 (i : Int) ∧ Hid (St K w wx a L' [(eb, 27, kyA kn), (ob, 27, kyA x), (mb + 1, 27, kyA kc), (mb, 27, kyA y.key)] [(.slice px nx cx, X)]) ∧ Hid (∀ e, e ∈ X.take i → e.key ≠ y.key))
            case atStart => exact ⟨0, by omega, rfl, sE, Lib.hid (fun e he => (by cases he))⟩
            case round =>
              obtain ⟨i, hik, rfl, HSi, HNo⟩ := hrel
              clear sE
              by_cases hiz : i = nx
              · have hizz : ¬ (i : Int) < (nx : Int) := by omega
                subst hiz
                have HNo' : Hid (∀ e, e ∈ X → e.key ≠ y.key) := Lib.hid (fun e he => HNo.out e (by rw [← HNX.out, List.take_length]; exact he))
                obtain ⟨hT, hFf⟩ := HXn.out HNo'.out
                have be := HSi.out.box (b := (eb, 27, kyA kn)) (by simp)
                have e0 := be.cell 0
                have e1 := be.cell 1
                have bk := HSi.out.box (b := (mb + 1, 27, kyA kc)) (by simp)
                have k0 := bk.cell 0
                have k1 := bk.cell 1
                have f0 := bk.frozen 0
                have f1 := bk.frozen 1
                have s7 := (HSi.out.forget (bx' := [(mb + 1, 27, kyA kc), (mb, 27, kyA y.key), (ob, 27, kyA x)]) (rs' := []) (by simp) (by simp)).set2 (fun b hb => by simp at hb; rcases hb with rfl | rfl <;> simp <;> omega) (.int .u64 (kn.at_ : Int)) (.int .u64 (kn.seq : Int))
                have bo := s7.box (b := (ob, 27, kyA x)) (by simp)
                have o0 := bo.cell 0
                have o1 := bo.cell 1
                have HS7 := Lib.hid s7
                have hwr : IntKind.i64.wrap ((j : Int) + 1) = ((j + 1 : Nat) : Int) := by rw [IntKind.wrap_i64]; omega
                clear be bk bo s7 HNo HSi HXn hik
                cases fl with
                | true =>
                  obtain ⟨hd, hsome, hah⟩ := hT rfl
                  have HD := Lib.hid (HS7.out.drop x HXx.out.1)
                  obtain ⟨dv, db, h1, h2, h3⟩ := outI_parts (getL x L')
                  rw [hsome] at h3
                  subst h3
                  rw [h1, hd] at HD
                  unfold kyV at HD
                  have HFin : Hid (kn.Fits ∧ ahead y.key (roundL kn L0) + (j + 1 - 30) + 1 ≤ n0) := Lib.hid ⟨hknf, by have h4 := HF.out.2; have h5 := HXx.out.2 rfl; omega⟩
                  clear hT hFf hd hsome hah h1 h2
                  go_wp2_with (go_at_call 12; refine HD.out.mono ?_; rintro e W8 ⟨rfl, s8⟩; have HS8 := Lib.hid s8; clear s8)
                  go_roundg (n0 + 30 - (j + 1))
                  case measure => omega
                  case rel => exact ⟨j + 1, kn, by omega, by simp, Lib.hid (HS8.out.forget (by simp) (fun r hr => hr)), HFin⟩
                | false =>
                  obtain ⟨hL, hah⟩ := hFf rfl
                  subst hL
                  have HFin : Hid (kn.Fits ∧ ahead y.key (roundL kn L') + (j + 1 - 30) + 1 ≤ n0) := Lib.hid ⟨hknf, by have h4 := HF.out.2; omega⟩
                  clear hT hFf hah
                  go_wp2_with fail
                  go_roundg (n0 + 30 - (j + 1))
                  case measure => omega
                  case rel => exact ⟨j + 1, kn, by omega, by simp, Lib.hid (HS7.out.forget (by simp) (fun r hr => hr)), HFin⟩
              · have hizz : (i : Int) < (nx : Int) := by omega
                have hiX : i < X.length := by rw [HNX.out]; omega
                obtain ⟨gx, hgx, _, x0, x1, x2⟩ := en_cells (p := px) (c := cx) (l := X) (n := nx) (i := i) (by have := HSi.out.row List.mem_cons_self; exact this) hiX
                subst hgx
                obtain ⟨z, HZ⟩ : ∃ z, Hid (X[i]'hiX = z) := ⟨_, Lib.hid rfl⟩
                rw [HZ.out] at x0 x1 x2
                have s8 := HSi.out.alloc #[.int .u64 (z.key.at_ : Int), .int .u64 (z.key.seq : Int), .int .i64 z.val] 52
                have bm := s8.box (b := (mb, 27, kyA y.key)) (by simp)
                have m0 := bm.cell 0
                have m1 := bm.cell 1
                have HS8 := Lib.hid s8
                have hwr : IntKind.i64.wrap ((i : Int) + 1) = ((i + 1 : Nat) : Int) := by rw [IntKind.wrap_i64]; omega
                clear s8 bm
                by_cases hzy : z.key = y.key
                · have q1 : ((z.key.at_ : Int) == (y.key.at_ : Int)) = true := by rw [hzy]; simp
                  have q2 : ((z.key.seq : Int) == (y.key.seq : Int)) = true := by rw [hzy]; simp
                  clear hzy HXn HNo
                  go_wp2_with fail
                  refine (HA.out _).mono ?_
                  rintro e w99 ⟨rfl, b99⟩
                  have HB := Lib.hid (below_tr HS8.out.lo b99)
                  clear b99
                  go_wp2_with fail
                  go_ret
                  exact ⟨rfl, HB.out⟩
                · have HNo2 : Hid (∀ e, e ∈ X.take (i + 1) → e.key ≠ y.key) := Lib.hid (fun e he => by
                    rw [List.take_succ_eq_append_getElem hiX] at he
                    rcases List.mem_append.1 he with h | h
                    · exact HNo.out e h
                    · rw [List.mem_singleton.1 h, HZ.out]
                      exact hzy)
                  have HS9 := Lib.hid (HS8.out.forget (bx' := [(eb, 27, kyA kn), (ob, 27, kyA x), (mb + 1, 27, kyA kc), (mb, 27, kyA y.key)]) (rs' := [(.slice (some ⟨gx, 0, none⟩) nx cx, X)]) (fun b hb => List.mem_cons_of_mem _ hb) (fun r hr => hr))
                  by_cases hat : z.key.at_ = y.key.at_
                  · have q1 : ((z.key.at_ : Int) == (y.key.at_ : Int)) = true := by rw [hat]; simp
                    have q2 : ((z.key.seq : Int) == (y.key.seq : Int)) = false := by
                      rw [beq_eq_false_iff_ne]
                      intro h
                      refine hzy ?_
                      cases hz1 : z.key with
                      | mk za zs =>
                        cases hy1 : y.key with
                        | mk ya ys =>
                          rw [hz1, hy1] at h hat
                          simp only at h hat
                          rw [hat, show zs = ys by omega]
                    clear hzy hat HXn HNo
                    go_wp2_with fail
                    go_roundg (gk - 1)
                    case measure => omega
                    case rel => exact ⟨i + 1, by omega, by simp, HS9, HNo2⟩
                  · have q1 : ((z.key.at_ : Int) == (y.key.at_ : Int)) = false := by rw [beq_eq_false_iff_ne]; omega
                    clear hzy hat HXn HNo
                    go_wp2_with fail
                    go_roundg (gk - 1)
                    case measure => omega
                    case rel => exact ⟨i + 1, by omega, by simp, HS9, HNo2⟩

end Go.Proofs.Ytlpniacffahnkaa
