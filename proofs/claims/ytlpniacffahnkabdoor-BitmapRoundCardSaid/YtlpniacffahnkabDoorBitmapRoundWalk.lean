/-
  BitmapRound, walked.
-/
import Derived.Test.YtlpniacffahnkabDoorBitmapNextWalk
namespace Go.Proofs.YtlpniacffahnkabDoor
open Go.RowKit Go.Maps
set_option linter.unusedVariables false

theorem PSt.round_b {w W : World} {a : Addr} {g : Bg} {bm n : Nat} {D : DataW Unit} (h : PSt w W a g bm n D) (hT : Tab w) (fr : Int) (hf1 : -9223372036854775808 ≤ fr) (hf2 : fr ≤ 9223372036854775807) : Calls Tryd.prog 17 #[.pointer (some a), .int .i64 fr] W fun e W' => (∃ o, IsRound g.m fr o ∧ e = .returned (.tuple #[.int .i64 ((o.getD 0 : Nat) : Int), .bool o.isSome])) ∧ Below W.heap.size W W' := by
  obtain ⟨N, h1, h2, h3, h4, h5, h6⟩ := h
  exact c_round h1 (hT.below h3) fr hf1 hf2
theorem split_at (x : Nat) : ∀ {L : List Nat}, L.Pairwise (· < ·) → ∃ u, u ≤ L.length ∧ (∀ k (h : k < L.length), k < u → L[k] < x) ∧ (∀ k (h : k < L.length), u ≤ k → x ≤ L[k])
  | [], _ => ⟨0, Nat.le_refl _, fun k h => absurd h (by simp), fun k h => absurd h (by simp)⟩
  | a :: l, hp => by
    by_cases c : a < x
    · obtain ⟨u, h1, h2, h3⟩ := split_at x (List.pairwise_cons.1 hp).2
      refine ⟨u + 1, by simpa using h1, fun k h hk => ?_, fun k h hk => ?_⟩
      · cases k with
        | zero => exact c
        | succ k => exact h2 k (by simpa using h) (by omega)
      · cases k with
        | zero => omega
        | succ k => exact h3 k (by simpa using h) (by omega)
    · refine ⟨0, Nat.zero_le _, fun k h hk => absurd hk (by omega), fun k h _ => ?_⟩
      cases k with
      | zero => simpa using Nat.le_of_not_lt c
      | succ k =>
        have hm : l[k]'(by simpa using h) ∈ l := List.getElem_mem _
        have := (List.pairwise_cons.1 hp).1 _ hm
        simp
        omega
/-- Where one stands: u marks are below at, v times it has turned. -/
structure RInv (L : List Nat) (s0 t u v at_ : Nat) : Prop where
  hs : s0 ≤ L.length
  hu : u ≤ L.length
  eq : s0 + t = v * L.length + u
  h1 : 1 ≤ u ∨ v = 0
  lo : ∀ k (h : k < L.length), k < u → L[k] < at_
  hi : ∀ k (h : k < L.length), u ≤ k → at_ ≤ L[k]
def cntR (s0 u v k : Nat) : Int := (v : Int) + (if k < u then 1 else 0) - (if k < s0 then 1 else 0)
theorem cnt_on (s0 u v : Nat) : cntR s0 (u + 1) v u = cntR s0 u v u + 1 := by
  have e1 : (if u < u + 1 then (1 : Int) else 0) = 1 := if_pos (by omega)
  have e2 : (if u < u then (1 : Int) else 0) = 0 := if_neg (by omega)
  unfold cntR
  rw [e1, e2]
  generalize (if u < s0 then (1 : Int) else 0) = z
  omega
theorem cnt_on_ne (s0 u v : Nat) {k : Nat} (h : k ≠ u) : cntR s0 (u + 1) v k = cntR s0 u v k := by
  have e1 : (if k < u + 1 then (1 : Int) else 0) = if k < u then 1 else 0 := by
    by_cases c : k < u
    · rw [if_pos c, if_pos (by omega)]
    · rw [if_neg c, if_neg (by omega)]
  unfold cntR
  rw [e1]
theorem cnt_turn (s0 u v : Nat) (h : 0 < u) : cntR s0 1 (v + 1) 0 = cntR s0 u v 0 + 1 := by
  have e1 : (if 0 < 1 then (1 : Int) else 0) = 1 := if_pos (by omega)
  have e2 : (if 0 < u then (1 : Int) else 0) = 1 := if_pos h
  unfold cntR
  rw [e1, e2]
  generalize (if 0 < s0 then (1 : Int) else 0) = z
  omega
theorem cnt_turn_ne (s0 u v : Nat) {k : Nat} (h : k ≠ 0) (hk : k < u) : cntR s0 1 (v + 1) k = cntR s0 u v k := by
  have e1 : (if k < 1 then (1 : Int) else 0) = 0 := if_neg (by omega)
  have e2 : (if k < u then (1 : Int) else 0) = 1 := if_pos hk
  unfold cntR
  rw [e1, e2]
  generalize (if k < s0 then (1 : Int) else 0) = z
  omega
theorem cnt_pos (s0 u v : Nat) (h : 0 < u) (hv : 1 ≤ v) : 1 ≤ cntR s0 u v 0 := by
  have e2 : (if 0 < u then (1 : Int) else 0) = 1 := if_pos h
  unfold cntR
  rw [e2]
  split <;> omega
theorem rinv_on {L : List Nat} {s0 t u v at_ : Nat} (h : RInv L s0 t u v at_) (hp : L.Pairwise (· < ·)) (hk : u < L.length) : RInv L s0 (t + 1) (u + 1) v (L[u] + 1) := by
  refine ⟨h.hs, by omega, by have := h.eq; omega, .inl (by omega), fun k hk' hku => ?_, fun k hk' hku => ?_⟩
  · by_cases c : k = u
    · subst c; omega
    · have := List.pairwise_iff_getElem.1 hp k u hk' hk (by omega)
      omega
  · have := List.pairwise_iff_getElem.1 hp u k hk hk' (by omega)
    omega
theorem rinv_turn {L : List Nat} {s0 t u v at_ : Nat} (h : RInv L s0 t u v at_) (hp : L.Pairwise (· < ·)) (hk : u = L.length) (h0 : 0 < L.length) : RInv L s0 (t + 1) 1 (v + 1) (L[0] + 1) := by
  refine ⟨h.hs, by omega, by have := h.eq; rw [Nat.succ_mul]; omega, .inl (by omega), fun k hk' hku => ?_, fun k hk' hku => ?_⟩
  · obtain rfl : k = 0 := by omega
    omega
  · have := List.pairwise_iff_getElem.1 hp 0 k h0 hk' (by omega)
    omega
theorem rinv_end {L : List Nat} {s0 u v at_ : Nat} (h : RInv L s0 (2 * L.length) u v at_) (h0 : 0 < L.length) {k : Nat} (hk : k < L.length) : cntR s0 u v k = 2 := by
  have e := h.eq
  have h1 := h.hs
  have h2 := h.hu
  have h3 := h.h1
  generalize L.length = K at *
  have hv0 : v ≠ 0 := by rintro rfl; omega
  have hv3 : v < 3 := by
    apply Classical.byContradiction
    intro c
    have : 3 * K ≤ v * K := Nat.mul_le_mul_right K (by omega)
    omega
  unfold cntR
  have : v = 1 ∨ v = 2 := by omega
  rcases this with rfl | rfl
  · have hs0 : s0 = 0 := by omega
    have hu : u = K := by omega
    rw [if_pos (by omega), if_neg (by omega)]
    rfl
  · have hu : u = s0 := by omega
    rw [hu]
    omega
theorem cnt_small {L : List Nat} {s0 t u v at_ : Nat} (h : RInv L s0 t u v at_) (ht : t < 2 * L.length) (k : Nat) : v ≤ 3 ∧ -1 ≤ cntR s0 u v k ∧ cntR s0 u v k ≤ 4 := by
  have e := h.eq
  have h1 := h.hs
  have hv : v ≤ 3 := by
    apply Classical.byContradiction
    intro c
    have : 4 * L.length ≤ v * L.length := Nat.mul_le_mul_right _ (by omega)
    omega
  unfold cntR
  refine ⟨hv, ?_, ?_⟩ <;> split <;> split <;> omega
/-- The map reads how often each mark was told. -/
def ReadsC (E : DataW Unit) (L : List Nat) (f : Nat → Int) : Prop := IsMap E ∧ ∀ k (h : k < L.length), E.atKey (.int .i64 ((L[k] : Nat) : Int)) (.lit (.int .i64 0)) = .lit (.int .i64 (f k))
theorem readsC_put {E : DataW Unit} {L : List Nat} {f f' : Nat → Int} (h : ReadsC E L f) (hp : L.Pairwise (· < ·)) {i : Nat} (hi : i < L.length) (h1 : f' i = f i + 1) (h2 : ∀ k, k < L.length → k ≠ i → f' k = f k) : ReadsC (E.put (.int .i64 ((L[i] : Nat) : Int)) (.lit (.int .i64 (f i + 1)))) L f' := by
  have hk : WideAt.IsKeyLit (.int .i64 ((L[i] : Nat) : Int)) := trivial
  refine ⟨h.1.put _ _, fun k hk' => ?_⟩
  by_cases c : k = i
  · subst c
    rw [atKey_put_same h.1 hk, h1]
  · have hne : L[k] ≠ L[i] := by
      rcases Nat.lt_or_gt_of_ne c with d | d
      · have := List.pairwise_iff_getElem.1 hp k i hk' hi d; omega
      · have := List.pairwise_iff_getElem.1 hp i k hi hk' d; omega
    rw [atKey_put_other (fun e => hne (by simp at e; omega)), h.2 k hk', h2 k hk' c]
theorem readsC_run {E : DataW Unit} {L : List Nat} {f : Nat → Int} (h : ReadsC E L f) {i : Nat} (hi : i < L.length) (hz : L[i] ≤ 65536) {W : World} {bm n : Nat} (hm : MapAt W bm n E) : (Instr.lookup 46 (.map (some bm)) (.int .i64 ((L[i] : Nat) : Int)) false).run Tryd.prog W = .ok (.int .i64 (f i)) W := by
  obtain ⟨c1, hrun1, hat1, _⟩ := hm.lookup_int lawP Tryd.underlying46 Tryd.underlying3 (zeroI _) (key_int (wf_small hz))
  have := hat1.symm.trans (h.2 i hi)
  simp at this
  rw [hrun1, this]
theorem round_one' {m : Nat → Bool} {fr : Int} {a b : Option Nat} (h : IsRound m fr a) (k : IsRound m fr b) : a = b := by
  rcases h with ⟨h1, h2⟩ | ⟨h1, h2⟩ <;> rcases k with ⟨k1, k2⟩ | ⟨k1, k2⟩
  · exact next_one h1 k1
  · exact absurd (next_one h1 k1) h2
  · exact absurd (next_one k1 h1) k2
  · exact next_one h2 k2
theorem rises_le {L : List Nat} (hp : L.Pairwise (· < ·)) {i k : Nat} (hi : i < L.length) (hk : k < L.length) (h : i ≤ k) : L[i] ≤ L[k] := by
  by_cases c : i = k
  · subst c; exact Nat.le_refl _
  · exact Nat.le_of_lt (List.pairwise_iff_getElem.1 hp i k hi hk (by omega))
theorem told_on {m : Nat → Bool} {L : List Nat} {s0 t u v at_ : Nat} (h : RInv L s0 t u v at_) (hp : L.Pairwise (· < ·)) (hL : ∀ j, m j = true ↔ j ∈ L) (hk : u < L.length) : IsRound m (at_ : Int) (some L[u]) := by
  refine .inl ⟨⟨(hL _).2 (List.getElem_mem _), by have := h.hi u hk (Nat.le_refl _); omega, fun j hj hf => ?_⟩, by simp⟩
  obtain ⟨k, hk', rfl⟩ := List.getElem_of_mem ((hL j).1 hj)
  apply rises_le hp hk hk'
  apply Nat.le_of_not_lt
  intro c
  have := h.lo k hk' c
  omega
theorem told_turn {m : Nat → Bool} {L : List Nat} {s0 t u v at_ : Nat} (h : RInv L s0 t u v at_) (hp : L.Pairwise (· < ·)) (hL : ∀ j, m j = true ↔ j ∈ L) (hk : u = L.length) (h0 : 0 < L.length) : IsRound m (at_ : Int) (some L[0]) := by
  refine .inr ⟨fun j hj hf => ?_, (hL _).2 (List.getElem_mem _), by omega, fun j hj _ => ?_⟩
  · obtain ⟨k, hk', rfl⟩ := List.getElem_of_mem ((hL j).1 hj)
    have := h.lo k hk' (by omega)
    omega
  · obtain ⟨k, hk', rfl⟩ := List.getElem_of_mem ((hL j).1 hj)
    exact rises_le hp h0 hk' (Nat.zero_le _)

set_option maxHeartbeats 8000000 in
set_option maxRecDepth 100000 in
/-- Below w.heap.size w w' -/
theorem bitmapRound_walk (a0 : Int) (a1 : Option Addr) (len1 cap1 : Nat) (z1 : List (List Value)) (pl : Int) (w : World) (w0 : (Lit.int .u16 a0).wf = true) (w1 : RowOf [some .u16] w a1 len1 cap1 z1) (w2 : (Lit.int .u16 pl).wf = true) (hT : Tab w) :
    Calls Tryd.prog 5 #[.int .u16 a0, .slice a1 len1 cap1, .int .u16 pl] w fun e w' => e = .returned (.bool true) ∧ Below w.heap.size w w' := by
  obtain ⟨x, rfl, hx⟩ := nat_u16' w0
  obtain ⟨y, rfl, hy⟩ := nat_u16' w2
  obtain ⟨f, hf⟩ := u16_row w1
  have HP := Lib.hid (play x hx a1 len1 cap1 z1 w w1 f hf)
  have HT := Lib.hid hT
  clear w0 w2 hT hf w1
  obtain ⟨q, hq⟩ : ∃ q, 1 + x = q := ⟨_, rfl⟩
  have hqx : (1 : Int) + (x : Int) = (q : Int) := by omega
  rw [hq] at HP
  have hq1 : 1 ≤ q := by omega
  have hq2 : q ≤ 65536 := by omega
  have hq0 : ((q : Nat) : Int) ≠ 0 := by omega
  obtain ⟨at0, ha0⟩ : ∃ i, y % q = i := ⟨_, rfl⟩
  have hat0 : at0 < q := by rw [← ha0]; exact Nat.mod_lt _ (by omega)
  have hya : (y : Int) % (q : Int) = (at0 : Int) := by rw [← ha0]; simp
  clear hq ha0
  go_enter Tryd.func5, Tryd.ntmps5
  go_wp2_with fail
  refine HP.out.mono ?_
  rintro e W0 ⟨a, bm, D, rfl, h0, hM⟩
  have HM := Lib.hid hM
  have H0 := Lib.hid h0
  obtain ⟨n, HnD⟩ : ∃ n, Hid (min len1 60 = n) := ⟨_, Lib.hid rfl⟩
  obtain ⟨g, HGd⟩ : ∃ g, Hid (playG f q (min len1 60) = g) := ⟨_, Lib.hid rfl⟩
  have hgn : g.n = q := by rw [← HGd.out]; rfl
  rw [HGd.out] at HM H0
  rw [HnD.out] at H0
  clear HP hM h0 HGd HnD
  obtain ⟨L, HLl⟩ : ∃ L, Hid (g.l = L) := ⟨_, Lib.hid rfl⟩
  have HLp : Hid (L.Pairwise (· < ·)) := by
    rw [← HLl.out]
    exact Lib.hid ((List.pairwise_lt_range (n := g.n)).filter _)
  have HLm : Hid (∀ j, g.m j = true ↔ j ∈ L) := by
    rw [← HLl.out]
    refine Lib.hid fun j => ⟨fun h => mem_markL.2 ⟨H0.out.in_ j h, h⟩, fun h => (mem_markL.1 h).2⟩
  have HLs : Hid (∀ k (h : k < L.length), L[k] ≤ 65535) := Lib.hid fun k h => by
    have := H0.out.in_ _ ((HLm.out _).2 (List.getElem_mem h))
    omega
  have hLle : L.length ≤ 65536 := by
    rw [← HLl.out]
    exact Nat.le_trans (markL_le _ _) (by rw [hgn]; exact hq2)
  obtain ⟨s0, hs1, hs2, hs3⟩ := split_at at0 HLp.out
  have HI0 : Hid (RInv L s0 0 s0 0 at0) := Lib.hid ⟨hs1, hs1, by omega, .inr rfl, hs2, hs3⟩
  clear hs2 hs3
  have hml := fun ty W (hb : Below W0.heap.size W0 W) => (map_below H0.out.map hb).len (t := 46) (e := 3) Tryd.underlying46 ty
  have hsz := HM.out.size
  rw [HLl.out] at hsz
  rw [hsz] at hml
  have HML := Lib.hid hml
  clear hml hsz
  have bq := (Below.refl _ W0).alloc (Nat.le_refl _) (.map #[] 0)
  have HBq := Lib.hid bq
  have HE0 := Lib.hid (World.ownsMap_made (H := Unit) W0 Tryd.prog 3 (plainElem Tryd.prog 3))
  have hl1 := fun ty => HML.out ty _ bq
  clear bq
  have hmm := @run_makeMap Tryd.prog
  go_upto_region 4 with fail
  clear hmm
  rw [hya]
  clear hya hq0
  obtain ⟨W1, HW1⟩ : ∃ W1, Hid (W0.alloc (.map #[] 0) = W1) := ⟨_, Lib.hid rfl⟩
  obtain ⟨qb, HQB⟩ : ∃ qb, Hid (W0.heap.size = qb) := ⟨_, Lib.hid rfl⟩
  rw [HW1.out, HQB.out] at HE0
  rw [HW1.out] at HBq hl1
  rw [HW1.out, HQB.out]
  have hqb : W0.heap.size ≤ qb := Nat.le_of_eq HQB.out
  clear HW1 HQB
  go_upto_region 7 with fail
  clear hl1
  go_loopg [10, 12, 13, 36] (2 * L.length) (fun s v10 v12 v13 v36 wx => ∃ (t u v at_ : Nat) (E : DataW Unit), 2 * L.length - t = s ∧ t ≤ 2 * L.length ∧ v10 = .int .i64 (at_ : Int) ∧ v12 = .int .i64 ((at_ : Int) - 1) ∧ v13 = .bool (decide (1 ≤ v)) ∧ v36 = .int .i64 (t : Int) ∧ at_ ≤ 65536 ∧ Hid (RInv L s0 t u v at_) ∧ Hid (ReadsC E L (cntR s0 u v)) ∧ Hid (MapAt wx qb t E) ∧ Hid (Below W0.heap.size W0 wx))
  case atStart => exact ⟨0, s0, 0, at0, _, rfl, by omega, rfl, rfl, rfl, rfl, by omega, HI0, Lib.hid ⟨isMap_empty, fun k h => by simp [cntR, DataW.atKey]⟩, HE0, HBq⟩
  case round =>
    clear HI0 HE0 HBq
    obtain ⟨t, u, v, at_, E, rfl, ht, rfl, rfl, rfl, rfl, hat, HI, HC, HE, HB⟩ := hrel
    have K1 := Lib.hid ((H0.out.below HB.out).round_b HT.out (at_ : Int) (by omega) (by omega))
    by_cases htl : t = 2 * L.length
    · have hz : ¬ (t : Int) < 2 * (L.length : Int) := by omega
      subst htl
      have hl2 := fun ty W (hb : Below W0.heap.size W0 W) => HML.out ty W hb
      have HL2 := Lib.hid hl2
      have H3 := Lib.hid (H0.out.below HB.out)
      have HE3 : Hid (∀ x : Int, Maps.has D (.int .i64 x) = true → ∀ W, MapAt W qb (2 * L.length) E → (Instr.lookup 46 (.map (some qb)) (.int .i64 x) false).run Tryd.prog W = .ok (.int .i64 2) W) := Lib.hid fun x hx W hW => by
        rw [HM.out.has] at hx
        simp only [Bool.and_eq_true, decide_eq_true_eq] at hx
        obtain ⟨k, hk, e⟩ := List.getElem_of_mem ((HLm.out _).1 hx.2)
        have := readsC_run HC.out hk (by have := HLs.out k hk; omega) hW
        rw [rinv_end HI.out (by omega) hk, e, show ((x.toNat : Nat) : Int) = x by omega] at this
        exact this
      have HO : Hid (∀ o, IsRound g.m (at_ : Int) o → o.isSome = decide (0 < L.length)) := Lib.hid fun o ho => by
        by_cases c : 0 < L.length
        · have hx : ∃ i, IsRound g.m (at_ : Int) (some i) := by
            by_cases d : u < L.length
            · exact ⟨_, told_on HI.out HLp.out HLm.out d⟩
            · exact ⟨_, told_turn HI.out HLp.out HLm.out (by have := HI.out.hu; omega) c⟩
          obtain ⟨i, hi⟩ := hx
          rw [round_one' ho hi]
          simp [c]
        · have hno : ∀ j, g.m j = false := fun j => by
            cases e : g.m j
            · rfl
            · have := (HLm.out j).1 e
              have := List.length_pos_of_mem this
              omega
          have hN : ∀ fr, IsNext g.m fr none := fun fr j hj => absurd hj (by simp [hno j])
          have : IsRound g.m (at_ : Int) none := .inr ⟨hN _, hN _⟩
          rw [round_one' ho this]
          simp [c]
      have HEw := HE
      clear hl2 HML HC HI HLm HLs HLp K1 HLl
      go_wp2_with (at_range; refine wpList_range_own _ rfl _ 46 rfl 3 3 lawP Tryd.underlying46 _ bm n D rfl H3.out.map ?_; intro w3 hrg0 hg0 hs0')
      have HR0 := Lib.hid hrg0
      have HB0 : Hid (Below wr.heap.size wr w3) := Lib.hid ⟨hg0.os, hg0.tape, hg0.output, hg0.size, fun k hk => hg0.block k hk (by simp)⟩
      clear hrg0 hg0 hs0'
      obtain ⟨Wc, HWc⟩ : ∃ Wc, Hid (wr = Wc) := ⟨_, Lib.hid rfl⟩
      rw [HWc.out] at HR0 HB0 H3 HB HEw
      rw [HWc.out]
      go_loopg [16] (Maps.size D) (fun s v16 wx => ∃ left cnt, cnt = s ∧ Hid (wx.ranges Tryd.prog 3 (plainElem Tryd.prog 3) bm Wc.heap.size n D left cnt) ∧ Hid (∀ kl, left kl = true → Maps.has D kl = true) ∧ Hid (Below Wc.heap.size Wc wx))
      case atStart => exact ⟨_, _, rfl, HR0, Lib.hid fun kl h => h, HB0⟩
      case round =>
        clear HR0 HB0 HE
        obtain ⟨left, cnt, rfl, HR, HL, HBx⟩ := hrel
        go_wp2_with (at_next; refine wpList_next_ranges_ii _ rfl _ rfl 3 3 .i64 .i64 lawP Tryd.underlying3 Tryd.underlying3 bm Wc.heap.size n D left cnt rfl HR.out ?_ ?_)
        · intro hc0 hl0
          have H4 := Lib.hid (H3.out.below HBx.out)
          have K2 := Lib.hid (H4.out.round_b HT.out (at_ : Int) (by omega) (by omega))
          clear hc0 hl0 HR HL
          go_wp2_with fail
          refine K2.out.mono ?_
          rintro e W5 ⟨⟨o, ho, rfl⟩, b5⟩
          have H5 := Lib.hid (H4.out.below b5)
          have hl5 := fun ty => HL2.out ty W5 (below_tr HB.out (below_tr HBx.out b5))
          have hos := HO.out o ho
          have KA := Lib.hid (awake8 W5 (HT.out.below H5.out.lo))
          have hpos : decide ((0 : Int) < (L.length : Int)) = decide (0 < L.length) := by
            by_cases c : 0 < L.length
            · simp
            · simp
          clear K2 ho b5 H4 HO
          by_cases c : 0 < L.length
          · have c2 : (0 : Int) < (L.length : Int) := by omega
            obtain ⟨i, rfl⟩ : ∃ i, o = some i := by
              cases o with
              | none => simp [c] at hos
              | some i => exact ⟨i, rfl⟩
            clear hos hpos
            go_wp2_with fail
            refine KA.out.mono ?_
            rintro e W6 ⟨rfl, b6⟩
            go_wp2_with fail
            go_ret
            exact ⟨rfl, below_tr H5.out.lo b6⟩
          · have c2 : ¬ (0 : Int) < (L.length : Int) := by omega
            obtain rfl : o = none := by
              cases o with
              | none => rfl
              | some i => simp [c] at hos
            clear hos hpos
            go_wp2_with fail
            refine KA.out.mono ?_
            rintro e W6 ⟨rfl, b6⟩
            go_wp2_with fail
            go_ret
            exact ⟨rfl, below_tr H5.out.lo b6⟩
        · intro x' cv w' cnt' hwx hwc hlx hat' hrg hlt hg1 hs1' hen
          have hr3 := HE3.out x' (HL.out _ hlx) w' (map_same (map_below HEw.out HBx.out) (hg1.block qb (Nat.lt_of_lt_of_le HEw.out.lt HBx.out.size) (fun e => by cases e; exact Nat.lt_irrefl _ HEw.out.lt)))
          have HR' := Lib.hid hrg
          have HL' : Hid (∀ kl, (left kl && !kl.sameKey (.int .i64 x')) = true → Maps.has D kl = true) := Lib.hid fun kl h => HL.out kl (by simp at h; exact h.1)
          have HB' : Hid (Below Wc.heap.size Wc w') := Lib.hid (HBx.out.trans ⟨hg1.os, hg1.tape, hg1.output, hg1.size, fun k hk => hg1.block k (Nat.lt_of_lt_of_le hk HBx.out.size) (fun e => by cases e; omega)⟩)
          clear HR HL hwx hwc hlx hat' hrg hg1 hs1'
          go_wp2_with fail
          go_roundg cnt'
          case measure => exact hlt
          case rel => exact ⟨_, cnt', rfl, HR', HL', HB'⟩
    · have hz : (t : Int) < 2 * (L.length : Int) := by omega
      have htl' : t < 2 * L.length := by omega
      have h0L : 0 < L.length := by omega
      by_cases huK : u < L.length
      · have hto := told_on HI.out HLp.out HLm.out huK
        have hs6 := HLs.out u huK
        have hcs := cnt_small HI.out htl' u
        have hma := HM.out.at_ ((L[u] : Nat) : Int)
        rw [if_pos ⟨by omega, by simpa using (HLm.out _).2 (List.getElem_mem huK)⟩] at hma
        have HMa := Lib.hid hma
        have hgt : ¬ ((L[u] : Nat) : Int) ≤ (at_ : Int) - 1 := by have := HI.out.hi u huK (Nat.le_refl _); omega
        have HI2 := Lib.hid (rinv_on HI.out HLp.out huK)
        have HC2 : Hid (ReadsC (E.put (.int .i64 ((L[u] : Nat) : Int)) (.lit (.int .i64 (cntR s0 u v u + 1)))) L (cntR s0 (u + 1) v)) := Lib.hid (readsC_put HC.out HLp.out huK (cnt_on s0 u v) (fun k hk hne => cnt_on_ne s0 u v hne))
        have HLk := Lib.hid (fun W (hm : MapAt W qb t E) => readsC_run HC.out huK (by omega) hm)
        have HTo := Lib.hid hto
        have HKP := Lib.hid (key_int (wf_small (x := L[u]) (by omega)))
        have hjx : ((L[u] : Nat) : Int) + 1 = ((L[u] + 1 : Nat) : Int) := by omega
        clear hto hma HI HC htl
        obtain ⟨Li, hLi⟩ : ∃ Li, L[u] = Li := ⟨_, rfl⟩
        rw [hLi] at hs6 HMa hgt HI2 HC2 HLk HTo HKP
        clear hjx hLi
        obtain ⟨c, hc⟩ : ∃ c, cntR s0 u v u = c := ⟨_, rfl⟩
        rw [hc] at HC2 HLk hcs
        clear hc
        go_wp2_with fail
        refine K1.out.mono ?_
        rintro e W2 ⟨⟨o, ho, rfl⟩, b2⟩
        obtain rfl := round_one' ho HTo.out
        have HB2 := Lib.hid (below_tr HB.out b2)
        have HE2 := Lib.hid (map_below HE.out b2)
        obtain ⟨c1, hrun1, hat1, _⟩ := (map_below H0.out.map HB2.out).lookup_int lawP Tryd.underlying46 Tryd.underlying3 (zeroI _) HKP.out
        obtain rfl : c1 = 1 := by
          have := hat1.symm.trans HMa.out
          simpa using this
        have hr2 := HLk.out W2 HE2.out
        have hwf : (Lit.int .i64 (c + 1)).wf = true := by
          simp [Lit.wf, IntKind.min, IntKind.max, IntKind.signed, IntKind.bits]
          omega
        have HWf := Lib.hid (plainElem_int (H := Unit) Tryd.underlying3 hwf)
        clear hat1 HMa HLk HB HE K1 ho HTo b2 hwf
        go_wp2_with (at_mapUpdate; refine wpList_mapUpdate_own _ rfl _ _ _ 46 rfl 3 3 lawP Tryd.underlying46 _ qb t E rfl HE2.out (by unfold maxLen; omega) _ _ _ rfl rfl HKP.out (.lit (.int .i64 (c + 1))) [] HWf.out ?_; intro w4 own4 gr4)
        have HE4 := Lib.hid own4
        have HB4 : Hid (Below W0.heap.size W0 w4) := Lib.hid (HB2.out.trans ⟨gr4.os, gr4.tape, gr4.output, gr4.size, fun k hk => gr4.block k (Nat.lt_of_lt_of_le hk HB2.out.size) (fun e => by cases e; omega)⟩)
        clear own4 gr4 HE2 HB2 hr2 hrun1
        go_roundg (2 * L.length - (t + 1))
        case measure => omega
        case rel => exact ⟨t + 1, u + 1, v, Li + 1, _, rfl, by omega, by go_num, by simp, rfl, by go_num, by omega, HI2, HC2, HE4, HB4⟩
      · have huK' : u = L.length := by have := HI.out.hu; omega
        have hto := told_turn HI.out HLp.out HLm.out huK' h0L
        have hs6 := HLs.out 0 h0L
        have hcs := cnt_small HI.out htl' 0
        have hma := HM.out.at_ ((L[0] : Nat) : Int)
        rw [if_pos ⟨by omega, by simpa using (HLm.out _).2 (List.getElem_mem h0L)⟩] at hma
        have HMa := Lib.hid hma
        have hle : ((L[0] : Nat) : Int) ≤ (at_ : Int) - 1 := by have := HI.out.lo 0 h0L (by omega); omega
        have HI2 := Lib.hid (rinv_turn HI.out HLp.out huK' h0L)
        have HC2 : Hid (ReadsC (E.put (.int .i64 ((L[0] : Nat) : Int)) (.lit (.int .i64 (cntR s0 u v 0 + 1)))) L (cntR s0 1 (v + 1))) := Lib.hid (readsC_put HC.out HLp.out h0L (cnt_turn s0 u v (by omega)) (fun k hk hne => cnt_turn_ne s0 u v hne (by omega)))
        have hcp : 1 ≤ v → 1 ≤ cntR s0 u v 0 := fun hv => cnt_pos s0 u v (by omega) hv
        have HLk := Lib.hid (fun W (hm : MapAt W qb t E) => readsC_run HC.out h0L (by omega) hm)
        have HTo := Lib.hid hto
        have HKP := Lib.hid (key_int (wf_small (x := L[0]) (by omega)))
        clear hto hma HI HC htl huK huK'
        obtain ⟨Li, hLi⟩ : ∃ Li, L[0] = Li := ⟨_, rfl⟩
        rw [hLi] at hs6 HMa hle HI2 HC2 HLk HTo HKP
        clear hLi
        obtain ⟨c, hc⟩ : ∃ c, cntR s0 u v 0 = c := ⟨_, rfl⟩
        rw [hc] at HC2 HLk hcs hcp
        clear hc
        by_cases hv : 1 ≤ v
        · have hvz : decide (1 ≤ v) = true := by simpa using hv
          have hcz : (c == 0) = false := by
            have := hcp hv
            simp
            omega
          rw [hvz]
          clear hcp
          go_wp2_with fail
          refine K1.out.mono ?_
          rintro e W2 ⟨⟨o, ho, rfl⟩, b2⟩
          obtain rfl := round_one' ho HTo.out
          have HB2 := Lib.hid (below_tr HB.out b2)
          have HE2 := Lib.hid (map_below HE.out b2)
          obtain ⟨c1, hrun1, hat1, _⟩ := (map_below H0.out.map HB2.out).lookup_int lawP Tryd.underlying46 Tryd.underlying3 (zeroI _) HKP.out
          obtain rfl : c1 = 1 := by
            have := hat1.symm.trans HMa.out
            simpa using this
          have hr2 := HLk.out W2 HE2.out
          have hwf : (Lit.int .i64 (c + 1)).wf = true := by
            simp [Lit.wf, IntKind.min, IntKind.max, IntKind.signed, IntKind.bits]
            omega
          have HWf := Lib.hid (plainElem_int (H := Unit) Tryd.underlying3 hwf)
          clear hat1 HMa HLk HB HE K1 ho HTo b2 hwf
          go_wp2_with (at_mapUpdate; refine wpList_mapUpdate_own _ rfl _ _ _ 46 rfl 3 3 lawP Tryd.underlying46 _ qb t E rfl HE2.out (by unfold maxLen; omega) _ _ _ rfl rfl HKP.out (.lit (.int .i64 (c + 1))) [] HWf.out ?_; intro w4 own4 gr4)
          have HE4 := Lib.hid own4
          have HB4 : Hid (Below W0.heap.size W0 w4) := Lib.hid (HB2.out.trans ⟨gr4.os, gr4.tape, gr4.output, gr4.size, fun k hk => gr4.block k (Nat.lt_of_lt_of_le hk HB2.out.size) (fun e => by cases e; omega)⟩)
          clear own4 gr4 HE2 HB2 hr2 hrun1
          go_roundg (2 * L.length - (t + 1))
          case measure => omega
          case rel => exact ⟨t + 1, 1, v + 1, Li + 1, _, rfl, by omega, by go_num, by simp, by simp, by go_num, by omega, HI2, HC2, HE4, HB4⟩
        · have hvz : decide (1 ≤ v) = false := by simpa using hv
          rw [hvz]
          clear hcp
          go_wp2_with fail
          refine K1.out.mono ?_
          rintro e W2 ⟨⟨o, ho, rfl⟩, b2⟩
          obtain rfl := round_one' ho HTo.out
          have HB2 := Lib.hid (below_tr HB.out b2)
          have HE2 := Lib.hid (map_below HE.out b2)
          obtain ⟨c1, hrun1, hat1, _⟩ := (map_below H0.out.map HB2.out).lookup_int lawP Tryd.underlying46 Tryd.underlying3 (zeroI _) HKP.out
          obtain rfl : c1 = 1 := by
            have := hat1.symm.trans HMa.out
            simpa using this
          have hr2 := HLk.out W2 HE2.out
          have hwf : (Lit.int .i64 (c + 1)).wf = true := by
            simp [Lit.wf, IntKind.min, IntKind.max, IntKind.signed, IntKind.bits]
            omega
          have HWf := Lib.hid (plainElem_int (H := Unit) Tryd.underlying3 hwf)
          clear hat1 HMa HLk HB HE K1 ho HTo b2 hwf
          go_wp2_with (at_mapUpdate; refine wpList_mapUpdate_own _ rfl _ _ _ 46 rfl 3 3 lawP Tryd.underlying46 _ qb t E rfl HE2.out (by unfold maxLen; omega) _ _ _ rfl rfl HKP.out (.lit (.int .i64 (c + 1))) [] HWf.out ?_; intro w4 own4 gr4)
          have HE4 := Lib.hid own4
          have HB4 : Hid (Below W0.heap.size W0 w4) := Lib.hid (HB2.out.trans ⟨gr4.os, gr4.tape, gr4.output, gr4.size, fun k hk => gr4.block k (Nat.lt_of_lt_of_le hk HB2.out.size) (fun e => by cases e; omega)⟩)
          clear own4 gr4 HE2 HB2 hr2 hrun1
          go_roundg (2 * L.length - (t + 1))
          case measure => omega
          case rel => exact ⟨t + 1, 1, v + 1, Li + 1, _, rfl, by omega, by go_num, by simp, by simp, by go_num, by omega, HI2, HC2, HE4, HB4⟩

end Go.Proofs.YtlpniacffahnkabDoor
