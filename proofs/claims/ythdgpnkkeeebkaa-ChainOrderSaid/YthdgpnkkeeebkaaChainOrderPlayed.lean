/-
  ChainOrder's walk, over whatever the program's chains are (ChainK).
-/
import Derived.Test.YthdgpnkkeeebkaaChainPlayed
import Derived.Test.YthdgpnkkeeebkaaChainFacts
namespace Go.Proofs.Ythdgpnkkeeebkaa
open Go.RowKit
set_option linter.unusedVariables false

theorem info_int : (Try.prog.info? 3).map (fun i => (i.zero, i.size, i.bytes)) = some (some (.int .i64 0), 1, 8) := by kernel_rfl

/-- The list k, and the same in a slice of the call's own. -/
def OrderAt (K : ChainK) (w W : World) (a : Addr) (k : Nat) (v : Value) : Prop :=
  ∃ N g p c L, v = .slice p L.length c ∧ OwnC K w W a N g ∧ g.ls.length = 4 ∧ g.nodes = 20 ∧ g.ls[k]? = some L ∧ Mine w W N 3 (.slice p L.length c) L.length (L.map natV)

/-- One more is pushed, and appended. -/
theorem Mine.put {w W w1 : World} {N : Nat → Prop} {p p' : Option Addr} {c c' x : Nat} {L : List Nat} (h : Mine w W N 3 (.slice p L.length c) L.length (L.map natV)) (hN : ∀ k, N k → k < W.heap.size) (o : w1.ownsRow w.heap.size 3 1 (.slice p' (L.length + 1) c') (L.length + 1) (L.map natV ++ [.int .i64 (x : Int)]))
    (l : (Value.slice p' (L.length + 1) c').ownBlock = (Value.slice p L.length c).ownBlock ∨ (Value.slice p' (L.length + 1) c').ownBlock = some W.heap.size) : Mine w w1 N 3 (.slice p' (L ++ [x]).length c') (L ++ [x]).length ((L ++ [x]).map natV) := by
  have e : (L ++ [x]).length = L.length + 1 := by simp
  rw [e, List.map_append]
  refine ⟨o, fun k hk e' => ?_⟩
  rcases l with h1 | h1
  · exact h.off k hk (h1.symm.trans e')
  · have h2 : some W.heap.size = some k := h1.symm.trans e'
    have := hN k hk
    cases h2
    omega
theorem OwnC.grown {K : ChainK} {w W W' : World} {a : Addr} {N : Nat → Prop} {g : Ch} {t : TypeId} {v : Value} {m : Nat} {xs : List Value} (h : OwnC K w W a N g) (r : Mine w W N t v m xs) (gr : W.grownBy W' v.ownBlock) : OwnC K w W' a N g :=
  ⟨K.kept h.at_ (fun k hk => gr.block k (K.lt h.at_ k hk) (fun e => r.off k hk e.symm)) gr.size, h.ok, h.new, h.lo.grown gr h.lo.size (fun k e => (r.row.lt k e).1)⟩

set_option maxHeartbeats 8000000 in
set_option maxRecDepth 100000 in
theorem chainOrder_of (K : ChainK) (HA : Hid Awake) (A : Option Addr) (len cap : Nat) (z0 : List (List Value)) (r : Nat) (hr : r < 256) (A2 : Option Addr) (len2 cap2 : Nat) (z2 : List (List Value)) (A3 : Option Addr) (len3 cap3 : Nat) (z3 : List (List Value)) (w : World)
    (HR : Hid (RowOf [some .u8, some .i64, some .i64] w A len cap z0)) (HR2 : Hid (RowOf [some .u8] w A2 len2 cap2 z2)) (HR3 : Hid (RowOf [some .u8] w A3 len3 cap3 z3)) :
    Calls Try.prog 4 #[.slice A len cap, .int .u8 (r : Int), .slice A2 len2 cap2, .slice A3 len3 cap3] w fun e w' => e = .returned (.bool true) ∧ Below w.heap.size w w' := by
  have R1 := Lib.hid (law_played K A len cap z0 w HR)
  obtain ⟨k, Hk⟩ : ∃ k, Hid (r % 4 = k) := ⟨_, Lib.hid rfl⟩
  have hk : k < 4 := by have := Hk.out; omega
  have hkz : (r : Int) % 4 = (k : Int) := by have := Hk.out; omega
  have ik : I64 (k : Int) := ⟨by omega, by omega⟩
  have hlc2 := (row_fit HR2.out).1
  have hcap2 := (row_fit HR2.out).2
  have hlc3 := (row_fit HR3.out).1
  have hcap3 := (row_fit HR3.out).2
  obtain ⟨n2, Hn2⟩ : ∃ n, Hid (min len2 40 = n) := ⟨_, Lib.hid rfl⟩
  have hn21 : n2 ≤ len2 := by have := Hn2.out; omega
  have hn22 : n2 ≤ 40 := by have := Hn2.out; omega
  obtain ⟨n3, Hn3⟩ : ∃ n, Hid (min len3 40 = n) := ⟨_, Lib.hid rfl⟩
  have hn31 : n3 ≤ len3 := by have := Hn3.out; omega
  have hn32 : n3 ≤ 40 := by have := Hn3.out; omega
  go_enter Try.func4, Try.ntmps4
  go_wp2_with fail
  refine R1.out.mono ?_
  rintro e w1 ⟨a, rfl, N1, g1, P1, hd1, hd2⟩
  obtain ⟨L1, hL1⟩ := ch_row (g := g1) (k := k) (by omega)
  have HK1 := Lib.hid (P1.list k ik)
  rw [list_nat hL1] at HK1
  clear P1 R1
  go_upto_region 3 with fail
  go_wp2_with fail
  refine HK1.out.mono ?_
  rintro e w2 ⟨p2, c2, rfl, M2, P2, _⟩
  have HO : Hid (OrderAt K w w2 a k (.slice p2 L1.length c2)) := ⟨N1, g1, p2, c2, L1, rfl, P2, hd1, hd2, hL1, M2⟩
  clear HK1 M2 P2 hL1 hd1 hd2
  go_upto_region 4 with fail
  go_cut [43, 44, 45] (fun s l i wx => s = .slice A2 n2 cap2 ∧ l = .int .i64 (n2 : Int) ∧ i = .int .i64 0 ∧ wx = w2)
  case first =>
    by_cases h40 : 40 < len2
    · have h40z : (40 : Int) < (len2 : Int) := by omega
      obtain rfl : n2 = 40 := by have := Hn2.out; omega
      go_wp2_with fail
      go_meet
      exact ⟨rfl, rfl, rfl, rfl⟩
    · have h40z : ¬ (40 : Int) < (len2 : Int) := by omega
      obtain rfl : n2 = len2 := by have := Hn2.out; omega
      go_wp2_with fail
      go_meet
      exact ⟨rfl, rfl, rfl, rfl⟩
  case rest =>
    obtain ⟨rfl, rfl, rfl, rfl⟩ := hcut
    go_upto_block 0 with fail
    go_cut [11] (fun v wx => Hid (OrderAt K w wx a k v))
    case first =>
      go_wp2_with fail
      go_loopg [11, 45] n2 (fun q v i wx => ∃ (j : Nat), n2 - j = q ∧ j ≤ n2 ∧ i = .int .i64 (j : Int) ∧ Hid (OrderAt K w wx a k v))
      case atStart => exact ⟨0, rfl, by omega, rfl, HO⟩
      case round =>
        clear HO
        obtain ⟨j, rfl, hj, rfl, HQ⟩ := hrel
        by_cases h0 : j = n2
        · have h0z : ¬ (j : Int) < (n2 : Int) := by omega
          have h0n : ¬ j < n2 := by omega
          clear h0
          go_wp2_with fail
          go_meet
          exact HQ
        · have hjl : j < n2 := by omega
          have hjz : (j : Int) < (n2 : Int) := by omega
          obtain ⟨N, g, p, c, L, rfl, P, hd1, hd2, hL, M⟩ := HQ.out
          have HP := Lib.hid P
          have HM := Lib.hid M
          have HL := Lib.hid hL
          clear HQ h0 P M hL
          obtain ⟨ad, x, rfl, hx, HC⟩ := u8_cell HR2.out (show j < len2 by omega)
          have o0 := HC wr HP.out.lo
          clear HC
          obtain ⟨n, Hn⟩ : ∃ n, Hid (x % 20 = n) := ⟨_, Lib.hid rfl⟩
          have hn : n < 20 := by have := Hn.out; omega
          have hnz : (x : Int) % 20 = (n : Int) := by have := Hn.out; omega
          have in_ : I64 (n : Int) := ⟨by omega, by omega⟩
          go_upto_block 1 with fail
          go_cut [11] (fun v wx => Hid (OrderAt K w wx a k v))
          case first =>
            have HK2 := Lib.hid (HP.out.inn n in_)
            rw [Ch.inn_nat] at HK2
            cases hat : g.at n with
            | some i =>
              rw [hat] at HK2
              clear hat
              go_wp2_with fail
              refine HK2.out.mono ?_
              rintro e w3 ⟨rfl, P3, b3⟩
              have HE : Hid (OrderAt K w w3 a k (.slice p L.length c)) := ⟨N, g, p, c, L, rfl, P3, hd1, hd2, HL.out, HM.out.below b3⟩
              clear P3 b3 HK2 HM HP o0
              unfold outV
              simp only [Option.getD_some, Option.isSome_some]
              go_wp2_with fail
              go_meet
              exact HE
            | none =>
              rw [hat] at HK2
              have HAT := Lib.hid hat
              clear hat
              go_wp2_with fail
              refine HK2.out.mono ?_
              rintro e w3 ⟨rfl, P3, b3⟩
              have HM3 := Lib.hid (HM.out.below b3)
              obtain ⟨e1, e2⟩ := push_is HL.out (by omega : n < g.nodes) HAT.out
              have HK3 := Lib.hid (P3.push k n ik in_)
              rw [e1, e2] at HK3
              have hL4 : (g.put k n).ls[k]? = some (L ++ [n]) := by rw [put_get HL.out, if_pos rfl]
              have HL4 := Lib.hid hL4
              have hsh : L.length ≤ 20 := by have := short_list P3.ok HL.out; omega
              clear P3 b3 HK2 HM HP o0 e1 e2 hL4
              unfold outV
              simp only [Option.getD_none, Option.isSome_none]
              go_wp2_with fail
              refine HK3.out.mono ?_
              rintro e w4 ⟨rfl, N4, P4, s4⟩
              have HM4 := Lib.hid (HM3.out.step s4)
              have HP4 := Lib.hid P4
              have hd4 : (g.put k n).ls.length = 4 := by unfold Ch.put; simp [hd1]
              clear HK3 HM3 P4 s4
              rw [show ((0 : Nat) : Int) = 0 from rfl]
              obtain ⟨i0, hi, hz0, hz1, hz2⟩ := info_parts info_int
              have r5 := HM4.out.row.alloc (.cells #[.int .i64 (n : Int)] 3)
              have hs5 := HP4.out.lo.size
              have hml : L.length + 1 ≤ maxLen := by unfold maxLen; omega
              go_wp2_with (first | (at_builtin; (refine wpList_append_own_at _ rfl (.tmp 65) (.tmp 67) 43 rfl w.heap.size 3 i0 (.int .i64 0) 1 8 Try.underlying43 hi hz0 hz1 hz2 rfl (by decide) (.slice p L.length c) L.length _ rfl r5 ⟨w4.heap.size, 0, none⟩ 1 1 [.int .i64 (n : Int)] rfl rfl (cell_one_new _ _ _) (by intro u hu; simp at hu; subst hu; rfl) hml (by omega) (by simp; omega) ?_; intro v5 w5 own5 gr5 nil5 loc5; obtain ⟨p5, c5, rfl⟩ := owns_slice own5)))
              have bA := (Below.refl _ w4).alloc (Nat.le_refl _) (.cells #[.int .i64 (n : Int)] 3)
              have PA := HP4.out.below bA
              have MA := HM4.out.below bA
              have HE : Hid (OrderAt K w w5 a k (.slice p5 (L.length + 1) c5)) := ⟨N4, g.put k n, p5, c5, L ++ [n], by simp, PA.grown MA gr5, hd4, hd2, HL4.out, MA.put (fun i hi => K.lt PA.at_ i hi) own5 loc5⟩
              clear own5 gr5 nil5 loc5 r5 PA MA bA
              go_meet
              exact HE
          case rest =>
            have HE := hcut
            clear hcut HP HM
            go_wp2_with fail
            go_roundg (n2 - (j + 1))
            case measure => omega
            case rel => exact ⟨j + 1, rfl, by omega, by go_num, HE⟩
    case rest =>
      have HO2 := hcut
      clear hcut HO
      go_upto_region 14 with fail
      obtain ⟨w6, hw6⟩ : ∃ w6 : World, wc = w6 := ⟨_, rfl⟩
      subst hw6
      go_cut [74, 75, 76] (fun s l i wx => s = .slice A3 n3 cap3 ∧ l = .int .i64 (n3 : Int) ∧ i = .int .i64 0 ∧ wx = wc)
      case first =>
        by_cases h40 : 40 < len3
        · have h40z : (40 : Int) < (len3 : Int) := by omega
          obtain rfl : n3 = 40 := by have := Hn3.out; omega
          go_wp2_with fail
          go_meet
          exact ⟨rfl, rfl, rfl, rfl⟩
        · have h40z : ¬ (40 : Int) < (len3 : Int) := by omega
          obtain rfl : n3 = len3 := by have := Hn3.out; omega
          go_wp2_with fail
          go_meet
          exact ⟨rfl, rfl, rfl, rfl⟩
      case rest =>
        obtain ⟨rfl, rfl, rfl, rfl⟩ := hcut
        go_upto_block 2 with fail
        go_cut [11] (fun v wx => Hid (OrderAt K w wx a k v))
        case first =>
          go_wp2_with fail
          go_loopg [11, 76] n3 (fun q v i wx => ∃ (j : Nat), n3 - j = q ∧ j ≤ n3 ∧ i = .int .i64 (j : Int) ∧ Hid (OrderAt K w wx a k v))
          case atStart => exact ⟨0, rfl, by omega, rfl, HO2⟩
          case round =>
            clear HO2
            obtain ⟨j, rfl, hj, rfl, HQ⟩ := hrel
            by_cases h0 : j = n3
            · have h0z : ¬ (j : Int) < (n3 : Int) := by omega
              have h0n : ¬ j < n3 := by omega
              clear h0
              go_wp2_with fail
              go_meet
              exact HQ
            · have hjl : j < n3 := by omega
              have hjz : (j : Int) < (n3 : Int) := by omega
              obtain ⟨N, g, p, c, L, rfl, P, hd1, hd2, hL, M⟩ := HQ.out
              have HP := Lib.hid P
              have HM := Lib.hid M
              have HL := Lib.hid hL
              clear HQ h0 P M hL
              obtain ⟨ad, x, rfl, hx, HC⟩ := u8_cell HR3.out (show j < len3 by omega)
              have o0 := HC wr HP.out.lo
              clear HC
              obtain ⟨n, Hn⟩ : ∃ n, Hid (x % 20 = n) := ⟨_, Lib.hid rfl⟩
              have hn : n < 20 := by have := Hn.out; omega
              have hnz : (x : Int) % 20 = (n : Int) := by have := Hn.out; omega
              have in_ : I64 (n : Int) := ⟨by omega, by omega⟩
              go_upto_block 3 with fail
              go_cut [11] (fun v wx => Hid (OrderAt K w wx a k v))
              case first =>
                have HK2 := Lib.hid (HP.out.inn n in_)
                rw [Ch.inn_nat] at HK2
                cases hat : g.at n with
                | none =>
                  rw [hat] at HK2
                  have HAT := Lib.hid hat
                  clear hat
                  go_wp2_with fail
                  refine HK2.out.mono ?_
                  rintro e w3 ⟨rfl, P3, b3⟩
                  have HM3 := Lib.hid (HM.out.below b3)
                  have HK3 := Lib.hid (P3.drop n in_)
                  rw [drop_not (by rw [Ch.inn_nat]; exact HAT.out), Ch.inn_nat, HAT.out] at HK3
                  clear P3 b3 HK2 HM HP o0
                  unfold outV
                  simp only [Option.getD_none, Option.isSome_none]
                  go_wp2_with fail
                  refine HK3.out.mono ?_
                  rintro e w4 ⟨rfl, N4, P4, s4⟩
                  have HE : Hid (OrderAt K w w4 a k (.slice p L.length c)) := ⟨N4, g, p, c, L, rfl, P4, hd1, hd2, HL.out, HM3.out.step s4⟩
                  clear HK3 HM3 P4 s4
                  simp only [Option.isSome_none]
                  go_wp2_with fail
                  go_meet
                  exact HE
                | some i =>
                  rw [hat] at HK2
                  have HAT := Lib.hid hat
                  clear hat
                  obtain ⟨m, hm, hnm⟩ := Ch.at_mem HAT.out
                  have HMm := Lib.hid hm
                  have hil : i < 4 := by have := Ch.at_lt HAT.out; omega
                  clear hm hnm
                  go_wp2_with fail
                  refine HK2.out.mono ?_
                  rintro e w3 ⟨rfl, P3, b3⟩
                  have HM3 := Lib.hid (HM.out.below b3)
                  have HK3 := Lib.hid (P3.drop n in_)
                  rw [drop_is HAT.out, Ch.inn_nat, HAT.out] at HK3
                  have hsh : L.length ≤ 20 := by have := short_list P3.ok HL.out; omega
                  clear P3 b3 HK2 HM HP o0
                  unfold outV
                  simp only [Option.getD_some, Option.isSome_some]
                  go_wp2_with fail
                  refine HK3.out.mono ?_
                  rintro e w4 ⟨rfl, N4, P4, s4⟩
                  have HP4 := Lib.hid P4
                  have HM4 := Lib.hid (HM3.out.step s4)
                  have hd4 : (g.less i n).ls.length = 4 := by unfold Ch.less; simp [hd1]
                  clear HK3 HM3 P4 s4
                  simp only [Option.isSome_some]
                  by_cases hik : i = k
                  · have hikz : ((i : Int) == (k : Int)) = true := by rw [beq_iff_eq]; omega
                    have HL4 : Hid ((g.less i n).ls[k]? = some (L.filter fun y => decide (y ≠ n))) := by
                      show _ = _
                      rw [hik, less_get HL.out, if_pos rfl]
                    clear hik
                    go_upto_block 4 with fail
                    rw [hnz]
                    obtain ⟨F, HF⟩ : ∃ F, Hid ((L.filter fun y => decide (y ≠ n)) = F) := ⟨_, Lib.hid rfl⟩
                    rw [HF.out] at HL4
                    go_cut [22] (fun v wx => ∃ p' c', v = .slice p' F.length c' ∧ Hid (wx.ownsRow w4.heap.size 3 1 (.slice p' F.length c') F.length (F.map natV)) ∧ Hid (Below w4.heap.size w4 wx))
                    case first =>
                      go_wp2_with fail
                      go_loopg [22, 102] L.length (fun q v i wx => ∃ (b : Nat) (R : List Nat) (p' : Option Addr) (c' : Nat), L.length - b = q ∧ b ≤ L.length ∧ i = .int .i64 (b : Int) ∧ v = .slice p' R.length c' ∧ Hid (R = (L.take b).filter fun y => decide (y ≠ n)) ∧ Hid (wx.ownsRow w4.heap.size 3 1 (.slice p' R.length c') R.length (R.map natV)) ∧ Hid (Below w4.heap.size w4 wx))
                      case atStart => exact ⟨0, [], none, 0, rfl, by omega, rfl, rfl, rfl, World.ownsRow_nil _ _ _ _, Below.refl _ _⟩
                      case round =>
                        obtain ⟨b, R, p', c', rfl, hb, rfl, rfl, HRR, HRO, HB⟩ := hrel
                        by_cases h0 : b = L.length
                        · have h0z : ¬ (b : Int) < (L.length : Int) := by omega
                          have h0n : ¬ b < L.length := by omega
                          have hR : R = F := by
                            have h := HRR.out
                            rw [h0, List.take_length] at h
                            exact h.trans HF.out
                          subst hR
                          clear h0
                          go_wp2_with fail
                          go_meet
                          exact ⟨p', c', rfl, HRO, HB⟩
                        · have hbl : b < L.length := by omega
                          have hbz : (b : Int) < (L.length : Int) := by omega
                          obtain ⟨_, hform⟩ := own_form HM4.out.row
                          obtain ⟨gT, rfl⟩ := hform (by omega)
                          have c1 := (HM4.out.below HB.out).row.cellAt b (by omega)
                          rw [List.getElem?_map, List.getElem?_eq_getElem hbl] at c1
                          have c1' : wr.cell? ⟨gT, b, none⟩ = some (.int .i64 (L[b] : Int)) := c1
                          have HTK := Lib.hid (List.take_succ_eq_append_getElem hbl)
                          have hRl : R.length ≤ 20 := by
                            have h1 : R.length ≤ (L.take b).length := by rw [HRR.out]; exact List.length_filter_le _ _
                            rw [List.length_take] at h1
                            omega
                          clear c1 hform h0
                          generalize L[b] = y at *
                          by_cases hy : y = n
                          · subst hy
                            have HN : Hid (R = (L.take (b + 1)).filter fun z => decide (z ≠ y)) := by
                              show _ = _
                              rw [HTK.out, List.filter_append, ← HRR.out]
                              simp
                            have hyz : ((y : Int) != (y : Int)) = false := by simp
                            go_wp2_with fail
                            go_roundg (L.length - (b + 1))
                            case measure => omega
                            case rel => exact ⟨b + 1, R, p', c', rfl, by omega, by go_num, rfl, HN, HRO, HB⟩
                          · have HN : Hid (R ++ [y] = (L.take (b + 1)).filter fun z => decide (z ≠ n)) := by
                              show _ = _
                              rw [HTK.out, List.filter_append, ← HRR.out]
                              simp [hy]
                            have hyz : ((y : Int) != (n : Int)) = true := by rw [bne_iff_ne]; omega
                            obtain ⟨i0, hi, hz0, hz1, hz2⟩ := info_parts info_int
                            have r5 := HRO.out.alloc (.cells #[.int .i64 (y : Int)] 3)
                            have hs5 := HB.out.size
                            have hml : R.length + 1 ≤ maxLen := by unfold maxLen; omega
                            clear hy
                            go_wp2_with (first | (at_builtin; (refine wpList_append_own_at _ rfl (.tmp 109) (.tmp 111) 43 rfl w4.heap.size 3 i0 (.int .i64 0) 1 8 Try.underlying43 hi hz0 hz1 hz2 rfl (by decide) (.slice p' R.length c') R.length _ rfl r5 ⟨wr.heap.size, 0, none⟩ 1 1 [.int .i64 (y : Int)] rfl rfl (cell_one_new _ _ _) (by intro u hu; simp at hu; subst hu; rfl) hml (by omega) (by simp; omega) ?_; intro v5 w5 own5 gr5 nil5 loc5; obtain ⟨p5, c5, rfl⟩ := owns_slice own5)))
                            have HB5 : Hid (Below w4.heap.size w4 w5) := (HB.out.alloc hs5 (.cells #[.int .i64 (y : Int)] 3)).grown gr5 (by simp; omega) (fun q e => (HRO.out.lt q e).1)
                            have HO5 : Hid (w5.ownsRow w4.heap.size 3 1 (.slice p5 (R ++ [y]).length c5) (R ++ [y]).length ((R ++ [y]).map natV)) := by
                              show World.ownsRow _ _ _ _ _ _ _
                              rw [List.length_append, List.map_append]
                              exact own5
                            clear own5 gr5 nil5 loc5 r5 c1'
                            go_roundg (L.length - (b + 1))
                            case measure => omega
                            case rel => exact ⟨b + 1, R ++ [y], p5, c5, rfl, by omega, by go_num, by simp, HN, HO5, HB5⟩
                    case rest =>
                      obtain ⟨p', c', rfl, HRO, HB⟩ := hcut
                      have PB := HP4.out.below HB.out
                      have HE : Hid (OrderAt K w wc a k (.slice p' F.length c')) := ⟨N4, g.less i n, p', c', _, rfl, PB, hd4, hd2, HL4.out, ⟨own_low HRO.out HP4.out.lo.size, OffV.fresh (fun q hq => K.lt HP4.out.at_ q hq) HRO.out⟩⟩
                      clear PB HRO HB HP4 HM4
                      go_wp2_with fail
                      go_meet
                      exact HE
                  · have hikz : ((i : Int) == (k : Int)) = false := by rw [beq_eq_false_iff_ne]; omega
                    have hl4 : (g.less i n).ls[k]? = some L := by rw [less_get HMm.out, if_neg (fun e => hik e.symm)]; exact HL.out
                    have HE : Hid (OrderAt K w w4 a k (.slice p L.length c)) := ⟨N4, g.less i n, p, c, L, rfl, HP4.out, hd4, hd2, hl4, HM4.out⟩
                    clear HP4 HM4 hl4 hik
                    go_wp2_with fail
                    go_meet
                    exact HE
              case rest =>
                have HE := hcut
                clear hcut HP HM
                go_wp2_with fail
                go_roundg (n3 - (j + 1))
                case measure => omega
                case rel => exact ⟨j + 1, rfl, by omega, by go_num, HE⟩
        case rest =>
          obtain ⟨N, g, p, c, L, rfl, P, hd1, hd2, hL, M⟩ := hcut.out
          have HP := Lib.hid P
          have HM := Lib.hid M
          have HL := Lib.hid hL
          clear hcut P M hL HO2
          go_upto_block 6 with fail
          go_cut [] (fun wx => ∃ N g, Hid (OwnC K w wx a N g) ∧ Hid (g.ls[k]? = some []))
          case first =>
            have hsh : L.length ≤ 20 := by have := short_list HP.out.ok HL.out; omega
            have HQ0 : Hid (∃ N g, OwnC K w wc a N g ∧ g.ls[k]? = some L ∧ Mine w wc N 3 (.slice p L.length c) L.length (L.map natV)) := ⟨N, g, HP.out, HL.out, HM.out⟩
            clear HP HL HM
            go_wp2_with fail
            go_loopg [118] L.length (fun q i wx => ∃ (j : Nat), L.length - j = q ∧ j ≤ L.length ∧ i = .int .i64 (j : Int) ∧ Hid (∃ N g, OwnC K w wx a N g ∧ g.ls[k]? = some (L.drop j) ∧ Mine w wx N 3 (.slice p L.length c) L.length (L.map natV)))
            case atStart => exact ⟨0, rfl, by omega, rfl, HQ0⟩
            case round =>
              clear HQ0
              obtain ⟨j, rfl, hj, rfl, HQ⟩ := hrel
              obtain ⟨N, g, P, hL, M⟩ := HQ.out
              have HP := Lib.hid P
              have HM := Lib.hid M
              have HL := Lib.hid hL
              clear HQ P M hL
              by_cases h0 : j = L.length
              · have h0z : ¬ (j : Int) < (L.length : Int) := by omega
                have h0n : ¬ j < L.length := by omega
                have HE : Hid (g.ls[k]? = some []) := by
                  have h := HL.out
                  rw [h0, List.drop_length] at h
                  exact h
                clear h0
                go_wp2_with fail
                go_meet
                exact ⟨N, g, HP, HE⟩
              · have hjl : j < L.length := by omega
                have hjz : (j : Int) < (L.length : Int) := by omega
                obtain ⟨_, hform⟩ := own_form HM.out.row
                obtain ⟨gT, rfl⟩ := hform (by omega)
                have c1 := HM.out.row.cellAt j (by omega)
                rw [List.getElem?_map, List.getElem?_eq_getElem hjl] at c1
                have c1' : wr.cell? ⟨gT, j, none⟩ = some (.int .i64 (L[j] : Int)) := c1
                have hdr : L.drop j = L[j] :: L.drop (j + 1) := (List.getElem_cons_drop hjl).symm
                have hL2 := HL.out
                rw [hdr] at hL2
                obtain ⟨_, e2, _⟩ := pop_is HP.out.ok hL2
                have HL3 := Lib.hid e2
                have HK := Lib.hid (HP.out.pop k ik)
                rw [list_nat hL2] at HK
                clear c1 hform h0 hL2 hdr e2
                generalize L[j] = y at *
                simp only [List.head?_cons] at HK
                go_wp2_with fail
                refine HK.out.mono ?_
                rintro e w3 ⟨rfl, N3, P3, s3⟩
                have HE : Hid (∃ N g, OwnC K w w3 a N g ∧ g.ls[k]? = some (L.drop (j + 1)) ∧ Mine w w3 N 3 (.slice (some ⟨gT, 0, none⟩) L.length c) L.length (L.map natV)) := ⟨N3, _, P3, HL3.out, HM.out.step s3⟩
                clear HK P3 s3 HP HM HL c1'
                unfold outV
                simp only [Option.getD_some, Option.isSome_some]
                go_wp2_with fail
                go_roundg (L.length - (j + 1))
                case measure => omega
                case rel => exact ⟨j + 1, rfl, by omega, by go_num, HE⟩
          case rest =>
            obtain ⟨N7, g7, HP7, HL7⟩ := hcut
            have HK7 := Lib.hid (HP7.out.pop k ik)
            rw [pop_not (list_nat HL7.out), list_nat HL7.out] at HK7
            simp only [List.head?_nil] at HK7
            clear HP HM HL
            go_wp2_with fail
            refine HK7.out.mono ?_
            rintro e w8 ⟨rfl, N8, P8, _⟩
            have HK8 := Lib.hid (P8.len k ik)
            rw [list_nat HL7.out] at HK8
            clear HK7 P8 HP7
            unfold outV
            simp only [Option.getD_none, Option.isSome_none]
            go_wp2_with fail
            refine HK8.out.mono ?_
            rintro e w9 ⟨rfl, P9, _⟩
            have HP9 := Lib.hid P9
            clear HK8 P9
            simp only [List.length_nil]
            rw [show ((0 : Nat) : Int) = 0 from rfl]
            go_wp2_with fail
            refine (HA.out _).mono ?_
            rintro e w10 ⟨rfl, b10⟩
            go_wp2_with fail
            go_ret
            exact ⟨rfl, below_tr HP9.out.lo b10⟩

end Go.Proofs.Ythdgpnkkeeebkaa
