/-
  ChainBack's walk, over whatever the program's chains are (ChainK).
-/
import Derived.Test.YthdgpnkkeeebkaaChainPlayed
import Derived.Test.YthdgpnkkeeebkaaChainFacts
namespace Go.Proofs.Ythdgpnkkeeebkaa
open Go.RowKit
set_option linter.unusedVariables false

set_option maxHeartbeats 4000000 in
set_option maxRecDepth 100000 in
theorem chainBack_of (K : ChainK) (HA : Hid Awake) (A : Option Addr) (len cap : Nat) (z0 : List (List Value)) (r s : Nat) (hr : r < 256) (hs : s < 256) (w : World) (HR : Hid (RowOf [some .u8, some .i64, some .i64] w A len cap z0)) :
    Calls Try.prog 7 #[.slice A len cap, .int .u8 (r : Int), .int .u8 (s : Int)] w fun e w' => e = .returned (.bool true) ∧ Below w.heap.size w w' := by
  have R1 := Lib.hid (law_played K A len cap z0 w HR)
  obtain ⟨k, Hk⟩ : ∃ k, Hid (r % 4 = k) := ⟨_, Lib.hid rfl⟩
  have hk : k < 4 := by have := Hk.out; omega
  have hkz : (r : Int) % 4 = (k : Int) := by have := Hk.out; omega
  obtain ⟨n, Hn⟩ : ∃ n, Hid (s % 20 = n) := ⟨_, Lib.hid rfl⟩
  have hn : n < 20 := by have := Hn.out; omega
  have hnz : (s : Int) % 20 = (n : Int) := by have := Hn.out; omega
  have ik : I64 (k : Int) := ⟨by omega, by omega⟩
  have in_ : I64 (n : Int) := ⟨by omega, by omega⟩
  go_enter Try.func7, Try.ntmps7
  go_wp2_with fail
  refine R1.out.mono ?_
  rintro e w1 ⟨a, rfl, N1, g, P1, hd1, hd2⟩
  obtain ⟨l, hl⟩ := ch_row (g := g) (k := k) (by omega)
  have HL := Lib.hid hl
  have HP1 := Lib.hid P1
  have HK1 := Lib.hid (P1.inn n in_)
  rw [Ch.inn_nat] at HK1
  clear P1 hl R1
  cases hat : g.at n with
  | none =>
    rw [hat] at HK1
    have HAT := Lib.hid hat
    clear hat
    go_wp2_with fail
    refine HK1.out.mono ?_
    rintro e w2 ⟨rfl, P2, _⟩
    have HK2 := Lib.hid (P2.list k ik)
    rw [list_nat HL.out] at HK2
    clear HK1 HP1 P2
    unfold outV
    simp only [Option.getD_none, Option.isSome_none]
    go_wp2_with fail
    refine HK2.out.mono ?_
    rintro e w3 ⟨p3, c3, rfl, M3, P3, _⟩
    obtain ⟨e1, e2⟩ := push_is HL.out (by omega : n < g.nodes) HAT.out
    have HK3 := Lib.hid (P3.push k n ik in_)
    rw [e1, e2] at HK3
    have HM3 := Lib.hid M3
    clear HK2 e1 e2 M3
    go_wp2_with fail
    refine HK3.out.mono ?_
    rintro e w4 ⟨rfl, N4, P4, s4⟩
    have HM4 := Lib.hid (HM3.out.step s4)
    have hin : (g.put k n).at n = some k := by rw [P3.ok.at_put HL.out (by omega) HAT.out, if_pos rfl]
    have HK4 := Lib.hid (P4.drop n in_)
    rw [Ch.inn_nat, hin, drop_is hin] at HK4
    have hin2 : ((g.put k n).less k n).at n = none := by rw [P4.ok.at_less hin, if_pos rfl]
    have HI2 := Lib.hid hin2
    have HL4 : Hid (((g.put k n).less k n).ls[k]? = some l) := by
      show _ = _
      rw [less_get (l := l ++ [n]) (by rw [put_get HL.out, if_pos rfl]), if_pos rfl, filter_put (Ch.at_none HAT.out HL.out)]
    clear HK3 HM3 P3 P4 s4 hin hin2
    rw [show ((0 : Nat) : Int) = 0 from rfl]
    go_wp2_with fail
    refine HK4.out.mono ?_
    rintro e w5 ⟨rfl, N5, P5, s5⟩
    have HM5 := Lib.hid (HM4.out.step s5)
    have HK5 := Lib.hid (P5.drop n in_)
    rw [Ch.inn_nat, HI2.out, drop_not (by rw [Ch.inn_nat]; exact HI2.out)] at HK5
    clear HK4 HM4 P5 s5
    simp only [Option.isSome_some]
    go_wp2_with fail
    refine HK5.out.mono ?_
    rintro e w6 ⟨rfl, N6, P6, s6⟩
    have HM6 := Lib.hid (HM5.out.step s6)
    have HK6 := Lib.hid (P6.list k ik)
    rw [list_nat HL4.out] at HK6
    clear HK5 HM5 s6
    simp only [Option.isSome_none]
    go_wp2_with fail
    refine HK6.out.mono ?_
    rintro e w7 ⟨p7, c7, rfl, M7, P7, b7⟩
    have HM7 := Lib.hid (HM6.out.below b7)
    have hshort : l.length ≤ 65536 := Nat.le_trans (short_list P7.ok HL4.out) P7.ok.small
    have HK7 := Lib.hid (law_ints p7 p3 c7 c3 _ _ l l w7 hshort hshort M7.row HM7.out.row)
    have HP7 := Lib.hid P7
    clear HK6 HM6 P6 M7 b7 P7
    go_wp2_with fail
    refine HK7.out.mono ?_
    rintro e w8 ⟨rfl, b8⟩
    have HP8 := Lib.hid (HP7.out.below b8)
    clear HK7 HM7 b8 HP7
    simp only [decide_true]
    go_wp2_with fail
    refine (HA.out _).mono ?_
    rintro e w9 ⟨rfl, b9⟩
    go_wp2_with fail
    go_ret
    exact ⟨rfl, below_tr HP8.out.lo b9⟩
  | some i =>
    rw [hat] at HK1
    have HAT := Lib.hid hat
    clear hat
    go_wp2_with fail
    refine HK1.out.mono ?_
    rintro e w2 ⟨rfl, P2, _⟩
    have HP2 := Lib.hid P2
    clear HK1 HP1 P2
    obtain ⟨m, hm, hnm⟩ := Ch.at_mem HAT.out
    have hi := Ch.at_lt HAT.out
    have ii : I64 (i : Int) := ⟨by omega, by omega⟩
    have HM := Lib.hid hm
    have hin1 : (g.less i n).at n = none := by rw [HP2.out.ok.at_less HAT.out, if_pos rfl]
    have hl1 : (g.less i n).ls[i]? = some (m.filter fun y => decide (y ≠ n)) := by rw [less_get hm, if_pos rfl]
    obtain ⟨e1, e2⟩ := push_is hl1 (show n < (g.less i n).nodes by show n < g.nodes; omega) hin1
    have hl2 : ((g.less i n).put i n).ls[i]? = some ((m.filter fun y => decide (y ≠ n)) ++ [n]) := by rw [put_get hl1, if_pos rfl]
    have HL2 := Lib.hid hl2
    have HK2 := Lib.hid (HP2.out.drop n in_)
    rw [Ch.inn_nat, HAT.out, drop_is HAT.out] at HK2
    have HK3 := Lib.hid (fun (W : World) (N : Nat → Prop) (h : OwnC K w W a N (g.less i n)) => h.push i n ii in_)
    rw [e1, e2] at HK3
    generalize (m.filter fun y => decide (y ≠ n)) = f at *
    have HK4 := Lib.hid (fun (W : World) (N : Nat → Prop) (h : OwnC K w W a N ((g.less i n).put i n)) => h.list i ii)
    have HK5 := Lib.hid (fun (W : World) (N : Nat → Prop) (h : OwnC K w W a N ((g.less i n).put i n)) => h.len i ii)
    rw [list_nat hl2] at HK4 HK5
    clear e1 e2 hl1 hl2 hin1 hm hnm
    unfold outV
    simp only [Option.getD_some, Option.isSome_some]
    go_wp2_with fail
    refine HK2.out.mono ?_
    rintro e w3 ⟨rfl, N3, P3, _⟩
    have HP3 := Lib.hid P3
    clear P3 HK2 HP2
    simp only [Option.isSome_some]
    go_wp2_with fail
    refine (HK3.out _ _ HP3.out).mono ?_
    rintro e w4 ⟨rfl, N4, P4, _⟩
    have HP4 := Lib.hid P4
    clear P4 HK3 HP3
    rw [show ((0 : Nat) : Int) = 0 from rfl]
    go_wp2_with fail
    refine (HK4.out _ _ HP4.out).mono ?_
    rintro e w5 ⟨p5, c5, rfl, M5, P5, b5⟩
    have HP5 := Lib.hid P5
    have hfl : (f ++ [n]).length = f.length + 1 := by simp
    have hsh : f.length + 1 ≤ 65536 := by
      have h1 := short_list P5.ok HL2.out
      have h2 := P5.ok.small
      omega
    rw [hfl] at M5 ⊢ HK5
    obtain ⟨_, hform⟩ := own_form M5.row
    obtain ⟨gT, rfl⟩ := hform (by omega)
    have cl : w5.cell? ⟨gT, f.length, none⟩ = some (.int .i64 (n : Int)) := by
      rw [M5.row.cellAt f.length (by omega)]
      simp [natV]
    have hpos : (0 : Int) < (f.length : Int) + 1 := by omega
    have HK6 := Lib.hid (HK5.out _ _ HP5.out)
    clear HK4 HP4 M5 P5 b5 hform HK5
    go_wp2_with fail
    refine HK6.out.mono ?_
    rintro e w6 ⟨rfl, P6, _⟩
    have HP6 := Lib.hid P6
    clear HK6 P6 HP5 cl
    rw [show ((f.length + 1 : Nat) : Int) = (f.length : Int) + 1 by omega]
    go_wp2_with fail
    refine (HA.out _).mono ?_
    rintro e w9 ⟨rfl, b9⟩
    go_wp2_with fail
    go_ret
    exact ⟨rfl, below_tr HP6.out.lo b9⟩

end Go.Proofs.Ythdgpnkkeeebkaa
