/-
  The laws' own play of four lists and twenty nodes.
-/
import Derived.Test.YthdgpnkkeeebkaaChainAwake
namespace Go.Proofs.Ythdgpnkkeeebkaa
open Go.RowKit
set_option linter.unusedVariables false

/-- The cells of a call. -/
theorem opc_cells {w : World} {A : Option Addr} {len cap : Nat} {rows : List (List Value)} (h : RowOf [some .u8, some .i64, some .i64] w A len cap rows) {j : Nat} (hj : j < len) :
    ∃ (ad : Addr) (kd : Nat) (i n : Int), A = some ad ∧ kd < 256 ∧ I64 i ∧ I64 n ∧ ∀ W, Below w.heap.size w W → W.cell? (ad.add (j * 3)) = some (.int .u8 (kd : Int)) ∧ W.cell? ⟨(ad.add (j * 3)).block, (ad.add (j * 3)).off + 1, none⟩ = some (.int .i64 i) ∧ W.cell? ⟨(ad.add (j * 3)).block, (ad.add (j * 3)).off + 2, none⟩ = some (.int .i64 n) := by
  obtain ⟨h1, _, h3⟩ := h
  obtain ⟨hf, a, rfl, hc⟩ := h3 j (by omega)
  obtain ⟨v0, v1, v2, e⟩ : ∃ v0 v1 v2, rows[j] = [v0, v1, v2] := by
    have := hf.length
    match hr : rows[j], this with
    | [v0, v1, v2], _ => exact ⟨v0, v1, v2, rfl⟩
  rw [e] at hf hc
  obtain ⟨⟨n0, rfl, w0⟩, ⟨n1, rfl, w1⟩, ⟨n2, rfl, w2⟩, _⟩ := hf
  obtain ⟨x, rfl, hx⟩ := nat_u8 w0
  have c0 := hc 0 _ rfl
  have c1 := hc 1 _ rfl
  have c2 := hc 2 _ rfl
  simp only [List.length_cons, List.length_nil, Nat.zero_add, Nat.add_zero, Nat.reduceAdd] at c0 c1 c2
  rw [add_at] at c1
  rw [show j * 3 + 2 = j * 3 + (1 + 1) from rfl, add_at] at c2
  refine ⟨a, x, n1, n2, rfl, hx, i64_wf w1, i64_wf w2, fun W b => ⟨?_, ?_, ?_⟩⟩
  · exact (b.cell (World.block_lt_of_cell? w _ c0)).trans c0
  · exact (b.cell (World.block_lt_of_cell? w _ c1)).trans c1
  · exact (b.cell (World.block_lt_of_cell? w _ c2)).trans c2

/-- Chains of four lists and twenty nodes. -/
def FourAt (K : ChainK) (w W : World) (a : Addr) : Prop := ∃ N g, OwnC K w W a N g ∧ g.ls.length = 4 ∧ g.nodes = 20
theorem push_dims (g : Ch) (i n : Int) : (g.push i n).ls.length = g.ls.length ∧ (g.push i n).nodes = g.nodes := by
  unfold Ch.push
  split
  · exact ⟨by simp [Ch.put], rfl⟩
  · exact ⟨rfl, rfl⟩
theorem drop_dims (g : Ch) (n : Int) : (g.drop n).ls.length = g.ls.length ∧ (g.drop n).nodes = g.nodes := by
  unfold Ch.drop
  split
  · exact ⟨by simp [Ch.less], rfl⟩
  · exact ⟨rfl, rfl⟩
theorem pop_dims (g : Ch) (i : Int) : (g.pop i).ls.length = g.ls.length ∧ (g.pop i).nodes = g.nodes := by
  unfold Ch.pop
  split
  · exact drop_dims g _
  · exact ⟨rfl, rfl⟩

def PlayedC (K : ChainK) (w : World) (e : Ending) (W : World) : Prop := ∃ a, e = .returned (.pointer (some a)) ∧ FourAt K w W a

set_option maxHeartbeats 8000000 in
set_option maxRecDepth 100000 in
theorem law_played (K : ChainK) (A : Option Addr) (len cap : Nat) (rows : List (List Value)) (w : World) (HR : Hid (RowOf [some .u8, some .i64, some .i64] w A len cap rows)) :
    Calls Try.prog 25 #[.slice A len cap] w (PlayedC K w) := by
  have R1 : Hid (Calls Try.prog 9 #[.int .i64 4, .int .i64 20] w fun e W' => ∃ a N, e = .returned (.tuple #[.pointer (some a), .int .i64 0]) ∧ OwnC K w W' a N (Ch.new 4 20)) := OwnC.new_ K w 4 20 (by decide) (by decide) (by decide) (by decide)
  have hlc := (row_fit HR.out).1
  have hcap := (row_fit HR.out).2
  obtain ⟨n, Hn⟩ : ∃ n, Hid (min len 60 = n) := ⟨_, Lib.hid rfl⟩
  have hn1 : n ≤ len := by have := Hn.out; omega
  have hn2 : n ≤ 60 := by have := Hn.out; omega
  go_enter Try.func25, Try.ntmps25
  go_wp2_with fail
  refine R1.out.mono ?_
  rintro e w1 ⟨a, N0, rfl, H0⟩
  have HP : Hid (FourAt K w w1 a) := ⟨N0, _, H0, by decide, rfl⟩
  clear H0 R1
  go_upto_region 2 with fail
  go_cut [15, 16, 17] (fun s l i wx => s = .slice A n cap ∧ l = .int .i64 (n : Int) ∧ i = .int .i64 0 ∧ wx = w1)
  case first =>
    by_cases h60 : 60 < len
    · have h60z : (60 : Int) < (len : Int) := by omega
      obtain rfl : n = 60 := by have := Hn.out; omega
      go_wp2_with fail
      go_meet
      exact ⟨rfl, rfl, rfl, rfl⟩
    · have h60z : ¬ (60 : Int) < (len : Int) := by omega
      obtain rfl : n = len := by have := Hn.out; omega
      go_wp2_with fail
      go_meet
      exact ⟨rfl, rfl, rfl, rfl⟩
  case rest =>
    obtain ⟨rfl, rfl, rfl, rfl⟩ := hcut
    go_wp2_with fail
    go_loopg [17] n (fun k i wx => ∃ (j : Nat), n - j = k ∧ j ≤ n ∧ i = .int .i64 (j : Int) ∧ Hid (FourAt K w wx a))
    case atStart => exact ⟨0, rfl, by omega, rfl, HP⟩
    case round =>
      clear HP
      obtain ⟨j, rfl, hj, rfl, HQ⟩ := hrel
      by_cases h0 : j = n
      · have h0z : ¬ (j : Int) < (n : Int) := by omega
        have h0n : ¬ j < n := by omega
        clear h0
        go_wp2_with fail
        go_ret
        exact ⟨a, rfl, HQ.out⟩
      · have hjl : j < n := by omega
        have hjz : (j : Int) < (n : Int) := by omega
        obtain ⟨N, g, P, hd1, hd2⟩ := HQ.out
        have HP := Lib.hid P
        clear HQ P h0
        obtain ⟨ad, kd, i, x, rfl, hkd, hi, hx, HO⟩ := opc_cells HR.out (show j < len by omega)
        obtain ⟨o0, o1, o2⟩ := HO wr HP.out.lo
        clear HO
        go_upto_block 1 with fail
        go_cut [] (fun wx => Hid (FourAt K w wx a))
        case first =>
          go_upto_block 2 with fail
          have HP1 := Lib.hid (HP.out.below ((Below.refl _ wr).alloc (Nat.le_refl _) (.cells #[.int .u8 (kd : Int), .int .i64 i, .int .i64 x] 34)))
          have X1 := Box.new wr 34 #[.int .u8 (kd : Int), .int .i64 i, .int .i64 x]
          obtain ⟨W1, HW1⟩ : ∃ W1, Hid (wr.alloc (.cells #[.int .u8 (kd : Int), .int .i64 i, .int .i64 x] 34) = W1) := ⟨_, Lib.hid rfl⟩
          rw [HW1.out] at HP1 X1 ⊢
          have x0 : W1.cell? ⟨wr.heap.size, 0, none⟩ = some (.int .u8 (kd : Int)) := X1.cell 0
          have x1 : W1.cell? ⟨wr.heap.size, 1, none⟩ = some (.int .i64 i) := X1.cell 1
          have x2 : W1.cell? ⟨wr.heap.size, 2, none⟩ = some (.int .i64 x) := X1.cell 2
          clear HW1 HP o0 o1 o2 X1
          by_cases k1 : kd = 1
          · subst k1
            go_wp2_with fail
            refine (HP1.out.push i x hi hx).mono ?_
            rintro e w3 ⟨rfl, N3, P3, _⟩
            have HE : Hid (FourAt K w w3 a) := ⟨N3, _, P3, (push_dims g i x).1.trans hd1, (push_dims g i x).2.trans hd2⟩
            clear P3 HP1
            go_wp2_with fail
            go_meet
            exact HE
          · by_cases k2 : kd = 2
            · subst k2
              go_wp2_with fail
              refine (HP1.out.pop i hi).mono ?_
              rintro e w3 ⟨rfl, N3, P3, _⟩
              have HE : Hid (FourAt K w w3 a) := ⟨N3, _, P3, (pop_dims g i).1.trans hd1, (pop_dims g i).2.trans hd2⟩
              clear P3 HP1
              go_wp2_with fail
              go_meet
              exact HE
            · by_cases k3 : kd = 3
              · subst k3
                go_wp2_with fail
                refine (HP1.out.drop x hx).mono ?_
                rintro e w3 ⟨rfl, N3, P3, _⟩
                have HE : Hid (FourAt K w w3 a) := ⟨N3, _, P3, (drop_dims g x).1.trans hd1, (drop_dims g x).2.trans hd2⟩
                clear P3 HP1
                go_wp2_with fail
                go_meet
                exact HE
              · have k1z : ((kd : Int) == 1) = false := by rw [beq_eq_false_iff_ne]; omega
                have k2z : ((kd : Int) == 2) = false := by rw [beq_eq_false_iff_ne]; omega
                have k3z : ((kd : Int) == 3) = false := by rw [beq_eq_false_iff_ne]; omega
                have HE : Hid (FourAt K w W1 a) := ⟨N, g, HP1.out, hd1, hd2⟩
                clear k1 k2 k3 HP1
                go_wp2_with fail
                go_meet
                exact HE
        case rest =>
          have HE := hcut
          clear hcut HP
          go_wp2_with fail
          go_roundg (n - (j + 1))
          case measure => omega
          case rel => exact ⟨j + 1, rfl, by omega, by go_num, HE⟩

end Go.Proofs.Ythdgpnkkeeebkaa
