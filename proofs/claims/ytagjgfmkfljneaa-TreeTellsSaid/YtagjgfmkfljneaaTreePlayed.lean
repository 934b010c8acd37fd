/-
  The laws' own play of a tree with room for sixty.
-/
import Derived.Test.YtagjgfmkfljneaaTreeLawWalk
namespace Go.Proofs.Ytagjgfmkfljneaa
open Go.RowKit
set_option linter.unusedVariables false

/-- The cells of a call. -/
theorem opt_cells {w : World} {A : Option Addr} {len cap : Nat} {rows : List (List Value)} (h : RowOf [some .u8, some .u64, some .u64, some .i64] w A len cap rows) {j : Nat} (hj : j < len) :
    ∃ (ad : Addr) (kd : Nat) (k : Ky) (v : Int), A = some ad ∧ kd < 256 ∧ k.Fits ∧ I64 v ∧ ∀ W, Below w.heap.size w W → W.cell? (ad.add (j * 4)) = some (.int .u8 (kd : Int)) ∧ W.cell? ⟨(ad.add (j * 4)).block, (ad.add (j * 4)).off + 1, none⟩ = some (.int .u64 (k.at_ : Int)) ∧ W.cell? ⟨(ad.add (j * 4)).block, (ad.add (j * 4)).off + 2, none⟩ = some (.int .u64 (k.seq : Int)) ∧ W.cell? ⟨(ad.add (j * 4)).block, (ad.add (j * 4)).off + 3, none⟩ = some (.int .i64 v) := by
  obtain ⟨h1, _, h3⟩ := h
  obtain ⟨hf, a, rfl, hc⟩ := h3 j (by omega)
  obtain ⟨v0, v1, v2, v3, e⟩ : ∃ v0 v1 v2 v3, rows[j] = [v0, v1, v2, v3] := by
    have := hf.length
    match hr : rows[j], this with
    | [v0, v1, v2, v3], _ => exact ⟨v0, v1, v2, v3, rfl⟩
  rw [e] at hf hc
  obtain ⟨⟨n0, rfl, w0⟩, ⟨n1, rfl, w1⟩, ⟨n2, rfl, w2⟩, ⟨n3, rfl, w3⟩, _⟩ := hf
  obtain ⟨x, rfl, hx⟩ := nat_u8 w0
  obtain ⟨y, rfl, hy⟩ := nat_u64 w1
  obtain ⟨z, rfl, hz⟩ := nat_u64 w2
  have c0 := hc 0 _ rfl
  have c1 := hc 1 _ rfl
  have c2 := hc 2 _ rfl
  have c3 := hc 3 _ rfl
  simp only [List.length_cons, List.length_nil, Nat.zero_add, Nat.add_zero, Nat.reduceAdd] at c0 c1 c2 c3
  rw [add_at] at c1
  rw [show j * 4 + 2 = j * 4 + (1 + 1) from rfl, add_at] at c2
  rw [show j * 4 + 3 = j * 4 + (2 + 1) from rfl, add_at] at c3
  refine ⟨a, x, ⟨y, z⟩, n3, rfl, hx, ⟨hy, hz⟩, i64_wf w3, fun W b => ⟨?_, ?_, ?_, ?_⟩⟩
  · exact (b.cell (World.block_lt_of_cell? w _ c0)).trans c0
  · exact (b.cell (World.block_lt_of_cell? w _ c1)).trans c1
  · exact (b.cell (World.block_lt_of_cell? w _ c2)).trans c2
  · exact (b.cell (World.block_lt_of_cell? w _ c3)).trans c3

/-- A tree with room for sixty. -/
def SixtyAt (K : TreeK) (w W : World) (a : Addr) : Prop := ∃ N g, OwnT K w W a N g ∧ g.room = 60
def PlayedT (K : TreeK) (w : World) (e : Ending) (W : World) : Prop := ∃ a, e = .returned (.pointer (some a)) ∧ SixtyAt K w W a

set_option maxHeartbeats 8000000 in
set_option maxRecDepth 100000 in
theorem law_played (K : TreeK) (A : Option Addr) (len cap : Nat) (rows : List (List Value)) (w : World) (HR : Hid (RowOf [some .u8, some .u64, some .u64, some .i64] w A len cap rows)) :
    Calls Try.prog 24 #[.slice A len cap] w (PlayedT K w) := by
  have R1 : Hid (Calls Try.prog 9 #[.int .i64 60] w fun e W' => ∃ a N, e = .returned (.tuple #[.pointer (some a), .int .i64 0]) ∧ OwnT K w W' a N ⟨60, .leaf⟩ ∧ Below w.heap.size w W' ∧ ∀ k, N k → w.heap.size ≤ k) := OwnT.new_ K w 60 (by decide) (by decide) w (Below.refl _ _)
  have hlc := (row_fit HR.out).1
  have hcap := (row_fit HR.out).2
  obtain ⟨n, Hn⟩ : ∃ n, Hid (min len 120 = n) := ⟨_, Lib.hid rfl⟩
  have hn1 : n ≤ len := by have := Hn.out; omega
  have hn2 : n ≤ 120 := by have := Hn.out; omega
  go_enter Try.func24, Try.ntmps24
  go_wp2_with fail
  refine R1.out.mono ?_
  rintro e w1 ⟨a, N0, rfl, H0, _, _⟩
  have HP : Hid (SixtyAt K w w1 a) := ⟨N0, _, H0, rfl⟩
  clear H0 R1
  go_upto_region 2 with fail
  go_cut [15, 16, 17] (fun s l i wx => s = .slice A n cap ∧ l = .int .i64 (n : Int) ∧ i = .int .i64 0 ∧ wx = w1)
  case first =>
    by_cases h60 : 120 < len
    · have h60z : (120 : Int) < (len : Int) := by omega
      obtain rfl : n = 120 := by have := Hn.out; omega
      go_wp2_with fail
      go_meet
      exact ⟨rfl, rfl, rfl, rfl⟩
    · have h60z : ¬ (120 : Int) < (len : Int) := by omega
      obtain rfl : n = len := by have := Hn.out; omega
      go_wp2_with fail
      go_meet
      exact ⟨rfl, rfl, rfl, rfl⟩
  case rest =>
    obtain ⟨rfl, rfl, rfl, rfl⟩ := hcut
    go_wp2_with fail
    go_loopg [17] n (fun k i wx => ∃ (j : Nat), n - j = k ∧ j ≤ n ∧ i = .int .i64 (j : Int) ∧ Hid (SixtyAt K w wx a))
    case atStart => exact ⟨0, rfl, by omega, rfl, HP⟩
    case round =>
      clear HP
      obtain ⟨j, rfl, hj, rfl, HQ⟩ := hrel
      by_cases h0 : j = n
      · have h0z : ¬ (j : Int) < (n : Int) := by omega
        have h0n : ¬ j < n := by omega
        clear h0
        go_wp2_with fail
        go_ret
        exact ⟨a, rfl, HQ.out⟩
      · have hjl : j < n := by omega
        have hjz : (j : Int) < (n : Int) := by omega
        obtain ⟨N, g, P, hd⟩ := HQ.out
        have HP := Lib.hid P
        clear HQ P h0
        obtain ⟨ad, kd, k, v, rfl, hkd, hk, hv, HO⟩ := opt_cells HR.out (show j < len by omega)
        obtain ⟨o0, o1, o2, o3⟩ := HO wr HP.out.lo
        clear HO
        go_upto_block 1 with fail
        go_cut [] (fun wx => Hid (SixtyAt K w wx a))
        case first =>
          go_upto_block 2 with fail
          have HP1 := Lib.hid (HP.out.below ((Below.refl _ wr).alloc (Nat.le_refl _) (.cells #[.int .u8 (kd : Int), .int .u64 (k.at_ : Int), .int .u64 (k.seq : Int), .int .i64 v] 35)))
          have X1 := Box.new wr 35 #[.int .u8 (kd : Int), .int .u64 (k.at_ : Int), .int .u64 (k.seq : Int), .int .i64 v]
          obtain ⟨W1, HW1⟩ : ∃ W1, Hid (wr.alloc (.cells #[.int .u8 (kd : Int), .int .u64 (k.at_ : Int), .int .u64 (k.seq : Int), .int .i64 v] 35) = W1) := ⟨_, Lib.hid rfl⟩
          rw [HW1.out] at HP1 X1 ⊢
          have x0 : W1.cell? ⟨wr.heap.size, 0, none⟩ = some (.int .u8 (kd : Int)) := X1.cell 0
          have x1 : W1.cell? ⟨wr.heap.size, 1, none⟩ = some (.int .u64 (k.at_ : Int)) := X1.cell 1
          have x2 : W1.cell? ⟨wr.heap.size, 2, none⟩ = some (.int .u64 (k.seq : Int)) := X1.cell 2
          have x3 : W1.cell? ⟨wr.heap.size, 3, none⟩ = some (.int .i64 v) := X1.cell 3
          clear HW1 HP o0 o1 o2 o3 X1
          have KP := Lib.hid (HP1.out.put k v hk hv)
          have KD := Lib.hid (HP1.out.drop k hk)
          unfold kyV at KP KD
          by_cases k1 : kd = 1
          · subst k1
            go_wp2_with fail
            refine KP.out.mono ?_
            rintro e w3 ⟨rfl, N3, g3, e3, _, P3, _⟩
            have HE : Hid (SixtyAt K w w3 a) := ⟨N3, g3, P3, e3.trans hd⟩
            clear P3 HP1 KP KD
            go_wp2_with fail
            go_meet
            exact HE
          · by_cases k2 : kd = 2
            · subst k2
              go_wp2_with fail
              refine KD.out.mono ?_
              rintro e w3 ⟨rfl, N3, g3, e3, _, P3, _⟩
              have HE : Hid (SixtyAt K w w3 a) := ⟨N3, g3, P3, e3.trans hd⟩
              clear P3 HP1 KP KD
              go_wp2_with fail
              go_meet
              exact HE
            · have k1z : ((kd : Int) == 1) = false := by rw [beq_eq_false_iff_ne]; omega
              have k2z : ((kd : Int) == 2) = false := by rw [beq_eq_false_iff_ne]; omega
              have HE : Hid (SixtyAt K w W1 a) := ⟨N, g, HP1.out, hd⟩
              clear k1 k2 HP1 KP KD
              go_wp2_with fail
              go_meet
              exact HE
        case rest =>
          have HE := hcut
          clear hcut HP
          go_wp2_with fail
          go_roundg (n - (j + 1))
          case measure => omega
          case rel => exact ⟨j + 1, rfl, by omega, by go_num, HE⟩

end Go.Proofs.Ytagjgfmkfljneaa
