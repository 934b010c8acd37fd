/-
  What played and ahead of layer 11 make.
-/
import Derived.Test.YtkiibobpejoaeaaFifoSt
namespace Go.Proofs.Ytkiibobpejoaeaa
open Go.RowKit
set_option linter.unusedVariables false
set_option linter.unusedSimpArgs false

structure OpF where
  kind : Nat
  h : Int
  k : Ky
def OpF.Fits (o : OpF) : Prop := o.kind < 256 ∧ Hw o.h ∧ o.k.Fits
theorem op_cellsF {w : World} {A : Option Addr} {len cap : Nat} {rows : List (List Value)} (h : RowOf [some .u8, some .u64, some .u64, some .u64] w A len cap rows) {j : Nat} (hj : j < len) :
    ∃ (a : Addr) (o : OpF), A = some a ∧ o.Fits ∧ ∀ W, Below w.heap.size w W → W.cell? (a.add (j * 4)) = some (.int .u8 (o.kind : Int)) ∧ W.cell? ⟨(a.add (j * 4)).block, (a.add (j * 4)).off + 1, none⟩ = some (.int .u64 o.h) ∧ W.cell? ⟨(a.add (j * 4)).block, (a.add (j * 4)).off + 2, none⟩ = some (.int .u64 (o.k.at_ : Int)) ∧ W.cell? ⟨(a.add (j * 4)).block, (a.add (j * 4)).off + 3, none⟩ = some (.int .u64 (o.k.seq : Int)) := by
  obtain ⟨h1, _, h3⟩ := h
  obtain ⟨hf, a, rfl, hc⟩ := h3 j (by omega)
  obtain ⟨v0, v1, v2, v3, e⟩ : ∃ v0 v1 v2 v3, rows[j] = [v0, v1, v2, v3] := by
    have := hf.length
    match hr : rows[j], this with
    | [v0, v1, v2, v3], _ => exact ⟨v0, v1, v2, v3, rfl⟩
  rw [e] at hf hc
  obtain ⟨⟨n0, rfl, w0⟩, ⟨n1, rfl, w1⟩, ⟨n2, rfl, w2⟩, ⟨n3, rfl, w3⟩, _⟩ := hf
  obtain ⟨x0, rfl, hx0⟩ := nat_u8 w0
  obtain ⟨x1, rfl, hx1⟩ := nat_u64 w1
  obtain ⟨x2, rfl, hx2⟩ := nat_u64 w2
  obtain ⟨x3, rfl, hx3⟩ := nat_u64 w3
  have c0 := hc 0 _ rfl
  have c1 := hc 1 _ rfl
  have c2 := hc 2 _ rfl
  have c3 := hc 3 _ rfl
  simp only [List.length_cons, List.length_nil, Nat.zero_add, Nat.add_zero, Nat.reduceAdd] at c0 c1 c2 c3
  rw [add_at] at c1 c2 c3
  refine ⟨a, ⟨x0, (x1 : Int), ⟨x2, x3⟩⟩, rfl, ⟨hx0, ⟨by show (0 : Int) ≤ (x1 : Int); omega, by show (x1 : Int) < _; omega⟩, hx2, hx3⟩, fun W b => ?_⟩
  exact ⟨(b.cell (World.block_lt_of_cell? w _ c0)).trans c0, (b.cell (World.block_lt_of_cell? w _ c1)).trans c1, (b.cell (World.block_lt_of_cell? w _ c2)).trans c2, (b.cell (World.block_lt_of_cell? w _ c3)).trans c3⟩
/-- What the calls make of a queue. -/
def playF : List OpF → Fg → Fg
  | [], g => g
  | o :: l, g => playF l (if o.kind = 1 then ⟨g.room, putL g.room g.l o.k o.h⟩ else if o.kind = 2 then ⟨g.room, g.l.tail⟩ else g)
def opOfF : List Value → OpF
  | [.int _ a, .int _ b, .int _ c, .int _ d] => ⟨a.toNat, b, ⟨c.toNat, d.toNat⟩⟩
  | _ => ⟨0, 0, ⟨0, 0⟩⟩
set_option maxHeartbeats 8000000 in
set_option maxRecDepth 100000 in
theorem law_played (a0 : Option Addr) (len0 cap0 : Nat) (z0 : List (List Value)) (wa w W0 : World) (hlow : len0 ≤ cap0 ∧ cap0 ≤ 9223372036854775807) (HR : Hid (RowOf [some .u8, some .u64, some .u64, some .u64] wa a0 len0 cap0 z0)) (hwa : Below wa.heap.size wa w) (n : Nat) (hn : n ≤ len0) (lo : Below w.heap.size w W0) :
    Calls Try.prog 33 #[.slice a0 n cap0] W0 fun e W' => ∃ a g, e = .returned (.tuple #[.pointer (some a), .bool true]) ∧ Hid (g.room = 40) ∧ Hid (FSt w W' a g [] []) := by
  have HWa := Lib.hid hwa
  clear hwa
  have KN := Lib.hid (FSt.new_ 40 (by decide) (by decide) w W0 lo)
  obtain ⟨m, Hm⟩ : ∃ m, Hid (min n 60 = m) := ⟨_, Lib.hid rfl⟩
  have hm1 : m ≤ n := by have := Hm.out; omega
  have hm2 : m ≤ 60 := by have := Hm.out; omega
  have hco := hlow.2
  have hlo := hlow.1
  have hnz : (n : Int) ≤ (cap0 : Int) := by omega
  go_enter Try.func33, Try.ntmps33
  go_upto_region 2 with (go_at_call 20; refine KN.out.mono ?_; rintro e W1 ⟨a, rfl, S1⟩)
  clear KN
  go_cut [16, 17, 18] (fun v16 v17 v18 wx => v16 = .slice a0 m cap0 ∧ v17 = .int .i64 (m : Int) ∧ v18 = .int .i64 0 ∧ W1 = wx)
  case first =>
    by_cases h60 : 60 < n
    · have h60z : (60 : Int) < (n : Int) := by omega
      obtain rfl : m = 60 := by have := Hm.out; omega
      go_wp2_with fail
      go_meet
      exact ⟨by first | rfl | rw [show (min (n : Int) 60).toNat = 60 by omega], congrArg (Value.int .i64) (by omega), rfl, rfl⟩
    · have h60z : ¬ (60 : Int) < (n : Int) := by omega
      obtain rfl : m = n := by have := Hm.out; omega
      go_wp2_with fail
      go_meet
      exact ⟨by first | rfl | rw [show (min (m : Int) 60).toNat = m by omega], congrArg (Value.int .i64) (by omega), rfl, rfl⟩
  case rest =>
  obtain ⟨rfl, rfl, rfl, rfl⟩ := hcut
  clear Hm
  go_wp2_with fail
  go_loopg [18] m (fun k v18 wx => ∃ (i : Nat) (g : Fg), i + k = m ∧ v18 = .int .i64 (i : Int) ∧ Hid (g.room = 40) ∧ Hid (FSt w wx a g [] []))
  case atStart => exact ⟨0, _, by omega, rfl, Lib.hid rfl, S1⟩
  case round =>
  clear S1
  obtain ⟨i, g, hik, rfl, HG, HS⟩ := hrel
  by_cases hin : i = m
  · have hiz : ¬ (i : Int) < (m : Int) := by omega
    go_wp2_with fail
    go_ret2
    exact ⟨a, rfl, g, HG, HS⟩
  · have hiz : (i : Int) < (m : Int) := by omega
    obtain ⟨ad, o, rfl, hof, HO⟩ := op_cellsF HR.out (show i < len0 by omega)
    obtain ⟨o0, o1, o2, o3⟩ := HO wr (below_tr HWa.out HS.out.lo)
    obtain ⟨kd, v, ⟨ka, kq⟩⟩ := o
    have HOf := Lib.hid hof
    simp only at o0 o1 o2 o3
    obtain ⟨W5, HW5⟩ : ∃ W5, Hid (wr.alloc (.cells #[.int .u8 (kd : Int), .int .u64 v, .int .u64 (ka : Int), .int .u64 (kq : Int)] 70) = W5) := ⟨_, Lib.hid rfl⟩
    obtain ⟨ob, HOB⟩ : ∃ ob, Hid (wr.heap.size = ob) := ⟨_, Lib.hid rfl⟩
    have HS5 := Lib.hid (HS.out.below (W' := W5) (by rw [← HW5.out]; exact (Below.refl _ _).alloc (Nat.le_refl _) _))
    have bx : Box W5 ob 70 #[.int .u8 (kd : Int), .int .u64 v, .int .u64 (ka : Int), .int .u64 (kq : Int)] := by rw [← HW5.out, ← HOB.out]; exact Box.new _ _ _
    clear HO HS hof
    go_upto_region 5 with fail
    rw [HW5.out, HOB.out]
    have c0 := bx.cell 0
    have c1 := bx.cell 1
    have c2 := bx.cell 2
    have c3 := bx.cell 3
    clear o0 o1 o2 o3 bx HW5 HOB
    have hwi : IntKind.i64.wrap ((i : Int) + 1) = ((i + 1 : Nat) : Int) := by rw [IntKind.wrap_i64]; omega
    by_cases h1 : kd = 1
    · subst h1
      have KP0 := HS5.out.push v HOf.out.2.1 ⟨ka, kq⟩ HOf.out.2.2
      unfold kyV at KP0
      have KP := Lib.hid KP0
      clear KP0 HS5
      go_wp2_with (go_at_call 23; refine KP.out.mono ?_; rintro e W6 ⟨rfl, S6⟩; clear c0 c1 c2 c3 KP)
      go_roundg (m - (i + 1))
      case measure => omega
      case rel => exact ⟨i + 1, ⟨g.room, putL g.room g.l ⟨ka, kq⟩ v⟩, by omega, by go_num, HG, S6⟩
    · by_cases h2 : kd = 2
      · subst h2
        have KP := Lib.hid HS5.out.pop
        clear HS5
        unfold popV at KP
        go_wp2_with (go_at_call 25; refine KP.out.mono ?_; rintro e W6 ⟨rfl, S6⟩; clear c0 c1 c2 c3 KP)
        go_roundg (m - (i + 1))
        case measure => omega
        case rel => exact ⟨i + 1, ⟨g.room, g.l.tail⟩, by omega, by go_num, HG, S6⟩
      · have h1z : ((kd : Int) == 1) = false := by rw [beq_eq_false_iff_ne]; omega
        have h2z : ((kd : Int) == 2) = false := by rw [beq_eq_false_iff_ne]; omega
        have h1n : ¬ (kd : Int) = 1 := by omega
        have h2n : ¬ (kd : Int) = 2 := by omega
        go_wp2_with fail
        go_roundg (m - (i + 1))
        case measure => omega
        case rel => exact ⟨i + 1, g, by omega, by go_num, HG, HS5⟩
theorem law_ahead (a b : Ky) (w : World) : Calls Try.prog 34 #[kyV a, kyV b] w fun e w' => e = .returned (.bool (decide (a.lt b))) ∧ Below w.heap.size w w' := by
  unfold kyV
  have x1 := (Box.new w 68 #[.int .u64 (a.at_ : Int), .int .u64 (a.seq : Int)]).alloc (.cells #[.int .u64 (b.at_ : Int), .int .u64 (b.seq : Int)] 68)
  have x2 := Box.new (w.alloc (.cells #[.int .u64 (a.at_ : Int), .int .u64 (a.seq : Int)] 68)) 68 #[.int .u64 (b.at_ : Int), .int .u64 (b.seq : Int)]
  rw [World.size_alloc] at x2
  have HB := Lib.hid (((Below.refl _ w).alloc (Nat.le_refl _) (.cells #[.int .u64 (a.at_ : Int), .int .u64 (a.seq : Int)] 68)).alloc (by rw [World.size_alloc]; omega) (.cells #[.int .u64 (b.at_ : Int), .int .u64 (b.seq : Int)] 68))
  obtain ⟨W, HW⟩ : ∃ W, Hid (((w.alloc (.cells #[.int .u64 (a.at_ : Int), .int .u64 (a.seq : Int)] 68)).alloc (.cells #[.int .u64 (b.at_ : Int), .int .u64 (b.seq : Int)] 68)) = W) := ⟨_, Lib.hid rfl⟩
  rw [HW.out] at x1 x2 HB
  have c0 : W.cell? ⟨w.heap.size, 0, none⟩ = some (.int .u64 (a.at_ : Int)) := x1.cell 0
  have c1 : W.cell? ⟨w.heap.size, 1, none⟩ = some (.int .u64 (a.seq : Int)) := x1.cell 1
  have d0 : W.cell? ⟨w.heap.size + 1, 0, none⟩ = some (.int .u64 (b.at_ : Int)) := x2.cell 0
  have d1 : W.cell? ⟨w.heap.size + 1, 1, none⟩ = some (.int .u64 (b.seq : Int)) := x2.cell 1
  clear x1 x2
  by_cases h1 : a.at_ < b.at_
  · have h1z : (a.at_ : Int) < (b.at_ : Int) := by omega
    have HE : Hid (decide (a.lt b) = true) := Lib.hid (decide_eq_true (.inl h1))
    clear h1
    go_enter Try.func34, Try.ntmps34
    go_upto_region 1 with fail
    rw [HW.out]
    go_wp2_with fail
    go_ret
    exact ⟨by rw [HE.out]; rfl, HB.out⟩
  · have h1z : ¬ (a.at_ : Int) < (b.at_ : Int) := by omega
    by_cases h2 : a.at_ = b.at_
    · have h2z : ((a.at_ : Int) == (b.at_ : Int)) = true := by simp [h2]
      by_cases h3 : a.seq < b.seq
      · have h3z : (a.seq : Int) < (b.seq : Int) := by omega
        have HE : Hid (decide (a.lt b) = true) := Lib.hid (decide_eq_true (.inr ⟨h2, h3⟩))
        clear h1 h2 h3
        go_enter Try.func34, Try.ntmps34
        go_upto_region 1 with fail
        rw [HW.out]
        go_wp2_with fail
        go_ret
        exact ⟨by rw [HE.out]; rfl, HB.out⟩
      · have h3z : ¬ (a.seq : Int) < (b.seq : Int) := by omega
        have HE : Hid (decide (a.lt b) = false) := Lib.hid (decide_eq_false (by unfold Ky.lt; omega))
        clear h1 h2 h3
        go_enter Try.func34, Try.ntmps34
        go_upto_region 1 with fail
        rw [HW.out]
        go_wp2_with fail
        go_ret
        exact ⟨by rw [HE.out]; rfl, HB.out⟩
    · have h2z : ((a.at_ : Int) == (b.at_ : Int)) = false := by rw [beq_eq_false_iff_ne]; omega
      have HE : Hid (decide (a.lt b) = false) := Lib.hid (decide_eq_false (by unfold Ky.lt; omega))
      clear h1 h2
      go_enter Try.func34, Try.ntmps34
      go_upto_region 1 with fail
      rw [HW.out]
      go_wp2_with fail
      go_ret
      exact ⟨by rw [HE.out]; rfl, HB.out⟩

end Go.Proofs.Ytkiibobpejoaeaa
