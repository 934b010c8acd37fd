/-
  Same, asked of a row and of a piece of another one.
-/
import Derived.Test.YtfedjeojanpnpabWalkSt
import Derived.Test.YtfedjeojanpnpabWalkTurn
namespace Go.Proofs.Ytfedjeojanpnpab
open Go.RowKit
set_option linter.unusedVariables false

theorem law_same_o (p q : Option Addr) (c d b1 n o : Nat) (l : List En) (w : World) (hl : n ≤ 65536) (hn : l.length = n) (h1 : w.ownsRow b1 52 3 (.slice p n c) n (l.flatMap enC)) (h2 : ∀ (j : Nat) (h : j < l.length), ∃ gb, q = some ⟨gb, o, none⟩ ∧ gb < w.heap.size ∧ w.cell? ⟨gb, o + j * 3, none⟩ = some (.int .u64 (l[j].key.at_ : Int)) ∧ w.cell? ⟨gb, o + j * 3 + 1, none⟩ = some (.int .u64 (l[j].key.seq : Int)) ∧ w.cell? ⟨gb, o + j * 3 + 2, none⟩ = some (.int .i64 l[j].val)) :
    Calls Try.prog 12 #[.slice p n c, .slice q n d] w fun e w' => e = .returned (.bool true) ∧ ∃ m, w' = w.drewN m := by
  subst hn
  have hz : ((l.length : Int) != (l.length : Int)) = false := by simp
  have HC1 : Hid (∀ (j : Nat) (h : j < l.length), ∃ gb, p = some ⟨gb, 0, none⟩ ∧ ∀ W, Below w.heap.size w W → W.cell? ⟨gb, j * 3, none⟩ = some (.int .u64 (l[j].key.at_ : Int)) ∧ W.cell? ⟨gb, j * 3 + 1, none⟩ = some (.int .u64 (l[j].key.seq : Int)) ∧ W.cell? ⟨gb, j * 3 + 2, none⟩ = some (.int .i64 l[j].val)) := by
    refine Lib.hid fun j h => ?_
    obtain ⟨gb, rfl, hg, c0, c1, c2⟩ := en_cells h1 h
    exact ⟨gb, rfl, fun W b => ⟨(b.cell (p := ⟨gb, j * 3, none⟩) hg).trans c0, (b.cell (p := ⟨gb, j * 3 + 1, none⟩) hg).trans c1, (b.cell (p := ⟨gb, j * 3 + 2, none⟩) hg).trans c2⟩⟩
  have HC2 : Hid (∀ (j : Nat) (h : j < l.length), ∃ gb, q = some ⟨gb, o, none⟩ ∧ ∀ W, Below w.heap.size w W → W.cell? ⟨gb, o + j * 3, none⟩ = some (.int .u64 (l[j].key.at_ : Int)) ∧ W.cell? ⟨gb, o + j * 3 + 1, none⟩ = some (.int .u64 (l[j].key.seq : Int)) ∧ W.cell? ⟨gb, o + j * 3 + 2, none⟩ = some (.int .i64 l[j].val)) := by
    refine Lib.hid fun j h => ?_
    obtain ⟨gb, rfl, hg, c0, c1, c2⟩ := h2 j h
    exact ⟨gb, rfl, fun W b => ⟨(b.cell (p := ⟨gb, o + j * 3, none⟩) hg).trans c0, (b.cell (p := ⟨gb, o + j * 3 + 1, none⟩) hg).trans c1, (b.cell (p := ⟨gb, o + j * 3 + 2, none⟩) hg).trans c2⟩⟩
  clear h1 h2
  go_enter Try.func12, Try.ntmps12
  go_wp2_with fail
  go_loopg [13] l.length (fun k i wx => ∃ (j : Nat), l.length - j = k ∧ j ≤ l.length ∧ i = .int .i64 (j : Int) ∧ Hid (∃ m, wx = w.drewN m))
  case atStart => exact ⟨0, rfl, by omega, rfl, ⟨0, rfl⟩⟩
  case round =>
    obtain ⟨j, rfl, hj, rfl, HB⟩ := hrel
    by_cases h0 : j = l.length
    · have h0z : ¬ (j : Int) < (l.length : Int) := by omega
      clear h0
      go_wp2_with fail
      go_ret
      exact ⟨rfl, HB.out⟩
    · have hjl : j < l.length := by omega
      have hjz : (j : Int) < (l.length : Int) := by omega
      obtain ⟨g1, rfl, k1⟩ := HC1.out j hjl
      obtain ⟨g2, rfl, k2⟩ := HC2.out j hjl
      obtain ⟨m, hm⟩ := HB.out
      have BB : Below w.heap.size w wr := by rw [hm]; exact below_drewN (Below.refl _ _) _
      obtain ⟨c0, c1, c2⟩ := k1 wr BB
      obtain ⟨d0, d1, d2⟩ := k2 wr BB
      have HB2 : Hid (∀ m, ∃ m', wr.drewN m = w.drewN m') := Lib.hid fun m2 => ⟨m + m2, by rw [hm, World.drewN_drewN]⟩
      clear k1 k2 h0 BB hm HB
      generalize l[j] = x at *
      go_upto_region 6 with fail
      go_quiet (fail)
      go_wp2_with fail
      go_roundg (l.length - (j + 1))
      case measure => omega
      case rel => exact ⟨j + 1, rfl, by omega, by go_num, HB2.out _⟩

end Go.Proofs.Ytfedjeojanpnpab

/- WalkFrom: pure facts, pieces of rows, and what each call makes of where the law stands. -/
namespace Go.Proofs.Ytfedjeojanpnpab
open Go.RowKit
set_option linter.unusedVariables false

theorem law_less (a b : Ky) (w : World) : Calls Try.prog 24 #[kyV a, kyV b] w fun e w' => e = .returned (.bool (decide (a.lt b))) ∧ Below w.heap.size w w' := by
  unfold kyV
  have x1 := (Box.new w 27 #[.int .u64 (a.at_ : Int), .int .u64 (a.seq : Int)]).alloc (.cells #[.int .u64 (b.at_ : Int), .int .u64 (b.seq : Int)] 27)
  have x2 := Box.new (w.alloc (.cells #[.int .u64 (a.at_ : Int), .int .u64 (a.seq : Int)] 27)) 27 #[.int .u64 (b.at_ : Int), .int .u64 (b.seq : Int)]
  rw [World.size_alloc] at x2
  have HB := Lib.hid (((Below.refl _ w).alloc (Nat.le_refl _) (.cells #[.int .u64 (a.at_ : Int), .int .u64 (a.seq : Int)] 27)).alloc (by rw [World.size_alloc]; omega) (.cells #[.int .u64 (b.at_ : Int), .int .u64 (b.seq : Int)] 27))
  obtain ⟨W, HW⟩ : ∃ W, Hid (((w.alloc (.cells #[.int .u64 (a.at_ : Int), .int .u64 (a.seq : Int)] 27)).alloc (.cells #[.int .u64 (b.at_ : Int), .int .u64 (b.seq : Int)] 27)) = W) := ⟨_, Lib.hid rfl⟩
  rw [HW.out] at x1 x2 HB
  have c0 : W.cell? ⟨w.heap.size, 0, none⟩ = some (.int .u64 (a.at_ : Int)) := x1.cell 0
  have c1 : W.cell? ⟨w.heap.size, 1, none⟩ = some (.int .u64 (a.seq : Int)) := x1.cell 1
  have d0 : W.cell? ⟨w.heap.size + 1, 0, none⟩ = some (.int .u64 (b.at_ : Int)) := x2.cell 0
  have d1 : W.cell? ⟨w.heap.size + 1, 1, none⟩ = some (.int .u64 (b.seq : Int)) := x2.cell 1
  clear x1 x2
  by_cases h1 : a.at_ < b.at_
  · have h1z : (a.at_ : Int) < (b.at_ : Int) := by omega
    have HE : Hid (decide (a.lt b) = true) := Lib.hid (decide_eq_true (.inl h1))
    clear h1
    go_enter Try.func24, Try.ntmps24
    go_upto_region 1 with fail
    rw [HW.out]
    go_wp2_with fail
    go_ret
    exact ⟨by rw [HE.out]; rfl, HB.out⟩
  · have h1z : ¬ (a.at_ : Int) < (b.at_ : Int) := by omega
    by_cases h2 : a.at_ = b.at_
    · have h2z : ((a.at_ : Int) == (b.at_ : Int)) = true := by simp [h2]
      by_cases h3 : a.seq < b.seq
      · have h3z : (a.seq : Int) < (b.seq : Int) := by omega
        have HE : Hid (decide (a.lt b) = true) := Lib.hid (decide_eq_true (.inr ⟨h2, h3⟩))
        clear h1 h2 h3
        go_enter Try.func24, Try.ntmps24
        go_upto_region 1 with fail
        rw [HW.out]
        go_wp2_with fail
        go_ret
        exact ⟨by rw [HE.out]; rfl, HB.out⟩
      · have h3z : ¬ (a.seq : Int) < (b.seq : Int) := by omega
        have HE : Hid (decide (a.lt b) = false) := Lib.hid (decide_eq_false (by unfold Ky.lt; omega))
        clear h1 h2 h3
        go_enter Try.func24, Try.ntmps24
        go_upto_region 1 with fail
        rw [HW.out]
        go_wp2_with fail
        go_ret
        exact ⟨by rw [HE.out]; rfl, HB.out⟩
    · have h2z : ((a.at_ : Int) == (b.at_ : Int)) = false := by rw [beq_eq_false_iff_ne]; omega
      have HE : Hid (decide (a.lt b) = false) := Lib.hid (decide_eq_false (by unfold Ky.lt; omega))
      clear h1 h2
      go_enter Try.func24, Try.ntmps24
      go_upto_region 1 with fail
      rw [HW.out]
      go_wp2_with fail
      go_ret
      exact ⟨by rw [HE.out]; rfl, HB.out⟩

theorem from_split {k : Ky} : ∀ {l : List En}, Rises l → ∃ P, l = P ++ fromL k l ∧ ∀ e, e ∈ P → e.key.lt k
  | [], _ => ⟨[], rfl, fun e he => (by cases he)⟩
  | a :: l, h => by
    have h1 := List.pairwise_cons.1 h
    by_cases c : a.key.lt k
    · obtain ⟨P, hP, hk⟩ := from_split (k := k) h1.2
      refine ⟨a :: P, ?_, fun e he => ?_⟩
      · have e1 : fromL k (a :: l) = fromL k l := by unfold fromL; rw [List.filter_cons_of_neg (by simpa using c)]
        rw [e1, List.cons_append, ← hP]
      · rcases List.mem_cons.1 he with rfl | he
        · exact c
        · exact hk e he
    · refine ⟨[], ?_, fun e he => (by cases he)⟩
      have hall : ∀ e, e ∈ a :: l → ¬ e.key.lt k := by
        intro e he
        rcases List.mem_cons.1 he with rfl | he
        · exact c
        · exact fun hc => c (Ky.lt_trans (h1.1 e he) hc)
      rw [List.nil_append]
      exact (List.filter_eq_self.2 fun e he => by simpa using hall e he).symm
theorem from_not {k : Ky} {l : List En} {e : En} (h : e ∈ fromL k l) : ¬ e.key.lt k := by
  have := (List.mem_filter.1 h).2
  simpa using this
theorem take_take_len {α : Type} (x : List α) (f m : Nat) : (x.take (f + m)).take (x.take f).length = x.take f := by
  rw [List.take_take, List.length_take]
  have e : min (min f x.length) (f + m) = min f x.length := by omega
  rw [e]
  by_cases h : f ≤ x.length
  · rw [Nat.min_eq_left h]
  · rw [Nat.min_eq_right (by omega), List.take_of_length_le (Nat.le_refl _), List.take_of_length_le (by omega)]
theorem own_pre3 {W : World} {base n m c : Nat} {p : Option Addr} {x : List En} (h : W.ownsRow base 52 3 (.slice p n c) n (x.flatMap enC)) (hn : x.length = n) (hm : m ≤ n) : W.ownsRow base 52 3 (.slice p m c) m ((x.take m).flatMap enC) := by
  refine ⟨by rw [flat3, List.length_take, hn]; omega, ?_⟩
  rcases h.2 with ⟨e, h2⟩ | ⟨g, cap, cur, e, h2, h3, h4, h5, h6, h7⟩
  · cases e
    obtain rfl : m = 0 := by omega
    exact .inl ⟨rfl, rfl⟩
  · cases e
    refine .inr ⟨g, c, cur, rfl, h2, h3, by omega, h5, h6, ?_⟩
    have e1 : cur.toList.take (m * 3) = (cur.toList.take (n * 3)).take (m * 3) := by rw [List.take_take, Nat.min_eq_left (by omega)]
    rw [e1, h7, flat_take (l := x) m, List.take_append_of_le_length (by rw [flat3, List.length_take, hn]; omega), List.take_of_length_le (by rw [flat3, List.length_take, hn]; omega)]
section
variable {K : TreeK} {w W W' : World} {a : Addr} {l : List En} {bx : List (Nat × TypeId × Array Value)} {rs : List (Value × List En)}
theorem St.sub (h : St K w W a l bx rs) {p : Option Addr} {n m c : Nat} {x : List En} (hr : (.slice p n c, x) ∈ rs) (hn : x.length = n) (hm : m ≤ n) : St K w W a l bx ((.slice p m c, x.take m) :: rs) := by
  obtain ⟨N, g, o, h1, h2, h3, h4⟩ := h
  refine ⟨N, g, o, h1, h2, h3, fun r hr' => ?_⟩
  rcases List.mem_cons.1 hr' with rfl | hr'
  · obtain ⟨k1, k2⟩ := h4 _ hr
    simp only at k1 k2
    have hl : (x.take m).length = m := by rw [List.length_take]; omega
    refine ⟨by simp only; omega, ?_⟩
    simp only
    rw [hl]
    rw [hn] at k2
    exact ⟨own_pre3 k2.row hn hm, fun k hk he => k2.off k hk (by cases p <;> exact he)⟩
  · exact h4 r hr'
theorem St.caps (h : St K w W a l bx rs) {p : Option Addr} {n c : Nat} {x : List En} (hr : (.slice p n c, x) ∈ rs) (hn : x.length = n) : n ≤ c ∧ c ≤ 9223372036854775807 := by
  have r := h.row hr
  simp only [hn] at r
  rcases r.2 with ⟨e, _⟩ | ⟨g, cap, cur, e, _, _, h2, h3, _⟩
  · cases e
    exact ⟨Nat.le_refl _, by decide⟩
  · cases e
    exact ⟨h2, h3⟩
end

end Go.Proofs.Ytfedjeojanpnpab
