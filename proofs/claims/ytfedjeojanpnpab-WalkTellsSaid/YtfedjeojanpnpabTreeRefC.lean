/-
  The document's own tree (sandglassref06): Put.
-/
import Derived.Test.YtfedjeojanpnpabTreeRefA
import Derived.Test.YtfedjeojanpnpabTreePut
import Derived.Test.YtfedjeojanpnpabTreeBackSteps
namespace Go.Proofs.Ytfedjeojanpnpab
open Go.RowKit
set_option linter.unusedVariables false

theorem plc_parts (k : Ky) : ∀ l : List En, (∀ x, x ∈ l.take (plc k l) → x.key.lt k) ∧ (∀ e, l[plc k l]? = some e → ¬ e.key.lt k)
  | [] => ⟨fun x hx => by simp at hx, fun e he => by simp at he⟩
  | a :: t => by
    obtain ⟨h1, h2⟩ := plc_parts k t
    by_cases c : a.key.lt k
    · have e1 : plc k (a :: t) = plc k t + 1 := by
        unfold plc
        rw [List.takeWhile_cons, if_pos (by simpa using c)]
        rfl
      rw [e1]
      refine ⟨fun x hx => ?_, fun e he => h2 e he⟩
      rcases List.mem_cons.1 hx with rfl | hx
      · exact c
      · exact h1 x hx
    · have e1 : plc k (a :: t) = 0 := by
        unfold plc
        rw [List.takeWhile_cons, if_neg (by simpa using c)]
        rfl
      rw [e1]
      refine ⟨fun x hx => by simp at hx, fun e he => ?_⟩
      cases he
      exact c
theorem plc_drop {k : Ky} {l : List En} (h : Rises l) (hg : getL k l = none) : ∀ x, x ∈ l.drop (plc k l) → k.lt x.key := by
  intro x hx
  obtain ⟨j, hj, rfl⟩ := List.getElem_of_mem hx
  rw [List.length_drop] at hj
  rw [List.getElem_drop]
  have hp : plc k l < l.length := by omega
  have h1 := (plc_parts k l).2 _ (List.getElem?_eq_getElem hp)
  have h2 := getL_none hg l[plc k l] (List.getElem_mem hp)
  have h3 : k.lt l[plc k l].key := by
    rcases Ky.cases k l[plc k l].key with h | h | h
    · exact h
    · exact absurd h.symm h2
    · exact absurd h h1
  by_cases hj0 : j = 0
  · subst hj0
    exact h3
  · exact Ky.lt_trans h3 ((List.pairwise_iff_getElem.1 h) _ _ hp (by omega) (by omega))
theorem ins_at {k : Ky} {v : Int} {l : List En} (h : Rises l) (hg : getL k l = none) : insL k v l = l.take (plc k l) ++ ⟨k, v⟩ :: l.drop (plc k l) := by
  have := ins_mid (v := v) (plc_parts k l).1 (plc_drop h hg)
  rwa [List.take_append_drop] at this
/-- A row of entries, by its cells. -/
theorem row_parts {W : World} {base n c : Nat} {p : Option Addr} {l : List En} (h : W.ownsRow base 52 3 (.slice p n c) n (l.flatMap enC)) : (p = none ∧ n = 0 ∧ c = 0) ∨ ∃ g, p = some ⟨g, 0, none⟩ ∧ g < W.heap.size ∧ n ≤ c ∧ c ≤ 9223372036854775807 ∧ ∀ j u, (l.flatMap enC)[j]? = some u → W.cell? ⟨g, j, none⟩ = some u := by
  rcases h.2 with ⟨e, e2⟩ | ⟨g, cap, cur, e, h2, h3, h4, h5, h6, h7⟩
  · cases e
    exact .inl ⟨rfl, e2, rfl⟩
  · cases e
    refine .inr ⟨g, rfl, (Array.getElem?_eq_some_iff.1 h3).1, h4, h5, fun j u hu => ?_⟩
    rw [cell_of_row W g j cur _ (0, 0) h3]
    have hj := (List.getElem?_eq_some_iff.1 hu).1
    rw [h.1] at hj
    rw [← h7, List.getElem?_take, if_pos (by omega)] at hu
    simpa using hu
theorem one_cells (l : List En) : ∀ u ∈ l.flatMap enC, u.oneCell' = true := by
  intro u hu
  obtain ⟨a, _, hu⟩ := List.mem_flatMap.1 hu
  simp [enC] at hu
  rcases hu with rfl | rfl | rfl <;> rfl
theorem flat_take {l : List En} (i : Nat) : l.flatMap enC = (l.take i).flatMap enC ++ (l.drop i).flatMap enC := by rw [← List.flatMap_append, List.take_append_drop]
theorem cells_take {W : World} {g : Nat} {l : List En} (h : ∀ j u, (l.flatMap enC)[j]? = some u → W.cell? ⟨g, j, none⟩ = some u) (i : Nat) : ∀ j u, ((l.take i).flatMap enC)[j]? = some u → W.cell? ((⟨g, 0, none⟩ : Addr).add j) = some u := by
  intro j u hu
  have hadd : (⟨g, 0, none⟩ : Addr).add j = ⟨g, j, none⟩ := by unfold Addr.add; split <;> simp_all
  rw [hadd]
  refine h j u ?_
  rw [flat_take i, List.getElem?_append_left (List.getElem?_eq_some_iff.1 hu).1]
  exact hu
theorem cells_drop {W : World} {g : Nat} {l : List En} (h : ∀ j u, (l.flatMap enC)[j]? = some u → W.cell? ⟨g, j, none⟩ = some u) (i : Nat) (hi : i ≤ l.length) : ∀ j u, ((l.drop i).flatMap enC)[j]? = some u → W.cell? ((⟨g, i * 3, none⟩ : Addr).add j) = some u := by
  intro j u hu
  have hadd : (⟨g, i * 3, none⟩ : Addr).add j = ⟨g, i * 3 + j, none⟩ := by unfold Addr.add; split <;> simp_all
  rw [hadd]
  refine h _ u ?_
  have hl1 : ((l.take i).flatMap enC).length = i * 3 := by rw [flat3, List.length_take]; omega
  rw [flat_take i, List.getElem?_append_right (by omega), hl1, show i * 3 + j - i * 3 = j by omega]
  exact hu
theorem grown_low {wx w5 : World} {H0 e s n : Nat} {v : Value} {xs : List Value} (r : wx.ownsRow H0 e s v n xs) (g : wx.grownBy w5 v.ownBlock) (h : H0 ≤ wx.heap.size) : Below H0 wx w5 :=
  ⟨g.os, g.tape, g.output, g.size, fun k hk => g.block k (by omega) (fun e => by have := (r.lt k e.symm).1; omega)⟩
/-- What Put answers. -/
def RefPut (base : Nat) (v0 : Value) (room : Nat) (l : List En) (k : Ky) (v : Int) (w : World) (e : Ending) (w' : World) : Prop :=
  ∃ p n c, e = .returned (.tuple #[.agg #[.slice p n c, .int .i64 (room : Int)], .int .i64 (putE room l k : Nat)]) ∧ (putL room l k v).length = n ∧ w'.ownsRow base 52 3 (.slice p n c) n ((putL room l k v).flatMap enC) ∧ Below w.heap.size w w' ∧ (v0 = .slice p n c ∨ w'.ownsRow w.heap.size 52 3 (.slice p n c) n ((putL room l k v).flatMap enC))

end Go.Proofs.Ytfedjeojanpnpab

/- The document's own tree (sandglassref06): Put, walked. -/
namespace Go.Proofs.Ytfedjeojanpnpab
open Go.RowKit
set_option linter.unusedVariables false

theorem box3 {w W : World} {t1 t2 t3 : TypeId} {c1 c2 c3 : Array Value} (h : ((w.alloc (.cells c1 t1)).alloc (.cells c2 t2)).alloc (.cells c3 t3) = W) : Box W w.heap.size t1 c1 ∧ Box W (w.heap.size + 1) t2 c2 ∧ Box W (w.heap.size + 1 + 1) t3 c3 ∧ Below w.heap.size w W := by
  obtain ⟨x1, x2, b⟩ := box2 (rfl : (w.alloc (.cells c1 t1)).alloc (.cells c2 t2) = _)
  subst h
  refine ⟨x1.alloc _, x2.alloc _, ?_, b.alloc (by rw [World.size_alloc, World.size_alloc]; omega) _⟩
  have := Box.new ((w.alloc (.cells c1 t1)).alloc (.cells c2 t2)) t3 c3
  rw [World.size_alloc, World.size_alloc] at this
  exact this
/-- The result is stored. -/
theorem res_cells {W : World} {tb : Nat} {c : Array Value} (h : Box W tb 41 c) (hc : c.size = 2) (a b : Value) : ((W.setCell ⟨tb, 0, none⟩ a).setCell ⟨tb, 1, none⟩ b).cell? ⟨tb, 0, none⟩ = some a ∧ ((W.setCell ⟨tb, 0, none⟩ a).setCell ⟨tb, 1, none⟩ b).cell? ⟨tb, 1, none⟩ = some b := by
  have h2 := (h.set 0 a).set 1 b
  rw [h2.cell, h2.cell]
  refine ⟨?_, ?_⟩
  · rw [Array.getElem?_setIfInBounds_ne (by omega), Array.getElem?_setIfInBounds_self_of_lt (by omega)]
  · rw [Array.getElem?_setIfInBounds_self_of_lt (by simp [hc])]
theorem res_row {W : World} {base n c tb : Nat} {p : Option Addr} {l : List En} {cs : Array Value} {a b : Value} (h : W.ownsRow base 52 3 (.slice p n c) n (l.flatMap enC)) (hx : Box W tb 41 cs) : ((W.setCell ⟨tb, 0, none⟩ a).setCell ⟨tb, 1, none⟩ b).ownsRow base 52 3 (.slice p n c) n (l.flatMap enC) := by
  have hne := hx.not_row h (by decide)
  exact own_set (own_set h hne) hne
theorem put_none_full {l : List En} {k : Ky} {v : Int} {room : Nat} (h1 : getL k l = none) (h2 : room ≤ l.length) : putE room l k = 4 ∧ putL room l k v = l := by
  have h3 : putE room l k = 4 := by
    unfold putE
    rw [h1]
    simp [h2]
  refine ⟨h3, ?_⟩
  unfold putL
  rw [h3]
  rfl
theorem put_some {l : List En} {k : Ky} {v x : Int} {room : Nat} (h1 : getL k l = some x) : putE room l k = 60 ∧ putL room l k v = l := by
  have h3 : putE room l k = 60 := by
    unfold putE
    rw [h1]
    rfl
  refine ⟨h3, ?_⟩
  unfold putL
  rw [h3]
  rfl
theorem put_none_in {l : List En} {k : Ky} {v : Int} {room : Nat} (h1 : getL k l = none) (h2 : ¬ room ≤ l.length) : putE room l k = 0 ∧ putL room l k v = insL k v l := by
  have h3 : putE room l k = 0 := by
    unfold putE
    rw [h1]
    simp [h2]
  refine ⟨h3, ?_⟩
  unfold putL
  rw [h3]
  rfl
/-- Three parts of a row, one behind the other. -/
theorem put_row {l : List En} {k : Ky} {v : Int} (h : Rises l) (hg : getL k l = none) : ((l.take (plc k l)).flatMap enC ++ [Value.int .u64 (k.at_ : Int), .int .u64 (k.seq : Int), .int .i64 v]) ++ (l.drop (plc k l)).flatMap enC = (insL k v l).flatMap enC := by
  rw [ins_at h hg, List.flatMap_append, List.flatMap_cons]
  simp [enC]

theorem cells_below {W W' : World} {H0 g o : Nat} {xs : List Value} (b : Below H0 W W') (hg : g < H0) (h : ∀ j u, xs[j]? = some u → W.cell? ((⟨g, o, none⟩ : Addr).add j) = some u) : ∀ j u, xs[j]? = some u → W'.cell? ((⟨g, o, none⟩ : Addr).add j) = some u := by
  intro j u hu
  have h2 := h j u hu
  have hadd : (⟨g, o, none⟩ : Addr).add j = ⟨g, o + j, none⟩ := by unfold Addr.add; split <;> simp_all
  rw [hadd] at h2 ⊢
  rw [← h2]
  exact b.cell (p := ⟨g, o + j, none⟩) hg

set_option maxHeartbeats 4000000 in
set_option maxRecDepth 100000 in
theorem ref_put (p : Option Addr) (c n base room : Nat) (l : List En) (k : Ky) (v : Int) (w : World) (hn : l.length = n) (hn6 : n ≤ 65536) (hro : room ≤ 65536) (hr : Rises l) (hbs : base ≤ w.heap.size) (h : w.ownsRow base 52 3 (.slice p n c) n (l.flatMap enC)) :
    Calls Try.prog 36 #[.agg #[.slice p n c, .int .i64 (room : Int)], kyV k, .int .i64 v] w (RefPut base (.slice p n c) room l k v w) := by
  unfold kyV
  obtain ⟨W, HW⟩ : ∃ W, Hid (((w.alloc (.cells #[.slice p n c, .int .i64 (room : Int)] 41)).alloc (.cells #[.int .u64 (k.at_ : Int), .int .u64 (k.seq : Int)] 27)).alloc (.cells #[.slice none 0 0, .int .i64 0] 41) = W) := ⟨_, Lib.hid rfl⟩
  obtain ⟨x1, x2, x3, bl⟩ := box3 HW.out
  have KP := Lib.hid (ref_place p c n base (room : Int) l k W hn hn6 hr (owns_below h bl))
  unfold kyV at KP
  obtain ⟨tb, HTB⟩ : ∃ q, Hid (w.heap.size = q) := ⟨_, Lib.hid rfl⟩
  rw [HTB.out] at x1 x2 x3
  have z0 : W.cell? ⟨tb, 0, none⟩ = some (.slice p n c) := x1.cell 0
  have z1 : W.cell? ⟨tb, 1, none⟩ = some (.int .i64 (room : Int)) := x1.cell 1
  have z2 : W.cell? ⟨tb + 1, 0, none⟩ = some (.int .u64 (k.at_ : Int)) := x2.cell 0
  have z3 : W.cell? ⟨tb + 1, 1, none⟩ = some (.int .u64 (k.seq : Int)) := x2.cell 1
  have HX1 := Lib.hid x1
  have HX2 := Lib.hid x2
  have HX3 := Lib.hid x3
  have HB := Lib.hid bl
  have HO := Lib.hid (owns_below h bl)
  have HRI := Lib.hid hr
  have HNN := Lib.hid hn
  have hsz : w.heap.size ≤ tb + 1 + 1 := by rw [HTB.out]; omega
  clear x1 x2 x3 bl h hr hn
  go_enter Try.func36, Try.ntmps36
  go_upto_region 1 with fail
  rw [HW.out, HTB.out]
  go_wp2_with fail
  refine KP.out.mono ?_
  rintro e w2 ⟨rfl, b2⟩
  have HB2 := Lib.hid (below_tr HB.out b2)
  have HO2 := Lib.hid (owns_below HO.out b2)
  have X1 := HX1.out.below b2 HX1.out.lt
  have X2 := HX2.out.below b2 HX2.out.lt
  have X3 := HX3.out.below b2 HX3.out.lt
  have y0 : w2.cell? ⟨tb, 0, none⟩ = some (.slice p n c) := X1.cell 0
  have y1 : w2.cell? ⟨tb, 1, none⟩ = some (.int .i64 (room : Int)) := X1.cell 1
  have r0 : w2.cell? ⟨tb + 1 + 1, 0, none⟩ = some (.slice none 0 0) := X3.cell 0
  have r1 : w2.cell? ⟨tb + 1 + 1, 1, none⟩ = some (.int .i64 0) := X3.cell 1
  have f0 := X3.frozen 0
  have f1 := X3.frozen 1
  have HY1 := Lib.hid X1
  have HY2 := Lib.hid X2
  have HY3 := Lib.hid X3
  clear KP HW z0 z1 z2 z3 b2 X1 X2 X3 HX1 HX2 HX3 HO
  obtain ⟨g0, g1⟩ := res_cells HY3.out rfl (.slice p n c) (.int .i64 (room : Int))
  cases hg : getL k l with
  | some x =>
    obtain ⟨h1, h2⟩ := put_some (v := v) (room := room) hg
    have HE : Hid (RefPut base (.slice p n c) room l k v w (.returned (.tuple #[.agg #[.slice p n c, .int .i64 (room : Int)], .int .i64 60])) ((w2.setCell ⟨tb + 1 + 1, 0, none⟩ (.slice p n c)).setCell ⟨tb + 1 + 1, 1, none⟩ (.int .i64 (room : Int)))) := by
      refine Lib.hid ⟨p, n, c, by rw [h1]; rfl, by rw [h2]; exact HNN.out, ?_, (HB2.out.setCell hsz _).setCell hsz _, .inl rfl⟩
      rw [h2]
      exact res_row HO2.out HY3.out
    clear hg h1 h2
    simp only [Option.isSome]
    go_wp2_with fail
    refine bodyPost_ret (v := .tuple #[.agg #[.slice p n c, .int .i64 (room : Int)], .int .i64 60]) ?_ rfl HE.out
    simp [results, Try.f36, go_sem, g0, g1]
  | none =>
    by_cases hfull : room ≤ n
    · obtain ⟨h1, h2⟩ := put_none_full (v := v) hg (by rw [HNN.out]; exact hfull)
      have HE : Hid (RefPut base (.slice p n c) room l k v w (.returned (.tuple #[.agg #[.slice p n c, .int .i64 (room : Int)], .int .i64 4])) ((w2.setCell ⟨tb + 1 + 1, 0, none⟩ (.slice p n c)).setCell ⟨tb + 1 + 1, 1, none⟩ (.int .i64 (room : Int)))) := by
        refine Lib.hid ⟨p, n, c, by rw [h1]; rfl, by rw [h2]; exact HNN.out, ?_, (HB2.out.setCell hsz _).setCell hsz _, .inl rfl⟩
        rw [h2]
        exact res_row HO2.out HY3.out
      have hz : (room : Int) ≤ (n : Int) := by omega
      clear hg h1 h2 hfull
      simp only [Option.isSome]
      go_wp2_with fail
      refine bodyPost_ret (v := .tuple #[.agg #[.slice p n c, .int .i64 (room : Int)], .int .i64 4]) ?_ rfl HE.out
      simp [results, Try.f36, go_sem, g0, g1]
    · have hz : ¬ (room : Int) ≤ (n : Int) := by omega
      obtain ⟨h1, h2⟩ := put_none_in (v := v) hg (by rw [HNN.out]; exact hfull)
      have HPR := Lib.hid (put_row (v := v) HRI.out hg)
      have hpl := plc_le k l
      rw [HNN.out] at hpl
      have HIL : Hid ((insL k v l).length = n + 1) := Lib.hid (by rw [insL_length, HNN.out])
      have HE12 : Hid (putE room l k = 0 ∧ putL room l k v = insL k v l) := Lib.hid ⟨h1, h2⟩
      obtain ⟨i, HI⟩ : ∃ i, Hid (plc k l = i) := ⟨_, Lib.hid rfl⟩
      rw [HI.out] at HPR hpl
      rw [HI.out]
      obtain ⟨inf, hi1, hi2, hi3, hi4⟩ := info_parts (P := Try.prog) (e := 52) (z := .agg #[.int .u64 0, .int .u64 0, .int .i64 0]) (size := 3) (bytes := 24) (by kernel_rfl)
      have HT3 : Hid (((l.take i).flatMap enC).length = i * 3) := Lib.hid (by rw [flat3, List.length_take, HNN.out]; omega)
      have HD3 : Hid (((l.drop i).flatMap enC).length = (n - i) * 3) := Lib.hid (by rw [flat3, List.length_drop, HNN.out])
      have HT1 := Lib.hid (one_cells (l.take i))
      have HD1 := Lib.hid (one_cells (l.drop i))
      clear hg h1 h2 hfull g0 g1
      simp only [Option.isSome]
      rcases row_parts HO2.out with ⟨rfl, rfl, rfl⟩ | ⟨g, rfl, hgl, hnc, hcm, hcell⟩
      · have hi0 : i = 0 := by omega
        subst hi0
        have hl0 : l = [] := List.length_eq_zero_iff.1 HNN.out
        have HPZ : Hid ([Value.int .u64 (k.at_ : Int), .int .u64 (k.seq : Int), .int .i64 v] = (insL k v l).flatMap enC) := Lib.hid (by have := HPR.out; rw [hl0] at this ⊢; simpa using this)
        clear hl0 HPR HT3 HD3 HT1 HD1 HRI HNN HI
        have hmlz : 0 + 0 ≤ maxLen := by decide
        have hml1 : 0 + 1 ≤ maxLen := by decide
        have hml2 : 0 + 1 + 0 ≤ maxLen := by decide
        have nz2 := World.ownsRow_nil w2 w2.heap.size 52 3
        go_upto_region 8 with (first | (at_builtin; (refine wpList_append_any _ rfl (.tmp 26) (.tmp 30) 35 rfl w2.heap.size 52 inf (.agg #[.int .u64 0, .int .u64 0, .int .i64 0]) 3 24 Try.underlying35 hi1 hi2 hi3 hi4 rfl (by decide) (.slice none 0 0) 0 [] rfl nz2 w2.heap.size (.slice none 0 0) 0 [] rfl nz2 (by intro u hu; simp at hu) hmlz (by omega) (Nat.le_refl _) ?_; intro p5 c5 w5 own5 gr5 loc5; have HO5 := Lib.hid own5; have HG5 := Lib.hid gr5; clear own5 gr5 loc5)))
        have L5 : Below w2.heap.size w2 w5 := grown_low nz2 HG5.out (Nat.le_refl _)
        have own5 := HO5.out
        rw [Nat.zero_add, List.nil_append] at own5
        have Y2 := HY2.out.below L5 HY2.out.lt
        have q2 : w5.cell? ⟨tb + 1, 0, none⟩ = some (.int .u64 (k.at_ : Int)) := Y2.cell 0
        have q3 : w5.cell? ⟨tb + 1, 1, none⟩ = some (.int .u64 (k.seq : Int)) := Y2.cell 1
        have HN5 := Lib.hid own5
        have HL5 := Lib.hid L5
        clear HO5 HG5 own5 L5 Y2
        have hb5 : w2.heap.size ≤ w5.heap.size := HL5.out.size
        have hba : w2.heap.size ≤ (w5.alloc (.cells #[.int .u64 (k.at_ : Int), .int .u64 (k.seq : Int), .int .i64 v] 52)).heap.size := by rw [World.size_alloc]; omega
        have hone8 : ∀ u ∈ [Value.int .u64 (k.at_ : Int), .int .u64 (k.seq : Int), .int .i64 v], u.oneCell' = true := by
          intro u hu
          simp at hu
          rcases hu with rfl | rfl | rfl <;> rfl
        have olit : (w5.alloc (.cells #[.int .u64 (k.at_ : Int), .int .u64 (k.seq : Int), .int .i64 v] 52)).ownsRow w5.heap.size 52 3 (.slice (some ⟨w5.heap.size, 0, none⟩) 1 1) 1 [Value.int .u64 (k.at_ : Int), .int .u64 (k.seq : Int), .int .i64 v] := World.ownsRow_lit (base := w5.heap.size) (e := 52) (size := 3) w5 #[.int .u64 (k.at_ : Int), .int .u64 (k.seq : Int), .int .i64 v] 1 (Nat.le_refl _) (by decide) rfl
        have own8 := HN5.out.alloc (.cells #[.int .u64 (k.at_ : Int), .int .u64 (k.seq : Int), .int .i64 v] 52)
        go_upto_region 9 with (first | (at_builtin; (refine wpList_append_any _ rfl (.tmp 32) (.tmp 36) 35 rfl w2.heap.size 52 inf (.agg #[.int .u64 0, .int .u64 0, .int .i64 0]) 3 24 Try.underlying35 hi1 hi2 hi3 hi4 rfl (by decide) (.slice p5 0 c5) 0 [] rfl own8 w5.heap.size (.slice (some ⟨w5.heap.size, 0, none⟩) 1 1) 1 [Value.int .u64 (k.at_ : Int), .int .u64 (k.seq : Int), .int .i64 v] rfl olit hone8 hml1 (by omega) hba ?_; intro p6 c6 w6 own6 gr6 loc6; have HO6 := Lib.hid own6; have HG6 := Lib.hid gr6; clear own6 gr6 loc6)))
        have HL6 : Hid (Below w2.heap.size w2 w6) := Lib.hid ((HL5.out.alloc hb5 _).trans (grown_low own8 HG6.out hba))
        clear own8 olit hone8 HG6 HN5 HL5 hba hb5
        have Y1 := HY1.out.below HL6.out HY1.out.lt
        have s0 : w6.cell? ⟨tb, 0, none⟩ = some (.slice none 0 0) := Y1.cell 0
        clear Y1
        have hb6 : w2.heap.size ≤ w6.heap.size := HL6.out.size
        have nz6 := World.ownsRow_nil w6 w2.heap.size 52 3
        have HQ6 := Lib.hid HO6.out
        go_upto_region 10 with (first | (at_builtin; (refine wpList_append_any _ rfl (.tmp 38) (.tmp 42) 35 rfl w2.heap.size 52 inf (.agg #[.int .u64 0, .int .u64 0, .int .i64 0]) 3 24 Try.underlying35 hi1 hi2 hi3 hi4 rfl (by decide) (.slice p6 (0 + 1) c6) (0 + 1) _ rfl HQ6.out w2.heap.size (.slice none 0 0) 0 [] rfl nz6 (by intro u hu; simp at hu) hml2 (by omega) hb6 ?_; intro p7 c7 w7 own7 gr7 loc7; have HO7 := Lib.hid own7; have HG7 := Lib.hid gr7; clear own7 gr7 loc7)))
        have own7 := HO7.out
        rw [List.nil_append, List.append_nil, HPZ.out] at own7
        have B7 := HL6.out.trans (grown_low HQ6.out HG7.out hb6)
        have V1 := HY1.out.below B7 HY1.out.lt
        have V3 := HY3.out.below B7 HY3.out.lt
        have hbb : base ≤ w2.heap.size := by have := HB2.out.size; omega
        have t1 : w7.cell? ⟨tb, 1, none⟩ = some (.int .i64 (room : Int)) := V1.cell 1
        have t2 : w7.cell? ⟨tb + 1 + 1, 0, none⟩ = some (.slice none 0 0) := V3.cell 0
        have t3 : w7.cell? ⟨tb + 1 + 1, 1, none⟩ = some (.int .i64 0) := V3.cell 1
        have t4 := V3.frozen 0
        have t5 := V3.frozen 1
        obtain ⟨g0, g1⟩ := res_cells V3 rfl (.slice p7 (0 + 1 + 0) c7) (.int .i64 (room : Int))
        have HE : Hid (RefPut base (.slice none 0 0) room l k v w (.returned (.tuple #[.agg #[.slice p7 (0 + 1 + 0) c7, .int .i64 (room : Int)], .int .i64 0])) ((w7.setCell ⟨tb + 1 + 1, 0, none⟩ (.slice p7 (0 + 1 + 0) c7)).setCell ⟨tb + 1 + 1, 1, none⟩ (.int .i64 (room : Int)))) := by
          refine Lib.hid ⟨p7, _, c7, by rw [HE12.out.1]; rfl, by rw [HE12.out.2, HIL.out], ?_, ((below_tr HB2.out B7).setCell hsz _).setCell hsz _, .inr ?_⟩
          · rw [HE12.out.2]
            exact res_row (own_low own7 hbb) V3
          · rw [HE12.out.2]
            exact res_row (own_low own7 HB2.out.size) V3
        clear own7 B7 V1 V3 HO7 HG7
        go_wp2_with fail
        refine bodyPost_ret (v := .tuple #[.agg #[.slice p7 (0 + 1 + 0) c7, .int .i64 (room : Int)], .int .i64 0]) ?_ rfl HE.out
        simp [results, Try.f36, go_sem, g0, g1]
      · have HCt := Lib.hid (cells_take hcell i)
        have HCd := Lib.hid (cells_drop hcell i (by rw [HNN.out]; exact hpl))
        have hplz : (i : Int) ≤ (c : Int) := by omega
        have hplz2 : (i : Int) ≤ (n : Int) := by omega
        have hplc : i ≤ c := by omega
        have hml : 0 + i ≤ maxLen := by simp [maxLen]; omega
        go_upto_region 8 with (first | (at_builtin; (refine wpList_append_own_at _ rfl (.tmp 26) (.tmp 30) 35 rfl w2.heap.size 52 inf (.agg #[.int .u64 0, .int .u64 0, .int .i64 0]) 3 24 Try.underlying35 hi1 hi2 hi3 hi4 rfl (by decide) (.slice none 0 0) 0 [] rfl (World.ownsRow_nil _ _ _ _) ⟨g, 0, none⟩ i c ((l.take i).flatMap enC) rfl HT3.out HCt.out HT1.out hml (by omega) (Nat.le_refl _) ?_; intro v5 w5 own5 gr5 hnil5 loc5; obtain ⟨p5, c5, rfl⟩ := owns_slice own5; have HO5 := Lib.hid own5; have HG5 := Lib.hid gr5; clear own5 gr5 hnil5 loc5)))
        have L5 : Below w2.heap.size w2 w5 := grown_low (World.ownsRow_nil w2 w2.heap.size 52 3) HG5.out (Nat.le_refl _)
        have own5 := HO5.out
        rw [Nat.zero_add, List.nil_append] at own5
        have Y2 := HY2.out.below L5 HY2.out.lt
        have q2 : w5.cell? ⟨tb + 1, 0, none⟩ = some (.int .u64 (k.at_ : Int)) := Y2.cell 0
        have q3 : w5.cell? ⟨tb + 1, 1, none⟩ = some (.int .u64 (k.seq : Int)) := Y2.cell 1
        have HN5 := Lib.hid own5
        have HL5 := Lib.hid L5
        clear HO5 HG5 own5 L5 Y2
        have hb5 : w2.heap.size ≤ w5.heap.size := HL5.out.size
        have hba : w2.heap.size ≤ (w5.alloc (.cells #[.int .u64 (k.at_ : Int), .int .u64 (k.seq : Int), .int .i64 v] 52)).heap.size := by rw [World.size_alloc]; omega
        have hml8 : i + 1 ≤ maxLen := by simp [maxLen]; omega
        have hone8 : ∀ u ∈ [Value.int .u64 (k.at_ : Int), .int .u64 (k.seq : Int), .int .i64 v], u.oneCell' = true := by
          intro u hu
          simp at hu
          rcases hu with rfl | rfl | rfl <;> rfl
        have olit : (w5.alloc (.cells #[.int .u64 (k.at_ : Int), .int .u64 (k.seq : Int), .int .i64 v] 52)).ownsRow w5.heap.size 52 3 (.slice (some ⟨w5.heap.size, 0, none⟩) 1 1) 1 [Value.int .u64 (k.at_ : Int), .int .u64 (k.seq : Int), .int .i64 v] := World.ownsRow_lit (base := w5.heap.size) (e := 52) (size := 3) w5 #[.int .u64 (k.at_ : Int), .int .u64 (k.seq : Int), .int .i64 v] 1 (Nat.le_refl _) (by decide) rfl
        have own8 := HN5.out.alloc (.cells #[.int .u64 (k.at_ : Int), .int .u64 (k.seq : Int), .int .i64 v] 52)
        go_upto_region 9 with (first | (at_builtin; (refine wpList_append_any _ rfl (.tmp 32) (.tmp 36) 35 rfl w2.heap.size 52 inf (.agg #[.int .u64 0, .int .u64 0, .int .i64 0]) 3 24 Try.underlying35 hi1 hi2 hi3 hi4 rfl (by decide) (.slice p5 i c5) i ((l.take i).flatMap enC) rfl own8 w5.heap.size (.slice (some ⟨w5.heap.size, 0, none⟩) 1 1) 1 [Value.int .u64 (k.at_ : Int), .int .u64 (k.seq : Int), .int .i64 v] rfl olit hone8 hml8 (by omega) hba ?_; intro p6 c6 w6 own6 gr6 loc6; have HO6 := Lib.hid own6; have HG6 := Lib.hid gr6; clear own6 gr6 loc6)))
        have HL6 : Hid (Below w2.heap.size w2 w6) := Lib.hid ((HL5.out.alloc hb5 _).trans (grown_low own8 HG6.out hba))
        clear own8 olit hone8 hml8 HG6 HN5 HL5 hba hb5
        have Y1 := HY1.out.below HL6.out HY1.out.lt
        have s0 : w6.cell? ⟨tb, 0, none⟩ = some (.slice (some ⟨g, 0, none⟩) n c) := Y1.cell 0
        clear Y1
        have HCd6 : Hid (∀ j u, ((l.drop i).flatMap enC)[j]? = some u → w6.cell? ((⟨g, i * 3, none⟩ : Addr).add j) = some u) := Lib.hid (cells_below HL6.out hgl HCd.out)
        have hb6 : w2.heap.size ≤ w6.heap.size := HL6.out.size
        have hml9 : i + 1 + (n - i) ≤ maxLen := by simp [maxLen]; omega
        have HFIN : Hid (∀ p7 c7 w7, w7.ownsRow w2.heap.size 52 3 (.slice p7 (i + 1 + (n - i)) c7) (i + 1 + (n - i)) (((l.take i).flatMap enC ++ [Value.int .u64 (k.at_ : Int), .int .u64 (k.seq : Int), .int .i64 v]) ++ (l.drop i).flatMap enC) → Below w2.heap.size w6 w7 → RefPut base (.slice (some ⟨g, 0, none⟩) n c) room l k v w (.returned (.tuple #[.agg #[.slice p7 (i + 1 + (n - i)) c7, .int .i64 (room : Int)], .int .i64 0])) ((w7.setCell ⟨tb + 1 + 1, 0, none⟩ (.slice p7 (i + 1 + (n - i)) c7)).setCell ⟨tb + 1 + 1, 1, none⟩ (.int .i64 (room : Int))) ∧ w7.cell? ⟨tb, 1, none⟩ = some (.int .i64 (room : Int)) ∧ w7.cell? ⟨tb + 1 + 1, 0, none⟩ = some (.slice none 0 0) ∧ w7.cell? ⟨tb + 1 + 1, 1, none⟩ = some (.int .i64 0) ∧ w7.frozen? ⟨tb + 1 + 1, 0, none⟩ = false ∧ w7.frozen? ⟨tb + 1 + 1, 1, none⟩ = false ∧ ((w7.setCell ⟨tb + 1 + 1, 0, none⟩ (.slice p7 (i + 1 + (n - i)) c7)).setCell ⟨tb + 1 + 1, 1, none⟩ (.int .i64 (room : Int))).cell? ⟨tb + 1 + 1, 0, none⟩ = some (.slice p7 (i + 1 + (n - i)) c7) ∧ ((w7.setCell ⟨tb + 1 + 1, 0, none⟩ (.slice p7 (i + 1 + (n - i)) c7)).setCell ⟨tb + 1 + 1, 1, none⟩ (.int .i64 (room : Int))).cell? ⟨tb + 1 + 1, 1, none⟩ = some (.int .i64 (room : Int))) := by
          refine Lib.hid fun p7 c7 w7 o7 b7 => ?_
          have B7 := HL6.out.trans b7
          have V1 := HY1.out.below B7 HY1.out.lt
          have V3 := HY3.out.below B7 HY3.out.lt
          have hbb : base ≤ w2.heap.size := by have := HB2.out.size; omega
          refine ⟨⟨p7, _, c7, by rw [HE12.out.1]; rfl, by rw [HE12.out.2, HIL.out]; omega, ?_, ((below_tr HB2.out B7).setCell hsz _).setCell hsz _, .inr ?_⟩, V1.cell 1, V3.cell 0, V3.cell 1, V3.frozen 0, V3.frozen 1, res_cells V3 rfl _ _⟩
          · rw [HE12.out.2]
            rw [HPR.out] at o7
            exact res_row (own_low o7 hbb) V3
          · rw [HE12.out.2]
            rw [HPR.out] at o7
            exact res_row (own_low o7 HB2.out.size) V3
        clear HIL HE12 HPR HL6 HCd HCt HRI HNN HT3 HT1 HI HB2 HB
        by_cases hic : i = c
        · have hin : n = c := by omega
          subst hic
          subst hin
          rw [Nat.sub_self, Nat.add_zero] at HFIN
          have hnil : (l.drop n).flatMap enC = [] := List.length_eq_zero_iff.1 (by rw [HD3.out, Nat.sub_self, Nat.zero_mul])
          rw [hnil, List.append_nil] at HFIN
          have hml0 : n + 1 + 0 ≤ maxLen := by simp [maxLen]; omega
          go_upto_region 10 with (first | (at_builtin; (refine wpList_append_own_at _ rfl (.tmp 38) (.tmp 42) 35 rfl w2.heap.size 52 inf (.agg #[.int .u64 0, .int .u64 0, .int .i64 0]) 3 24 Try.underlying35 hi1 hi2 hi3 hi4 rfl (by decide) (.slice p6 (n + 1) c6) (n + 1) _ rfl HO6.out ⟨g, 0, none⟩ 0 0 [] rfl rfl (by intro j u hu; simp at hu) (by intro u hu; simp at hu) hml0 (by omega) hb6 ?_; intro v7 w7 own7 gr7 hnil7 loc7; obtain ⟨p7, c7, rfl⟩ := owns_slice own7; have HO7 := Lib.hid own7; have HG7 := Lib.hid gr7; clear own7 gr7 hnil7 loc7)))
          have own7 := HO7.out
          rw [Nat.add_zero, List.append_nil] at own7
          obtain ⟨HE, y1', r0', r1', f0', f1', g0, g1⟩ := HFIN.out p7 c7 w7 own7 (grown_low HO6.out HG7.out hb6)
          have HE' := Lib.hid HE
          clear HE HFIN HO7 HG7 own7
          go_wp2_with fail
          refine bodyPost_ret (v := .tuple #[.agg #[.slice p7 (n + 1) c7, .int .i64 (room : Int)], .int .i64 0]) ?_ rfl HE'.out
          simp [results, Try.f36, go_sem, g0, g1]
        · have hic2 : i < c := by omega
          go_upto_region 10 with (first | (at_builtin; (refine wpList_append_own_at _ rfl (.tmp 38) (.tmp 42) 35 rfl w2.heap.size 52 inf (.agg #[.int .u64 0, .int .u64 0, .int .i64 0]) 3 24 Try.underlying35 hi1 hi2 hi3 hi4 rfl (by decide) (.slice p6 (i + 1) c6) (i + 1) _ rfl HO6.out ⟨g, i * 3, none⟩ (n - i) (c - i) ((l.drop i).flatMap enC) rfl HD3.out HCd6.out HD1.out hml9 (by omega) hb6 ?_; intro v7 w7 own7 gr7 hnil7 loc7; obtain ⟨p7, c7, rfl⟩ := owns_slice own7; have HO7 := Lib.hid own7; have HG7 := Lib.hid gr7; clear own7 gr7 hnil7 loc7)))
          obtain ⟨HE, y1', r0', r1', f0', f1', g0, g1⟩ := HFIN.out p7 c7 w7 HO7.out (grown_low HO6.out HG7.out hb6)
          have HE' := Lib.hid HE
          clear HE HFIN HO7 HG7
          go_wp2_with fail
          refine bodyPost_ret (v := .tuple #[.agg #[.slice p7 (i + 1 + (n - i)) c7, .int .i64 (room : Int)], .int .i64 0]) ?_ rfl HE'.out
          simp [results, Try.f36, go_sem, g0, g1]

end Go.Proofs.Ytfedjeojanpnpab
