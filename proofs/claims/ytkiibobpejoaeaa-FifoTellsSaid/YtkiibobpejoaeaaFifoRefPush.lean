/-
  The document's own queue (sandglassref11): Push.
-/
import Derived.Test.YtkiibobpejoaeaaFifoRefAll
namespace Go.Proofs.Ytkiibobpejoaeaa
open Go.RowKit
set_option linter.unusedVariables false
set_option linter.unusedSimpArgs false
set_option maxRecDepth 100000

/-- How many of the first ones are ahead. -/
structure AtR (k : Ky) (l : List En) (i at_ : Nat) : Prop where
  le : at_ ≤ i
  lt : ∀ j e, j < at_ → l[j]? = some e → e.key.lt k
  ge : ∀ j e, at_ ≤ j → j < i → l[j]? = some e → ¬ e.key.lt k
  ne : ∀ j e, j < i → l[j]? = some e → e.key ≠ k
theorem atR_zero (k : Ky) (l : List En) : AtR k l 0 0 := ⟨Nat.le_refl _, fun j e hj => by omega, fun j e _ hj => by omega, fun j e hj => by omega⟩
theorem atR_next {k : Ky} {l : List En} {i a : Nat} {e : En} (h : AtR k l i a) (hr : Rises l) (he : l[i]? = some e) (hn : e.key ≠ k) : AtR k l (i + 1) (if e.key.lt k then i + 1 else a) := by
  have hne : ∀ j x, j < i + 1 → l[j]? = some x → x.key ≠ k := fun j x hj hx => by
    rcases Nat.lt_or_eq_of_le (Nat.le_of_lt_succ hj) with h1 | h1
    · exact h.ne j x h1 hx
    · subst h1; rw [he] at hx; cases hx; exact hn
  split
  · rename_i c
    refine ⟨Nat.le_refl _, fun j x hj hx => ?_, fun j x h1 h2 => by omega, hne⟩
    rcases Nat.lt_or_eq_of_le (Nat.le_of_lt_succ hj) with h1 | h1
    · obtain ⟨q1, rfl⟩ := List.getElem?_eq_some_iff.1 hx
      obtain ⟨q2, rfl⟩ := List.getElem?_eq_some_iff.1 he
      exact Ky.lt_trans ((List.pairwise_iff_getElem.1 hr) j i q1 q2 h1) c
    · subst h1; rw [he] at hx; cases hx; exact c
  · rename_i c
    refine ⟨by have := h.le; omega, h.lt, fun j x h1 h2 hx => ?_, hne⟩
    rcases Nat.lt_or_eq_of_le (Nat.le_of_lt_succ h2) with h3 | h3
    · exact h.ge j x h1 h3 hx
    · subst h3; rw [he] at hx; cases hx; exact c
theorem atR_end {k : Ky} {v : Int} {l : List En} {a : Nat} (h : AtR k l l.length a) : (getL k l).isSome = false ∧ insL k v l = l.take a ++ ⟨k, v⟩ :: l.drop a := by
  constructor
  · cases hs : (getL k l).isSome with
    | false => rfl
    | true =>
      obtain ⟨e, he, hk⟩ := getL_isSome.1 hs
      obtain ⟨j, hj⟩ := List.getElem?_of_mem he
      exact absurd hk (h.ne j e (List.getElem?_eq_some_iff.1 hj).1 hj)
  · have h1 : ∀ x, x ∈ l.take a → x.key.lt k := fun x hx => by
      obtain ⟨j, hj⟩ := List.getElem?_of_mem hx
      rw [List.getElem?_take] at hj
      split at hj
      · exact h.lt j x (by assumption) hj
      · cases hj
    have h2 : ∀ x, x ∈ l.drop a → k.lt x.key := fun x hx => by
      obtain ⟨j, hj⟩ := List.getElem?_of_mem hx
      rw [List.getElem?_drop] at hj
      have hl := (List.getElem?_eq_some_iff.1 hj).1
      rcases Ky.cases k x.key with c | c | c
      · exact c
      · exact absurd c.symm (h.ne _ x hl hj)
      · exact absurd c (h.ge _ x (by omega) hl hj)
    have := ins_mid (v := v) h1 h2
    rwa [List.take_append_drop] at this
theorem rowAt_own {W : World} {base n c e : Nat} {p : Option Addr} {l : List En} (h : W.ownsRow base e 3 (.slice p n c) n (l.flatMap pkC)) (hl : l.length = n) : RowAt W (.slice p n c) l ∧ ShapeR (.slice p n c) l := by
  subst hl
  rcases h.2 with ⟨e1, e2⟩ | ⟨g, cap, cur, e1, h2, h3, h4, h5, h6, h7⟩
  · injection e1 with q1 q2 q3
    subst q1
    subst q3
    exact ⟨⟨none, 0, rfl, by omega, by omega, fun i x hx => by have := (List.getElem?_eq_some_iff.1 hx).1; omega⟩, .inl (by rw [q2])⟩
  · cases e1
    refine ⟨⟨_, _, rfl, h4, h5, fun i x hx => ?_⟩, .inr ⟨_, _, _, rfl⟩⟩
    have hk : ∀ j, j < 3 → W.cell? ⟨g, 0 + i * 3 + j, none⟩ = (pkC x)[j]? := fun j hj => by
      have hil := (List.getElem?_eq_some_iff.1 hx).1
      have e3 := flat_get pkC 3 (fun _ => rfl) l i j hj
      rw [hx] at e3
      rw [Nat.zero_add, cell_of_row W g (i * 3 + j) cur _ (0, 0) h3]
      have e4 : (cur.toList.take (l.length * 3))[i * 3 + j]? = cur.toList[i * 3 + j]? := by rw [List.getElem?_take, if_pos (by omega)]
      rw [← Array.getElem?_toList, ← e4, h7, e3]
      rfl
    exact ⟨g, 0, rfl, hk 0 (by omega), hk 1 (by omega), hk 2 (by omega)⟩

theorem low_grown {wx w5 : World} {H0 e s n : Nat} {v : Value} {xs : List Value} (r : wx.ownsRow H0 e s v n xs) (g : wx.grownBy w5 v.ownBlock) (h : H0 ≤ wx.heap.size) : Below H0 wx w5 :=
  ⟨g.os, g.tape, g.output, g.size, fun k hk => g.block k (by omega) (fun e => by have := (r.lt k e.symm).1; omega)⟩
theorem pk_one (l : List En) : ∀ u ∈ l.flatMap pkC, u.oneCell' = true := by
  intro u hu
  obtain ⟨a, _, hu⟩ := List.mem_flatMap.1 hu
  simp [pkC] at hu
  rcases hu with rfl | rfl | rfl <;> rfl
theorem cells_low {W W' : World} {H0 g o : Nat} {xs : List Value} (b : Below H0 W W') (hg : xs ≠ [] → g < H0) (h : ∀ j u, xs[j]? = some u → W.cell? ((⟨g, o, none⟩ : Addr).add j) = some u) : ∀ j u, xs[j]? = some u → W'.cell? ((⟨g, o, none⟩ : Addr).add j) = some u := by
  intro j u hu
  have h2 := h j u hu
  have hadd : (⟨g, o, none⟩ : Addr).add j = ⟨g, o + j, none⟩ := by unfold Addr.add; split <;> simp_all
  rw [hadd] at h2 ⊢
  rw [← h2]
  exact b.cell (p := ⟨g, o + j, none⟩) (hg (fun e => by rw [e] at hu; simp at hu))
def RefPush (room : Nat) (v0 : Value) (l : List En) (k : Ky) (hv : Int) (w : World) (e : Ending) (w' : World) : Prop :=
  ∃ v', e = .returned (.tuple #[.agg #[.int .i64 (room : Int), v'], .int .i64 (putE room l k : Nat)]) ∧ RowAt w' v' (putL room l k hv) ∧ ShapeR v' (putL room l k hv) ∧ (v' = v0 ∨ ∀ q, v'.ownBlock = some q → w.heap.size ≤ q ∧ q < w'.heap.size) ∧ Below w.heap.size w w'
theorem push_end {W W3 : World} {tb : Nat} {room : Int} {v : Value} (h : Box W3 (tb + 1 + 1) 64 #[.int .i64 0, .slice none 0 0]) (hW : (W3.setCell ⟨tb + 1 + 1, 0, none⟩ (.int .i64 room)).setCell ⟨tb + 1 + 1, 1, none⟩ v = W) : W.cell? ⟨tb + 1 + 1, 0, none⟩ = some (.int .i64 room) ∧ W.cell? ⟨tb + 1 + 1, 1, none⟩ = some v := by
  subst hW
  have h2 : Box ((W3.setCell ⟨tb + 1 + 1, 0, none⟩ (.int .i64 room)).setCell ⟨tb + 1 + 1, 1, none⟩ v) (tb + 1 + 1) 64 #[.int .i64 room, v] := (h.set 0 (.int .i64 room)).set 1 v
  exact ⟨h2.cell 0, h2.cell 1⟩
set_option maxHeartbeats 16000000 in
theorem ref_push (room : Nat) {v : Value} {l : List En} (w : World) (h : RowAt w v l) (hs : ShapeR v l) (hr : Rises l) (hl : l.length ≤ 65536) (hro : room ≤ 65536) (hv : Int) (k : Ky) :
    Calls Try.prog 24 #[.agg #[.int .i64 (room : Int), v], .int .u64 hv, kyV k] w (RefPush room v l k hv w) := by
  unfold kyV
  obtain ⟨W, HW⟩ : ∃ W, Hid (((w.alloc (.cells #[.int .i64 (room : Int), v] 64)).alloc (.cells #[.int .u64 (k.at_ : Int), .int .u64 (k.seq : Int)] 68)).alloc (.cells #[.int .i64 0, .slice none 0 0] 64) = W) := ⟨_, Lib.hid rfl⟩
  obtain ⟨x1, x2, x3, bl⟩ := three_box HW.out
  have HRo := Lib.hid (h.below bl)
  have HB := Lib.hid bl
  have HSh := Lib.hid hs
  have HRi := Lib.hid hr
  have HR0 := Lib.hid h
  obtain ⟨pv, cv, rfl, hlc, hcm, _⟩ := h
  obtain ⟨tb, HTB⟩ : ∃ q, Hid (w.heap.size = q) := ⟨_, Lib.hid rfl⟩
  rw [HTB.out] at x1 x2 x3
  have ht2 : w.heap.size ≤ tb + 1 + 1 := by rw [HTB.out]; omega
  obtain ⟨n, HN⟩ : ∃ n, Hid (l.length = n) := ⟨_, Lib.hid rfl⟩
  rw [HN.out] at x1 hlc hl HW
  rw [HN.out]
  have HX1 := Lib.hid x1
  have HX2 := Lib.hid x2
  have HX3 := Lib.hid x3
  clear x1 x2 x3 bl hs hr
  go_enter Try.func24, Try.ntmps24
  go_upto_region 1 with fail
  rw [HW.out, HTB.out]
  clear HW HTB
  go_wp2_with fail
  go_loopg [8, 9] n (fun s v8 v9 wx => ∃ (i a : Nat), i + s = n ∧ v8 = .int .i64 (a : Int) ∧ v9 = .int .i64 (i : Int) ∧ Hid (AtR k l i a) ∧ Hid (Below W.heap.size W wx))
  case atStart => exact ⟨0, 0, by omega, rfl, rfl, Lib.hid (atR_zero k l), Lib.hid (Below.refl _ _)⟩
  case round =>
  obtain ⟨i, a, his, rfl, rfl, HAt, HBw⟩ := hrel
  have X1 := Lib.hid (HX1.out.below HBw.out HX1.out.lt)
  have X2 := Lib.hid (HX2.out.below HBw.out HX2.out.lt)
  have X3 := Lib.hid (HX3.out.below HBw.out HX3.out.lt)
  have z0 : wr.cell? ⟨tb, 0, none⟩ = some (.int .i64 (room : Int)) := X1.out.cell 0
  have z1 : wr.cell? ⟨tb, 1, none⟩ = some (.slice pv n cv) := X1.out.cell 1
  have d0 : wr.cell? ⟨tb + 1, 0, none⟩ = some (.int .u64 (k.at_ : Int)) := X2.out.cell 0
  have d1 : wr.cell? ⟨tb + 1, 1, none⟩ = some (.int .u64 (k.seq : Int)) := X2.out.cell 1
  have e0 : wr.cell? ⟨tb + 1 + 1, 0, none⟩ = some (.int .i64 0) := X3.out.cell 0
  have e1 : wr.cell? ⟨tb + 1 + 1, 1, none⟩ = some (.slice none 0 0) := X3.out.cell 1
  have q0 := X3.out.frozen 0
  have q1 := X3.out.frozen 1
  by_cases hin : i = n
  · have hiz : ¬ (i : Int) < (n : Int) := by omega
    have hend : (getL k l).isSome = false ∧ insL k hv l = l.take a ++ ⟨k, hv⟩ :: l.drop a := atR_end (by rw [HN.out, ← hin]; exact HAt.out)
    have hal : a ≤ n := by have := HAt.out.le; omega
    obtain rfl := hin
    by_cases hfull : room ≤ i
    · have hfz : (room : Int) ≤ (i : Int) := by omega
      have HE2 : Hid (putE room l k = 4 ∧ putL room l k hv = l) := by
        have h4 : putE room l k = 4 := by unfold putE; rw [hend.1]; simp only [Bool.false_eq_true, if_false]; rw [if_pos (by rw [HN.out]; exact hfull)]
        exact Lib.hid ⟨h4, by unfold putL; rw [if_neg (by rw [h4]; decide)]⟩
      have HBe := Lib.hid (((below_tr HB.out HBw.out).setCell (p := ⟨tb + 1 + 1, 0, none⟩) ht2 (.int .i64 (room : Int))).setCell (p := ⟨tb + 1 + 1, 1, none⟩) ht2 (.slice pv i cv))
      clear hend
      go_wp2_with fail
      obtain ⟨W9, HW9⟩ : ∃ W9, Hid ((wr.setCell ⟨tb + 1 + 1, 0, none⟩ (.int .i64 (room : Int))).setCell ⟨tb + 1 + 1, 1, none⟩ (.slice pv i cv) = W9) := ⟨_, Lib.hid rfl⟩
      obtain ⟨k0, k1⟩ := push_end X3.out HW9.out
      rw [HW9.out] at HBe ⊢
      refine bodyPost_ret (v := .tuple #[.agg #[.int .i64 (room : Int), .slice pv i cv], .int .i64 4]) ?_ rfl ⟨.slice pv i cv, by rw [HE2.out.1]; rfl, by rw [HE2.out.2]; have h := HR0.out.below HBe.out; rw [HN.out] at h; exact h, by rw [HE2.out.2]; have h := HSh.out; rw [HN.out] at h; exact h, .inl rfl, HBe.out⟩
      simp [results, Try.f24, go_sem, k0, k1]
    · have hfz : ¬ (room : Int) ≤ (i : Int) := by omega
      have HE2 : Hid (putE room l k = 0 ∧ putL room l k hv = insL k hv l) := by
        have h4 : putE room l k = 0 := by unfold putE; rw [hend.1]; simp only [Bool.false_eq_true, if_false]; rw [if_neg (by rw [HN.out]; exact hfull)]
        exact Lib.hid ⟨h4, by unfold putL; rw [if_pos h4]⟩
      have HIns := Lib.hid hend.2
      have HRow : Hid ((insL k hv l).flatMap pkC = ((l.take a).flatMap pkC ++ [.int .u64 hv, .int .u64 (k.at_ : Int), .int .u64 (k.seq : Int)]) ++ (l.drop a).flatMap pkC) := Lib.hid (by rw [hend.2, List.flatMap_append, List.flatMap_cons]; simp [pkC])
      have HIL : Hid ((insL k hv l).length = i + 1) := Lib.hid (by rw [insL_length, HN.out])
      have HBw2 := Lib.hid (below_tr HB.out HBw.out)
      have HRw := Lib.hid (HR0.out.below HBw2.out)
      rw [HN.out] at HRw
      obtain ⟨inf, hi1, hi2, hi3, hi4⟩ := info_parts (P := Try.prog) (e := 118) (z := .agg #[.int .u64 0, .int .u64 0, .int .u64 0]) (size := 3) (bytes := 24) (by kernel_rfl)
      have hone8 : ∀ u ∈ [Value.int .u64 hv, .int .u64 (k.at_ : Int), .int .u64 (k.seq : Int)], u.oneCell' = true := by
        intro u hu
        simp at hu
        rcases hu with rfl | rfl | rfl <;> rfl
      have HFIN : Hid (∀ p7 n7 c7 w7, n7 = i + 1 → w7.ownsRow wr.heap.size 118 3 (.slice p7 n7 c7) n7 ((insL k hv l).flatMap pkC) → Below wr.heap.size wr w7 → RefPush room (.slice pv i cv) l k hv w (.returned (.tuple #[.agg #[.int .i64 (room : Int), .slice p7 n7 c7], .int .i64 0])) ((w7.setCell ⟨tb + 1 + 1, 0, none⟩ (.int .i64 (room : Int))).setCell ⟨tb + 1 + 1, 1, none⟩ (.slice p7 n7 c7)) ∧ w7.cell? ⟨tb, 0, none⟩ = some (.int .i64 (room : Int)) ∧ w7.cell? ⟨tb + 1 + 1, 0, none⟩ = some (.int .i64 0) ∧ w7.cell? ⟨tb + 1 + 1, 1, none⟩ = some (.slice none 0 0) ∧ w7.frozen? ⟨tb + 1 + 1, 0, none⟩ = false ∧ w7.frozen? ⟨tb + 1 + 1, 1, none⟩ = false ∧ Box w7 (tb + 1 + 1) 64 #[.int .i64 0, .slice none 0 0]) := by
        refine Lib.hid fun p7 n7 c7 w7 en o7 b7 => ?_
        have V1 := X1.out.below b7 X1.out.lt
        have V3 := X3.out.below b7 X3.out.lt
        have hne := V3.not_row o7 (by decide)
        obtain ⟨r1, r2⟩ := rowAt_own (own_set (own_set o7 hne) hne) (by rw [HIL.out, en])
        refine ⟨⟨.slice p7 n7 c7, by rw [HE2.out.1]; rfl, by rw [HE2.out.2]; exact r1, by rw [HE2.out.2]; exact r2, .inr fun q hq => ⟨Nat.le_trans HBw2.out.size (o7.lt q hq).1, ((own_set (own_set o7 hne) hne).lt q hq).2⟩, ((below_tr HBw2.out b7).setCell ht2 _).setCell ht2 _⟩, V1.cell 0, V3.cell 0, V3.cell 1, V3.frozen 0, V3.frozen 1, V3⟩
      clear hend HE2 e0 e1 q0 q1
      rcases HSh.out with hsv | ⟨g, o, c', hsv⟩
      · obtain ⟨r1, r2, r3⟩ : pv = none ∧ l.length = 0 ∧ cv = 0 := by injection hsv with r1 r2 r3; exact ⟨r1, r2, r3⟩
        obtain rfl := r1
        obtain rfl := r3
        have hl0 : l = [] := List.eq_nil_of_length_eq_zero r2
        obtain rfl : i = 0 := by rw [← HN.out]; exact r2
        obtain rfl : a = 0 := by omega
        have HPZ : Hid ((insL k hv l).flatMap pkC = [Value.int .u64 hv, .int .u64 (k.at_ : Int), .int .u64 (k.seq : Int)]) := Lib.hid (by have := HRow.out; rw [hl0] at this ⊢; simpa using this)
        clear hl0 r2 hsv HRow HIns
        have hmlz : 0 + 0 ≤ maxLen := by decide
        have hml2 : 0 + 1 + 0 ≤ maxLen := by decide
        have nz2 := World.ownsRow_nil wr wr.heap.size 118 3
        go_upto_region 13 with (first | (at_builtin; (refine wpList_append_any _ rfl (.tmp 44) (.tmp 48) 62 rfl wr.heap.size 118 inf (.agg #[.int .u64 0, .int .u64 0, .int .u64 0]) 3 24 Try.underlying62 hi1 hi2 hi3 hi4 rfl (by decide) (.slice none 0 0) 0 [] rfl nz2 wr.heap.size (.slice none 0 0) 0 [] rfl nz2 (by intro u hu; simp at hu) hmlz (by omega) (Nat.le_refl _) ?_; intro p5 c5 w5 own5 gr5 loc5; have HO5 := Lib.hid own5; have HG5 := Lib.hid gr5; clear own5 gr5 loc5)))
        have L5 : Below wr.heap.size wr w5 := low_grown (World.ownsRow_nil wr wr.heap.size 118 3) HG5.out (Nat.le_refl _)
        have own5 := HO5.out
        rw [Nat.zero_add, List.nil_append] at own5
        have Y2 := X2.out.below L5 X2.out.lt
        have q2 : w5.cell? ⟨tb + 1, 0, none⟩ = some (.int .u64 (k.at_ : Int)) := Y2.cell 0
        have q3 : w5.cell? ⟨tb + 1, 1, none⟩ = some (.int .u64 (k.seq : Int)) := Y2.cell 1
        have HN5 := Lib.hid own5
        have HL5 := Lib.hid L5
        clear HO5 HG5 own5 L5 Y2 d0 d1 z1 z0
        have hb5 : wr.heap.size ≤ w5.heap.size := HL5.out.size
        have hba : wr.heap.size ≤ (w5.alloc (.cells #[.int .u64 hv, .int .u64 (k.at_ : Int), .int .u64 (k.seq : Int)] 118)).heap.size := by rw [World.size_alloc]; omega
        have hml8 : 0 + 1 ≤ maxLen := by unfold maxLen; omega
        have olit : (w5.alloc (.cells #[.int .u64 hv, .int .u64 (k.at_ : Int), .int .u64 (k.seq : Int)] 118)).ownsRow w5.heap.size 118 3 (.slice (some ⟨w5.heap.size, 0, none⟩) 1 1) 1 [Value.int .u64 hv, .int .u64 (k.at_ : Int), .int .u64 (k.seq : Int)] := World.ownsRow_lit (base := w5.heap.size) (e := 118) (size := 3) w5 #[.int .u64 hv, .int .u64 (k.at_ : Int), .int .u64 (k.seq : Int)] 1 (Nat.le_refl _) (by decide) rfl
        have own8 := HN5.out.alloc (.cells #[.int .u64 hv, .int .u64 (k.at_ : Int), .int .u64 (k.seq : Int)] 118)
        go_upto_region 14 with (first | (at_builtin; (refine wpList_append_any _ rfl (.tmp 50) (.tmp 54) 62 rfl wr.heap.size 118 inf (.agg #[.int .u64 0, .int .u64 0, .int .u64 0]) 3 24 Try.underlying62 hi1 hi2 hi3 hi4 rfl (by decide) (.slice p5 0 c5) 0 [] rfl own8 w5.heap.size (.slice (some ⟨w5.heap.size, 0, none⟩) 1 1) 1 [Value.int .u64 hv, .int .u64 (k.at_ : Int), .int .u64 (k.seq : Int)] rfl olit hone8 hml8 (by omega) hba ?_; intro p6 c6 w6 own6 gr6 loc6; have HO6 := Lib.hid own6; have HG6 := Lib.hid gr6; clear own6 gr6 loc6)))
        have HL6 : Hid (Below wr.heap.size wr w6) := Lib.hid ((HL5.out.alloc hb5 _).trans (low_grown own8 HG6.out hba))
        clear own8 olit hone8 hml8 HG6 HN5 HL5 hba hb5 q2 q3
        have Y1 := X1.out.below HL6.out X1.out.lt
        have hb6 : wr.heap.size ≤ w6.heap.size := HL6.out.size
        have s0 : w6.cell? ⟨tb, 1, none⟩ = some (.slice none 0 0) := Y1.cell 1
        clear Y1
        have nz6 := World.ownsRow_nil w6 wr.heap.size 118 3
        have HQ6 := Lib.hid HO6.out
        go_upto_region 15 with (first | (at_builtin; (refine wpList_append_any _ rfl (.tmp 56) (.tmp 60) 62 rfl wr.heap.size 118 inf (.agg #[.int .u64 0, .int .u64 0, .int .u64 0]) 3 24 Try.underlying62 hi1 hi2 hi3 hi4 rfl (by decide) (.slice p6 (0 + 1) c6) (0 + 1) _ rfl HQ6.out wr.heap.size (.slice none 0 0) 0 [] rfl nz6 (by intro u hu; simp at hu) hml2 (by omega) hb6 ?_; intro p7 c7 w7 own7 gr7 loc7; have HO7 := Lib.hid own7; have HG7 := Lib.hid gr7; clear own7 gr7 loc7)))
        have own7 := HO7.out
        rw [List.nil_append, List.append_nil, ← HPZ.out] at own7
        have B7 := HL6.out.trans (low_grown HQ6.out HG7.out hb6)
        obtain ⟨HE, y0', r0', r1', f0', f1', V3⟩ := HFIN.out p7 (0 + 1 + 0) c7 w7 (by omega) own7 B7
        have HE' := Lib.hid HE
        have HV3 := Lib.hid V3
        clear HE V3 HFIN HO7 HG7 own7 B7
        go_wp2_with fail
        obtain ⟨W9, HW9⟩ : ∃ W9, Hid ((w7.setCell ⟨tb + 1 + 1, 0, none⟩ (.int .i64 (room : Int))).setCell ⟨tb + 1 + 1, 1, none⟩ (.slice p7 ((0 + 1 + 0)) c7) = W9) := ⟨_, Lib.hid rfl⟩
        obtain ⟨k0, k1⟩ := push_end HV3.out HW9.out
        rw [HW9.out] at HE' ⊢
        refine bodyPost_ret (v := .tuple #[.agg #[.int .i64 (room : Int), .slice p7 ((0 + 1 + 0)) c7], .int .i64 0]) ?_ rfl HE'.out
        simp [results, Try.f24, go_sem, k0, k1]
      · obtain ⟨r1, r3⟩ : pv = some ⟨g, o, none⟩ ∧ cv = c' := by injection hsv with r1 r2 r3; exact ⟨r1, r3⟩
        obtain rfl := r1
        obtain rfl := r3
        have haL : a ≤ l.length := by rw [HN.out]; exact hal
        have HT3 : Hid (((l.take a).flatMap pkC).length = a * 3) := Lib.hid (by rw [flat_len, List.length_take]; congr 1; omega)
        have HD3 : Hid (((l.drop a).flatMap pkC).length = (i - a) * 3) := Lib.hid (by rw [flat_len, List.length_drop, HN.out])
        have HT1 := Lib.hid (pk_one (l.take a))
        have HD1 := Lib.hid (pk_one (l.drop a))
        have HCt := Lib.hid (HRw.out.take haL).cells.2
        have hplz : (a : Int) ≤ (cv : Int) := by omega
        have hplz2 : (a : Int) ≤ (i : Int) := by omega
        have hplc : a ≤ cv := by omega
        have ha0 : (0 : Int) ≤ (a : Int) := by omega
        have hml : 0 + a ≤ maxLen := by unfold maxLen; omega
        clear hsv HIns
        go_upto_region 13 with (first | (at_builtin; (refine wpList_append_own_at _ rfl (.tmp 44) (.tmp 48) 62 rfl wr.heap.size 118 inf (.agg #[.int .u64 0, .int .u64 0, .int .u64 0]) 3 24 Try.underlying62 hi1 hi2 hi3 hi4 rfl (by decide) (.slice none 0 0) 0 [] rfl (World.ownsRow_nil _ _ _ _) ⟨g, o, none⟩ a cv ((l.take a).flatMap pkC) rfl HT3.out HCt.out HT1.out hml (by omega) (Nat.le_refl _) ?_; intro v5 w5 own5 gr5 hnil5 loc5; obtain ⟨p5, c5, rfl⟩ := owns_slice own5; have HO5 := Lib.hid own5; have HG5 := Lib.hid gr5; clear own5 gr5 hnil5 loc5)))
        have L5 : Below wr.heap.size wr w5 := low_grown (World.ownsRow_nil wr wr.heap.size 118 3) HG5.out (Nat.le_refl _)
        have own5 := HO5.out
        rw [Nat.zero_add, List.nil_append] at own5
        have Y2 := X2.out.below L5 X2.out.lt
        have q2 : w5.cell? ⟨tb + 1, 0, none⟩ = some (.int .u64 (k.at_ : Int)) := Y2.cell 0
        have q3 : w5.cell? ⟨tb + 1, 1, none⟩ = some (.int .u64 (k.seq : Int)) := Y2.cell 1
        have HN5 := Lib.hid own5
        have HL5 := Lib.hid L5
        clear HO5 HG5 own5 L5 Y2 d0 d1 z1 z0
        have hb5 : wr.heap.size ≤ w5.heap.size := HL5.out.size
        have hba : wr.heap.size ≤ (w5.alloc (.cells #[.int .u64 hv, .int .u64 (k.at_ : Int), .int .u64 (k.seq : Int)] 118)).heap.size := by rw [World.size_alloc]; omega
        have hml8 : a + 1 ≤ maxLen := by unfold maxLen; omega
        have olit : (w5.alloc (.cells #[.int .u64 hv, .int .u64 (k.at_ : Int), .int .u64 (k.seq : Int)] 118)).ownsRow w5.heap.size 118 3 (.slice (some ⟨w5.heap.size, 0, none⟩) 1 1) 1 [Value.int .u64 hv, .int .u64 (k.at_ : Int), .int .u64 (k.seq : Int)] := World.ownsRow_lit (base := w5.heap.size) (e := 118) (size := 3) w5 #[.int .u64 hv, .int .u64 (k.at_ : Int), .int .u64 (k.seq : Int)] 1 (Nat.le_refl _) (by decide) rfl
        have own8 := HN5.out.alloc (.cells #[.int .u64 hv, .int .u64 (k.at_ : Int), .int .u64 (k.seq : Int)] 118)
        go_upto_region 14 with (first | (at_builtin; (refine wpList_append_any _ rfl (.tmp 50) (.tmp 54) 62 rfl wr.heap.size 118 inf (.agg #[.int .u64 0, .int .u64 0, .int .u64 0]) 3 24 Try.underlying62 hi1 hi2 hi3 hi4 rfl (by decide) (.slice p5 a c5) a ((l.take a).flatMap pkC) rfl own8 w5.heap.size (.slice (some ⟨w5.heap.size, 0, none⟩) 1 1) 1 [Value.int .u64 hv, .int .u64 (k.at_ : Int), .int .u64 (k.seq : Int)] rfl olit hone8 hml8 (by omega) hba ?_; intro p6 c6 w6 own6 gr6 loc6; have HO6 := Lib.hid own6; have HG6 := Lib.hid gr6; clear own6 gr6 loc6)))
        have HL6 : Hid (Below wr.heap.size wr w6) := Lib.hid ((HL5.out.alloc hb5 _).trans (low_grown own8 HG6.out hba))
        clear own8 olit hone8 hml8 HG6 HN5 HL5 hba hb5 q2 q3
        have Y1 := X1.out.below HL6.out X1.out.lt
        have hb6 : wr.heap.size ≤ w6.heap.size := HL6.out.size
        have s0 : w6.cell? ⟨tb, 1, none⟩ = some (.slice (some ⟨g, o, none⟩) i cv) := Y1.cell 1
        clear Y1
        have hml9 : a + 1 + (i - a) ≤ maxLen := by unfold maxLen; omega
        have HR6 := Lib.hid (HRw.out.below HL6.out)
        by_cases hic : cv = a
        · have hia : i = a := by omega
          obtain rfl := hic
          obtain rfl := hia
          have hnil : (l.drop i).flatMap pkC = [] := List.length_eq_zero_iff.1 (by rw [HD3.out, Nat.sub_self, Nat.zero_mul])
          have HRow2 : Hid ((insL k hv l).flatMap pkC = (l.take i).flatMap pkC ++ [Value.int .u64 hv, .int .u64 (k.at_ : Int), .int .u64 (k.seq : Int)]) := Lib.hid (by rw [HRow.out, hnil, List.append_nil])
          have hml0 : i + 1 + 0 ≤ maxLen := by unfold maxLen; omega
          clear hnil
          go_upto_region 15 with (first | (at_builtin; (refine wpList_append_own_at _ rfl (.tmp 56) (.tmp 60) 62 rfl wr.heap.size 118 inf (.agg #[.int .u64 0, .int .u64 0, .int .u64 0]) 3 24 Try.underlying62 hi1 hi2 hi3 hi4 rfl (by decide) (.slice p6 (i + 1) c6) (i + 1) _ rfl HO6.out ⟨g, o, none⟩ 0 0 [] rfl rfl (by intro j u hu; simp at hu) (by intro u hu; simp at hu) hml0 (by omega) hb6 ?_; intro v7 w7 own7 gr7 hnil7 loc7; obtain ⟨p7, c7, rfl⟩ := owns_slice own7; have HO7 := Lib.hid own7; have HG7 := Lib.hid gr7; clear own7 gr7 hnil7 loc7)))
          have own7 := HO7.out
          rw [Nat.add_zero, List.append_nil, ← HRow2.out] at own7
          have B7 := HL6.out.trans (low_grown HO6.out HG7.out hb6)
          obtain ⟨HE, y0', r0', r1', f0', f1', V3⟩ := HFIN.out p7 (i + 1) c7 w7 (by omega) own7 B7
          have HE' := Lib.hid HE
          have HV3 := Lib.hid V3
          clear HE V3 HFIN HO7 HG7 own7 B7
          go_wp2_with fail
          obtain ⟨W9, HW9⟩ : ∃ W9, Hid ((w7.setCell ⟨tb + 1 + 1, 0, none⟩ (.int .i64 (room : Int))).setCell ⟨tb + 1 + 1, 1, none⟩ (.slice p7 ((i + 1)) c7) = W9) := ⟨_, Lib.hid rfl⟩
          obtain ⟨k0, k1⟩ := push_end HV3.out HW9.out
          rw [HW9.out] at HE' ⊢
          refine bodyPost_ret (v := .tuple #[.agg #[.int .i64 (room : Int), .slice p7 ((i + 1)) c7], .int .i64 0]) ?_ rfl HE'.out
          simp [results, Try.f24, go_sem, k0, k1]
        · have hic2 : a < cv := by omega
          have HCd6 := Lib.hid (HR6.out.dropped haL hic).cells.2
          go_upto_region 15 with (first | (at_builtin; (refine wpList_append_own_at _ rfl (.tmp 56) (.tmp 60) 62 rfl wr.heap.size 118 inf (.agg #[.int .u64 0, .int .u64 0, .int .u64 0]) 3 24 Try.underlying62 hi1 hi2 hi3 hi4 rfl (by decide) (.slice p6 (a + 1) c6) (a + 1) _ rfl HO6.out ⟨g, o + a * 3, none⟩ (i - a) (cv - a) ((l.drop a).flatMap pkC) rfl HD3.out HCd6.out HD1.out hml9 (by omega) hb6 ?_; intro v7 w7 own7 gr7 hnil7 loc7; obtain ⟨p7, c7, rfl⟩ := owns_slice own7; have HO7 := Lib.hid own7; have HG7 := Lib.hid gr7; clear own7 gr7 hnil7 loc7)))
          have own7 := HO7.out
          rw [← HRow.out] at own7
          have B7 := HL6.out.trans (low_grown HO6.out HG7.out hb6)
          obtain ⟨HE, y0', r0', r1', f0', f1', V3⟩ := HFIN.out p7 (a + 1 + (i - a)) c7 w7 (by omega) own7 B7
          have HE' := Lib.hid HE
          have HV3 := Lib.hid V3
          clear HE V3 HFIN HO7 HG7 own7 B7
          go_wp2_with fail
          obtain ⟨W9, HW9⟩ : ∃ W9, Hid ((w7.setCell ⟨tb + 1 + 1, 0, none⟩ (.int .i64 (room : Int))).setCell ⟨tb + 1 + 1, 1, none⟩ (.slice p7 ((a + 1 + (i - a))) c7) = W9) := ⟨_, Lib.hid rfl⟩
          obtain ⟨k0, k1⟩ := push_end HV3.out HW9.out
          rw [HW9.out] at HE' ⊢
          refine bodyPost_ret (v := .tuple #[.agg #[.int .i64 (room : Int), .slice p7 ((a + 1 + (i - a))) c7], .int .i64 0]) ?_ rfl HE'.out
          simp [results, Try.f24, go_sem, k0, k1]
  · have hiz : (i : Int) < (n : Int) := by omega
    have hi0 : (0 : Int) ≤ (i : Int) := by omega
    obtain ⟨x, hx⟩ : ∃ x, l[i]? = some x := ⟨_, List.getElem?_eq_getElem (by have := HN.out; omega)⟩
    obtain ⟨p2, c2, e2, _, _, h4⟩ := HRo.out.below HBw.out
    rw [HN.out] at e2
    cases e2
    obtain ⟨gg, o, rfl, x0, x1, x2⟩ := h4 i x hx
    have HXi := Lib.hid hx
    clear h4 hx x0
    go_upto_region 5 with fail
    have HC : Hid (∀ wy, Below wr.heap.size wr wy → wy.cell? ⟨tb, 1, none⟩ = some (.slice (some ⟨gg, o, none⟩) n cv) ∧ wy.cell? ⟨tb + 1, 0, none⟩ = some (.int .u64 (k.at_ : Int)) ∧ wy.cell? ⟨tb + 1, 1, none⟩ = some (.int .u64 (k.seq : Int)) ∧ wy.cell? ⟨gg, o + i * 3 + 1, none⟩ = some (.int .u64 (x.key.at_ : Int)) ∧ wy.cell? ⟨gg, o + i * 3 + 2, none⟩ = some (.int .u64 (x.key.seq : Int))) := Lib.hid fun wy b =>
      ⟨(b.cell (World.block_lt_of_cell? wr _ z1)).trans z1, (b.cell (World.block_lt_of_cell? wr _ d0)).trans d0, (b.cell (World.block_lt_of_cell? wr _ d1)).trans d1, (b.cell (World.block_lt_of_cell? wr _ x1)).trans x1, (b.cell (World.block_lt_of_cell? wr _ x2)).trans x2⟩
    have hwi : IntKind.i64.wrap ((i : Int) + 1) = ((i + 1 : Nat) : Int) := by rw [IntKind.wrap_i64]; omega
    by_cases hk : x.key = k
    · have HE2 : Hid (putE room l k = 60 ∧ putL room l k hv = l) := by
        have h4 : putE room l k = 60 := by
          unfold putE
          rw [if_pos (getL_isSome.2 ⟨x, List.mem_of_getElem? HXi.out, hk⟩)]
        exact Lib.hid ⟨h4, by unfold putL; rw [if_neg (by rw [h4]; decide)]⟩
      rw [hk] at x1 x2
      have hE := fun W => key_eql k k W
      simp only [decide_true] at hE
      have BD := fun j => ((below_tr (below_tr HB.out HBw.out) (below_drewN (Below.refl wr.heap.size wr) j)).setCell (p := ⟨tb + 1 + 1, 0, none⟩) ht2 (.int .i64 (room : Int))).setCell (p := ⟨tb + 1 + 1, 1, none⟩) ht2 (.slice (some ⟨gg, o, none⟩) n cv)
      have HBD := Lib.hid BD
      clear BD hk
      go_quiet (fail)
      go_wp2_with fail
      have XQ := X3.out.below (below_drewN (Below.refl wr.heap.size wr) nq) X3.out.lt
      obtain ⟨W9, HW9⟩ : ∃ W9, Hid (((wr.drewN nq).setCell ⟨tb + 1 + 1, 0, none⟩ (.int .i64 (room : Int))).setCell ⟨tb + 1 + 1, 1, none⟩ (.slice (some ⟨gg, o, none⟩) n cv) = W9) := ⟨_, Lib.hid rfl⟩
      obtain ⟨k0, k1⟩ := push_end XQ HW9.out
      have HBe := HBD.out nq
      rw [HW9.out] at HBe ⊢
      refine bodyPost_ret (v := .tuple #[.agg #[.int .i64 (room : Int), .slice (some ⟨gg, o, none⟩) n cv], .int .i64 60]) ?_ rfl ⟨.slice (some ⟨gg, o, none⟩) n cv, by rw [HE2.out.1]; rfl, by rw [HE2.out.2]; have h := HR0.out.below HBe; rw [HN.out] at h; exact h, by rw [HE2.out.2]; have h := HSh.out; rw [HN.out] at h; exact h, .inl rfl, HBe⟩
      simp [results, Try.f24, go_sem, k0, k1]
    · have hE := fun W => key_eql x.key k W
      rw [decide_eq_false hk] at hE
      go_upto_if 25 with (first | go_quiet (fail))
      have BV := Lib.hid (below_drewN (Below.refl wr.heap.size wr) nq)
      obtain ⟨V, HV⟩ : ∃ V, Hid (wr.drewN nq = V) := ⟨_, Lib.hid rfl⟩
      rw [HV.out] at BV
      rw [HV.out]
      have HAt2 := Lib.hid (atR_next HAt.out HRi.out HXi.out hk)
      have HK2 : Hid (∀ wy, Below V.heap.size V wy → wy.cell? ⟨tb, 1, none⟩ = some (.slice (some ⟨gg, o, none⟩) n cv) ∧ wy.cell? ⟨tb + 1, 0, none⟩ = some (.int .u64 (k.at_ : Int)) ∧ wy.cell? ⟨tb + 1, 1, none⟩ = some (.int .u64 (k.seq : Int)) ∧ wy.cell? ⟨gg, o + i * 3 + 1, none⟩ = some (.int .u64 (x.key.at_ : Int)) ∧ wy.cell? ⟨gg, o + i * 3 + 2, none⟩ = some (.int .u64 (x.key.seq : Int))) := Lib.hid fun wy b => HC.out wy (below_tr BV.out b)
      obtain ⟨t1, t2, t3, t4, t5⟩ := HK2.out V (Below.refl _ _)
      have KL := Lib.hid (fun W => ref_less x.key k W)
      unfold kyV at KL
      clear z0 z1 d0 d1 e0 e1 q0 q1 x1 x2 hE HC HV hk X1 X2 X3
      go_upto_region 7 with fail
      by_cases hlt : x.key.lt k
      · rw [decide_eq_true hlt] at KL
        rw [if_pos hlt] at HAt2
        clear hlt
        go_region_held3 (fun wy => wy.cell? ⟨tb, 1, none⟩ = some (.slice (some ⟨gg, o, none⟩) n cv) ∧ wy.cell? ⟨tb + 1, 0, none⟩ = some (.int .u64 (k.at_ : Int)) ∧ wy.cell? ⟨tb + 1, 1, none⟩ = some (.int .u64 (k.seq : Int)) ∧ wy.cell? ⟨gg, o + i * 3 + 1, none⟩ = some (.int .u64 (x.key.at_ : Int)) ∧ wy.cell? ⟨gg, o + i * 3 + 2, none⟩ = some (.int .u64 (x.key.seq : Int)))
          (first | exact HK2.out _ (Below.refl _ _).drew | exact HK2.out _ bb)
          (first | (go_at_call 53; refine (KL.out _).mono ?_; rintro e' w6 ⟨rfl, b6⟩; have bb := below_tr (Below.refl _ V).drew b6))
        have HB6 := Lib.hid (below_tr (below_tr HBw.out BV.out) bb)
        clear bb b6 t1 t2 t3 t4 t5 KL HK2
        go_wp2_with fail
        go_roundg (n - (i + 1))
        case measure => omega
        case rel => exact ⟨i + 1, i + 1, by omega, by go_num, by go_num, HAt2, HB6⟩
      · rw [decide_eq_false hlt] at KL
        rw [if_neg hlt] at HAt2
        clear hlt
        go_region_held3 (fun wy => wy.cell? ⟨tb, 1, none⟩ = some (.slice (some ⟨gg, o, none⟩) n cv) ∧ wy.cell? ⟨tb + 1, 0, none⟩ = some (.int .u64 (k.at_ : Int)) ∧ wy.cell? ⟨tb + 1, 1, none⟩ = some (.int .u64 (k.seq : Int)) ∧ wy.cell? ⟨gg, o + i * 3 + 1, none⟩ = some (.int .u64 (x.key.at_ : Int)) ∧ wy.cell? ⟨gg, o + i * 3 + 2, none⟩ = some (.int .u64 (x.key.seq : Int)))
          (first | exact HK2.out _ (Below.refl _ _).drew | exact HK2.out _ bb)
          (first | (go_at_call 53; refine (KL.out _).mono ?_; rintro e' w6 ⟨rfl, b6⟩; have bb := below_tr (Below.refl _ V).drew b6))
        have HB6 := Lib.hid (below_tr (below_tr HBw.out BV.out) bb)
        clear bb b6 t1 t2 t3 t4 t5 KL HK2
        go_wp2_with fail
        go_roundg (n - (i + 1))
        case measure => omega
        case rel => exact ⟨i + 1, a, by omega, rfl, by go_num, HAt2, HB6⟩

end Go.Proofs.Ytkiibobpejoaeaa
