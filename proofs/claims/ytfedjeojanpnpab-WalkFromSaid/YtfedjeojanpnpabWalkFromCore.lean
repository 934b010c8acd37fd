/-
  WalkFrom's walk.
-/
import Derived.Test.YtfedjeojanpnpabWalkFromSame
import Derived.Test.YtfedjeojanpnpabTake
namespace Go.Proofs.Ytfedjeojanpnpab
open Go.RowKit
set_option linter.unusedVariables false
set_option linter.unusedSimpArgs false

def frX (k : Ky) (l : List En) (n : Int) : List En := (fromL k l).take n.toNat
def frN (k : Ky) (l : List En) (n : Int) : Nat := (frX k l n).length
def upX' (t : Nat) (l : List En) (n : Int) : List En := (uptoL t l).take n.toNat
def upN' (t : Nat) (l : List En) (n : Int) : Nat := (upX' t l n).length
abbrev frB (H : Nat) (k : Ky) : List (Nat × TypeId × Array Value) := [(H, 27, #[.int .u64 (k.at_ : Int), .int .u64 (k.seq : Int)])]
section
variable {K : TreeK} {w W W' : World} {a : Addr} {l : List En} {rs : List (Value × List En)} {H : Nat} {k : Ky}
theorem fr_from {n : Int} (hk : k.Fits) (s : Hid (St K w W a l (frB H k) rs)) : Calls Try.prog 17 #[.pointer (some a), .agg #[.int .u64 (k.at_ : Int), .int .u64 (k.seq : Int)], .int .i64 n] W fun e W' => ∃ p c, e = .returned (.slice p (frN k l n) c) ∧ Hid (St K w W' a l (frB H k) ((.slice p (frN k l n) c, frX k l n) :: rs)) := s.out.from_ k hk n
theorem fr_upto {n : Int} (hk : k.Fits) (s : Hid (St K w W a l (frB H k) rs)) : Calls Try.prog 19 #[.pointer (some a), .int .u64 (k.at_ : Int), .int .i64 n] W fun e W' => ∃ p c, e = .returned (.slice p (upN' k.at_ l n) c) ∧ Hid (St K w W' a l (frB H k) ((.slice p (upN' k.at_ l n) c, upX' k.at_ l n) :: rs)) := s.out.upto k.at_ hk.1 n
theorem fr_cells (s : Hid (St K w W a l (frB H k) rs)) : W.cell? ⟨H, 0, none⟩ = some (.int .u64 (k.at_ : Int)) ∧ W.cell? ⟨H, 1, none⟩ = some (.int .u64 (k.seq : Int)) := by
  have b1 : Box W H 27 #[.int .u64 (k.at_ : Int), .int .u64 (k.seq : Int)] := s.out.box (b := (H, 27, #[.int .u64 (k.at_ : Int), .int .u64 (k.seq : Int)])) (by simp)
  exact ⟨b1.cell 0, b1.cell 1⟩
end

section
variable {K : TreeK} {w W W' : World} {a : Addr} {l : List En} {rs : List (Value × List En)} {bx : List (Nat × TypeId × Array Value)}
theorem fr_same {p q : Option Addr} {n m c d : Nat} (x y : List En) (s : Hid (St K w W a l bx rs)) (h1 : (.slice p n c, x) ∈ rs) (h2 : (.slice q m d, y) ∈ rs) (hm : y.length = m) (hle : n ≤ m) (he : y.take n = x) : Calls Try.prog 12 #[.slice p n c, .slice q n d] W fun e W' => e = .returned (.bool true) ∧ Hid (St K w W' a l bx rs) := by
  have s2 := s.out.sub h2 hm hle
  refine (s2.same (r1 := (.slice p n c, x)) (r2 := (.slice q n d, y.take n)) (List.mem_cons_of_mem _ h1) List.mem_cons_self).mono ?_
  rintro e W' ⟨rfl, s'⟩
  exact ⟨by simp [he], Lib.hid (s'.forget (fun b hb => hb) (fun r hr => List.mem_cons_of_mem _ hr))⟩
end
theorem fr_suf {K : TreeK} {w W : World} {a : Addr} {l : List En} {rs : List (Value × List En)} {bx : List (Nat × TypeId × Array Value)} {p q : Option Addr} {n c d o : Nat} {x : List En} (s : Hid (St K w W a l bx rs)) (h1 : (.slice p n c, x) ∈ rs) (hn : x.length = n) (h2 : ∀ (j : Nat) (h : j < x.length), ∃ gb, q = some ⟨gb, o, none⟩ ∧ gb < W.heap.size ∧ W.cell? ⟨gb, o + j * 3, none⟩ = some (.int .u64 (x[j].key.at_ : Int)) ∧ W.cell? ⟨gb, o + j * 3 + 1, none⟩ = some (.int .u64 (x[j].key.seq : Int)) ∧ W.cell? ⟨gb, o + j * 3 + 2, none⟩ = some (.int .i64 x[j].val)) :
    Calls Try.prog 12 #[.slice p n c, .slice q n d] W fun e W' => e = .returned (.bool true) ∧ Hid (St K w W' a l bx rs) := by
  have r := s.out.row h1
  have hl := s.out.rlen h1
  simp only [hn] at r hl
  refine (law_same_o p q c d w.heap.size n o x W (by omega) hn r h2).mono ?_
  rintro e W' ⟨rfl, m, rfl⟩
  exact ⟨rfl, Lib.hid (s.out.below (below_drewN (Below.refl _ _) m))⟩
theorem fr_facts (X : List En) (f m : Nat) : (X.take f).length = min f (X.take (f + m)).length ∧ (X.take (f + m)).take (X.take f).length = X.take f := by
  refine ⟨?_, take_take_len X f m⟩
  rw [List.length_take, List.length_take]
  omega

set_option maxHeartbeats 8000000 in
set_option maxRecDepth 100000 in
theorem walkFrom_core (K : TreeK) {A : Option Addr} {len cap : Nat} {ks : List Ky} (k : Ky) (hk : k.Fits) (few more : Nat) (hf : few < 256) (hm : more < 256) (w : World) (hks : KeysAt w A len cap ks)
    (HA : Hid (∀ w : World, Calls Try.prog 23 #[] w fun e w' => e = .returned (.bool true) ∧ Below w.heap.size w w')) :
    Calls Try.prog 7 #[.slice A len cap, kyV k, .int .u8 (few : Int), .int .u8 (more : Int)] w fun e w' => e = .returned (.bool true) ∧ Below w.heap.size w w' := by
  unfold kyV
  obtain ⟨W, HW⟩ : ∃ W, Hid (w.alloc (.cells #[.int .u64 (k.at_ : Int), .int .u64 (k.seq : Int)] 27) = W) := ⟨_, Lib.hid rfl⟩
  have b1 : Below w.heap.size w W := by rw [← HW.out]; exact (Below.refl _ w).alloc (Nat.le_refl _) _
  have bK : Box W w.heap.size 27 #[.int .u64 (k.at_ : Int), .int .u64 (k.seq : Int)] := by rw [← HW.out]; exact Box.new _ _ _
  have R0 := Lib.hid (law_of K (hks.later b1))
  have HB := Lib.hid (And.intro b1 bK)
  clear b1 bK hks
  go_enter Try.func7, Try.ntmps7
  go_upto_region 1 with fail
  rw [HW.out]
  go_upto_region 2 with (go_at_call 14; refine R0.out.mono ?_; rintro e W1 hO; obtain ⟨b1, bK⟩ := HB.out; obtain ⟨a, p, c, rfl, s1⟩ := st_of' (bx := [(w.heap.size, 27, #[.int .u64 (k.at_ : Int), .int .u64 (k.seq : Int)])]) b1 (fun b hb => by rw [List.mem_singleton.1 hb]; exact ⟨Nat.le_refl _, bK⟩) hO; clear hO R0 HB b1 bK)
  obtain ⟨L, HL⟩ : ∃ L, Hid (ofL ks = L) := ⟨_, Lib.hid rfl⟩
  rw [HL.out] at s1 ⊢
  obtain ⟨H, HH⟩ : ∃ H, Hid (w.heap.size = H) := ⟨_, Lib.hid rfl⟩
  rw [HH.out] at s1 ⊢
  have s2 : St K w (W1.alloc (.cells #[.slice p L.length c, .int .i64 60] 41)) a L (frB H k) [] := (s1.below ((Below.refl _ _).alloc (Nat.le_refl _) _)).forget (fun b hb => hb) (fun r hr => (by cases hr))
  have RA := Lib.hid s2.all
  obtain ⟨nw, HNW⟩ : ∃ nw, Hid (L.length = nw) := ⟨_, Lib.hid rfl⟩
  rw [HNW.out] at RA ⊢
  have hnw : nw ≤ 60 := by rw [← HNW.out]; exact s2.len
  have HRi := Lib.hid s2.rises
  clear s1 s2 HW HL
  go_upto_region 3 with (go_at_call 11; refine RA.out.mono ?_; rintro e W2 ⟨pw, cw, rfl, s3⟩)
  have S3 : Hid (St K w W2.drew a L (frB H k) [(.slice pw nw cw, L)]) := Lib.hid (s3.below (Below.refl _ _).drew)
  have hw1 : IntKind.i64.wrap (few : Int) = (few : Int) := by rw [IntKind.wrap_i64]; omega
  have hw2 : IntKind.i64.wrap (more : Int) = (more : Int) := by rw [IntKind.wrap_i64]; omega
  have hwr : IntKind.i64.wrap ((few : Int) + (more : Int)) = (few : Int) + (more : Int) := by rw [IntKind.wrap_i64]; omega
  clear s3 RA
  go_region_held3 (fun wy => wy.cell? ⟨H, 0, none⟩ = some (.int .u64 (k.at_ : Int)) ∧ wy.cell? ⟨H, 1, none⟩ = some (.int .u64 (k.seq : Int)))
    (first | exact fr_cells (by assumption))
    (first
      | (go_at_call 17; refine (fr_from hk (by assumption)).mono ?_; rintro e V ⟨p3, c3, rfl, h3⟩))
  rename_i V0 pa ca h0 hheld
  clear h0 hheld S3
  have hF := fr_facts (fromL k L) few more
  have e1 : frX k L (few : Int) = (fromL k L).take few := rfl
  have e2 : frX k L ((few : Int) + (more : Int)) = (fromL k L).take (few + more) := by unfold frX; rw [show ((few : Int) + (more : Int)).toNat = few + more by omega]
  rw [← e1, ← e2] at hF
  clear e1 e2
  obtain ⟨na, HNA⟩ : ∃ na, Hid (frN k L (few : Int) = na) := ⟨_, Lib.hid rfl⟩
  obtain ⟨nb, HNB⟩ : ∃ nb, Hid (frN k L ((few : Int) + (more : Int)) = nb) := ⟨_, Lib.hid rfl⟩
  have hA1 : (frX k L (few : Int)).length = na := HNA.out
  have hB1 : (frX k L ((few : Int) + (more : Int))).length = nb := HNB.out
  rw [HNA.out, HNB.out] at h3
  rw [HNA.out, HNB.out]
  clear HNA HNB
  generalize frX k L (few : Int) = xa at *
  generalize frX k L ((few : Int) + (more : Int)) = xb at *
  rw [hA1, hB1] at hF
  have HAB := Lib.hid (And.intro hF (And.intro hA1 hB1))
  clear hF hA1 hB1
  go_upto_region 4 with fail
  have S4 : Hid (St K w V.drew a L (frB H k) [(.slice p3 nb c3, xb), (.slice pa na ca, xa), (.slice pw nw cw, L)]) := Lib.hid (h3.out.below (Below.refl _ _).drew)
  clear h3
  go_region_held3 (fun wy => wy.cell? ⟨H, 0, none⟩ = some (.int .u64 (k.at_ : Int)) ∧ wy.cell? ⟨H, 1, none⟩ = some (.int .u64 (k.seq : Int)))
    (first | exact fr_cells (by assumption))
    (first
      | (go_at_call 19; refine (fr_upto hk (by assumption)).mono ?_; rintro e U ⟨p4, c4, rfl, h4⟩))
  rename_i U0 pc cc h0 hheld
  clear h0 hheld S4
  have hF := fr_facts (uptoL k.at_ L) few more
  have e1 : upX' k.at_ L (few : Int) = (uptoL k.at_ L).take few := rfl
  have e2 : upX' k.at_ L ((few : Int) + (more : Int)) = (uptoL k.at_ L).take (few + more) := by unfold upX'; rw [show ((few : Int) + (more : Int)).toNat = few + more by omega]
  rw [← e1, ← e2] at hF
  clear e1 e2
  obtain ⟨nc, HNC⟩ : ∃ nc, Hid (upN' k.at_ L (few : Int) = nc) := ⟨_, Lib.hid rfl⟩
  obtain ⟨nd, HND⟩ : ∃ nd, Hid (upN' k.at_ L ((few : Int) + (more : Int)) = nd) := ⟨_, Lib.hid rfl⟩
  have hC1 : (upX' k.at_ L (few : Int)).length = nc := HNC.out
  have hD1 : (upX' k.at_ L ((few : Int) + (more : Int))).length = nd := HND.out
  rw [HNC.out, HND.out] at h4
  rw [HNC.out, HND.out]
  clear HNC HND
  generalize upX' k.at_ L (few : Int) = xc at *
  generalize upX' k.at_ L ((few : Int) + (more : Int)) = xd at *
  rw [hC1, hD1] at hF
  have HCD := Lib.hid (And.intro hF (And.intro hC1 hD1))
  clear hF hC1 hD1
  obtain ⟨hb1, hb2⟩ := h4.out.caps (p := p3) (n := nb) (c := c3) (x := xb) (by simp) HAB.out.2.2
  obtain ⟨hd1, hd2⟩ := h4.out.caps (p := p4) (n := nd) (c := c4) (x := xd) (by simp) HCD.out.2.2
  have hna := HAB.out.1.1
  have hnc := HCD.out.1.1
  go_upto_region 5 with fail
  go_cut [87] (fun v87 wx => v87 = .bool false ∧ Hid (St K w wx a L (frB H k) [(.slice pw nw cw, L)]))
  case first =>
    have HS1 : Hid (∀ W, Hid (St K w W a L (frB H k) [(.slice p4 nd c4, xd), (.slice pc nc cc, xc), (.slice p3 nb c3, xb), (.slice pa na ca, xa), (.slice pw nw cw, L)]) → Calls Try.prog 12 #[.slice pa na ca, .slice p3 na c3] W fun e W' => e = .returned (.bool true) ∧ Hid (St K w W' a L (frB H k) [(.slice p4 nd c4, xd), (.slice pc nc cc, xc), (.slice p3 nb c3, xb), (.slice pa na ca, xa), (.slice pw nw cw, L)])) := Lib.hid fun W s => fr_same xa xb s (by simp) (by simp) HAB.out.2.2 (by omega) HAB.out.1.2
    have HS2 : Hid (∀ W, Hid (St K w W a L (frB H k) [(.slice p4 nd c4, xd), (.slice pc nc cc, xc), (.slice p3 nb c3, xb), (.slice pa na ca, xa), (.slice pw nw cw, L)]) → Calls Try.prog 12 #[.slice pc nc cc, .slice p4 nc c4] W fun e W' => e = .returned (.bool true) ∧ Hid (St K w W' a L (frB H k) [(.slice p4 nd c4, xd), (.slice pc nc cc, xc), (.slice p3 nb c3, xb), (.slice pa na ca, xa), (.slice pw nw cw, L)])) := Lib.hid fun W s => fr_same xc xd s (by simp) (by simp) HCD.out.2.2 (by omega) HCD.out.1.2
    clear HAB HCD
    have hca : na ≤ nb := by omega
    have hcc : nc ≤ nd := by omega
    by_cases h1 : nb < few
    · have h1z : (nb : Int) < (few : Int) := by omega
      have hna' : na = nb := by omega
      subst hna'
      by_cases h2 : nd < few
      · have h2z : (nd : Int) < (few : Int) := by omega
        have hnc' : nc = nd := by omega
        subst hnc'
        clear hna hnc
        go_wp2_with fail
        refine (HS1.out _ h4).mono ?_
        rintro e X1 ⟨rfl, t1⟩
        go_wp2_with fail
        refine (HS2.out _ t1).mono ?_
        rintro e X2 ⟨rfl, t2⟩
        go_wp2_with fail
        go_meet
        exact ⟨rfl, Lib.hid (t2.out.forget (fun b hb => hb) (by simp))⟩
      · have h2z : ¬ (nd : Int) < (few : Int) := by omega
        have hnc' : few = nc := by omega
        subst hnc'
        clear hna hnc
        go_wp2_with fail
        refine (HS1.out _ h4).mono ?_
        rintro e X1 ⟨rfl, t1⟩
        go_wp2_with fail
        refine (HS2.out _ t1).mono ?_
        rintro e X2 ⟨rfl, t2⟩
        go_wp2_with fail
        go_meet
        exact ⟨rfl, Lib.hid (t2.out.forget (fun b hb => hb) (by simp))⟩
    · have h1z : ¬ (nb : Int) < (few : Int) := by omega
      have hna' : few = na := by omega
      subst hna'
      by_cases h2 : nd < few
      · have h2z : (nd : Int) < (few : Int) := by omega
        have hnc' : nc = nd := by omega
        subst hnc'
        clear hna hnc
        go_wp2_with fail
        refine (HS1.out _ h4).mono ?_
        rintro e X1 ⟨rfl, t1⟩
        go_wp2_with fail
        refine (HS2.out _ t1).mono ?_
        rintro e X2 ⟨rfl, t2⟩
        go_wp2_with fail
        go_meet
        exact ⟨rfl, Lib.hid (t2.out.forget (fun b hb => hb) (by simp))⟩
      · have h2z : ¬ (nd : Int) < (few : Int) := by omega
        have hnc' : few = nc := by omega
        subst hnc'
        clear hna hnc
        go_wp2_with fail
        refine (HS1.out _ h4).mono ?_
        rintro e X1 ⟨rfl, t1⟩
        go_wp2_with fail
        refine (HS2.out _ t1).mono ?_
        rintro e X2 ⟨rfl, t2⟩
        go_wp2_with fail
        go_meet
        exact ⟨rfl, Lib.hid (t2.out.forget (fun b hb => hb) (by simp))⟩
  case rest =>
    obtain ⟨rfl, S5⟩ := hcut
    clear h4 HAB HCD hna hnc hb1 hb2 hd1 hd2
    have RF := fr_from (n := 60) hk S5
    have hX : frX k L (60 : Int) = fromL k L := List.take_of_length_le (Nat.le_trans (List.length_filter_le _ _) (by rw [HNW.out]; exact hnw))
    obtain ⟨P, hP, hPk⟩ := from_split (k := k) HRi.out
    unfold frN at RF
    rw [hX] at RF
    obtain ⟨E, HE⟩ : ∃ E, Hid (fromL k L = E) := ⟨_, Lib.hid rfl⟩
    have hEk : ∀ e, e ∈ E → ¬ e.key.lt k := fun e he => from_not (l := L) (by rw [HE.out]; exact he)
    rw [HE.out] at RF hP
    obtain ⟨ne, HNE⟩ : ∃ ne, Hid (E.length = ne) := ⟨_, Lib.hid rfl⟩
    obtain ⟨i0, HI0⟩ : ∃ i0, Hid (P.length = i0) := ⟨_, Lib.hid rfl⟩
    rw [HNE.out] at RF
    have HSum : Hid (nw = i0 + ne) := Lib.hid (by rw [← HNW.out, hP, List.length_append, HI0.out, HNE.out])
    replace RF := Lib.hid RF
    have HP := Lib.hid (And.intro hP (And.intro hPk hEk))
    obtain ⟨c0, c1⟩ := fr_cells S5
    clear hX hP hPk hEk
    go_upto_region 8 with (go_at_call 17; refine RF.out.mono ?_; rintro e X3 ⟨pe, ce, rfl, t3⟩)
    clear c0 c1 RF S5
    replace t3 := Lib.hid t3.out
    have hmz : ¬ (nw : Int) < (ne : Int) := by have := HSum.out; omega
    have hsz : IntKind.i64.wrap ((nw : Int) - (ne : Int)) = (i0 : Int) := by have := HSum.out; rw [IntKind.wrap_i64]; omega
    obtain ⟨hcw1, hcw2⟩ := t3.out.caps (p := pw) (n := nw) (c := cw) (x := L) (by simp) HNW.out
    have S8 : Hid (St K w X3.drew a L (frB H k) [(.slice pe ne ce, E), (.slice pw nw cw, L)]) := Lib.hid (t3.out.below (Below.refl _ _).drew)
    clear t3
    clear hmz hsz
    have HNm : Hid ((¬ (nw : Int) < (ne : Int)) ∧ IntKind.i64.wrap ((nw : Int) - (ne : Int)) = (i0 : Int) ∧ (0 : Int) ≤ (i0 : Int) ∧ (i0 : Int) ≤ (nw : Int) ∧ nw - i0 = ne) := Lib.hid (by
      have := HSum.out
      refine ⟨by omega, by rw [IntKind.wrap_i64]; omega, by omega, by omega, by omega⟩)
    have hcw3 : 0 < ne → i0 < cw := by have := HSum.out; omega
    have HCw3 := Lib.hid hcw3
    clear hcw3
    have HSm : Hid (∀ W q d, Hid (St K w W a L (frB H k) [(.slice pe ne ce, E), (.slice pw (nw) cw, L)]) → (0 < ne → q = Option.map (fun x => x.add (i0 * 3)) pw) → Calls Try.prog 12 #[.slice pe ne ce, .slice q ne d] W fun e W' => e = .returned (.bool true) ∧ Hid (St K w W' a L (frB H k) [(.slice pe ne ce, E), (.slice pw (nw) cw, L)])) := Lib.hid fun W q d s hq => by
      refine fr_suf (o := i0 * 3) s (by simp) HNE.out (fun j hj => ?_)
      have hj' : j < ne := by rw [← HNE.out]; exact hj
      obtain ⟨hP, _, _⟩ := HP.out
      have hrow := s.out.row (r := (.slice pw (nw) cw, L)) (by simp)
      obtain ⟨gb, e, hg, c1, c2, c3⟩ := en_cells hrow (i := i0 + j) (by rw [HNW.out]; have := HSum.out; omega)
      have hL : L[i0 + j]? = some E[j] := by
        rw [hP, List.getElem?_append_right (by rw [HI0.out]; omega), HI0.out, show i0 + j - i0 = j by omega, List.getElem?_eq_getElem hj]
      have hL' : L[i0 + j]'(by rw [HNW.out]; have := HSum.out; omega) = E[j] := by
        have := List.getElem?_eq_getElem (l := L) (i := i0 + j) (by rw [HNW.out]; have := HSum.out; omega)
        rw [hL] at this
        exact (Option.some.inj this).symm
      rw [hL'] at c1 c2 c3
      refine ⟨gb, ?_, hg, ?_, ?_, ?_⟩
      · rw [hq (by omega), e]
        simp [Addr.add]
        try (intro h; omega)
      · rw [show i0 * 3 + j * 3 = (i0 + j) * 3 by omega]; exact c1
      · rw [show i0 * 3 + j * 3 = (i0 + j) * 3 by omega]; exact c2
      · rw [show i0 * 3 + j * 3 = (i0 + j) * 3 by omega]; exact c3
    go_cut [138] (fun v138 wx => v138 = .bool false ∧ Hid (St K w wx a L (frB H k) [(.slice pw (nw) cw, L)]))
    case first =>
      have HSq : Hid (∀ W d, Hid (St K w W a L (frB H k) [(.slice pe ne ce, E), (.slice pw (nw) cw, L)]) → Calls Try.prog 12 #[.slice pe ne ce, .slice (if cw = i0 then pw else Option.map (fun x => x.add (i0 * 3)) pw) ne d] W fun e W' => e = .returned (.bool true) ∧ Hid (St K w W' a L (frB H k) [(.slice pe ne ce, E), (.slice pw (nw) cw, L)])) := Lib.hid fun W d s => HSm.out W _ d s (fun h => by rw [if_neg (by have := HCw3.out h; omega)])
      obtain ⟨q, HQ⟩ : ∃ q, Hid ((if cw = i0 then pw else Option.map (fun x => x.add (i0 * 3)) pw) = q) := ⟨_, Lib.hid rfl⟩
      rw [HQ.out] at HSq
      clear HSm
      by_cases hA : 0 < i0
      · by_cases hF : 0 < ne
        · skip
          obtain ⟨i1, Hi1⟩ : ∃ i1, Hid (i0 = i1 + 1) := ⟨i0 - 1, Lib.hid (by omega)⟩
          have HA1 : Hid ((ne : Int) < (nw : Int) ∧ IntKind.i64.wrap ((i0 : Int) - 1) = (i1 : Int) ∧ (i1 : Int) < (nw : Int) ∧ (0 : Int) ≤ (i1 : Int)) := Lib.hid (by
            have := HSum.out; have := Hi1.out
            exact ⟨by omega, by rw [IntKind.wrap_i64]; omega, by omega, by omega⟩)
          have hi1l : i1 < L.length := by rw [HNW.out]; have := HSum.out; have := Hi1.out; omega
          obtain ⟨gw, Hgw⟩ : ∃ gw, Hid (pw = some ⟨gw, 0, none⟩) := by
            obtain ⟨gb, e, _⟩ := en_cells (S8.out.row (r := (.slice pw (nw) cw, L)) (by simp)) hi1l
            exact ⟨gb, Lib.hid e⟩
          have hlt : decide ((L[i1]).key.lt k) = true := by
            obtain ⟨hP, hPk, _⟩ := HP.out
            have hm : L[i1] ∈ P := by
              have h1 : L[i1]? = P[i1]? := by rw [hP, List.getElem?_append_left (by rw [HI0.out]; have := Hi1.out; omega)]
              rw [List.getElem?_eq_getElem hi1l] at h1
              exact List.mem_of_getElem? h1.symm
            simpa using hPk _ hm
          have HCw : Hid (∀ W, Hid (St K w W a L (frB H k) [(.slice pe ne ce, E), (.slice pw (nw) cw, L)]) → W.cell? ⟨gw, i1 * 3, none⟩ = some (.int .u64 ((L[i1]).key.at_ : Int)) ∧ W.cell? ⟨gw, i1 * 3 + 1, none⟩ = some (.int .u64 ((L[i1]).key.seq : Int))) := Lib.hid fun W s => by
            obtain ⟨gb, e, _, c1, c2, _⟩ := en_cells (s.out.row (r := (.slice pw (nw) cw, L)) (by simp)) hi1l
            rw [Hgw.out] at e
            cases e
            exact ⟨c1, c2⟩
          have KL1 := Lib.hid (fun W => law_less (L[i1]).key k W)
          rw [hlt] at KL1
          unfold kyV at KL1
          generalize (L[i1]).key.at_ = la at *
          generalize (L[i1]).key.seq = ls at *
          clear hlt hi1l
          have HF1 : Hid ((0 : Int) < (ne : Int)) := Lib.hid (by omega)
          have h0E : 0 < E.length := by rw [HNE.out]; omega
          obtain ⟨ge, Hge⟩ : ∃ ge, Hid (pe = some ⟨ge, 0, none⟩) := by
            have hrow := S8.out.row (r := (.slice pe ne ce, E)) (by simp)
            obtain ⟨gb, e, _⟩ := en_cells hrow h0E
            exact ⟨gb, Lib.hid e⟩
          have hlt2 : decide ((E[0]).key.lt k) = false := by
            obtain ⟨_, _, hEk⟩ := HP.out
            simpa using hEk _ (List.getElem_mem h0E)
          have HCe : Hid (∀ W, Hid (St K w W a L (frB H k) [(.slice pe ne ce, E), (.slice pw (nw) cw, L)]) → W.cell? ⟨ge, 0, none⟩ = some (.int .u64 ((E[0]).key.at_ : Int)) ∧ W.cell? ⟨ge, 1, none⟩ = some (.int .u64 ((E[0]).key.seq : Int))) := Lib.hid fun W s => by
            obtain ⟨gb, e, _, c1, c2, _⟩ := en_cells (s.out.row (r := (.slice pe ne ce, E)) (by simp)) h0E
            rw [Hge.out] at e
            cases e
            exact ⟨by simpa using c1, by simpa using c2⟩
          have KL2 := Lib.hid (fun W => law_less (E[0]).key k W)
          rw [hlt2] at KL2
          unfold kyV at KL2
          generalize (E[0]).key.at_ = ea at *
          generalize (E[0]).key.seq = es at *
          clear hlt2 h0E
          have HK : Hid (∀ W, Hid (St K w W a L (frB H k) [(.slice pe ne ce, E), (.slice pw (nw) cw, L)]) → W.cell? ⟨H, 0, none⟩ = some (.int .u64 (k.at_ : Int)) ∧ W.cell? ⟨H, 1, none⟩ = some (.int .u64 (k.seq : Int)) ∧ W.cell? ⟨gw, i1 * 3, none⟩ = some (.int .u64 (la : Int)) ∧ W.cell? ⟨gw, i1 * 3 + 1, none⟩ = some (.int .u64 (ls : Int)) ∧ W.cell? ⟨ge, 0, none⟩ = some (.int .u64 (ea : Int)) ∧ W.cell? ⟨ge, 1, none⟩ = some (.int .u64 (es : Int))) := Lib.hid fun W s => ⟨(fr_cells s).1, (fr_cells s).2, (HCw.out _ s).1, (HCw.out _ s).2, (HCe.out _ s).1, (HCe.out _ s).2⟩
          clear HP HNE HI0 hA hF HSum HCw3
          clear Hi1
          refine wp_region_noPanic ?_
          refine wp_region_held_drew (S := fun wy => wy.cell? ⟨H, 0, none⟩ = some (.int .u64 (k.at_ : Int)) ∧ wy.cell? ⟨H, 1, none⟩ = some (.int .u64 (k.seq : Int)) ∧ wy.cell? ⟨gw, i1 * 3, none⟩ = some (.int .u64 (la : Int)) ∧ wy.cell? ⟨gw, i1 * 3 + 1, none⟩ = some (.int .u64 (ls : Int)) ∧ wy.cell? ⟨ge, 0, none⟩ = some (.int .u64 (ea : Int)) ∧ wy.cell? ⟨ge, 1, none⟩ = some (.int .u64 (es : Int))) (by kernel_rfl) ?_ (fun hHeld => ?_)
          · exact HK.out _ S8
          refine tk (i := 0) (oi := _) (v := (.slice pe ne ce)) rfl (by kernel_rfl) (by kernel_rfl) (by kernel_rfl) (fun _ _ _ h => h) (Or.inl ⟨by rfl, ?_⟩) (by assumption) ?_
          · intro w hSw
            (try dsimp only at hSw)
            go_simp
            first | done | exact ⟨rfl, rfl⟩ | omega | (intro h; omega)
          try simp only [Act.put, List.setIfInBounds_toArray, List.set_cons_zero, List.set_cons_succ]
          refine tk (i := 1) (oi := _) (v := (.slice pw nw cw)) rfl (by kernel_rfl) (by kernel_rfl) (by kernel_rfl) (fun _ _ _ h => h) (Or.inl ⟨by rfl, ?_⟩) (by assumption) ?_
          · intro w hSw
            (try dsimp only at hSw)
            go_simp
            first | done | exact ⟨rfl, rfl⟩ | omega | (intro h; omega)
          try simp only [Act.put, List.setIfInBounds_toArray, List.set_cons_zero, List.set_cons_succ]
          refine tk (i := 2) (oi := _) (v := (.slice pw nw cw)) rfl (by kernel_rfl) (by kernel_rfl) (by kernel_rfl) (fun _ _ _ h => h) (Or.inl ⟨by rfl, ?_⟩) (by assumption) ?_
          · intro w hSw
            (try dsimp only at hSw)
            go_simp
            first | done | exact ⟨rfl, rfl⟩ | omega | (intro h; omega)
          try simp only [Act.put, List.setIfInBounds_toArray, List.set_cons_zero, List.set_cons_succ]
          refine tk (i := 3) (oi := _) (v := (.int .i64 (nw : Int))) rfl (by kernel_rfl) (by kernel_rfl) (by kernel_rfl) (fun _ _ _ h => h) (Or.inl ⟨by rfl, ?_⟩) (by assumption) ?_
          · intro w hSw
            (try dsimp only at hSw)
            go_simp
            first | done | exact ⟨rfl, rfl⟩ | omega | (intro h; omega)
          try simp only [Act.put, List.setIfInBounds_toArray, List.set_cons_zero, List.set_cons_succ]
          refine tk (i := 4) (oi := _) (v := (.slice pe ne ce)) rfl (by kernel_rfl) (by kernel_rfl) (by kernel_rfl) (fun _ _ _ h => h) (Or.inl ⟨by rfl, ?_⟩) (by assumption) ?_
          · intro w hSw
            (try dsimp only at hSw)
            go_simp
            first | done | exact ⟨rfl, rfl⟩ | omega | (intro h; omega)
          try simp only [Act.put, List.setIfInBounds_toArray, List.set_cons_zero, List.set_cons_succ]
          refine tk (i := 5) (oi := _) (v := (.int .i64 (ne : Int))) rfl (by kernel_rfl) (by kernel_rfl) (by kernel_rfl) (fun _ _ _ h => h) (Or.inl ⟨by rfl, ?_⟩) (by assumption) ?_
          · intro w hSw
            (try dsimp only at hSw)
            go_simp
            first | done | exact ⟨rfl, rfl⟩ | omega | (intro h; omega)
          try simp only [Act.put, List.setIfInBounds_toArray, List.set_cons_zero, List.set_cons_succ]
          refine tk (i := 6) (oi := _) (v := (.slice pw nw cw)) rfl (by kernel_rfl) (by kernel_rfl) (by kernel_rfl) (fun _ _ _ h => h) (Or.inl ⟨by rfl, ?_⟩) (by assumption) ?_
          · intro w hSw
            (try dsimp only at hSw)
            go_simp
            first | done | exact ⟨rfl, rfl⟩ | omega | (intro h; omega)
          try simp only [Act.put, List.setIfInBounds_toArray, List.set_cons_zero, List.set_cons_succ]
          refine tk (i := 7) (oi := _) (v := (.int .i64 (nw : Int))) rfl (by kernel_rfl) (by kernel_rfl) (by kernel_rfl) (fun _ _ _ h => h) (Or.inl ⟨by rfl, ?_⟩) (by assumption) ?_
          · intro w hSw
            (try dsimp only at hSw)
            go_simp
            first | done | exact ⟨rfl, rfl⟩ | omega | (intro h; omega)
          try simp only [Act.put, List.setIfInBounds_toArray, List.set_cons_zero, List.set_cons_succ]
          refine tk (i := 8) (oi := _) (v := (.int .i64 (ne : Int))) rfl (by kernel_rfl) (by kernel_rfl) (by kernel_rfl) (fun _ _ _ h => h) (Or.inl ⟨by rfl, ?_⟩) (by assumption) ?_
          · intro w hSw
            (try dsimp only at hSw)
            have h1 := HNm.out.1
            go_simp
            first | done | exact ⟨rfl, rfl⟩ | omega | (intro h; omega)
          try simp only [Act.put, List.setIfInBounds_toArray, List.set_cons_zero, List.set_cons_succ]
          refine tk (i := 9) (oi := _) (v := (.int .i64 (i0 : Int))) rfl (by kernel_rfl) (by kernel_rfl) (by kernel_rfl) (fun _ _ _ h => h) (Or.inl ⟨by rfl, ?_⟩) (by assumption) ?_
          · intro w hSw
            (try dsimp only at hSw)
            have h1 := HNm.out.2.1
            go_simp
            try rw [h1]
            first | done | exact ⟨rfl, rfl⟩ | omega | (intro h; omega)
          try simp only [Act.put, List.setIfInBounds_toArray, List.set_cons_zero, List.set_cons_succ]
          refine tk (i := 10) (oi := _) (v := (.slice q ne (cw - i0))) rfl (by kernel_rfl) (by kernel_rfl) (by kernel_rfl) (fun _ _ _ h => h) (Or.inl ⟨by rfl, ?_⟩) (by assumption) ?_
          · intro w hSw
            (try dsimp only at hSw)
            have h1 := HNm.out.2.2.1
            have h2 := HNm.out.2.2.2.1
            go_simp
            try rw [← HQ.out, HNm.out.2.2.2.2]
            first | done | exact ⟨rfl, rfl⟩ | omega | (intro h; omega)
          try simp only [Act.put, List.setIfInBounds_toArray, List.set_cons_zero, List.set_cons_succ]
          refine wpAnyH_ready (rs := [11]) (by kernel_rfl) (by simp) ?_
          refine tcons (o := _) rfl (fun K hK => ?_) AllReadyH.nil
          go_simp
          refine Calls.mono (HSq.out _ _ S8) ?_
          rintro e X4 ⟨rfl, s4⟩
          refine hK.out _ _ ?_ (fun hHeld => ?_)
          · exact HK.out _ s4
          clear hK K
          try simp only [Act.put, List.setIfInBounds_toArray, List.set_cons_zero, List.set_cons_succ]
          refine tk (i := 12) (oi := _) (v := (.bool false)) rfl (by kernel_rfl) (by kernel_rfl) (by kernel_rfl) (fun _ _ _ h => h) (Or.inl ⟨by rfl, ?_⟩) (by assumption) ?_
          · intro w hSw
            (try dsimp only at hSw)
            go_simp
            first | done | exact ⟨rfl, rfl⟩ | omega | (intro h; omega)
          try simp only [Act.put, List.setIfInBounds_toArray, List.set_cons_zero, List.set_cons_succ]
          refine tk (i := 13) (oi := _) (v := (.bool false)) rfl (by kernel_rfl) (by kernel_rfl) (by kernel_rfl) (fun _ _ _ h => h) (Or.inl ⟨by rfl, ?_⟩) (by assumption) ?_
          · intro w hSw
            (try dsimp only at hSw)
            go_simp
            first | done | exact ⟨rfl, rfl⟩ | omega | (intro h; omega)
          try simp only [Act.put, List.setIfInBounds_toArray, List.set_cons_zero, List.set_cons_succ]
          refine tk (i := 14) (oi := _) (v := (.slice pe ne ce)) rfl (by kernel_rfl) (by kernel_rfl) (by kernel_rfl) (fun _ _ _ h => h) (Or.inl ⟨by rfl, ?_⟩) (by assumption) ?_
          · intro w hSw
            (try dsimp only at hSw)
            go_simp
            first | done | exact ⟨rfl, rfl⟩ | omega | (intro h; omega)
          try simp only [Act.put, List.setIfInBounds_toArray, List.set_cons_zero, List.set_cons_succ]
          refine tk (i := 15) (oi := _) (v := (.int .i64 (ne : Int))) rfl (by kernel_rfl) (by kernel_rfl) (by kernel_rfl) (fun _ _ _ h => h) (Or.inl ⟨by rfl, ?_⟩) (by assumption) ?_
          · intro w hSw
            (try dsimp only at hSw)
            go_simp
            first | done | exact ⟨rfl, rfl⟩ | omega | (intro h; omega)
          try simp only [Act.put, List.setIfInBounds_toArray, List.set_cons_zero, List.set_cons_succ]
          refine tk (i := 16) (oi := _) (v := (.slice pw nw cw)) rfl (by kernel_rfl) (by kernel_rfl) (by kernel_rfl) (fun _ _ _ h => h) (Or.inl ⟨by rfl, ?_⟩) (by assumption) ?_
          · intro w hSw
            (try dsimp only at hSw)
            go_simp
            first | done | exact ⟨rfl, rfl⟩ | omega | (intro h; omega)
          try simp only [Act.put, List.setIfInBounds_toArray, List.set_cons_zero, List.set_cons_succ]
          refine tk (i := 17) (oi := _) (v := (.int .i64 (nw : Int))) rfl (by kernel_rfl) (by kernel_rfl) (by kernel_rfl) (fun _ _ _ h => h) (Or.inl ⟨by rfl, ?_⟩) (by assumption) ?_
          · intro w hSw
            (try dsimp only at hSw)
            go_simp
            first | done | exact ⟨rfl, rfl⟩ | omega | (intro h; omega)
          try simp only [Act.put, List.setIfInBounds_toArray, List.set_cons_zero, List.set_cons_succ]
          refine tk (i := 18) (oi := _) (v := (.bool true)) rfl (by kernel_rfl) (by kernel_rfl) (by kernel_rfl) (fun _ _ _ h => h) (Or.inl ⟨by rfl, ?_⟩) (by assumption) ?_
          · intro w hSw
            (try dsimp only at hSw)
            have h1 := HA1.out.1
            go_simp
            first | done | exact ⟨rfl, rfl⟩ | omega | (intro h; omega)
          try simp only [Act.put, List.setIfInBounds_toArray, List.set_cons_zero, List.set_cons_succ]
          refine tk (i := 19) (oi := _) (v := (.bool true)) rfl (by kernel_rfl) (by kernel_rfl) (by kernel_rfl) (fun _ _ _ h => h) (Or.inl ⟨by rfl, ?_⟩) (by assumption) ?_
          · intro w hSw
            (try dsimp only at hSw)
            go_simp
            first | done | exact ⟨rfl, rfl⟩ | omega | (intro h; omega)
          try simp only [Act.put, List.setIfInBounds_toArray, List.set_cons_zero, List.set_cons_succ]
          refine tk (i := 20) (oi := _) (v := (.slice pw nw cw)) rfl (by kernel_rfl) (by kernel_rfl) (by kernel_rfl) (fun _ _ _ h => h) (Or.inl ⟨by rfl, ?_⟩) (by assumption) ?_
          · intro w hSw
            (try dsimp only at hSw)
            go_simp
            first | done | exact ⟨rfl, rfl⟩ | omega | (intro h; omega)
          try simp only [Act.put, List.setIfInBounds_toArray, List.set_cons_zero, List.set_cons_succ]
          refine tk (i := 21) (oi := _) (v := (.slice pw nw cw)) rfl (by kernel_rfl) (by kernel_rfl) (by kernel_rfl) (fun _ _ _ h => h) (Or.inl ⟨by rfl, ?_⟩) (by assumption) ?_
          · intro w hSw
            (try dsimp only at hSw)
            go_simp
            first | done | exact ⟨rfl, rfl⟩ | omega | (intro h; omega)
          try simp only [Act.put, List.setIfInBounds_toArray, List.set_cons_zero, List.set_cons_succ]
          refine tk (i := 22) (oi := _) (v := (.int .i64 (nw : Int))) rfl (by kernel_rfl) (by kernel_rfl) (by kernel_rfl) (fun _ _ _ h => h) (Or.inl ⟨by rfl, ?_⟩) (by assumption) ?_
          · intro w hSw
            (try dsimp only at hSw)
            go_simp
            first | done | exact ⟨rfl, rfl⟩ | omega | (intro h; omega)
          try simp only [Act.put, List.setIfInBounds_toArray, List.set_cons_zero, List.set_cons_succ]
          refine tk (i := 23) (oi := _) (v := (.slice pe ne ce)) rfl (by kernel_rfl) (by kernel_rfl) (by kernel_rfl) (fun _ _ _ h => h) (Or.inl ⟨by rfl, ?_⟩) (by assumption) ?_
          · intro w hSw
            (try dsimp only at hSw)
            go_simp
            first | done | exact ⟨rfl, rfl⟩ | omega | (intro h; omega)
          try simp only [Act.put, List.setIfInBounds_toArray, List.set_cons_zero, List.set_cons_succ]
          refine tk (i := 24) (oi := _) (v := (.int .i64 (ne : Int))) rfl (by kernel_rfl) (by kernel_rfl) (by kernel_rfl) (fun _ _ _ h => h) (Or.inl ⟨by rfl, ?_⟩) (by assumption) ?_
          · intro w hSw
            (try dsimp only at hSw)
            go_simp
            first | done | exact ⟨rfl, rfl⟩ | omega | (intro h; omega)
          try simp only [Act.put, List.setIfInBounds_toArray, List.set_cons_zero, List.set_cons_succ]
          refine tk (i := 25) (oi := _) (v := (.int .i64 (i0 : Int))) rfl (by kernel_rfl) (by kernel_rfl) (by kernel_rfl) (fun _ _ _ h => h) (Or.inl ⟨by rfl, ?_⟩) (by assumption) ?_
          · intro w hSw
            (try dsimp only at hSw)
            have h1 := HNm.out.2.1
            go_simp
            try rw [h1]
            first | done | exact ⟨rfl, rfl⟩ | omega | (intro h; omega)
          try simp only [Act.put, List.setIfInBounds_toArray, List.set_cons_zero, List.set_cons_succ]
          refine tk (i := 26) (oi := _) (v := (.int .i64 (i1 : Int))) rfl (by kernel_rfl) (by kernel_rfl) (by kernel_rfl) (fun _ _ _ h => h) (Or.inl ⟨by rfl, ?_⟩) (by assumption) ?_
          · intro w hSw
            (try dsimp only at hSw)
            have h1 := HA1.out.2.1
            go_simp
            try rw [h1]
            first | done | exact ⟨rfl, rfl⟩ | omega | (intro h; omega)
          try simp only [Act.put, List.setIfInBounds_toArray, List.set_cons_zero, List.set_cons_succ]
          refine tk (i := 27) (oi := _) (v := (.pointer (some ⟨gw, i1 * 3, none⟩))) rfl (by kernel_rfl) (by kernel_rfl) (by kernel_rfl) (fun _ _ _ h => h) (Or.inl ⟨by rfl, ?_⟩) (by assumption) ?_
          · intro w hSw
            (try dsimp only at hSw)
            have h1 := HA1.out.2.2.1
            have h2 := HA1.out.2.2.2
            have h3 := Hgw.out
            go_simp
            first | done | exact ⟨rfl, rfl⟩ | omega | (intro h; omega)
          try simp only [Act.put, List.setIfInBounds_toArray, List.set_cons_zero, List.set_cons_succ]
          refine tk (i := 28) (oi := _) (v := (.pointer (some ⟨gw, i1 * 3, none⟩))) rfl (by kernel_rfl) (by kernel_rfl) (by kernel_rfl) (fun _ _ _ h => h) (Or.inl ⟨by rfl, ?_⟩) (by assumption) ?_
          · intro w hSw
            (try dsimp only at hSw)
            go_simp
            first | done | exact ⟨rfl, rfl⟩ | omega | (intro h; omega)
          try simp only [Act.put, List.setIfInBounds_toArray, List.set_cons_zero, List.set_cons_succ]
          refine tk (i := 29) (oi := _) (v := (.agg #[.int .u64 (la : Int), .int .u64 (ls : Int)])) rfl (by kernel_rfl) (by kernel_rfl) (by kernel_rfl) (fun _ _ _ h => h) (Or.inl ⟨by rfl, ?_⟩) (by assumption) ?_
          · intro w hSw
            (try dsimp only at hSw)
            go_simp
            first | done | exact ⟨rfl, rfl⟩ | omega | (intro h; omega)
          try simp only [Act.put, List.setIfInBounds_toArray, List.set_cons_zero, List.set_cons_succ]
          refine tk (i := 30) (oi := _) (v := (.agg #[.int .u64 (k.at_ : Int), .int .u64 (k.seq : Int)])) rfl (by kernel_rfl) (by kernel_rfl) (by kernel_rfl) (fun _ _ _ h => h) (Or.inl ⟨by rfl, ?_⟩) (by assumption) ?_
          · intro w hSw
            (try dsimp only at hSw)
            go_simp
            first | done | exact ⟨rfl, rfl⟩ | omega | (intro h; omega)
          try simp only [Act.put, List.setIfInBounds_toArray, List.set_cons_zero, List.set_cons_succ]
          refine wpAnyH_ready (rs := [31]) (by kernel_rfl) (by simp) ?_
          refine tcons (o := _) rfl (fun K hK => ?_) AllReadyH.nil
          go_simp
          refine Calls.mono (KL1.out _) ?_
          rintro e X5 ⟨rfl, b5⟩
          have s5 := Lib.hid (s4.out.below b5)
          refine hK.out _ _ ?_ (fun hHeld => ?_)
          · exact HK.out _ s5
          clear hK K
          try simp only [Act.put, List.setIfInBounds_toArray, List.set_cons_zero, List.set_cons_succ]
          refine tk (i := 32) (oi := _) (v := (.bool false)) rfl (by kernel_rfl) (by kernel_rfl) (by kernel_rfl) (fun _ _ _ h => h) (Or.inl ⟨by rfl, ?_⟩) (by assumption) ?_
          · intro w hSw
            (try dsimp only at hSw)
            go_simp
            first | done | exact ⟨rfl, rfl⟩ | omega | (intro h; omega)
          try simp only [Act.put, List.setIfInBounds_toArray, List.set_cons_zero, List.set_cons_succ]
          refine tk (i := 33) (oi := _) (v := (.bool false)) rfl (by kernel_rfl) (by kernel_rfl) (by kernel_rfl) (fun _ _ _ h => h) (Or.inl ⟨by rfl, ?_⟩) (by assumption) ?_
          · intro w hSw
            (try dsimp only at hSw)
            go_simp
            first | done | exact ⟨rfl, rfl⟩ | omega | (intro h; omega)
          try simp only [Act.put, List.setIfInBounds_toArray, List.set_cons_zero, List.set_cons_succ]
          refine tk (i := 34) (oi := _) (v := (.bool false)) rfl (by kernel_rfl) (by kernel_rfl) (by kernel_rfl) (fun _ _ _ h => h) (Or.inl ⟨by rfl, ?_⟩) (by assumption) ?_
          · intro w hSw
            (try dsimp only at hSw)
            go_simp
            first | done | exact ⟨rfl, rfl⟩ | omega | (intro h; omega)
          try simp only [Act.put, List.setIfInBounds_toArray, List.set_cons_zero, List.set_cons_succ]
          refine tk (i := 35) (oi := _) (v := (.bool false)) rfl (by kernel_rfl) (by kernel_rfl) (by kernel_rfl) (fun _ _ _ h => h) (Or.inl ⟨by rfl, ?_⟩) (by assumption) ?_
          · intro w hSw
            (try dsimp only at hSw)
            go_simp
            first | done | exact ⟨rfl, rfl⟩ | omega | (intro h; omega)
          try simp only [Act.put, List.setIfInBounds_toArray, List.set_cons_zero, List.set_cons_succ]
          refine tk (i := 36) (oi := _) (v := (.slice pe ne ce)) rfl (by kernel_rfl) (by kernel_rfl) (by kernel_rfl) (fun _ _ _ h => h) (Or.inl ⟨by rfl, ?_⟩) (by assumption) ?_
          · intro w hSw
            (try dsimp only at hSw)
            go_simp
            first | done | exact ⟨rfl, rfl⟩ | omega | (intro h; omega)
          try simp only [Act.put, List.setIfInBounds_toArray, List.set_cons_zero, List.set_cons_succ]
          refine tk (i := 37) (oi := _) (v := (.int .i64 (ne : Int))) rfl (by kernel_rfl) (by kernel_rfl) (by kernel_rfl) (fun _ _ _ h => h) (Or.inl ⟨by rfl, ?_⟩) (by assumption) ?_
          · intro w hSw
            (try dsimp only at hSw)
            go_simp
            first | done | exact ⟨rfl, rfl⟩ | omega | (intro h; omega)
          try simp only [Act.put, List.setIfInBounds_toArray, List.set_cons_zero, List.set_cons_succ]
          refine tk (i := 38) (oi := _) (v := (.bool true)) rfl (by kernel_rfl) (by kernel_rfl) (by kernel_rfl) (fun _ _ _ h => h) (Or.inl ⟨by rfl, ?_⟩) (by assumption) ?_
          · intro w hSw
            (try dsimp only at hSw)
            have h1 := HF1.out
            go_simp
            first | done | exact ⟨rfl, rfl⟩ | omega | (intro h; omega)
          try simp only [Act.put, List.setIfInBounds_toArray, List.set_cons_zero, List.set_cons_succ]
          refine tk (i := 39) (oi := _) (v := (.bool true)) rfl (by kernel_rfl) (by kernel_rfl) (by kernel_rfl) (fun _ _ _ h => h) (Or.inl ⟨by rfl, ?_⟩) (by assumption) ?_
          · intro w hSw
            (try dsimp only at hSw)
            go_simp
            first | done | exact ⟨rfl, rfl⟩ | omega | (intro h; omega)
          try simp only [Act.put, List.setIfInBounds_toArray, List.set_cons_zero, List.set_cons_succ]
          refine tk (i := 40) (oi := _) (v := (.slice pe ne ce)) rfl (by kernel_rfl) (by kernel_rfl) (by kernel_rfl) (fun _ _ _ h => h) (Or.inl ⟨by rfl, ?_⟩) (by assumption) ?_
          · intro w hSw
            (try dsimp only at hSw)
            go_simp
            first | done | exact ⟨rfl, rfl⟩ | omega | (intro h; omega)
          try simp only [Act.put, List.setIfInBounds_toArray, List.set_cons_zero, List.set_cons_succ]
          refine tk (i := 41) (oi := _) (v := (.pointer (some ⟨ge, 0, none⟩))) rfl (by kernel_rfl) (by kernel_rfl) (by kernel_rfl) (fun _ _ _ h => h) (Or.inl ⟨by rfl, ?_⟩) (by assumption) ?_
          · intro w hSw
            (try dsimp only at hSw)
            have h1 := HF1.out
            have h3 := Hge.out
            go_simp
            first | done | exact ⟨rfl, rfl⟩ | omega | (intro h; omega)
          try simp only [Act.put, List.setIfInBounds_toArray, List.set_cons_zero, List.set_cons_succ]
          refine tk (i := 42) (oi := _) (v := (.pointer (some ⟨ge, 0, none⟩))) rfl (by kernel_rfl) (by kernel_rfl) (by kernel_rfl) (fun _ _ _ h => h) (Or.inl ⟨by rfl, ?_⟩) (by assumption) ?_
          · intro w hSw
            (try dsimp only at hSw)
            go_simp
            first | done | exact ⟨rfl, rfl⟩ | omega | (intro h; omega)
          try simp only [Act.put, List.setIfInBounds_toArray, List.set_cons_zero, List.set_cons_succ]
          refine tk (i := 43) (oi := _) (v := (.agg #[.int .u64 (ea : Int), .int .u64 (es : Int)])) rfl (by kernel_rfl) (by kernel_rfl) (by kernel_rfl) (fun _ _ _ h => h) (Or.inl ⟨by rfl, ?_⟩) (by assumption) ?_
          · intro w hSw
            (try dsimp only at hSw)
            go_simp
            first | done | exact ⟨rfl, rfl⟩ | omega | (intro h; omega)
          try simp only [Act.put, List.setIfInBounds_toArray, List.set_cons_zero, List.set_cons_succ]
          refine tk (i := 44) (oi := _) (v := (.agg #[.int .u64 (k.at_ : Int), .int .u64 (k.seq : Int)])) rfl (by kernel_rfl) (by kernel_rfl) (by kernel_rfl) (fun _ _ _ h => h) (Or.inl ⟨by rfl, ?_⟩) (by assumption) ?_
          · intro w hSw
            (try dsimp only at hSw)
            go_simp
            first | done | exact ⟨rfl, rfl⟩ | omega | (intro h; omega)
          try simp only [Act.put, List.setIfInBounds_toArray, List.set_cons_zero, List.set_cons_succ]
          refine wpAnyH_ready (rs := [45]) (by kernel_rfl) (by simp) ?_
          refine tcons (o := _) rfl (fun K hK => ?_) AllReadyH.nil
          go_simp
          refine Calls.mono (KL2.out _) ?_
          rintro e X6 ⟨rfl, b6⟩
          have s6 := Lib.hid (s5.out.below b6)
          refine hK.out _ _ ?_ (fun hHeld => ?_)
          · exact HK.out _ s6
          clear hK K
          try simp only [Act.put, List.setIfInBounds_toArray, List.set_cons_zero, List.set_cons_succ]
          refine tk (i := 46) (oi := _) (v := (.bool false)) rfl (by kernel_rfl) (by kernel_rfl) (by kernel_rfl) (fun _ _ _ h => h) (Or.inl ⟨by rfl, ?_⟩) (by assumption) ?_
          · intro w hSw
            (try dsimp only at hSw)
            go_simp
            first | done | exact ⟨rfl, rfl⟩ | omega | (intro h; omega)
          try simp only [Act.put, List.setIfInBounds_toArray, List.set_cons_zero, List.set_cons_succ]
          refine tk (i := 47) (oi := _) (v := (.bool false)) rfl (by kernel_rfl) (by kernel_rfl) (by kernel_rfl) (fun _ _ _ h => h) (Or.inl ⟨by rfl, ?_⟩) (by assumption) ?_
          · intro w hSw
            (try dsimp only at hSw)
            go_simp
            first | done | exact ⟨rfl, rfl⟩ | omega | (intro h; omega)
          try simp only [Act.put, List.setIfInBounds_toArray, List.set_cons_zero, List.set_cons_succ]
          refine wpAnyH_done (by kernel_rfl) ?_ _
          refine NoPanic.normal ?_
          go_wp2_with fail
          go_meet
          exact ⟨rfl, Lib.hid (s6.out.forget (fun b hb => hb) (by simp))⟩
        · skip
          obtain ⟨i1, Hi1⟩ : ∃ i1, Hid (i0 = i1 + 1) := ⟨i0 - 1, Lib.hid (by omega)⟩
          have HA1 : Hid ((ne : Int) < (nw : Int) ∧ IntKind.i64.wrap ((i0 : Int) - 1) = (i1 : Int) ∧ (i1 : Int) < (nw : Int) ∧ (0 : Int) ≤ (i1 : Int)) := Lib.hid (by
            have := HSum.out; have := Hi1.out
            exact ⟨by omega, by rw [IntKind.wrap_i64]; omega, by omega, by omega⟩)
          have hi1l : i1 < L.length := by rw [HNW.out]; have := HSum.out; have := Hi1.out; omega
          obtain ⟨gw, Hgw⟩ : ∃ gw, Hid (pw = some ⟨gw, 0, none⟩) := by
            obtain ⟨gb, e, _⟩ := en_cells (S8.out.row (r := (.slice pw (nw) cw, L)) (by simp)) hi1l
            exact ⟨gb, Lib.hid e⟩
          have hlt : decide ((L[i1]).key.lt k) = true := by
            obtain ⟨hP, hPk, _⟩ := HP.out
            have hm : L[i1] ∈ P := by
              have h1 : L[i1]? = P[i1]? := by rw [hP, List.getElem?_append_left (by rw [HI0.out]; have := Hi1.out; omega)]
              rw [List.getElem?_eq_getElem hi1l] at h1
              exact List.mem_of_getElem? h1.symm
            simpa using hPk _ hm
          have HCw : Hid (∀ W, Hid (St K w W a L (frB H k) [(.slice pe ne ce, E), (.slice pw (nw) cw, L)]) → W.cell? ⟨gw, i1 * 3, none⟩ = some (.int .u64 ((L[i1]).key.at_ : Int)) ∧ W.cell? ⟨gw, i1 * 3 + 1, none⟩ = some (.int .u64 ((L[i1]).key.seq : Int))) := Lib.hid fun W s => by
            obtain ⟨gb, e, _, c1, c2, _⟩ := en_cells (s.out.row (r := (.slice pw (nw) cw, L)) (by simp)) hi1l
            rw [Hgw.out] at e
            cases e
            exact ⟨c1, c2⟩
          have KL1 := Lib.hid (fun W => law_less (L[i1]).key k W)
          rw [hlt] at KL1
          unfold kyV at KL1
          generalize (L[i1]).key.at_ = la at *
          generalize (L[i1]).key.seq = ls at *
          clear hlt hi1l
          have HF1 : Hid (¬ (0 : Int) < (ne : Int)) := Lib.hid (by omega)
          have HK : Hid (∀ W, Hid (St K w W a L (frB H k) [(.slice pe ne ce, E), (.slice pw (nw) cw, L)]) → W.cell? ⟨H, 0, none⟩ = some (.int .u64 (k.at_ : Int)) ∧ W.cell? ⟨H, 1, none⟩ = some (.int .u64 (k.seq : Int)) ∧ W.cell? ⟨gw, i1 * 3, none⟩ = some (.int .u64 (la : Int)) ∧ W.cell? ⟨gw, i1 * 3 + 1, none⟩ = some (.int .u64 (ls : Int))) := Lib.hid fun W s => ⟨(fr_cells s).1, (fr_cells s).2, (HCw.out _ s).1, (HCw.out _ s).2⟩
          clear HP HNE HI0 hA hF HSum HCw3
          clear Hi1
          refine wp_region_noPanic ?_
          refine wp_region_held_drew (S := fun wy => wy.cell? ⟨H, 0, none⟩ = some (.int .u64 (k.at_ : Int)) ∧ wy.cell? ⟨H, 1, none⟩ = some (.int .u64 (k.seq : Int)) ∧ wy.cell? ⟨gw, i1 * 3, none⟩ = some (.int .u64 (la : Int)) ∧ wy.cell? ⟨gw, i1 * 3 + 1, none⟩ = some (.int .u64 (ls : Int))) (by kernel_rfl) ?_ (fun hHeld => ?_)
          · exact HK.out _ S8
          refine tk (i := 0) (oi := _) (v := (.slice pe ne ce)) rfl (by kernel_rfl) (by kernel_rfl) (by kernel_rfl) (fun _ _ _ h => h) (Or.inl ⟨by rfl, ?_⟩) (by assumption) ?_
          · intro w hSw
            (try dsimp only at hSw)
            go_simp
            first | done | exact ⟨rfl, rfl⟩ | omega | (intro h; omega)
          try simp only [Act.put, List.setIfInBounds_toArray, List.set_cons_zero, List.set_cons_succ]
          refine tk (i := 1) (oi := _) (v := (.slice pw nw cw)) rfl (by kernel_rfl) (by kernel_rfl) (by kernel_rfl) (fun _ _ _ h => h) (Or.inl ⟨by rfl, ?_⟩) (by assumption) ?_
          · intro w hSw
            (try dsimp only at hSw)
            go_simp
            first | done | exact ⟨rfl, rfl⟩ | omega | (intro h; omega)
          try simp only [Act.put, List.setIfInBounds_toArray, List.set_cons_zero, List.set_cons_succ]
          refine tk (i := 2) (oi := _) (v := (.slice pw nw cw)) rfl (by kernel_rfl) (by kernel_rfl) (by kernel_rfl) (fun _ _ _ h => h) (Or.inl ⟨by rfl, ?_⟩) (by assumption) ?_
          · intro w hSw
            (try dsimp only at hSw)
            go_simp
            first | done | exact ⟨rfl, rfl⟩ | omega | (intro h; omega)
          try simp only [Act.put, List.setIfInBounds_toArray, List.set_cons_zero, List.set_cons_succ]
          refine tk (i := 3) (oi := _) (v := (.int .i64 (nw : Int))) rfl (by kernel_rfl) (by kernel_rfl) (by kernel_rfl) (fun _ _ _ h => h) (Or.inl ⟨by rfl, ?_⟩) (by assumption) ?_
          · intro w hSw
            (try dsimp only at hSw)
            go_simp
            first | done | exact ⟨rfl, rfl⟩ | omega | (intro h; omega)
          try simp only [Act.put, List.setIfInBounds_toArray, List.set_cons_zero, List.set_cons_succ]
          refine tk (i := 4) (oi := _) (v := (.slice pe ne ce)) rfl (by kernel_rfl) (by kernel_rfl) (by kernel_rfl) (fun _ _ _ h => h) (Or.inl ⟨by rfl, ?_⟩) (by assumption) ?_
          · intro w hSw
            (try dsimp only at hSw)
            go_simp
            first | done | exact ⟨rfl, rfl⟩ | omega | (intro h; omega)
          try simp only [Act.put, List.setIfInBounds_toArray, List.set_cons_zero, List.set_cons_succ]
          refine tk (i := 5) (oi := _) (v := (.int .i64 (ne : Int))) rfl (by kernel_rfl) (by kernel_rfl) (by kernel_rfl) (fun _ _ _ h => h) (Or.inl ⟨by rfl, ?_⟩) (by assumption) ?_
          · intro w hSw
            (try dsimp only at hSw)
            go_simp
            first | done | exact ⟨rfl, rfl⟩ | omega | (intro h; omega)
          try simp only [Act.put, List.setIfInBounds_toArray, List.set_cons_zero, List.set_cons_succ]
          refine tk (i := 6) (oi := _) (v := (.slice pw nw cw)) rfl (by kernel_rfl) (by kernel_rfl) (by kernel_rfl) (fun _ _ _ h => h) (Or.inl ⟨by rfl, ?_⟩) (by assumption) ?_
          · intro w hSw
            (try dsimp only at hSw)
            go_simp
            first | done | exact ⟨rfl, rfl⟩ | omega | (intro h; omega)
          try simp only [Act.put, List.setIfInBounds_toArray, List.set_cons_zero, List.set_cons_succ]
          refine tk (i := 7) (oi := _) (v := (.int .i64 (nw : Int))) rfl (by kernel_rfl) (by kernel_rfl) (by kernel_rfl) (fun _ _ _ h => h) (Or.inl ⟨by rfl, ?_⟩) (by assumption) ?_
          · intro w hSw
            (try dsimp only at hSw)
            go_simp
            first | done | exact ⟨rfl, rfl⟩ | omega | (intro h; omega)
          try simp only [Act.put, List.setIfInBounds_toArray, List.set_cons_zero, List.set_cons_succ]
          refine tk (i := 8) (oi := _) (v := (.int .i64 (ne : Int))) rfl (by kernel_rfl) (by kernel_rfl) (by kernel_rfl) (fun _ _ _ h => h) (Or.inl ⟨by rfl, ?_⟩) (by assumption) ?_
          · intro w hSw
            (try dsimp only at hSw)
            have h1 := HNm.out.1
            go_simp
            first | done | exact ⟨rfl, rfl⟩ | omega | (intro h; omega)
          try simp only [Act.put, List.setIfInBounds_toArray, List.set_cons_zero, List.set_cons_succ]
          refine tk (i := 9) (oi := _) (v := (.int .i64 (i0 : Int))) rfl (by kernel_rfl) (by kernel_rfl) (by kernel_rfl) (fun _ _ _ h => h) (Or.inl ⟨by rfl, ?_⟩) (by assumption) ?_
          · intro w hSw
            (try dsimp only at hSw)
            have h1 := HNm.out.2.1
            go_simp
            try rw [h1]
            first | done | exact ⟨rfl, rfl⟩ | omega | (intro h; omega)
          try simp only [Act.put, List.setIfInBounds_toArray, List.set_cons_zero, List.set_cons_succ]
          refine tk (i := 10) (oi := _) (v := (.slice q ne (cw - i0))) rfl (by kernel_rfl) (by kernel_rfl) (by kernel_rfl) (fun _ _ _ h => h) (Or.inl ⟨by rfl, ?_⟩) (by assumption) ?_
          · intro w hSw
            (try dsimp only at hSw)
            have h1 := HNm.out.2.2.1
            have h2 := HNm.out.2.2.2.1
            go_simp
            try rw [← HQ.out, HNm.out.2.2.2.2]
            first | done | exact ⟨rfl, rfl⟩ | omega | (intro h; omega)
          try simp only [Act.put, List.setIfInBounds_toArray, List.set_cons_zero, List.set_cons_succ]
          refine wpAnyH_ready (rs := [11]) (by kernel_rfl) (by simp) ?_
          refine tcons (o := _) rfl (fun K hK => ?_) AllReadyH.nil
          go_simp
          refine Calls.mono (HSq.out _ _ S8) ?_
          rintro e X4 ⟨rfl, s4⟩
          refine hK.out _ _ ?_ (fun hHeld => ?_)
          · exact HK.out _ s4
          clear hK K
          try simp only [Act.put, List.setIfInBounds_toArray, List.set_cons_zero, List.set_cons_succ]
          refine tk (i := 12) (oi := _) (v := (.bool false)) rfl (by kernel_rfl) (by kernel_rfl) (by kernel_rfl) (fun _ _ _ h => h) (Or.inl ⟨by rfl, ?_⟩) (by assumption) ?_
          · intro w hSw
            (try dsimp only at hSw)
            go_simp
            first | done | exact ⟨rfl, rfl⟩ | omega | (intro h; omega)
          try simp only [Act.put, List.setIfInBounds_toArray, List.set_cons_zero, List.set_cons_succ]
          refine tk (i := 13) (oi := _) (v := (.bool false)) rfl (by kernel_rfl) (by kernel_rfl) (by kernel_rfl) (fun _ _ _ h => h) (Or.inl ⟨by rfl, ?_⟩) (by assumption) ?_
          · intro w hSw
            (try dsimp only at hSw)
            go_simp
            first | done | exact ⟨rfl, rfl⟩ | omega | (intro h; omega)
          try simp only [Act.put, List.setIfInBounds_toArray, List.set_cons_zero, List.set_cons_succ]
          refine tk (i := 14) (oi := _) (v := (.slice pe ne ce)) rfl (by kernel_rfl) (by kernel_rfl) (by kernel_rfl) (fun _ _ _ h => h) (Or.inl ⟨by rfl, ?_⟩) (by assumption) ?_
          · intro w hSw
            (try dsimp only at hSw)
            go_simp
            first | done | exact ⟨rfl, rfl⟩ | omega | (intro h; omega)
          try simp only [Act.put, List.setIfInBounds_toArray, List.set_cons_zero, List.set_cons_succ]
          refine tk (i := 15) (oi := _) (v := (.int .i64 (ne : Int))) rfl (by kernel_rfl) (by kernel_rfl) (by kernel_rfl) (fun _ _ _ h => h) (Or.inl ⟨by rfl, ?_⟩) (by assumption) ?_
          · intro w hSw
            (try dsimp only at hSw)
            go_simp
            first | done | exact ⟨rfl, rfl⟩ | omega | (intro h; omega)
          try simp only [Act.put, List.setIfInBounds_toArray, List.set_cons_zero, List.set_cons_succ]
          refine tk (i := 16) (oi := _) (v := (.slice pw nw cw)) rfl (by kernel_rfl) (by kernel_rfl) (by kernel_rfl) (fun _ _ _ h => h) (Or.inl ⟨by rfl, ?_⟩) (by assumption) ?_
          · intro w hSw
            (try dsimp only at hSw)
            go_simp
            first | done | exact ⟨rfl, rfl⟩ | omega | (intro h; omega)
          try simp only [Act.put, List.setIfInBounds_toArray, List.set_cons_zero, List.set_cons_succ]
          refine tk (i := 17) (oi := _) (v := (.int .i64 (nw : Int))) rfl (by kernel_rfl) (by kernel_rfl) (by kernel_rfl) (fun _ _ _ h => h) (Or.inl ⟨by rfl, ?_⟩) (by assumption) ?_
          · intro w hSw
            (try dsimp only at hSw)
            go_simp
            first | done | exact ⟨rfl, rfl⟩ | omega | (intro h; omega)
          try simp only [Act.put, List.setIfInBounds_toArray, List.set_cons_zero, List.set_cons_succ]
          refine tk (i := 18) (oi := _) (v := (.bool true)) rfl (by kernel_rfl) (by kernel_rfl) (by kernel_rfl) (fun _ _ _ h => h) (Or.inl ⟨by rfl, ?_⟩) (by assumption) ?_
          · intro w hSw
            (try dsimp only at hSw)
            have h1 := HA1.out.1
            go_simp
            first | done | exact ⟨rfl, rfl⟩ | omega | (intro h; omega)
          try simp only [Act.put, List.setIfInBounds_toArray, List.set_cons_zero, List.set_cons_succ]
          refine tk (i := 19) (oi := _) (v := (.bool true)) rfl (by kernel_rfl) (by kernel_rfl) (by kernel_rfl) (fun _ _ _ h => h) (Or.inl ⟨by rfl, ?_⟩) (by assumption) ?_
          · intro w hSw
            (try dsimp only at hSw)
            go_simp
            first | done | exact ⟨rfl, rfl⟩ | omega | (intro h; omega)
          try simp only [Act.put, List.setIfInBounds_toArray, List.set_cons_zero, List.set_cons_succ]
          refine tk (i := 20) (oi := _) (v := (.slice pw nw cw)) rfl (by kernel_rfl) (by kernel_rfl) (by kernel_rfl) (fun _ _ _ h => h) (Or.inl ⟨by rfl, ?_⟩) (by assumption) ?_
          · intro w hSw
            (try dsimp only at hSw)
            go_simp
            first | done | exact ⟨rfl, rfl⟩ | omega | (intro h; omega)
          try simp only [Act.put, List.setIfInBounds_toArray, List.set_cons_zero, List.set_cons_succ]
          refine tk (i := 21) (oi := _) (v := (.slice pw nw cw)) rfl (by kernel_rfl) (by kernel_rfl) (by kernel_rfl) (fun _ _ _ h => h) (Or.inl ⟨by rfl, ?_⟩) (by assumption) ?_
          · intro w hSw
            (try dsimp only at hSw)
            go_simp
            first | done | exact ⟨rfl, rfl⟩ | omega | (intro h; omega)
          try simp only [Act.put, List.setIfInBounds_toArray, List.set_cons_zero, List.set_cons_succ]
          refine tk (i := 22) (oi := _) (v := (.int .i64 (nw : Int))) rfl (by kernel_rfl) (by kernel_rfl) (by kernel_rfl) (fun _ _ _ h => h) (Or.inl ⟨by rfl, ?_⟩) (by assumption) ?_
          · intro w hSw
            (try dsimp only at hSw)
            go_simp
            first | done | exact ⟨rfl, rfl⟩ | omega | (intro h; omega)
          try simp only [Act.put, List.setIfInBounds_toArray, List.set_cons_zero, List.set_cons_succ]
          refine tk (i := 23) (oi := _) (v := (.slice pe ne ce)) rfl (by kernel_rfl) (by kernel_rfl) (by kernel_rfl) (fun _ _ _ h => h) (Or.inl ⟨by rfl, ?_⟩) (by assumption) ?_
          · intro w hSw
            (try dsimp only at hSw)
            go_simp
            first | done | exact ⟨rfl, rfl⟩ | omega | (intro h; omega)
          try simp only [Act.put, List.setIfInBounds_toArray, List.set_cons_zero, List.set_cons_succ]
          refine tk (i := 24) (oi := _) (v := (.int .i64 (ne : Int))) rfl (by kernel_rfl) (by kernel_rfl) (by kernel_rfl) (fun _ _ _ h => h) (Or.inl ⟨by rfl, ?_⟩) (by assumption) ?_
          · intro w hSw
            (try dsimp only at hSw)
            go_simp
            first | done | exact ⟨rfl, rfl⟩ | omega | (intro h; omega)
          try simp only [Act.put, List.setIfInBounds_toArray, List.set_cons_zero, List.set_cons_succ]
          refine tk (i := 25) (oi := _) (v := (.int .i64 (i0 : Int))) rfl (by kernel_rfl) (by kernel_rfl) (by kernel_rfl) (fun _ _ _ h => h) (Or.inl ⟨by rfl, ?_⟩) (by assumption) ?_
          · intro w hSw
            (try dsimp only at hSw)
            have h1 := HNm.out.2.1
            go_simp
            try rw [h1]
            first | done | exact ⟨rfl, rfl⟩ | omega | (intro h; omega)
          try simp only [Act.put, List.setIfInBounds_toArray, List.set_cons_zero, List.set_cons_succ]
          refine tk (i := 26) (oi := _) (v := (.int .i64 (i1 : Int))) rfl (by kernel_rfl) (by kernel_rfl) (by kernel_rfl) (fun _ _ _ h => h) (Or.inl ⟨by rfl, ?_⟩) (by assumption) ?_
          · intro w hSw
            (try dsimp only at hSw)
            have h1 := HA1.out.2.1
            go_simp
            try rw [h1]
            first | done | exact ⟨rfl, rfl⟩ | omega | (intro h; omega)
          try simp only [Act.put, List.setIfInBounds_toArray, List.set_cons_zero, List.set_cons_succ]
          refine tk (i := 27) (oi := _) (v := (.pointer (some ⟨gw, i1 * 3, none⟩))) rfl (by kernel_rfl) (by kernel_rfl) (by kernel_rfl) (fun _ _ _ h => h) (Or.inl ⟨by rfl, ?_⟩) (by assumption) ?_
          · intro w hSw
            (try dsimp only at hSw)
            have h1 := HA1.out.2.2.1
            have h2 := HA1.out.2.2.2
            have h3 := Hgw.out
            go_simp
            first | done | exact ⟨rfl, rfl⟩ | omega | (intro h; omega)
          try simp only [Act.put, List.setIfInBounds_toArray, List.set_cons_zero, List.set_cons_succ]
          refine tk (i := 28) (oi := _) (v := (.pointer (some ⟨gw, i1 * 3, none⟩))) rfl (by kernel_rfl) (by kernel_rfl) (by kernel_rfl) (fun _ _ _ h => h) (Or.inl ⟨by rfl, ?_⟩) (by assumption) ?_
          · intro w hSw
            (try dsimp only at hSw)
            go_simp
            first | done | exact ⟨rfl, rfl⟩ | omega | (intro h; omega)
          try simp only [Act.put, List.setIfInBounds_toArray, List.set_cons_zero, List.set_cons_succ]
          refine tk (i := 29) (oi := _) (v := (.agg #[.int .u64 (la : Int), .int .u64 (ls : Int)])) rfl (by kernel_rfl) (by kernel_rfl) (by kernel_rfl) (fun _ _ _ h => h) (Or.inl ⟨by rfl, ?_⟩) (by assumption) ?_
          · intro w hSw
            (try dsimp only at hSw)
            go_simp
            first | done | exact ⟨rfl, rfl⟩ | omega | (intro h; omega)
          try simp only [Act.put, List.setIfInBounds_toArray, List.set_cons_zero, List.set_cons_succ]
          refine tk (i := 30) (oi := _) (v := (.agg #[.int .u64 (k.at_ : Int), .int .u64 (k.seq : Int)])) rfl (by kernel_rfl) (by kernel_rfl) (by kernel_rfl) (fun _ _ _ h => h) (Or.inl ⟨by rfl, ?_⟩) (by assumption) ?_
          · intro w hSw
            (try dsimp only at hSw)
            go_simp
            first | done | exact ⟨rfl, rfl⟩ | omega | (intro h; omega)
          try simp only [Act.put, List.setIfInBounds_toArray, List.set_cons_zero, List.set_cons_succ]
          refine wpAnyH_ready (rs := [31]) (by kernel_rfl) (by simp) ?_
          refine tcons (o := _) rfl (fun K hK => ?_) AllReadyH.nil
          go_simp
          refine Calls.mono (KL1.out _) ?_
          rintro e X5 ⟨rfl, b5⟩
          have s5 := Lib.hid (s4.out.below b5)
          refine hK.out _ _ ?_ (fun hHeld => ?_)
          · exact HK.out _ s5
          clear hK K
          try simp only [Act.put, List.setIfInBounds_toArray, List.set_cons_zero, List.set_cons_succ]
          refine tk (i := 32) (oi := _) (v := (.bool false)) rfl (by kernel_rfl) (by kernel_rfl) (by kernel_rfl) (fun _ _ _ h => h) (Or.inl ⟨by rfl, ?_⟩) (by assumption) ?_
          · intro w hSw
            (try dsimp only at hSw)
            go_simp
            first | done | exact ⟨rfl, rfl⟩ | omega | (intro h; omega)
          try simp only [Act.put, List.setIfInBounds_toArray, List.set_cons_zero, List.set_cons_succ]
          refine tk (i := 33) (oi := _) (v := (.bool false)) rfl (by kernel_rfl) (by kernel_rfl) (by kernel_rfl) (fun _ _ _ h => h) (Or.inl ⟨by rfl, ?_⟩) (by assumption) ?_
          · intro w hSw
            (try dsimp only at hSw)
            go_simp
            first | done | exact ⟨rfl, rfl⟩ | omega | (intro h; omega)
          try simp only [Act.put, List.setIfInBounds_toArray, List.set_cons_zero, List.set_cons_succ]
          refine tk (i := 34) (oi := _) (v := (.bool false)) rfl (by kernel_rfl) (by kernel_rfl) (by kernel_rfl) (fun _ _ _ h => h) (Or.inl ⟨by rfl, ?_⟩) (by assumption) ?_
          · intro w hSw
            (try dsimp only at hSw)
            go_simp
            first | done | exact ⟨rfl, rfl⟩ | omega | (intro h; omega)
          try simp only [Act.put, List.setIfInBounds_toArray, List.set_cons_zero, List.set_cons_succ]
          refine tk (i := 35) (oi := _) (v := (.bool false)) rfl (by kernel_rfl) (by kernel_rfl) (by kernel_rfl) (fun _ _ _ h => h) (Or.inl ⟨by rfl, ?_⟩) (by assumption) ?_
          · intro w hSw
            (try dsimp only at hSw)
            go_simp
            first | done | exact ⟨rfl, rfl⟩ | omega | (intro h; omega)
          try simp only [Act.put, List.setIfInBounds_toArray, List.set_cons_zero, List.set_cons_succ]
          refine tk (i := 36) (oi := _) (v := (.slice pe ne ce)) rfl (by kernel_rfl) (by kernel_rfl) (by kernel_rfl) (fun _ _ _ h => h) (Or.inl ⟨by rfl, ?_⟩) (by assumption) ?_
          · intro w hSw
            (try dsimp only at hSw)
            go_simp
            first | done | exact ⟨rfl, rfl⟩ | omega | (intro h; omega)
          try simp only [Act.put, List.setIfInBounds_toArray, List.set_cons_zero, List.set_cons_succ]
          refine tk (i := 37) (oi := _) (v := (.int .i64 (ne : Int))) rfl (by kernel_rfl) (by kernel_rfl) (by kernel_rfl) (fun _ _ _ h => h) (Or.inl ⟨by rfl, ?_⟩) (by assumption) ?_
          · intro w hSw
            (try dsimp only at hSw)
            go_simp
            first | done | exact ⟨rfl, rfl⟩ | omega | (intro h; omega)
          try simp only [Act.put, List.setIfInBounds_toArray, List.set_cons_zero, List.set_cons_succ]
          refine tk (i := 38) (oi := _) (v := (.bool false)) rfl (by kernel_rfl) (by kernel_rfl) (by kernel_rfl) (fun _ _ _ h => h) (Or.inl ⟨by rfl, ?_⟩) (by assumption) ?_
          · intro w hSw
            (try dsimp only at hSw)
            have h1 := HF1.out
            go_simp
            first | done | exact ⟨rfl, rfl⟩ | omega | (intro h; omega)
          try simp only [Act.put, List.setIfInBounds_toArray, List.set_cons_zero, List.set_cons_succ]
          refine tk (i := 39) (oi := _) (v := (.bool false)) rfl (by kernel_rfl) (by kernel_rfl) (by kernel_rfl) (fun _ _ _ h => h) (Or.inl ⟨by rfl, ?_⟩) (by assumption) ?_
          · intro w hSw
            (try dsimp only at hSw)
            go_simp
            first | done | exact ⟨rfl, rfl⟩ | omega | (intro h; omega)
          try simp only [Act.put, List.setIfInBounds_toArray, List.set_cons_zero, List.set_cons_succ]
          refine tk (i := 40) (oi := _) (v := undef) rfl (by kernel_rfl) (by kernel_rfl) (by kernel_rfl) (fun _ _ _ h => h) (Or.inr ⟨by rfl, rfl⟩) (by assumption) ?_
          try simp only [Act.put, List.setIfInBounds_toArray, List.set_cons_zero, List.set_cons_succ]
          refine tk (i := 41) (oi := _) (v := undef) rfl (by kernel_rfl) (by kernel_rfl) (by kernel_rfl) (fun _ _ _ h => h) (Or.inr ⟨by rfl, rfl⟩) (by assumption) ?_
          try simp only [Act.put, List.setIfInBounds_toArray, List.set_cons_zero, List.set_cons_succ]
          refine tk (i := 42) (oi := _) (v := undef) rfl (by kernel_rfl) (by kernel_rfl) (by kernel_rfl) (fun _ _ _ h => h) (Or.inr ⟨by rfl, rfl⟩) (by assumption) ?_
          try simp only [Act.put, List.setIfInBounds_toArray, List.set_cons_zero, List.set_cons_succ]
          refine tk (i := 43) (oi := _) (v := undef) rfl (by kernel_rfl) (by kernel_rfl) (by kernel_rfl) (fun _ _ _ h => h) (Or.inr ⟨by rfl, rfl⟩) (by assumption) ?_
          try simp only [Act.put, List.setIfInBounds_toArray, List.set_cons_zero, List.set_cons_succ]
          refine tk (i := 44) (oi := _) (v := undef) rfl (by kernel_rfl) (by kernel_rfl) (by kernel_rfl) (fun _ _ _ h => h) (Or.inr ⟨by rfl, rfl⟩) (by assumption) ?_
          try simp only [Act.put, List.setIfInBounds_toArray, List.set_cons_zero, List.set_cons_succ]
          refine tk (i := 45) (oi := _) (v := undef) rfl (by kernel_rfl) (by kernel_rfl) (by kernel_rfl) (fun _ _ _ h => h) (Or.inr ⟨by rfl, rfl⟩) (by assumption) ?_
          try simp only [Act.put, List.setIfInBounds_toArray, List.set_cons_zero, List.set_cons_succ]
          refine tk (i := 46) (oi := _) (v := (.bool false)) rfl (by kernel_rfl) (by kernel_rfl) (by kernel_rfl) (fun _ _ _ h => h) (Or.inl ⟨by rfl, ?_⟩) (by assumption) ?_
          · intro w hSw
            (try dsimp only at hSw)
            go_simp
            first | done | exact ⟨rfl, rfl⟩ | omega | (intro h; omega)
          try simp only [Act.put, List.setIfInBounds_toArray, List.set_cons_zero, List.set_cons_succ]
          refine tk (i := 47) (oi := _) (v := (.bool false)) rfl (by kernel_rfl) (by kernel_rfl) (by kernel_rfl) (fun _ _ _ h => h) (Or.inl ⟨by rfl, ?_⟩) (by assumption) ?_
          · intro w hSw
            (try dsimp only at hSw)
            go_simp
            first | done | exact ⟨rfl, rfl⟩ | omega | (intro h; omega)
          try simp only [Act.put, List.setIfInBounds_toArray, List.set_cons_zero, List.set_cons_succ]
          refine wpAnyH_done (by kernel_rfl) ?_ _
          refine NoPanic.normal ?_
          go_wp2_with fail
          go_meet
          exact ⟨rfl, Lib.hid (s5.out.forget (fun b hb => hb) (by simp))⟩
      · by_cases hF : 0 < ne
        · skip
          have HA1 : Hid (¬ (ne : Int) < (nw : Int)) := Lib.hid (by have := HSum.out; omega)
          have HF1 : Hid ((0 : Int) < (ne : Int)) := Lib.hid (by omega)
          have h0E : 0 < E.length := by rw [HNE.out]; omega
          obtain ⟨ge, Hge⟩ : ∃ ge, Hid (pe = some ⟨ge, 0, none⟩) := by
            have hrow := S8.out.row (r := (.slice pe ne ce, E)) (by simp)
            obtain ⟨gb, e, _⟩ := en_cells hrow h0E
            exact ⟨gb, Lib.hid e⟩
          have hlt2 : decide ((E[0]).key.lt k) = false := by
            obtain ⟨_, _, hEk⟩ := HP.out
            simpa using hEk _ (List.getElem_mem h0E)
          have HCe : Hid (∀ W, Hid (St K w W a L (frB H k) [(.slice pe ne ce, E), (.slice pw (nw) cw, L)]) → W.cell? ⟨ge, 0, none⟩ = some (.int .u64 ((E[0]).key.at_ : Int)) ∧ W.cell? ⟨ge, 1, none⟩ = some (.int .u64 ((E[0]).key.seq : Int))) := Lib.hid fun W s => by
            obtain ⟨gb, e, _, c1, c2, _⟩ := en_cells (s.out.row (r := (.slice pe ne ce, E)) (by simp)) h0E
            rw [Hge.out] at e
            cases e
            exact ⟨by simpa using c1, by simpa using c2⟩
          have KL2 := Lib.hid (fun W => law_less (E[0]).key k W)
          rw [hlt2] at KL2
          unfold kyV at KL2
          generalize (E[0]).key.at_ = ea at *
          generalize (E[0]).key.seq = es at *
          clear hlt2 h0E
          have HK : Hid (∀ W, Hid (St K w W a L (frB H k) [(.slice pe ne ce, E), (.slice pw (nw) cw, L)]) → W.cell? ⟨H, 0, none⟩ = some (.int .u64 (k.at_ : Int)) ∧ W.cell? ⟨H, 1, none⟩ = some (.int .u64 (k.seq : Int)) ∧ W.cell? ⟨ge, 0, none⟩ = some (.int .u64 (ea : Int)) ∧ W.cell? ⟨ge, 1, none⟩ = some (.int .u64 (es : Int))) := Lib.hid fun W s => ⟨(fr_cells s).1, (fr_cells s).2, (HCe.out _ s).1, (HCe.out _ s).2⟩
          clear HP HNE HI0 hA hF HSum HCw3
          refine wp_region_noPanic ?_
          refine wp_region_held_drew (S := fun wy => wy.cell? ⟨H, 0, none⟩ = some (.int .u64 (k.at_ : Int)) ∧ wy.cell? ⟨H, 1, none⟩ = some (.int .u64 (k.seq : Int)) ∧ wy.cell? ⟨ge, 0, none⟩ = some (.int .u64 (ea : Int)) ∧ wy.cell? ⟨ge, 1, none⟩ = some (.int .u64 (es : Int))) (by kernel_rfl) ?_ (fun hHeld => ?_)
          · exact HK.out _ S8
          refine tk (i := 0) (oi := _) (v := (.slice pe ne ce)) rfl (by kernel_rfl) (by kernel_rfl) (by kernel_rfl) (fun _ _ _ h => h) (Or.inl ⟨by rfl, ?_⟩) (by assumption) ?_
          · intro w hSw
            (try dsimp only at hSw)
            go_simp
            first | done | exact ⟨rfl, rfl⟩ | omega | (intro h; omega)
          try simp only [Act.put, List.setIfInBounds_toArray, List.set_cons_zero, List.set_cons_succ]
          refine tk (i := 1) (oi := _) (v := (.slice pw nw cw)) rfl (by kernel_rfl) (by kernel_rfl) (by kernel_rfl) (fun _ _ _ h => h) (Or.inl ⟨by rfl, ?_⟩) (by assumption) ?_
          · intro w hSw
            (try dsimp only at hSw)
            go_simp
            first | done | exact ⟨rfl, rfl⟩ | omega | (intro h; omega)
          try simp only [Act.put, List.setIfInBounds_toArray, List.set_cons_zero, List.set_cons_succ]
          refine tk (i := 2) (oi := _) (v := (.slice pw nw cw)) rfl (by kernel_rfl) (by kernel_rfl) (by kernel_rfl) (fun _ _ _ h => h) (Or.inl ⟨by rfl, ?_⟩) (by assumption) ?_
          · intro w hSw
            (try dsimp only at hSw)
            go_simp
            first | done | exact ⟨rfl, rfl⟩ | omega | (intro h; omega)
          try simp only [Act.put, List.setIfInBounds_toArray, List.set_cons_zero, List.set_cons_succ]
          refine tk (i := 3) (oi := _) (v := (.int .i64 (nw : Int))) rfl (by kernel_rfl) (by kernel_rfl) (by kernel_rfl) (fun _ _ _ h => h) (Or.inl ⟨by rfl, ?_⟩) (by assumption) ?_
          · intro w hSw
            (try dsimp only at hSw)
            go_simp
            first | done | exact ⟨rfl, rfl⟩ | omega | (intro h; omega)
          try simp only [Act.put, List.setIfInBounds_toArray, List.set_cons_zero, List.set_cons_succ]
          refine tk (i := 4) (oi := _) (v := (.slice pe ne ce)) rfl (by kernel_rfl) (by kernel_rfl) (by kernel_rfl) (fun _ _ _ h => h) (Or.inl ⟨by rfl, ?_⟩) (by assumption) ?_
          · intro w hSw
            (try dsimp only at hSw)
            go_simp
            first | done | exact ⟨rfl, rfl⟩ | omega | (intro h; omega)
          try simp only [Act.put, List.setIfInBounds_toArray, List.set_cons_zero, List.set_cons_succ]
          refine tk (i := 5) (oi := _) (v := (.int .i64 (ne : Int))) rfl (by kernel_rfl) (by kernel_rfl) (by kernel_rfl) (fun _ _ _ h => h) (Or.inl ⟨by rfl, ?_⟩) (by assumption) ?_
          · intro w hSw
            (try dsimp only at hSw)
            go_simp
            first | done | exact ⟨rfl, rfl⟩ | omega | (intro h; omega)
          try simp only [Act.put, List.setIfInBounds_toArray, List.set_cons_zero, List.set_cons_succ]
          refine tk (i := 6) (oi := _) (v := (.slice pw nw cw)) rfl (by kernel_rfl) (by kernel_rfl) (by kernel_rfl) (fun _ _ _ h => h) (Or.inl ⟨by rfl, ?_⟩) (by assumption) ?_
          · intro w hSw
            (try dsimp only at hSw)
            go_simp
            first | done | exact ⟨rfl, rfl⟩ | omega | (intro h; omega)
          try simp only [Act.put, List.setIfInBounds_toArray, List.set_cons_zero, List.set_cons_succ]
          refine tk (i := 7) (oi := _) (v := (.int .i64 (nw : Int))) rfl (by kernel_rfl) (by kernel_rfl) (by kernel_rfl) (fun _ _ _ h => h) (Or.inl ⟨by rfl, ?_⟩) (by assumption) ?_
          · intro w hSw
            (try dsimp only at hSw)
            go_simp
            first | done | exact ⟨rfl, rfl⟩ | omega | (intro h; omega)
          try simp only [Act.put, List.setIfInBounds_toArray, List.set_cons_zero, List.set_cons_succ]
          refine tk (i := 8) (oi := _) (v := (.int .i64 (ne : Int))) rfl (by kernel_rfl) (by kernel_rfl) (by kernel_rfl) (fun _ _ _ h => h) (Or.inl ⟨by rfl, ?_⟩) (by assumption) ?_
          · intro w hSw
            (try dsimp only at hSw)
            have h1 := HNm.out.1
            go_simp
            first | done | exact ⟨rfl, rfl⟩ | omega | (intro h; omega)
          try simp only [Act.put, List.setIfInBounds_toArray, List.set_cons_zero, List.set_cons_succ]
          refine tk (i := 9) (oi := _) (v := (.int .i64 (i0 : Int))) rfl (by kernel_rfl) (by kernel_rfl) (by kernel_rfl) (fun _ _ _ h => h) (Or.inl ⟨by rfl, ?_⟩) (by assumption) ?_
          · intro w hSw
            (try dsimp only at hSw)
            have h1 := HNm.out.2.1
            go_simp
            try rw [h1]
            first | done | exact ⟨rfl, rfl⟩ | omega | (intro h; omega)
          try simp only [Act.put, List.setIfInBounds_toArray, List.set_cons_zero, List.set_cons_succ]
          refine tk (i := 10) (oi := _) (v := (.slice q ne (cw - i0))) rfl (by kernel_rfl) (by kernel_rfl) (by kernel_rfl) (fun _ _ _ h => h) (Or.inl ⟨by rfl, ?_⟩) (by assumption) ?_
          · intro w hSw
            (try dsimp only at hSw)
            have h1 := HNm.out.2.2.1
            have h2 := HNm.out.2.2.2.1
            go_simp
            try rw [← HQ.out, HNm.out.2.2.2.2]
            first | done | exact ⟨rfl, rfl⟩ | omega | (intro h; omega)
          try simp only [Act.put, List.setIfInBounds_toArray, List.set_cons_zero, List.set_cons_succ]
          refine wpAnyH_ready (rs := [11]) (by kernel_rfl) (by simp) ?_
          refine tcons (o := _) rfl (fun K hK => ?_) AllReadyH.nil
          go_simp
          refine Calls.mono (HSq.out _ _ S8) ?_
          rintro e X4 ⟨rfl, s4⟩
          refine hK.out _ _ ?_ (fun hHeld => ?_)
          · exact HK.out _ s4
          clear hK K
          try simp only [Act.put, List.setIfInBounds_toArray, List.set_cons_zero, List.set_cons_succ]
          refine tk (i := 12) (oi := _) (v := (.bool false)) rfl (by kernel_rfl) (by kernel_rfl) (by kernel_rfl) (fun _ _ _ h => h) (Or.inl ⟨by rfl, ?_⟩) (by assumption) ?_
          · intro w hSw
            (try dsimp only at hSw)
            go_simp
            first | done | exact ⟨rfl, rfl⟩ | omega | (intro h; omega)
          try simp only [Act.put, List.setIfInBounds_toArray, List.set_cons_zero, List.set_cons_succ]
          refine tk (i := 13) (oi := _) (v := (.bool false)) rfl (by kernel_rfl) (by kernel_rfl) (by kernel_rfl) (fun _ _ _ h => h) (Or.inl ⟨by rfl, ?_⟩) (by assumption) ?_
          · intro w hSw
            (try dsimp only at hSw)
            go_simp
            first | done | exact ⟨rfl, rfl⟩ | omega | (intro h; omega)
          try simp only [Act.put, List.setIfInBounds_toArray, List.set_cons_zero, List.set_cons_succ]
          refine tk (i := 14) (oi := _) (v := (.slice pe ne ce)) rfl (by kernel_rfl) (by kernel_rfl) (by kernel_rfl) (fun _ _ _ h => h) (Or.inl ⟨by rfl, ?_⟩) (by assumption) ?_
          · intro w hSw
            (try dsimp only at hSw)
            go_simp
            first | done | exact ⟨rfl, rfl⟩ | omega | (intro h; omega)
          try simp only [Act.put, List.setIfInBounds_toArray, List.set_cons_zero, List.set_cons_succ]
          refine tk (i := 15) (oi := _) (v := (.int .i64 (ne : Int))) rfl (by kernel_rfl) (by kernel_rfl) (by kernel_rfl) (fun _ _ _ h => h) (Or.inl ⟨by rfl, ?_⟩) (by assumption) ?_
          · intro w hSw
            (try dsimp only at hSw)
            go_simp
            first | done | exact ⟨rfl, rfl⟩ | omega | (intro h; omega)
          try simp only [Act.put, List.setIfInBounds_toArray, List.set_cons_zero, List.set_cons_succ]
          refine tk (i := 16) (oi := _) (v := (.slice pw nw cw)) rfl (by kernel_rfl) (by kernel_rfl) (by kernel_rfl) (fun _ _ _ h => h) (Or.inl ⟨by rfl, ?_⟩) (by assumption) ?_
          · intro w hSw
            (try dsimp only at hSw)
            go_simp
            first | done | exact ⟨rfl, rfl⟩ | omega | (intro h; omega)
          try simp only [Act.put, List.setIfInBounds_toArray, List.set_cons_zero, List.set_cons_succ]
          refine tk (i := 17) (oi := _) (v := (.int .i64 (nw : Int))) rfl (by kernel_rfl) (by kernel_rfl) (by kernel_rfl) (fun _ _ _ h => h) (Or.inl ⟨by rfl, ?_⟩) (by assumption) ?_
          · intro w hSw
            (try dsimp only at hSw)
            go_simp
            first | done | exact ⟨rfl, rfl⟩ | omega | (intro h; omega)
          try simp only [Act.put, List.setIfInBounds_toArray, List.set_cons_zero, List.set_cons_succ]
          refine tk (i := 18) (oi := _) (v := (.bool false)) rfl (by kernel_rfl) (by kernel_rfl) (by kernel_rfl) (fun _ _ _ h => h) (Or.inl ⟨by rfl, ?_⟩) (by assumption) ?_
          · intro w hSw
            (try dsimp only at hSw)
            have h1 := HA1.out
            go_simp
            first | done | exact ⟨rfl, rfl⟩ | omega | (intro h; omega)
          try simp only [Act.put, List.setIfInBounds_toArray, List.set_cons_zero, List.set_cons_succ]
          refine tk (i := 19) (oi := _) (v := (.bool false)) rfl (by kernel_rfl) (by kernel_rfl) (by kernel_rfl) (fun _ _ _ h => h) (Or.inl ⟨by rfl, ?_⟩) (by assumption) ?_
          · intro w hSw
            (try dsimp only at hSw)
            go_simp
            first | done | exact ⟨rfl, rfl⟩ | omega | (intro h; omega)
          try simp only [Act.put, List.setIfInBounds_toArray, List.set_cons_zero, List.set_cons_succ]
          refine tk (i := 20) (oi := _) (v := undef) rfl (by kernel_rfl) (by kernel_rfl) (by kernel_rfl) (fun _ _ _ h => h) (Or.inr ⟨by rfl, rfl⟩) (by assumption) ?_
          try simp only [Act.put, List.setIfInBounds_toArray, List.set_cons_zero, List.set_cons_succ]
          refine tk (i := 21) (oi := _) (v := undef) rfl (by kernel_rfl) (by kernel_rfl) (by kernel_rfl) (fun _ _ _ h => h) (Or.inr ⟨by rfl, rfl⟩) (by assumption) ?_
          try simp only [Act.put, List.setIfInBounds_toArray, List.set_cons_zero, List.set_cons_succ]
          refine tk (i := 22) (oi := _) (v := undef) rfl (by kernel_rfl) (by kernel_rfl) (by kernel_rfl) (fun _ _ _ h => h) (Or.inr ⟨by rfl, rfl⟩) (by assumption) ?_
          try simp only [Act.put, List.setIfInBounds_toArray, List.set_cons_zero, List.set_cons_succ]
          refine tk (i := 23) (oi := _) (v := undef) rfl (by kernel_rfl) (by kernel_rfl) (by kernel_rfl) (fun _ _ _ h => h) (Or.inr ⟨by rfl, rfl⟩) (by assumption) ?_
          try simp only [Act.put, List.setIfInBounds_toArray, List.set_cons_zero, List.set_cons_succ]
          refine tk (i := 24) (oi := _) (v := undef) rfl (by kernel_rfl) (by kernel_rfl) (by kernel_rfl) (fun _ _ _ h => h) (Or.inr ⟨by rfl, rfl⟩) (by assumption) ?_
          try simp only [Act.put, List.setIfInBounds_toArray, List.set_cons_zero, List.set_cons_succ]
          refine tk (i := 25) (oi := _) (v := undef) rfl (by kernel_rfl) (by kernel_rfl) (by kernel_rfl) (fun _ _ _ h => h) (Or.inr ⟨by rfl, rfl⟩) (by assumption) ?_
          try simp only [Act.put, List.setIfInBounds_toArray, List.set_cons_zero, List.set_cons_succ]
          refine tk (i := 26) (oi := _) (v := undef) rfl (by kernel_rfl) (by kernel_rfl) (by kernel_rfl) (fun _ _ _ h => h) (Or.inr ⟨by rfl, rfl⟩) (by assumption) ?_
          try simp only [Act.put, List.setIfInBounds_toArray, List.set_cons_zero, List.set_cons_succ]
          refine tk (i := 27) (oi := _) (v := undef) rfl (by kernel_rfl) (by kernel_rfl) (by kernel_rfl) (fun _ _ _ h => h) (Or.inr ⟨by rfl, rfl⟩) (by assumption) ?_
          try simp only [Act.put, List.setIfInBounds_toArray, List.set_cons_zero, List.set_cons_succ]
          refine tk (i := 28) (oi := _) (v := undef) rfl (by kernel_rfl) (by kernel_rfl) (by kernel_rfl) (fun _ _ _ h => h) (Or.inr ⟨by rfl, rfl⟩) (by assumption) ?_
          try simp only [Act.put, List.setIfInBounds_toArray, List.set_cons_zero, List.set_cons_succ]
          refine tk (i := 29) (oi := _) (v := undef) rfl (by kernel_rfl) (by kernel_rfl) (by kernel_rfl) (fun _ _ _ h => h) (Or.inr ⟨by rfl, rfl⟩) (by assumption) ?_
          try simp only [Act.put, List.setIfInBounds_toArray, List.set_cons_zero, List.set_cons_succ]
          refine tk (i := 30) (oi := _) (v := undef) rfl (by kernel_rfl) (by kernel_rfl) (by kernel_rfl) (fun _ _ _ h => h) (Or.inr ⟨by rfl, rfl⟩) (by assumption) ?_
          try simp only [Act.put, List.setIfInBounds_toArray, List.set_cons_zero, List.set_cons_succ]
          refine tk (i := 31) (oi := _) (v := undef) rfl (by kernel_rfl) (by kernel_rfl) (by kernel_rfl) (fun _ _ _ h => h) (Or.inr ⟨by rfl, rfl⟩) (by assumption) ?_
          try simp only [Act.put, List.setIfInBounds_toArray, List.set_cons_zero, List.set_cons_succ]
          refine tk (i := 32) (oi := _) (v := undef) rfl (by kernel_rfl) (by kernel_rfl) (by kernel_rfl) (fun _ _ _ h => h) (Or.inr ⟨by rfl, rfl⟩) (by assumption) ?_
          try simp only [Act.put, List.setIfInBounds_toArray, List.set_cons_zero, List.set_cons_succ]
          refine tk (i := 33) (oi := _) (v := (.bool false)) rfl (by kernel_rfl) (by kernel_rfl) (by kernel_rfl) (fun _ _ _ h => h) (Or.inl ⟨by rfl, ?_⟩) (by assumption) ?_
          · intro w hSw
            (try dsimp only at hSw)
            go_simp
            first | done | exact ⟨rfl, rfl⟩ | omega | (intro h; omega)
          try simp only [Act.put, List.setIfInBounds_toArray, List.set_cons_zero, List.set_cons_succ]
          refine tk (i := 34) (oi := _) (v := (.bool false)) rfl (by kernel_rfl) (by kernel_rfl) (by kernel_rfl) (fun _ _ _ h => h) (Or.inl ⟨by rfl, ?_⟩) (by assumption) ?_
          · intro w hSw
            (try dsimp only at hSw)
            go_simp
            first | done | exact ⟨rfl, rfl⟩ | omega | (intro h; omega)
          try simp only [Act.put, List.setIfInBounds_toArray, List.set_cons_zero, List.set_cons_succ]
          refine tk (i := 35) (oi := _) (v := (.bool false)) rfl (by kernel_rfl) (by kernel_rfl) (by kernel_rfl) (fun _ _ _ h => h) (Or.inl ⟨by rfl, ?_⟩) (by assumption) ?_
          · intro w hSw
            (try dsimp only at hSw)
            go_simp
            first | done | exact ⟨rfl, rfl⟩ | omega | (intro h; omega)
          try simp only [Act.put, List.setIfInBounds_toArray, List.set_cons_zero, List.set_cons_succ]
          refine tk (i := 36) (oi := _) (v := (.slice pe ne ce)) rfl (by kernel_rfl) (by kernel_rfl) (by kernel_rfl) (fun _ _ _ h => h) (Or.inl ⟨by rfl, ?_⟩) (by assumption) ?_
          · intro w hSw
            (try dsimp only at hSw)
            go_simp
            first | done | exact ⟨rfl, rfl⟩ | omega | (intro h; omega)
          try simp only [Act.put, List.setIfInBounds_toArray, List.set_cons_zero, List.set_cons_succ]
          refine tk (i := 37) (oi := _) (v := (.int .i64 (ne : Int))) rfl (by kernel_rfl) (by kernel_rfl) (by kernel_rfl) (fun _ _ _ h => h) (Or.inl ⟨by rfl, ?_⟩) (by assumption) ?_
          · intro w hSw
            (try dsimp only at hSw)
            go_simp
            first | done | exact ⟨rfl, rfl⟩ | omega | (intro h; omega)
          try simp only [Act.put, List.setIfInBounds_toArray, List.set_cons_zero, List.set_cons_succ]
          refine tk (i := 38) (oi := _) (v := (.bool true)) rfl (by kernel_rfl) (by kernel_rfl) (by kernel_rfl) (fun _ _ _ h => h) (Or.inl ⟨by rfl, ?_⟩) (by assumption) ?_
          · intro w hSw
            (try dsimp only at hSw)
            have h1 := HF1.out
            go_simp
            first | done | exact ⟨rfl, rfl⟩ | omega | (intro h; omega)
          try simp only [Act.put, List.setIfInBounds_toArray, List.set_cons_zero, List.set_cons_succ]
          refine tk (i := 39) (oi := _) (v := (.bool true)) rfl (by kernel_rfl) (by kernel_rfl) (by kernel_rfl) (fun _ _ _ h => h) (Or.inl ⟨by rfl, ?_⟩) (by assumption) ?_
          · intro w hSw
            (try dsimp only at hSw)
            go_simp
            first | done | exact ⟨rfl, rfl⟩ | omega | (intro h; omega)
          try simp only [Act.put, List.setIfInBounds_toArray, List.set_cons_zero, List.set_cons_succ]
          refine tk (i := 40) (oi := _) (v := (.slice pe ne ce)) rfl (by kernel_rfl) (by kernel_rfl) (by kernel_rfl) (fun _ _ _ h => h) (Or.inl ⟨by rfl, ?_⟩) (by assumption) ?_
          · intro w hSw
            (try dsimp only at hSw)
            go_simp
            first | done | exact ⟨rfl, rfl⟩ | omega | (intro h; omega)
          try simp only [Act.put, List.setIfInBounds_toArray, List.set_cons_zero, List.set_cons_succ]
          refine tk (i := 41) (oi := _) (v := (.pointer (some ⟨ge, 0, none⟩))) rfl (by kernel_rfl) (by kernel_rfl) (by kernel_rfl) (fun _ _ _ h => h) (Or.inl ⟨by rfl, ?_⟩) (by assumption) ?_
          · intro w hSw
            (try dsimp only at hSw)
            have h1 := HF1.out
            have h3 := Hge.out
            go_simp
            first | done | exact ⟨rfl, rfl⟩ | omega | (intro h; omega)
          try simp only [Act.put, List.setIfInBounds_toArray, List.set_cons_zero, List.set_cons_succ]
          refine tk (i := 42) (oi := _) (v := (.pointer (some ⟨ge, 0, none⟩))) rfl (by kernel_rfl) (by kernel_rfl) (by kernel_rfl) (fun _ _ _ h => h) (Or.inl ⟨by rfl, ?_⟩) (by assumption) ?_
          · intro w hSw
            (try dsimp only at hSw)
            go_simp
            first | done | exact ⟨rfl, rfl⟩ | omega | (intro h; omega)
          try simp only [Act.put, List.setIfInBounds_toArray, List.set_cons_zero, List.set_cons_succ]
          refine tk (i := 43) (oi := _) (v := (.agg #[.int .u64 (ea : Int), .int .u64 (es : Int)])) rfl (by kernel_rfl) (by kernel_rfl) (by kernel_rfl) (fun _ _ _ h => h) (Or.inl ⟨by rfl, ?_⟩) (by assumption) ?_
          · intro w hSw
            (try dsimp only at hSw)
            go_simp
            first | done | exact ⟨rfl, rfl⟩ | omega | (intro h; omega)
          try simp only [Act.put, List.setIfInBounds_toArray, List.set_cons_zero, List.set_cons_succ]
          refine tk (i := 44) (oi := _) (v := (.agg #[.int .u64 (k.at_ : Int), .int .u64 (k.seq : Int)])) rfl (by kernel_rfl) (by kernel_rfl) (by kernel_rfl) (fun _ _ _ h => h) (Or.inl ⟨by rfl, ?_⟩) (by assumption) ?_
          · intro w hSw
            (try dsimp only at hSw)
            go_simp
            first | done | exact ⟨rfl, rfl⟩ | omega | (intro h; omega)
          try simp only [Act.put, List.setIfInBounds_toArray, List.set_cons_zero, List.set_cons_succ]
          refine wpAnyH_ready (rs := [45]) (by kernel_rfl) (by simp) ?_
          refine tcons (o := _) rfl (fun K hK => ?_) AllReadyH.nil
          go_simp
          refine Calls.mono (KL2.out _) ?_
          rintro e X6 ⟨rfl, b6⟩
          have s6 := Lib.hid (s4.out.below b6)
          refine hK.out _ _ ?_ (fun hHeld => ?_)
          · exact HK.out _ s6
          clear hK K
          try simp only [Act.put, List.setIfInBounds_toArray, List.set_cons_zero, List.set_cons_succ]
          refine tk (i := 46) (oi := _) (v := (.bool false)) rfl (by kernel_rfl) (by kernel_rfl) (by kernel_rfl) (fun _ _ _ h => h) (Or.inl ⟨by rfl, ?_⟩) (by assumption) ?_
          · intro w hSw
            (try dsimp only at hSw)
            go_simp
            first | done | exact ⟨rfl, rfl⟩ | omega | (intro h; omega)
          try simp only [Act.put, List.setIfInBounds_toArray, List.set_cons_zero, List.set_cons_succ]
          refine tk (i := 47) (oi := _) (v := (.bool false)) rfl (by kernel_rfl) (by kernel_rfl) (by kernel_rfl) (fun _ _ _ h => h) (Or.inl ⟨by rfl, ?_⟩) (by assumption) ?_
          · intro w hSw
            (try dsimp only at hSw)
            go_simp
            first | done | exact ⟨rfl, rfl⟩ | omega | (intro h; omega)
          try simp only [Act.put, List.setIfInBounds_toArray, List.set_cons_zero, List.set_cons_succ]
          refine wpAnyH_done (by kernel_rfl) ?_ _
          refine NoPanic.normal ?_
          go_wp2_with fail
          go_meet
          exact ⟨rfl, Lib.hid (s6.out.forget (fun b hb => hb) (by simp))⟩
        · skip
          have HA1 : Hid (¬ (ne : Int) < (nw : Int)) := Lib.hid (by have := HSum.out; omega)
          have HF1 : Hid (¬ (0 : Int) < (ne : Int)) := Lib.hid (by omega)
          have HK : Hid (∀ W, Hid (St K w W a L (frB H k) [(.slice pe ne ce, E), (.slice pw (nw) cw, L)]) → W.cell? ⟨H, 0, none⟩ = some (.int .u64 (k.at_ : Int)) ∧ W.cell? ⟨H, 1, none⟩ = some (.int .u64 (k.seq : Int))) := Lib.hid fun W s => ⟨(fr_cells s).1, (fr_cells s).2⟩
          clear HP HNE HI0 hA hF HSum HCw3
          refine wp_region_noPanic ?_
          refine wp_region_held_drew (S := fun wy => wy.cell? ⟨H, 0, none⟩ = some (.int .u64 (k.at_ : Int)) ∧ wy.cell? ⟨H, 1, none⟩ = some (.int .u64 (k.seq : Int))) (by kernel_rfl) ?_ (fun hHeld => ?_)
          · exact HK.out _ S8
          refine tk (i := 0) (oi := _) (v := (.slice pe ne ce)) rfl (by kernel_rfl) (by kernel_rfl) (by kernel_rfl) (fun _ _ _ h => h) (Or.inl ⟨by rfl, ?_⟩) (by assumption) ?_
          · intro w hSw
            (try dsimp only at hSw)
            go_simp
            first | done | exact ⟨rfl, rfl⟩ | omega | (intro h; omega)
          try simp only [Act.put, List.setIfInBounds_toArray, List.set_cons_zero, List.set_cons_succ]
          refine tk (i := 1) (oi := _) (v := (.slice pw nw cw)) rfl (by kernel_rfl) (by kernel_rfl) (by kernel_rfl) (fun _ _ _ h => h) (Or.inl ⟨by rfl, ?_⟩) (by assumption) ?_
          · intro w hSw
            (try dsimp only at hSw)
            go_simp
            first | done | exact ⟨rfl, rfl⟩ | omega | (intro h; omega)
          try simp only [Act.put, List.setIfInBounds_toArray, List.set_cons_zero, List.set_cons_succ]
          refine tk (i := 2) (oi := _) (v := (.slice pw nw cw)) rfl (by kernel_rfl) (by kernel_rfl) (by kernel_rfl) (fun _ _ _ h => h) (Or.inl ⟨by rfl, ?_⟩) (by assumption) ?_
          · intro w hSw
            (try dsimp only at hSw)
            go_simp
            first | done | exact ⟨rfl, rfl⟩ | omega | (intro h; omega)
          try simp only [Act.put, List.setIfInBounds_toArray, List.set_cons_zero, List.set_cons_succ]
          refine tk (i := 3) (oi := _) (v := (.int .i64 (nw : Int))) rfl (by kernel_rfl) (by kernel_rfl) (by kernel_rfl) (fun _ _ _ h => h) (Or.inl ⟨by rfl, ?_⟩) (by assumption) ?_
          · intro w hSw
            (try dsimp only at hSw)
            go_simp
            first | done | exact ⟨rfl, rfl⟩ | omega | (intro h; omega)
          try simp only [Act.put, List.setIfInBounds_toArray, List.set_cons_zero, List.set_cons_succ]
          refine tk (i := 4) (oi := _) (v := (.slice pe ne ce)) rfl (by kernel_rfl) (by kernel_rfl) (by kernel_rfl) (fun _ _ _ h => h) (Or.inl ⟨by rfl, ?_⟩) (by assumption) ?_
          · intro w hSw
            (try dsimp only at hSw)
            go_simp
            first | done | exact ⟨rfl, rfl⟩ | omega | (intro h; omega)
          try simp only [Act.put, List.setIfInBounds_toArray, List.set_cons_zero, List.set_cons_succ]
          refine tk (i := 5) (oi := _) (v := (.int .i64 (ne : Int))) rfl (by kernel_rfl) (by kernel_rfl) (by kernel_rfl) (fun _ _ _ h => h) (Or.inl ⟨by rfl, ?_⟩) (by assumption) ?_
          · intro w hSw
            (try dsimp only at hSw)
            go_simp
            first | done | exact ⟨rfl, rfl⟩ | omega | (intro h; omega)
          try simp only [Act.put, List.setIfInBounds_toArray, List.set_cons_zero, List.set_cons_succ]
          refine tk (i := 6) (oi := _) (v := (.slice pw nw cw)) rfl (by kernel_rfl) (by kernel_rfl) (by kernel_rfl) (fun _ _ _ h => h) (Or.inl ⟨by rfl, ?_⟩) (by assumption) ?_
          · intro w hSw
            (try dsimp only at hSw)
            go_simp
            first | done | exact ⟨rfl, rfl⟩ | omega | (intro h; omega)
          try simp only [Act.put, List.setIfInBounds_toArray, List.set_cons_zero, List.set_cons_succ]
          refine tk (i := 7) (oi := _) (v := (.int .i64 (nw : Int))) rfl (by kernel_rfl) (by kernel_rfl) (by kernel_rfl) (fun _ _ _ h => h) (Or.inl ⟨by rfl, ?_⟩) (by assumption) ?_
          · intro w hSw
            (try dsimp only at hSw)
            go_simp
            first | done | exact ⟨rfl, rfl⟩ | omega | (intro h; omega)
          try simp only [Act.put, List.setIfInBounds_toArray, List.set_cons_zero, List.set_cons_succ]
          refine tk (i := 8) (oi := _) (v := (.int .i64 (ne : Int))) rfl (by kernel_rfl) (by kernel_rfl) (by kernel_rfl) (fun _ _ _ h => h) (Or.inl ⟨by rfl, ?_⟩) (by assumption) ?_
          · intro w hSw
            (try dsimp only at hSw)
            have h1 := HNm.out.1
            go_simp
            first | done | exact ⟨rfl, rfl⟩ | omega | (intro h; omega)
          try simp only [Act.put, List.setIfInBounds_toArray, List.set_cons_zero, List.set_cons_succ]
          refine tk (i := 9) (oi := _) (v := (.int .i64 (i0 : Int))) rfl (by kernel_rfl) (by kernel_rfl) (by kernel_rfl) (fun _ _ _ h => h) (Or.inl ⟨by rfl, ?_⟩) (by assumption) ?_
          · intro w hSw
            (try dsimp only at hSw)
            have h1 := HNm.out.2.1
            go_simp
            try rw [h1]
            first | done | exact ⟨rfl, rfl⟩ | omega | (intro h; omega)
          try simp only [Act.put, List.setIfInBounds_toArray, List.set_cons_zero, List.set_cons_succ]
          refine tk (i := 10) (oi := _) (v := (.slice q ne (cw - i0))) rfl (by kernel_rfl) (by kernel_rfl) (by kernel_rfl) (fun _ _ _ h => h) (Or.inl ⟨by rfl, ?_⟩) (by assumption) ?_
          · intro w hSw
            (try dsimp only at hSw)
            have h1 := HNm.out.2.2.1
            have h2 := HNm.out.2.2.2.1
            go_simp
            try rw [← HQ.out, HNm.out.2.2.2.2]
            first | done | exact ⟨rfl, rfl⟩ | omega | (intro h; omega)
          try simp only [Act.put, List.setIfInBounds_toArray, List.set_cons_zero, List.set_cons_succ]
          refine wpAnyH_ready (rs := [11]) (by kernel_rfl) (by simp) ?_
          refine tcons (o := _) rfl (fun K hK => ?_) AllReadyH.nil
          go_simp
          refine Calls.mono (HSq.out _ _ S8) ?_
          rintro e X4 ⟨rfl, s4⟩
          refine hK.out _ _ ?_ (fun hHeld => ?_)
          · exact HK.out _ s4
          clear hK K
          try simp only [Act.put, List.setIfInBounds_toArray, List.set_cons_zero, List.set_cons_succ]
          refine tk (i := 12) (oi := _) (v := (.bool false)) rfl (by kernel_rfl) (by kernel_rfl) (by kernel_rfl) (fun _ _ _ h => h) (Or.inl ⟨by rfl, ?_⟩) (by assumption) ?_
          · intro w hSw
            (try dsimp only at hSw)
            go_simp
            first | done | exact ⟨rfl, rfl⟩ | omega | (intro h; omega)
          try simp only [Act.put, List.setIfInBounds_toArray, List.set_cons_zero, List.set_cons_succ]
          refine tk (i := 13) (oi := _) (v := (.bool false)) rfl (by kernel_rfl) (by kernel_rfl) (by kernel_rfl) (fun _ _ _ h => h) (Or.inl ⟨by rfl, ?_⟩) (by assumption) ?_
          · intro w hSw
            (try dsimp only at hSw)
            go_simp
            first | done | exact ⟨rfl, rfl⟩ | omega | (intro h; omega)
          try simp only [Act.put, List.setIfInBounds_toArray, List.set_cons_zero, List.set_cons_succ]
          refine tk (i := 14) (oi := _) (v := (.slice pe ne ce)) rfl (by kernel_rfl) (by kernel_rfl) (by kernel_rfl) (fun _ _ _ h => h) (Or.inl ⟨by rfl, ?_⟩) (by assumption) ?_
          · intro w hSw
            (try dsimp only at hSw)
            go_simp
            first | done | exact ⟨rfl, rfl⟩ | omega | (intro h; omega)
          try simp only [Act.put, List.setIfInBounds_toArray, List.set_cons_zero, List.set_cons_succ]
          refine tk (i := 15) (oi := _) (v := (.int .i64 (ne : Int))) rfl (by kernel_rfl) (by kernel_rfl) (by kernel_rfl) (fun _ _ _ h => h) (Or.inl ⟨by rfl, ?_⟩) (by assumption) ?_
          · intro w hSw
            (try dsimp only at hSw)
            go_simp
            first | done | exact ⟨rfl, rfl⟩ | omega | (intro h; omega)
          try simp only [Act.put, List.setIfInBounds_toArray, List.set_cons_zero, List.set_cons_succ]
          refine tk (i := 16) (oi := _) (v := (.slice pw nw cw)) rfl (by kernel_rfl) (by kernel_rfl) (by kernel_rfl) (fun _ _ _ h => h) (Or.inl ⟨by rfl, ?_⟩) (by assumption) ?_
          · intro w hSw
            (try dsimp only at hSw)
            go_simp
            first | done | exact ⟨rfl, rfl⟩ | omega | (intro h; omega)
          try simp only [Act.put, List.setIfInBounds_toArray, List.set_cons_zero, List.set_cons_succ]
          refine tk (i := 17) (oi := _) (v := (.int .i64 (nw : Int))) rfl (by kernel_rfl) (by kernel_rfl) (by kernel_rfl) (fun _ _ _ h => h) (Or.inl ⟨by rfl, ?_⟩) (by assumption) ?_
          · intro w hSw
            (try dsimp only at hSw)
            go_simp
            first | done | exact ⟨rfl, rfl⟩ | omega | (intro h; omega)
          try simp only [Act.put, List.setIfInBounds_toArray, List.set_cons_zero, List.set_cons_succ]
          refine tk (i := 18) (oi := _) (v := (.bool false)) rfl (by kernel_rfl) (by kernel_rfl) (by kernel_rfl) (fun _ _ _ h => h) (Or.inl ⟨by rfl, ?_⟩) (by assumption) ?_
          · intro w hSw
            (try dsimp only at hSw)
            have h1 := HA1.out
            go_simp
            first | done | exact ⟨rfl, rfl⟩ | omega | (intro h; omega)
          try simp only [Act.put, List.setIfInBounds_toArray, List.set_cons_zero, List.set_cons_succ]
          refine tk (i := 19) (oi := _) (v := (.bool false)) rfl (by kernel_rfl) (by kernel_rfl) (by kernel_rfl) (fun _ _ _ h => h) (Or.inl ⟨by rfl, ?_⟩) (by assumption) ?_
          · intro w hSw
            (try dsimp only at hSw)
            go_simp
            first | done | exact ⟨rfl, rfl⟩ | omega | (intro h; omega)
          try simp only [Act.put, List.setIfInBounds_toArray, List.set_cons_zero, List.set_cons_succ]
          refine tk (i := 20) (oi := _) (v := undef) rfl (by kernel_rfl) (by kernel_rfl) (by kernel_rfl) (fun _ _ _ h => h) (Or.inr ⟨by rfl, rfl⟩) (by assumption) ?_
          try simp only [Act.put, List.setIfInBounds_toArray, List.set_cons_zero, List.set_cons_succ]
          refine tk (i := 21) (oi := _) (v := undef) rfl (by kernel_rfl) (by kernel_rfl) (by kernel_rfl) (fun _ _ _ h => h) (Or.inr ⟨by rfl, rfl⟩) (by assumption) ?_
          try simp only [Act.put, List.setIfInBounds_toArray, List.set_cons_zero, List.set_cons_succ]
          refine tk (i := 22) (oi := _) (v := undef) rfl (by kernel_rfl) (by kernel_rfl) (by kernel_rfl) (fun _ _ _ h => h) (Or.inr ⟨by rfl, rfl⟩) (by assumption) ?_
          try simp only [Act.put, List.setIfInBounds_toArray, List.set_cons_zero, List.set_cons_succ]
          refine tk (i := 23) (oi := _) (v := undef) rfl (by kernel_rfl) (by kernel_rfl) (by kernel_rfl) (fun _ _ _ h => h) (Or.inr ⟨by rfl, rfl⟩) (by assumption) ?_
          try simp only [Act.put, List.setIfInBounds_toArray, List.set_cons_zero, List.set_cons_succ]
          refine tk (i := 24) (oi := _) (v := undef) rfl (by kernel_rfl) (by kernel_rfl) (by kernel_rfl) (fun _ _ _ h => h) (Or.inr ⟨by rfl, rfl⟩) (by assumption) ?_
          try simp only [Act.put, List.setIfInBounds_toArray, List.set_cons_zero, List.set_cons_succ]
          refine tk (i := 25) (oi := _) (v := undef) rfl (by kernel_rfl) (by kernel_rfl) (by kernel_rfl) (fun _ _ _ h => h) (Or.inr ⟨by rfl, rfl⟩) (by assumption) ?_
          try simp only [Act.put, List.setIfInBounds_toArray, List.set_cons_zero, List.set_cons_succ]
          refine tk (i := 26) (oi := _) (v := undef) rfl (by kernel_rfl) (by kernel_rfl) (by kernel_rfl) (fun _ _ _ h => h) (Or.inr ⟨by rfl, rfl⟩) (by assumption) ?_
          try simp only [Act.put, List.setIfInBounds_toArray, List.set_cons_zero, List.set_cons_succ]
          refine tk (i := 27) (oi := _) (v := undef) rfl (by kernel_rfl) (by kernel_rfl) (by kernel_rfl) (fun _ _ _ h => h) (Or.inr ⟨by rfl, rfl⟩) (by assumption) ?_
          try simp only [Act.put, List.setIfInBounds_toArray, List.set_cons_zero, List.set_cons_succ]
          refine tk (i := 28) (oi := _) (v := undef) rfl (by kernel_rfl) (by kernel_rfl) (by kernel_rfl) (fun _ _ _ h => h) (Or.inr ⟨by rfl, rfl⟩) (by assumption) ?_
          try simp only [Act.put, List.setIfInBounds_toArray, List.set_cons_zero, List.set_cons_succ]
          refine tk (i := 29) (oi := _) (v := undef) rfl (by kernel_rfl) (by kernel_rfl) (by kernel_rfl) (fun _ _ _ h => h) (Or.inr ⟨by rfl, rfl⟩) (by assumption) ?_
          try simp only [Act.put, List.setIfInBounds_toArray, List.set_cons_zero, List.set_cons_succ]
          refine tk (i := 30) (oi := _) (v := undef) rfl (by kernel_rfl) (by kernel_rfl) (by kernel_rfl) (fun _ _ _ h => h) (Or.inr ⟨by rfl, rfl⟩) (by assumption) ?_
          try simp only [Act.put, List.setIfInBounds_toArray, List.set_cons_zero, List.set_cons_succ]
          refine tk (i := 31) (oi := _) (v := undef) rfl (by kernel_rfl) (by kernel_rfl) (by kernel_rfl) (fun _ _ _ h => h) (Or.inr ⟨by rfl, rfl⟩) (by assumption) ?_
          try simp only [Act.put, List.setIfInBounds_toArray, List.set_cons_zero, List.set_cons_succ]
          refine tk (i := 32) (oi := _) (v := undef) rfl (by kernel_rfl) (by kernel_rfl) (by kernel_rfl) (fun _ _ _ h => h) (Or.inr ⟨by rfl, rfl⟩) (by assumption) ?_
          try simp only [Act.put, List.setIfInBounds_toArray, List.set_cons_zero, List.set_cons_succ]
          refine tk (i := 33) (oi := _) (v := (.bool false)) rfl (by kernel_rfl) (by kernel_rfl) (by kernel_rfl) (fun _ _ _ h => h) (Or.inl ⟨by rfl, ?_⟩) (by assumption) ?_
          · intro w hSw
            (try dsimp only at hSw)
            go_simp
            first | done | exact ⟨rfl, rfl⟩ | omega | (intro h; omega)
          try simp only [Act.put, List.setIfInBounds_toArray, List.set_cons_zero, List.set_cons_succ]
          refine tk (i := 34) (oi := _) (v := (.bool false)) rfl (by kernel_rfl) (by kernel_rfl) (by kernel_rfl) (fun _ _ _ h => h) (Or.inl ⟨by rfl, ?_⟩) (by assumption) ?_
          · intro w hSw
            (try dsimp only at hSw)
            go_simp
            first | done | exact ⟨rfl, rfl⟩ | omega | (intro h; omega)
          try simp only [Act.put, List.setIfInBounds_toArray, List.set_cons_zero, List.set_cons_succ]
          refine tk (i := 35) (oi := _) (v := (.bool false)) rfl (by kernel_rfl) (by kernel_rfl) (by kernel_rfl) (fun _ _ _ h => h) (Or.inl ⟨by rfl, ?_⟩) (by assumption) ?_
          · intro w hSw
            (try dsimp only at hSw)
            go_simp
            first | done | exact ⟨rfl, rfl⟩ | omega | (intro h; omega)
          try simp only [Act.put, List.setIfInBounds_toArray, List.set_cons_zero, List.set_cons_succ]
          refine tk (i := 36) (oi := _) (v := (.slice pe ne ce)) rfl (by kernel_rfl) (by kernel_rfl) (by kernel_rfl) (fun _ _ _ h => h) (Or.inl ⟨by rfl, ?_⟩) (by assumption) ?_
          · intro w hSw
            (try dsimp only at hSw)
            go_simp
            first | done | exact ⟨rfl, rfl⟩ | omega | (intro h; omega)
          try simp only [Act.put, List.setIfInBounds_toArray, List.set_cons_zero, List.set_cons_succ]
          refine tk (i := 37) (oi := _) (v := (.int .i64 (ne : Int))) rfl (by kernel_rfl) (by kernel_rfl) (by kernel_rfl) (fun _ _ _ h => h) (Or.inl ⟨by rfl, ?_⟩) (by assumption) ?_
          · intro w hSw
            (try dsimp only at hSw)
            go_simp
            first | done | exact ⟨rfl, rfl⟩ | omega | (intro h; omega)
          try simp only [Act.put, List.setIfInBounds_toArray, List.set_cons_zero, List.set_cons_succ]
          refine tk (i := 38) (oi := _) (v := (.bool false)) rfl (by kernel_rfl) (by kernel_rfl) (by kernel_rfl) (fun _ _ _ h => h) (Or.inl ⟨by rfl, ?_⟩) (by assumption) ?_
          · intro w hSw
            (try dsimp only at hSw)
            have h1 := HF1.out
            go_simp
            first | done | exact ⟨rfl, rfl⟩ | omega | (intro h; omega)
          try simp only [Act.put, List.setIfInBounds_toArray, List.set_cons_zero, List.set_cons_succ]
          refine tk (i := 39) (oi := _) (v := (.bool false)) rfl (by kernel_rfl) (by kernel_rfl) (by kernel_rfl) (fun _ _ _ h => h) (Or.inl ⟨by rfl, ?_⟩) (by assumption) ?_
          · intro w hSw
            (try dsimp only at hSw)
            go_simp
            first | done | exact ⟨rfl, rfl⟩ | omega | (intro h; omega)
          try simp only [Act.put, List.setIfInBounds_toArray, List.set_cons_zero, List.set_cons_succ]
          refine tk (i := 40) (oi := _) (v := undef) rfl (by kernel_rfl) (by kernel_rfl) (by kernel_rfl) (fun _ _ _ h => h) (Or.inr ⟨by rfl, rfl⟩) (by assumption) ?_
          try simp only [Act.put, List.setIfInBounds_toArray, List.set_cons_zero, List.set_cons_succ]
          refine tk (i := 41) (oi := _) (v := undef) rfl (by kernel_rfl) (by kernel_rfl) (by kernel_rfl) (fun _ _ _ h => h) (Or.inr ⟨by rfl, rfl⟩) (by assumption) ?_
          try simp only [Act.put, List.setIfInBounds_toArray, List.set_cons_zero, List.set_cons_succ]
          refine tk (i := 42) (oi := _) (v := undef) rfl (by kernel_rfl) (by kernel_rfl) (by kernel_rfl) (fun _ _ _ h => h) (Or.inr ⟨by rfl, rfl⟩) (by assumption) ?_
          try simp only [Act.put, List.setIfInBounds_toArray, List.set_cons_zero, List.set_cons_succ]
          refine tk (i := 43) (oi := _) (v := undef) rfl (by kernel_rfl) (by kernel_rfl) (by kernel_rfl) (fun _ _ _ h => h) (Or.inr ⟨by rfl, rfl⟩) (by assumption) ?_
          try simp only [Act.put, List.setIfInBounds_toArray, List.set_cons_zero, List.set_cons_succ]
          refine tk (i := 44) (oi := _) (v := undef) rfl (by kernel_rfl) (by kernel_rfl) (by kernel_rfl) (fun _ _ _ h => h) (Or.inr ⟨by rfl, rfl⟩) (by assumption) ?_
          try simp only [Act.put, List.setIfInBounds_toArray, List.set_cons_zero, List.set_cons_succ]
          refine tk (i := 45) (oi := _) (v := undef) rfl (by kernel_rfl) (by kernel_rfl) (by kernel_rfl) (fun _ _ _ h => h) (Or.inr ⟨by rfl, rfl⟩) (by assumption) ?_
          try simp only [Act.put, List.setIfInBounds_toArray, List.set_cons_zero, List.set_cons_succ]
          refine tk (i := 46) (oi := _) (v := (.bool false)) rfl (by kernel_rfl) (by kernel_rfl) (by kernel_rfl) (fun _ _ _ h => h) (Or.inl ⟨by rfl, ?_⟩) (by assumption) ?_
          · intro w hSw
            (try dsimp only at hSw)
            go_simp
            first | done | exact ⟨rfl, rfl⟩ | omega | (intro h; omega)
          try simp only [Act.put, List.setIfInBounds_toArray, List.set_cons_zero, List.set_cons_succ]
          refine tk (i := 47) (oi := _) (v := (.bool false)) rfl (by kernel_rfl) (by kernel_rfl) (by kernel_rfl) (fun _ _ _ h => h) (Or.inl ⟨by rfl, ?_⟩) (by assumption) ?_
          · intro w hSw
            (try dsimp only at hSw)
            go_simp
            first | done | exact ⟨rfl, rfl⟩ | omega | (intro h; omega)
          try simp only [Act.put, List.setIfInBounds_toArray, List.set_cons_zero, List.set_cons_succ]
          refine wpAnyH_done (by kernel_rfl) ?_ _
          refine NoPanic.normal ?_
          go_wp2_with fail
          go_meet
          exact ⟨rfl, Lib.hid (s4.out.forget (fun b hb => hb) (by simp))⟩
    case rest =>
      obtain ⟨rfl, S9⟩ := hcut
      clear S8 HP HNE HI0 HSm HSum HNm HCw3
      have KA := Lib.hid S9.out.all
      rw [HNW.out] at KA
      go_wp2_with fail
      refine KA.out.mono ?_
      rintro e X7 ⟨p7, c7, rfl, s7⟩
      have KS := Lib.hid (s7.same (r1 := (.slice p7 (nw) c7, L)) (r2 := (.slice pw (nw) cw, L)) (by simp) (by simp))
      dsimp only at KS
      clear KA S9 s7
      go_wp2_with fail
      refine KS.out.mono ?_
      rintro e X8 ⟨rfl, s8⟩
      have S10 := Lib.hid s8
      have K9 := Lib.hid (HA.out X8)
      simp only [decide_true]
      clear KS s8
      go_wp2_with fail
      refine K9.out.mono ?_
      rintro e X9 ⟨rfl, b9⟩
      go_wp2_with fail
      go_ret
      exact ⟨rfl, below_tr S10.out.lo b9⟩

end Go.Proofs.Ytfedjeojanpnpab
