/-
  TreeShape's walk, over whatever the program's tree is (TreeK).
-/
import Derived.Test.YtagjgfmkfljneaaTreePlayed
namespace Go.Proofs.Ytagjgfmkfljneaa
open Go.RowKit
set_option linter.unusedVariables false

theorem Tg.len {g : Tg} : (g.t.twigs 0 (-1)).length = g.l.length := by
  rw [RB.size_twigs, ← RB.size_toL]
  rfl
/-- A node's key is that of the entry at its place. -/
theorem Tg.key {g : Tg} {i : Nat} {x : Tw} {e : En} (hx : (g.t.twigs 0 (-1))[i]? = some x) (he : g.l[i]? = some e) : x.key = e.key := by
  have h := RB.keys_twigs g.t 0 (-1)
  have h1 : ((g.t.twigs 0 (-1)).map Tw.key)[i]? = some x.key := by rw [List.getElem?_map, hx]; rfl
  have h2 : (g.t.toL.map En.key)[i]? = some e.key := by rw [List.getElem?_map]; rw [show g.t.toL = g.l from rfl, he]; rfl
  rw [h, h2] at h1
  exact (Option.some.inj h1).symm
theorem Rises.lt {l : List En} (h : Rises l) {i : Nat} {a b : En} (ha : l[i]? = some a) (hb : l[i + 1]? = some b) : a.key.lt b.key := by
  obtain ⟨h1, rfl⟩ := List.getElem?_eq_some_iff.1 ha
  obtain ⟨h2, rfl⟩ := List.getElem?_eq_some_iff.1 hb
  exact (List.pairwise_iff_getElem.1 h) i (i + 1) h1 h2 (by omega)
theorem bits_less {n b m : Nat} (h1 : 2 ^ m ≤ n + 1) (h2 : (n + 1) / 2 ^ b = 0) : m < b := by
  have h3 : n + 1 < 2 ^ b := (Nat.div_eq_zero_iff_lt (Nat.two_pow_pos b)).1 h2
  rcases Nat.lt_or_ge m b with h | h
  · exact h
  · have := Nat.pow_le_pow_right (show 0 < 2 by decide) h
    omega
theorem bits_small {n b : Nat} (hn : n ≤ 60) (h : (n + 1) / 2 ^ b ≠ 0) : b ≤ 5 := by
  rcases Nat.lt_or_ge 5 b with h1 | h1
  · have h2 := Nat.pow_le_pow_right (show 0 < 2 by decide) (show 6 ≤ b by omega)
    exact absurd (Nat.div_eq_of_lt (by omega)) h
  · exact h1

theorem tw_at {W : World} {base n c i : Nat} {p : Option Addr} {l : List Tw} {k : Ky} {r : Bool} {u : Int} (h : W.ownsRow base 56 4 (.slice p n c) n (l.flatMap twC)) (hn : l.length = n) (hx : l[i]? = some ⟨k, r, u⟩) :
    ∃ B, p = some ⟨B, 0, none⟩ ∧ B < W.heap.size ∧ W.cell? ⟨B, i * 4, none⟩ = some (.int .u64 (k.at_ : Int)) ∧ W.cell? ⟨B, i * 4 + 1, none⟩ = some (.int .u64 (k.seq : Int)) ∧ W.cell? ⟨B, i * 4 + 2, none⟩ = some (.bool r) ∧ W.cell? ⟨B, i * 4 + 3, none⟩ = some (.int .i64 u) := by
  subst hn
  obtain ⟨hi, e⟩ := List.getElem?_eq_some_iff.1 hx
  have h1 := tw_cells h hi
  rw [e] at h1
  exact h1
theorem en_at {W : World} {base n c i : Nat} {p : Option Addr} {l : List En} {k : Ky} {v : Int} (h : W.ownsRow base 44 3 (.slice p n c) n (l.flatMap enC)) (hn : l.length = n) (hx : l[i]? = some ⟨k, v⟩) :
    ∃ B, p = some ⟨B, 0, none⟩ ∧ B < W.heap.size ∧ W.cell? ⟨B, i * 3, none⟩ = some (.int .u64 (k.at_ : Int)) ∧ W.cell? ⟨B, i * 3 + 1, none⟩ = some (.int .u64 (k.seq : Int)) ∧ W.cell? ⟨B, i * 3 + 2, none⟩ = some (.int .i64 v) := by
  subst hn
  obtain ⟨hi, e⟩ := List.getElem?_eq_some_iff.1 hx
  have h1 := en_cells h hi
  rw [e] at h1
  exact h1

theorem sh_keep {W W' : World} {ob E B i j : Nat} {v0 v1 v3 v4 v5 v6 v7 : Value} (b : Below W.drew.heap.size W.drew W') (h1 : ob < W.heap.size) (h2 : E < W.heap.size) (h3 : B < W.heap.size) (z0 : W.cell? ⟨ob, 0, none⟩ = some v0) (z1 : W.cell? ⟨ob, 1, none⟩ = some v1) (z3 : W.cell? ⟨ob, 3, none⟩ = some v3) (f0 : W.cell? ⟨E, i * 3, none⟩ = some v4) (f1 : W.cell? ⟨E, i * 3 + 1, none⟩ = some v5) (t0 : W.cell? ⟨B, j * 4, none⟩ = some v6) (t1 : W.cell? ⟨B, j * 4 + 1, none⟩ = some v7) :
    W'.cell? ⟨ob, 0, none⟩ = some v0 ∧ W'.cell? ⟨ob, 1, none⟩ = some v1 ∧ W'.cell? ⟨ob, 3, none⟩ = some v3 ∧ W'.cell? ⟨E, i * 3, none⟩ = some v4 ∧ W'.cell? ⟨E, i * 3 + 1, none⟩ = some v5 ∧ W'.cell? ⟨B, j * 4, none⟩ = some v6 ∧ W'.cell? ⟨B, j * 4 + 1, none⟩ = some v7 :=
  ⟨(b.cell (p := ⟨ob, 0, none⟩) h1).trans z0, (b.cell (p := ⟨ob, 1, none⟩) h1).trans z1, (b.cell (p := ⟨ob, 3, none⟩) h1).trans z3, (b.cell (p := ⟨E, i * 3, none⟩) h2).trans f0, (b.cell (p := ⟨E, i * 3 + 1, none⟩) h2).trans f1, (b.cell (p := ⟨B, j * 4, none⟩) h3).trans t0, (b.cell (p := ⟨B, j * 4 + 1, none⟩) h3).trans t1⟩

set_option maxHeartbeats 8000000 in
set_option maxRecDepth 100000 in
theorem treeShape_of (K : TreeK) (HA : Hid Awake) (A : Option Addr) (len cap : Nat) (z0 : List (List Value)) (w : World) (HR : Hid (RowOf [some .u8, some .u64, some .u64, some .i64] w A len cap z0)) :
    Calls Try.prog 4 #[.slice A len cap] w fun e w' => e = .returned (.bool true) ∧ Below w.heap.size w w' := by
  have R1 := Lib.hid (law_played K A len cap z0 w HR)
  go_enter Try.func4, Try.ntmps4
  go_wp2_with fail
  refine R1.out.mono ?_
  rintro e w1 ⟨a, rfl, N, g, O1, hroom⟩
  obtain ⟨tw, HTW⟩ : ∃ tw, Hid (g.t.twigs 0 (-1) = tw) := ⟨_, Lib.hid rfl⟩
  obtain ⟨l, HL⟩ : ∃ l, Hid (g.l = l) := ⟨_, Lib.hid rfl⟩
  obtain ⟨n, hn⟩ : ∃ n, l.length = n := ⟨_, rfl⟩
  have htn : tw.length = n := by rw [← HTW.out, Tg.len, HL.out, hn]
  have hn60 : n ≤ 60 := by rw [← hn, ← HL.out, ← hroom]; exact O1.ok.room
  have KS := Lib.hid O1.shape
  rw [HTW.out, htn] at KS
  have KA := Lib.hid (fun W (h : OwnT K w W a N g) => h.all)
  have KN := Lib.hid (fun W (h : OwnT K w W a N g) => h.len)
  rw [HL.out, hn] at KA KN
  have HO1 := Lib.hid O1
  have HNN := Lib.hid hn
  have HTN := Lib.hid htn
  clear R1 O1 hroom hn htn
  go_wp2_with fail
  refine KS.out.mono ?_
  rintro e w2 ⟨p, c, rfl, M2, O2, b2⟩
  have HO2 := Lib.hid O2
  have HM2 := Lib.hid M2
  clear M2 O2 b2 KS
  go_wp2_with fail
  refine (KA.out _ HO2.out).mono ?_
  rintro e w3 ⟨p3, c3, rfl, M3, O3, b3⟩
  have HO3 := Lib.hid O3
  have HM3 := Lib.hid M3
  have HS3 := Lib.hid (HM2.out.below b3)
  clear M3 O3 b3 HO2 HM2 KA
  go_wp2_with fail
  refine (KN.out _ HO3.out).mono ?_
  rintro e w4 ⟨rfl, O4, b4⟩
  have HO4 := Lib.hid O4
  have HM4 := Lib.hid (HM3.out.below b4)
  have HS4 := Lib.hid (HS3.out.below b4)
  clear O4 b4 HO3 HM3 HS3 KN
  go_wp2_with fail
  go_loopg [6, 7] (n + 1) (fun k bv cv wx => ∃ (b cur : Nat), cur = k ∧ cur = (n + 1) / 2 ^ b ∧ bv = .int .i64 (b : Int) ∧ cv = .int .i64 (cur : Int) ∧ b ≤ 6 ∧ wx = w4)
  case atStart => exact ⟨0, n + 1, rfl, by simp, rfl, by go_num, by omega, rfl⟩
  case round =>
    obtain ⟨b, cur, rfl, hcur, rfl, rfl, hb6, rfl⟩ := hrel
    by_cases hc0 : cur = 0
    · subst hc0
      obtain ⟨bh, hbal⟩ := HO1.out.ok.bal
      have hH : g.t.height ≤ 2 * b := by
        have h1 := RB.bal_height g.t true bh hbal
        have h2 := RB.bal_size g.t true bh hbal
        have h3 : g.t.size = n := by rw [← RB.size_toL, show g.t.toL = g.l from rfl, HL.out, HNN.out]
        rw [h3] at h2
        have h4 := bits_less h2 hcur.symm
        simp at h1
        omega
      have hHn : g.t.height ≤ n := by
        have h1 := RB.height_le g.t
        have h3 : g.t.size = n := by rw [← RB.size_toL, show g.t.toL = g.l from rfl, HL.out, HNN.out]
        omega
      obtain ⟨dep, hdep⟩ := RB.depths g.t 0 (-1)
      rw [HTW.out] at hdep
      have KD : Hid (∀ W, W.ownsRow w.heap.size 56 4 (.slice p n c) n (tw.flatMap twC) → ∀ i, i < n → Calls Try.prog 27 #[.slice p n c, .int .i64 (i : Int)] W fun e w' => e = .returned (.int .i64 (dep i : Nat)) ∧ w' = W) := by
        refine Lib.hid fun W h i hi => ?_
        have e1 := HTN.out
        rw [← e1] at h hi hHn ⊢
        refine law_deep p c _ tw W (by omega) h dep g.t.height hHn (fun j x hx => ?_) i hi
        obtain ⟨h1, h2, h3⟩ := hdep j x hx
        refine ⟨h1, h2, h3.imp id ?_⟩
        rintro ⟨u, h4, h5, h6⟩
        refine ⟨u, ?_, by omega, h6⟩
        have h3 : g.t.size = n := by rw [← RB.size_toL, show g.t.toL = g.l from rfl, HL.out, HNN.out]
        omega
      have HDB : Hid (∀ i, i < n → dep i ≤ 2 * b) := by
        refine Lib.hid fun i hi => ?_
        have hi' : i < tw.length := by rw [HTN.out]; exact hi
        obtain ⟨_, h2, _⟩ := hdep i _ (List.getElem?_eq_getElem hi')
        omega
      have KW : Hid (∀ W, W.ownsRow w.heap.size 56 4 (.slice p n c) n (tw.flatMap twC) → Calls Try.prog 28 #[.slice p n c, .int .i64 0, .int .i64 (n : Int), .int .i64 (-1)] W fun e w' => e = .returned (.int .i64 (bh : Int)) ∧ w' = W) := by
        refine Lib.hid fun W h => ?_
        have e1 := HTN.out
        have h3 : g.t.size = n := by rw [← RB.size_toL, show g.t.toL = g.l from rfl, HL.out, HNN.out]
        rw [← e1] at h ⊢
        have h4 := law_walk p c _ tw W (by omega) h g.t 0 (-1) true bh (fun i x hx => by rw [Nat.zero_add, ← HTW.out]; exact hx) (by omega) hbal (.inl ⟨rfl, rfl⟩)
        rw [show 0 + g.t.size = tw.length by omega] at h4
        exact h4
      have HX : Hid (∀ i, i < n → ∃ k : Ky, ∃ (r : Bool) (u v : Int), tw[i]? = some ⟨k, r, u⟩ ∧ l[i]? = some ⟨k, v⟩ ∧ -1 ≤ u ∧ u < (n : Int) ∧ u ≠ (i : Int)) := by
        refine Lib.hid fun i hi => ?_
        have hi' : i < tw.length := by rw [HTN.out]; exact hi
        have hil : i < l.length := by rw [HNN.out]; exact hi
        have hx := List.getElem?_eq_getElem hi'
        have he := List.getElem?_eq_getElem hil
        have hk : (tw[i]).key = (l[i]).key := by
          refine Tg.key (g := g) (i := i) ?_ ?_
          · rw [HTW.out]; exact hx
          · rw [HL.out]; exact he
        have h3 : g.t.size = n := by rw [← RB.size_toL, show g.t.toL = g.l from rfl, HL.out, HNN.out]
        refine ⟨(tw[i]).key, (tw[i]).red, (tw[i]).up, (l[i]).val, hx, by rw [hk]; exact he, ?_⟩
        rcases RB.ups g.t 0 (-1) i tw[i] (by rw [HTW.out]; exact hx) with ⟨h1, _⟩ | ⟨h1, h2, h4⟩
        · rw [h1]
          exact ⟨by omega, by omega, by omega⟩
        · exact ⟨by omega, by omega, by omega⟩
      have HRI : Hid (Rises l) := by
        rw [← HL.out]
        exact Lib.hid HO1.out.ok.rises
      clear hdep hbal hH hHn hcur
      go_wp2_with fail
      go_loopg [39] n (fun k v wx => ∃ (i : Nat), n - i = k ∧ i ≤ n ∧ v = .int .i64 (i : Int) ∧ Hid (Below wr.heap.size wr wx))
      case atStart => exact ⟨0, rfl, by omega, rfl, Lib.hid (Below.refl _ _)⟩
      case round =>
        obtain ⟨i, rfl, hi, rfl, HB⟩ := hrel
        by_cases hin : i = n
        · have hz : ¬ (i : Int) < (n : Int) := by omega
          clear hin
          have KW1 := Lib.hid (KW.out _ (owns_below HS4.out.row HB.out))
          go_wp2_with fail
          refine KW1.out.mono ?_
          rintro e w5 ⟨rfl, rfl⟩
          have hbh : (0 : Int) ≤ (bh : Int) := by omega
          go_wp2_with fail
          refine (HA.out _).mono ?_
          rintro e w6 ⟨rfl, b6⟩
          go_wp2_with fail
          go_ret
          exact ⟨rfl, below_tr (below_tr HO4.out.lo HB.out) b6⟩
        · have hil : i < n := by omega
          have hz : (i : Int) < (n : Int) := by omega
          obtain ⟨k, r, u, v, hx, he, hu1, hu2, hu3⟩ := HX.out i hil
          have HSr := Lib.hid (owns_below HS4.out.row HB.out)
          have HEr := Lib.hid (owns_below HM4.out.row HB.out)
          obtain ⟨B, rfl, hB, s0, s1, s2, s3⟩ := tw_at HSr.out HTN.out hx
          obtain ⟨E, rfl, hE, e0, e1, _⟩ := en_at HEr.out HNN.out he
          have B5 := (Below.refl wr.heap.size wr).alloc (Nat.le_refl _) (.cells #[.int .u64 (k.at_ : Int), .int .u64 (k.seq : Int), .bool r, .int .i64 u] 56)
          have X5 := Box.new wr 56 #[.int .u64 (k.at_ : Int), .int .u64 (k.seq : Int), .bool r, .int .i64 u]
          have f0 := (B5.cell (p := ⟨E, i * 3, none⟩) hE).trans e0
          have f1 := (B5.cell (p := ⟨E, i * 3 + 1, none⟩) hE).trans e1
          obtain ⟨d, HD⟩ : ∃ d, Hid (dep i = d) := ⟨_, Lib.hid rfl⟩
          have hd : ¬ (2 * (b : Int) < (d : Int)) := by
            have := HDB.out i hil
            have := HD.out
            omega
          have KD1 := Lib.hid (fun W h => KD.out W h i hil)
          rw [HD.out] at KD1
          have hul : decide (u < -1) = false := decide_eq_false (by omega)
          have hun : decide ((n : Int) ≤ u) = false := decide_eq_false (by omega)
          have hd' : decide (2 * (b : Int) < (d : Int)) = false := decide_eq_false hd
          have hui : (u == (i : Int)) = false := by rw [beq_eq_false_iff_ne]; exact hu3
          obtain ⟨ob, HOB⟩ : ∃ ob, Hid (wr.heap.size = ob) := ⟨_, Lib.hid rfl⟩
          have HB5 := Lib.hid (below_tr HB.out B5)
          obtain ⟨W5, HW5⟩ : ∃ W5, Hid (wr.alloc (.cells #[.int .u64 (k.at_ : Int), .int .u64 (k.seq : Int), .bool r, .int .i64 u] 56) = W5) := ⟨_, Lib.hid rfl⟩
          rw [HW5.out] at HB5 X5 f0 f1 B5
          rw [HOB.out] at X5
          have z0 : W5.cell? ⟨ob, 0, none⟩ = some (.int .u64 (k.at_ : Int)) := X5.cell 0
          have z1 : W5.cell? ⟨ob, 1, none⟩ = some (.int .u64 (k.seq : Int)) := X5.cell 1
          have z3 : W5.cell? ⟨ob, 3, none⟩ = some (.int .i64 u) := X5.cell 3
          have HS5 := Lib.hid (owns_below HS4.out.row HB5.out)
          by_cases h00 : i = 0
          · have hi0 : ¬ (0 : Int) < (i : Int) := by omega
            have hi1 : decide (0 < i) = false := by simp [h00]
            clear h00 X5
            go_upto_region 13 with fail
            rw [HW5.out, HOB.out]
            clear s0 s1 s2 s3 e0 e1 B5
            have KD2 : Hid (∀ q, Calls Try.prog 27 #[.slice (some ⟨B, 0, none⟩) n c, .int .i64 (i : Int)] (W5.drewN q) fun e w' => e = .returned (.int .i64 (d : Int)) ∧ w' = W5.drewN q) :=
              Lib.hid fun q => KD1.out _ (owns_below HS5.out (below_drewN (Below.refl _ W5) q))
            go_quiet (first | (go_at_call 27; exact Calls.quiet_of_same (KD2.out _)))
            have HBn := Lib.hid (below_tr HB5.out (below_drewN (Below.refl _ W5) nq))
            clear HB5 HS5 KD2 KD1 z0 z1 z3 f0 f1 HB
            go_wp2_with fail
            go_roundg (n - (i + 1))
            case measure => omega
            case rel => exact ⟨i + 1, rfl, by omega, by go_num, HBn⟩
          · have hi0 : (0 : Int) < (i : Int) := by omega
            have hi1 : 0 < i := by omega
            obtain ⟨j, HJ⟩ : ∃ j, Hid (i = j + 1) := ⟨i - 1, Lib.hid (by omega)⟩
            have hij : IntKind.i64.wrap ((i : Int) - 1) = (j : Int) := by have := HJ.out; rw [IntKind.wrap_i64]; omega
            have hw2 : IntKind.i64.wrap (2 * (b : Int)) = 2 * (b : Int) := by rw [IntKind.wrap_i64]; omega
            have hjn : (j : Int) < (n : Int) := by have := HJ.out; omega
            have hj0 : (0 : Int) ≤ (j : Int) := by omega
            have hjl : j < n := by have := HJ.out; omega
            obtain ⟨k', r', u', v', hx', he', _⟩ := HX.out j hjl
            obtain ⟨B', eB, hB', t0, t1, _, _⟩ := tw_at HS5.out HTN.out hx'
            cases eB
            have HLT : Hid (k'.lt k) := Lib.hid (HRI.out.lt he' (by rw [← HJ.out]; exact he))
            have KA1 : Hid (∀ W, Calls Try.prog 26 #[.agg #[.int .u64 (k'.at_ : Int), .int .u64 (k'.seq : Int)], .agg #[.int .u64 (k.at_ : Int), .int .u64 (k.seq : Int)]] W fun e w' => e = .returned (.bool true) ∧ Below W.heap.size W w') := by
              refine Lib.hid fun W => ?_
              have h := law_ahead k' k W
              rw [decide_eq_true HLT.out] at h
              exact h
            have HOBL : Hid (ob < W5.heap.size) := Lib.hid X5.lt
            have HEL : Hid (E < W5.heap.size) := Lib.hid (World.block_lt_of_cell? W5 _ f0)
            clear h00 X5 hx' he'
            go_upto_region 13 with fail
            rw [HW5.out, HOB.out]
            clear s0 s1 s2 s3 e0 e1 B5
            go_region_held3 (fun w' => w'.cell? ⟨ob, 0, none⟩ = some (.int .u64 (k.at_ : Int)) ∧ w'.cell? ⟨ob, 1, none⟩ = some (.int .u64 (k.seq : Int)) ∧ w'.cell? ⟨ob, 3, none⟩ = some (.int .i64 u) ∧ w'.cell? ⟨E, i * 3, none⟩ = some (.int .u64 (k.at_ : Int)) ∧ w'.cell? ⟨E, i * 3 + 1, none⟩ = some (.int .u64 (k.seq : Int)) ∧ w'.cell? ⟨B, j * 4, none⟩ = some (.int .u64 (k'.at_ : Int)) ∧ w'.cell? ⟨B, j * 4 + 1, none⟩ = some (.int .u64 (k'.seq : Int)))
              (first | go_keep | exact ks)
              (first
                | (go_at_call 26; refine (KA1.out _).mono ?_; rintro e w6 ⟨rfl, b6⟩; have ks := sh_keep (W := W5) b6 HOBL.out HEL.out hB' z0 z1 z3 f0 f1 t0 t1; have HS6 := owns_below HS5.out.drew b6)
                | (go_at_call 27; refine (KD1.out _ HS6).mono ?_; rintro e w7 ⟨rfl, rfl⟩))
            have HBn := Lib.hid (below_tr (below_tr HB5.out (Below.refl _ W5).drew) b6)
            clear HB5 HS5 HS6 KD1 KA1 z0 z1 z3 f0 f1 t0 t1 HB ks b6
            go_wp2_with fail
            go_roundg (n - (i + 1))
            case measure => omega
            case rel => exact ⟨i + 1, rfl, by omega, by go_num, HBn⟩
    · have hcz : (0 : Int) < (cur : Int) := by omega
      have hcl : cur ≤ 61 := by rw [hcur]; exact Nat.le_trans (Nat.div_le_self _ _) (by omega)
      have hq : (cur : Int).tdiv 2 = ((cur / 2 : Nat) : Int) := by
        rw [Int.tdiv_eq_ediv_of_nonneg (by omega)]
        omega
      have HC2 : Hid (cur / 2 = (n + 1) / 2 ^ (b + 1)) := by
        rw [hcur, Nat.div_div_eq_div_mul, Nat.pow_succ]
        exact Lib.hid rfl
      have hb5 : b ≤ 5 := bits_small hn60 (by rw [← hcur]; exact hc0)
      clear hcur
      go_wp2_with fail
      go_roundg (cur / 2)
      case measure => omega
      case rel => exact ⟨b + 1, cur / 2, rfl, HC2.out, by go_num, by go_num, by omega, rfl⟩

end Go.Proofs.Ytagjgfmkfljneaa
