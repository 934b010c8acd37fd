/-
  TreeNext's walk, over whatever the program's tree is (TreeK).
-/
import Derived.Test.YtagjgfmkfljneaaTreeShapePlayed
import Derived.Test.YtagjgfmkfljneaaTreeAwake
namespace Go.Proofs.Ytagjgfmkfljneaa
open Go.RowKit
set_option linter.unusedVariables false

theorem RowOf.below {ks : List (Option IntKind)} {w W : World} {A : Option Addr} {len cap : Nat} {rows : List (List Value)} (h : RowOf ks w A len cap rows) (b : Below w.heap.size w W) : RowOf ks W A len cap rows := by
  refine ⟨h.1, h.2.1, fun i hi => ?_⟩
  obtain ⟨h1, a, h2, h3⟩ := h.2.2 i hi
  exact ⟨h1, a, h2, fun j u hu => (b.cell (World.block_lt_of_cell? w _ (h3 j u hu))).trans (h3 j u hu)⟩
theorem next_at : ∀ {l : List En} (h : Rises l) {i : Nat} {e : En}, l[i]? = some e → nextL e.key l = l[i + 1]?
  | [], _, i, e, he => by simp at he
  | a :: t, h, 0, e, he => by
    obtain ⟨h1, h2⟩ := List.pairwise_cons.1 h
    have e1 : a = e := Option.some.inj he
    subst e1
    unfold nextL
    rw [List.find?_cons, decide_eq_false (Ky.lt_irrefl _)]
    cases t with
    | nil => rfl
    | cons b t =>
      show List.find? _ (b :: t) = _
      rw [List.find?_cons, decide_eq_true (h1 b (by simp))]
      rfl
  | a :: t, h, i + 1, e, he => by
    obtain ⟨h1, h2⟩ := List.pairwise_cons.1 h
    have he' : t[i]? = some e := he
    have ih := next_at h2 he'
    unfold nextL at ih ⊢
    rw [List.find?_cons, decide_eq_false (Ky.lt_asymm (h1 e (List.mem_of_getElem? he')))]
    exact ih
theorem next_first {k : Ky} {l : List En} {i : Nat} {e : En} (he : l[i]? = some e) (hb : ∀ x, x ∈ l.take i → ¬ k.lt x.key) (hk : k.lt e.key) : nextL k l = some e := by
  obtain ⟨hi, e1⟩ := List.getElem?_eq_some_iff.1 he
  have e2 : l.take i ++ e :: l.drop (i + 1) = l := by rw [← e1, ← List.drop_eq_getElem_cons hi, List.take_append_drop]
  unfold nextL
  rw [← e2, List.find?_append]
  have h1 : (l.take i).find? (fun e => decide (k.lt e.key)) = none := List.find?_eq_none.2 fun x hx => by simpa using hb x hx
  rw [h1, List.find?_cons, decide_eq_true hk]
  rfl
theorem next_none {k : Ky} {l : List En} (hb : ∀ x, x ∈ l → ¬ k.lt x.key) : nextL k l = none := List.find?_eq_none.2 fun x hx => by simpa using hb x hx

/-- The tree, its entries told, and a box of the call's own. -/
structure NxAt (K : TreeK) (w W : World) (a : Addr) (N : Nat → Prop) (g : Tg) (p : Option Addr) (n c xb : Nat) (l : List En) (e : En) : Prop where
  own : OwnT K w W a N g
  all : MineT w W N 44 3 (.slice p n c) n (l.flatMap enC)
  box : Box W xb 44 (enA e)
  nq : ¬ N xb
  ne : (Value.slice p n c).ownBlock ≠ some xb
  hq : w.heap.size ≤ xb
section
variable {K : TreeK} {w W W' : World} {a : Addr} {N : Nat → Prop} {g : Tg} {p : Option Addr} {n c xb : Nat} {l : List En} {e : En}
theorem NxAt.below (h : NxAt K w W a N g p n c xb l e) (b : Below W.heap.size W W') : NxAt K w W' a N g p n c xb l e :=
  ⟨h.own.below b, h.all.below b, h.box.below b h.box.lt, h.nq, h.ne, h.hq⟩
theorem OwnT.set {q i : Nat} {u : Value} (h : OwnT K w W a N g) (hq : ¬ N q) (hw : w.heap.size ≤ q) : OwnT K w (W.setCell ⟨q, i, none⟩ u) a N g :=
  ⟨K.kept h.at_ (fun k hk => Below.heap_setCell W ⟨q, i, none⟩ u k (fun e => hq (by have : k = q := e; rw [← this]; exact hk))) (by simp), h.ok, h.new, h.lo.setCell (p := ⟨q, i, none⟩) hw u⟩
theorem MineT.set {t : TypeId} {sz : Nat} {v u : Value} {m i q : Nat} {xs : List Value} (h : MineT w W N t sz v m xs) (hne : v.ownBlock ≠ some q) : MineT w (W.setCell ⟨q, i, none⟩ u) N t sz v m xs := ⟨own_set h.row hne, h.off⟩
theorem NxAt.put (h : NxAt K w W a N g p n c xb l e) (x : En) : NxAt K w (((W.setCell ⟨xb, 0, none⟩ (.int .u64 (x.key.at_ : Int))).setCell ⟨xb, 1, none⟩ (.int .u64 (x.key.seq : Int))).setCell ⟨xb, 2, none⟩ (.int .i64 x.val)) a N g p n c xb l x :=
  ⟨((h.own.set h.nq h.hq).set h.nq h.hq).set h.nq h.hq, ((h.all.set h.ne).set h.ne).set h.ne, ((h.box.set 0 _).set 1 _).set 2 _, h.nq, h.ne, h.hq⟩
theorem NxAt.cells (h : NxAt K w W a N g p n c xb l e) : W.cell? ⟨xb, 0, none⟩ = some (.int .u64 (e.key.at_ : Int)) ∧ W.cell? ⟨xb, 1, none⟩ = some (.int .u64 (e.key.seq : Int)) ∧ W.cell? ⟨xb, 2, none⟩ = some (.int .i64 e.val) ∧ ∀ i, W.frozen? ⟨xb, i, none⟩ = false :=
  ⟨h.box.cell 0, h.box.cell 1, h.box.cell 2, h.box.frozen⟩
end

set_option maxHeartbeats 8000000 in
set_option maxRecDepth 100000 in
theorem treeNext_of (K : TreeK) (HA : Hid Awake) (A : Option Addr) (len cap : Nat) (z0 : List (List Value)) (k : Ky) (hk : k.Fits) (w : World) (HR : Hid (RowOf [some .u8, some .u64, some .u64, some .i64] w A len cap z0)) :
    Calls Try.prog 5 #[.slice A len cap, kyV k] w fun e w' => e = .returned (.bool true) ∧ Below w.heap.size w w' := by
  unfold kyV
  obtain ⟨kb, HKB⟩ : ∃ kb, Hid (w.heap.size = kb) := ⟨_, Lib.hid rfl⟩
  obtain ⟨W0, HW0⟩ : ∃ W, Hid (w.alloc (.cells #[.int .u64 (k.at_ : Int), .int .u64 (k.seq : Int)] 33) = W) := ⟨_, Lib.hid rfl⟩
  have B0 : Hid (Below w.heap.size w W0) := by
    rw [← HW0.out]
    exact Lib.hid ((Below.refl _ w).alloc (Nat.le_refl _) _)
  have X0 : Hid (Box W0 kb 33 #[.int .u64 (k.at_ : Int), .int .u64 (k.seq : Int)]) := by
    rw [← HW0.out, ← HKB.out]
    exact Lib.hid (Box.new _ _ _)
  have R1 := Lib.hid (law_played K A len cap z0 W0 (Lib.hid (HR.out.below B0.out)))
  go_enter Try.func5, Try.ntmps5
  go_upto_region 1 with fail
  rw [HW0.out, HKB.out]
  go_wp2_with fail
  refine R1.out.mono ?_
  rintro e w1 ⟨a, rfl, N, g, O1, hroom⟩
  obtain ⟨l, HL⟩ : ∃ l, Hid (g.l = l) := ⟨_, Lib.hid rfl⟩
  obtain ⟨n, hn⟩ : ∃ n, l.length = n := ⟨_, rfl⟩
  have hn60 : n ≤ 60 := by rw [← hn, ← HL.out, ← hroom]; exact O1.ok.room
  have HRI : Hid (Rises l) := by rw [← HL.out]; exact Lib.hid O1.ok.rises
  have HFI : Hid (∀ e, e ∈ l → e.Fits) := by rw [← HL.out]; exact Lib.hid O1.ok.fits
  have KA := Lib.hid O1.all
  have KF := Lib.hid (fun W (h : OwnT K W0 W a N g) => h.first)
  have KX := Lib.hid (fun W (h : OwnT K W0 W a N g) (k : Ky) (hk : k.Fits) => h.next k hk)
  rw [HL.out, hn] at KA
  rw [HL.out] at KF KX
  have HNN := Lib.hid hn
  clear R1 O1 hroom hn HW0 HKB
  go_wp2_with fail
  refine KA.out.mono ?_
  rintro e w2 ⟨p, c, rfl, M2, O2, b2⟩
  have HO2 := Lib.hid O2
  have HM2 := Lib.hid M2
  clear M2 O2 b2 KA
  go_wp2_with fail
  refine (KF.out _ HO2.out).mono ?_
  rintro e w3 ⟨rfl, O3, b3⟩
  obtain ⟨x0, hx0⟩ : ∃ x, l.head?.getD noEn = x := ⟨_, rfl⟩
  have hov : outE l.head? = .tuple #[.agg #[.int .u64 (x0.key.at_ : Int), .int .u64 (x0.key.seq : Int), .int .i64 x0.val], .bool l.head?.isSome] := by rw [← hx0]; rfl
  have HN3 : Hid (NxAt K W0 (w3.alloc (.cells #[.int .u64 (x0.key.at_ : Int), .int .u64 (x0.key.seq : Int), .int .i64 x0.val] 44)) a N g p n c w3.heap.size l x0) := by
    have bl := (Below.refl w3.heap.size w3).alloc (Nat.le_refl _) (.cells #[.int .u64 (x0.key.at_ : Int), .int .u64 (x0.key.seq : Int), .int .i64 x0.val] 44)
    have m3 := HM2.out.below b3
    refine Lib.hid ⟨O3.below bl, m3.below bl, Box.new _ _ _, fun h => absurd (K.lt O3.at_ _ h) (Nat.lt_irrefl _), fun e => ?_, O3.lo.size⟩
    have := (m3.row.lt _ e).2
    omega
  rw [hov]
  have HX0 := Lib.hid hx0
  clear hov hx0 O3 b3 HO2 HM2 KF
  go_upto_region 4 with fail
  obtain ⟨xb, hxb⟩ : ∃ q, w3.heap.size = q := ⟨_, rfl⟩
  obtain ⟨W3, HW3⟩ : ∃ W, Hid (w3.alloc (.cells #[.int .u64 (x0.key.at_ : Int), .int .u64 (x0.key.seq : Int), .int .i64 x0.val] 44) = W) := ⟨_, Lib.hid rfl⟩
  rw [hxb, HW3.out] at HN3
  rw [hxb, HW3.out]
  clear hxb HW3
  go_wp2_with fail
  go_loopg [8, 25] n (fun q ov iv wx => ∃ (i : Nat), n - i = q ∧ i ≤ n ∧ ov = .bool l[i]?.isSome ∧ iv = .int .i64 (i : Int) ∧ Hid (NxAt K W0 wx a N g p n c xb l (l[i]?.getD noEn)))
  case atStart =>
    refine ⟨0, rfl, by omega, by rw [List.head?_eq_getElem?], rfl, ?_⟩
    rw [← List.head?_eq_getElem?, HX0.out]
    exact HN3
  case round =>
    obtain ⟨i, rfl, hi, rfl, rfl, HI⟩ := hrel
    clear HN3
    by_cases hin : i = n
    · have hz : ¬ (i : Int) < (n : Int) := by omega
      have hno : l[i]? = none := List.getElem?_eq_none (by rw [HNN.out]; omega)
      rw [hno] at HI
      rw [hno]
      have hnb : (none : Option En).isSome = false := rfl
      rw [hnb]
      have HOn := Lib.hid HI.out.own
      have HAn := Lib.hid HI.out.all
      have XK := X0.out.below (HI.out.own.lo) X0.out.lt
      have u0 : wr.cell? ⟨kb, 0, none⟩ = some (.int .u64 (k.at_ : Int)) := XK.cell 0
      have u1 : wr.cell? ⟨kb, 1, none⟩ = some (.int .u64 (k.seq : Int)) := XK.cell 1
      have KX1 := Lib.hid (KX.out _ HOn.out k hk)
      unfold kyV at KX1
      clear hin hno hnb HI XK
      go_wp2_with fail
      refine KX1.out.mono ?_
      rintro e w5 ⟨rfl, O5, b5⟩
      obtain ⟨o, HO⟩ : ∃ o, Hid (nextL k l = o) := ⟨_, Lib.hid rfl⟩
      rw [HO.out]
      obtain ⟨y, hy⟩ : ∃ y, o.getD noEn = y := ⟨_, rfl⟩
      have hov : outE o = .tuple #[.agg #[.int .u64 (y.key.at_ : Int), .int .u64 (y.key.seq : Int), .int .i64 y.val], .bool o.isSome] := by rw [← hy]; rfl
      rw [hov]
      have HY := Lib.hid hy
      have B6 := (Below.refl w5.heap.size w5).alloc (Nat.le_refl _) (.cells #[.int .u64 (y.key.at_ : Int), .int .u64 (y.key.seq : Int), .int .i64 y.val] 44)
      have X6 := Box.new w5 44 #[.int .u64 (y.key.at_ : Int), .int .u64 (y.key.seq : Int), .int .i64 y.val]
      have HA6 := Lib.hid ((HAn.out.below b5).below B6)
      have HO6 := Lib.hid (O5.below B6)
      clear hov hy O5 b5 u0 u1 HOn HAn KX1 B6 hi
      go_upto_region 14 with fail
      obtain ⟨yb, hyb⟩ : ∃ q, w5.heap.size = q := ⟨_, rfl⟩
      obtain ⟨W6, HW6⟩ : ∃ W, Hid (w5.alloc (.cells #[.int .u64 (y.key.at_ : Int), .int .u64 (y.key.seq : Int), .int .i64 y.val] 44) = W) := ⟨_, Lib.hid rfl⟩
      rw [hyb, HW6.out] at X6
      rw [HW6.out] at HA6 HO6
      rw [hyb, HW6.out]
      have HX6 := Lib.hid X6
      have HXK := Lib.hid (X0.out.below HO6.out.lo X0.out.lt)
      clear hyb HW6 X6
      go_wp2_with fail
      go_loopg [55] n (fun q iv wx => ∃ (i : Nat), n - i = q ∧ i ≤ n ∧ iv = .int .i64 (i : Int) ∧ Hid (∀ x, x ∈ l.take i → ¬ k.lt x.key) ∧ Hid (Below W6.heap.size W6 wx))
      case atStart => exact ⟨0, rfl, by omega, rfl, Lib.hid (fun x hx => by simp at hx), Lib.hid (Below.refl _ _)⟩
      case round =>
        obtain ⟨i, rfl, hi, rfl, HT, HB⟩ := hrel
        by_cases hin : i = n
        · have hz : ¬ (i : Int) < (n : Int) := by omega
          have ho : o = none := by
            rw [← HO.out]
            refine next_none fun x hx => HT.out x ?_
            rw [List.take_of_length_le (by rw [HNN.out]; omega)]
            exact hx
          subst ho
          have hnb : (none : Option En).isSome = false := rfl
          rw [hnb]
          clear hin hnb
          go_wp2_with fail
          refine (HA.out _).mono ?_
          rintro e w9 ⟨rfl, b9⟩
          go_wp2_with fail
          go_ret
          exact ⟨rfl, below_tr (below_tr (below_tr B0.out HO6.out.lo) HB.out) b9⟩
        · have hil : i < n := by omega
          have hz : (i : Int) < (n : Int) := by omega
          obtain ⟨e, he⟩ : ∃ e, l[i]? = some e := ⟨l[i]'(by rw [HNN.out]; exact hil), List.getElem?_eq_getElem _⟩
          obtain ⟨B, rfl, hB, s0, s1, s2⟩ := en_at (HA6.out.below HB.out).row HNN.out he
          have B7 := (Below.refl wr.heap.size wr).alloc (Nat.le_refl _) (.cells #[.int .u64 (e.key.at_ : Int), .int .u64 (e.key.seq : Int), .int .i64 e.val] 44)
          have X7 := Box.new wr 44 #[.int .u64 (e.key.at_ : Int), .int .u64 (e.key.seq : Int), .int .i64 e.val]
          have HB7 := Lib.hid (below_tr HB.out B7)
          go_upto_region 17 with fail
          obtain ⟨eb, heb⟩ : ∃ q, wr.heap.size = q := ⟨_, rfl⟩
          obtain ⟨W7, HW7⟩ : ∃ W, Hid (wr.alloc (.cells #[.int .u64 (e.key.at_ : Int), .int .u64 (e.key.seq : Int), .int .i64 e.val] 44) = W) := ⟨_, Lib.hid rfl⟩
          rw [heb, HW7.out] at X7
          rw [HW7.out] at HB7
          rw [heb, HW7.out]
          have XK := HXK.out.below HB7.out HXK.out.lt
          have u0 : W7.cell? ⟨kb, 0, none⟩ = some (.int .u64 (k.at_ : Int)) := XK.cell 0
          have u1 : W7.cell? ⟨kb, 1, none⟩ = some (.int .u64 (k.seq : Int)) := XK.cell 1
          have t0 : W7.cell? ⟨eb, 0, none⟩ = some (.int .u64 (e.key.at_ : Int)) := X7.cell 0
          have t1 : W7.cell? ⟨eb, 1, none⟩ = some (.int .u64 (e.key.seq : Int)) := X7.cell 1
          have KH := Lib.hid (law_ahead k e.key W7)
          unfold kyV at KH
          have HX7 := Lib.hid X7
          clear X7 XK B7 heb HW7 s0 s1 s2 HB
          by_cases hlt : k.lt e.key
          · rw [decide_eq_true hlt] at KH
            have ho : o = some e := by
              rw [← HO.out]
              exact next_first he HT.out hlt
            subst ho
            have ey : e = y := HY.out
            subst ey
            have hsb : (some e : Option En).isSome = true := rfl
            rw [hsb]
            clear hsb hlt hin he
            go_wp2_with fail
            refine KH.out.mono ?_
            rintro e' w8 ⟨rfl, b8⟩
            have X8 := HX7.out.below b8 HX7.out.lt
            have Y8 := (HX6.out.below HB7.out HX6.out.lt).below b8 (HX6.out.below HB7.out HX6.out.lt).lt
            have r0 : w8.cell? ⟨eb, 0, none⟩ = some (.int .u64 (e.key.at_ : Int)) := X8.cell 0
            have r1 : w8.cell? ⟨eb, 1, none⟩ = some (.int .u64 (e.key.seq : Int)) := X8.cell 1
            have r2 : w8.cell? ⟨eb, 2, none⟩ = some (.int .i64 e.val) := X8.cell 2
            have v0 : w8.cell? ⟨yb, 0, none⟩ = some (.int .u64 (e.key.at_ : Int)) := Y8.cell 0
            have v1 : w8.cell? ⟨yb, 1, none⟩ = some (.int .u64 (e.key.seq : Int)) := Y8.cell 1
            have v2 : w8.cell? ⟨yb, 2, none⟩ = some (.int .i64 e.val) := Y8.cell 2
            have HB8 := Lib.hid (below_tr HB7.out b8)
            clear X8 Y8 b8 u0 u1 t0 t1 KH
            go_wp2_with fail
            refine (HA.out _).mono ?_
            rintro e' w9 ⟨rfl, b9⟩
            go_wp2_with fail
            go_ret
            exact ⟨rfl, below_tr (below_tr (below_tr B0.out HO6.out.lo) HB8.out) b9⟩
          · rw [decide_eq_false hlt] at KH
            have HT2 : Hid (∀ x, x ∈ l.take (i + 1) → ¬ k.lt x.key) := by
              refine Lib.hid fun x hx => ?_
              obtain ⟨h1, h2⟩ := List.getElem?_eq_some_iff.1 he
              rw [List.take_succ_eq_append_getElem h1] at hx
              rcases List.mem_append.1 hx with h3 | h3
              · exact HT.out x h3
              · rw [List.mem_singleton.1 h3, h2]
                exact hlt
            clear hlt hin he
            go_wp2_with fail
            refine KH.out.mono ?_
            rintro e' w8 ⟨rfl, b8⟩
            have HB8 := Lib.hid (below_tr HB7.out b8)
            clear b8 u0 u1 t0 t1 KH HX7 HB7
            go_wp2_with fail
            go_roundg (n - (i + 1))
            case measure => omega
            case rel => exact ⟨i + 1, rfl, by omega, by go_num, HT2, HB8⟩
    · have hil : i < n := by omega
      have hz : (i : Int) < (n : Int) := by omega
      obtain ⟨e, he⟩ : ∃ e, l[i]? = some e := ⟨l[i]'(by rw [HNN.out]; exact hil), List.getElem?_eq_getElem _⟩
      rw [he] at HI
      rw [he]
      have hsb : (some e : Option En).isSome = true := rfl
      have hsg : (some e : Option En).getD noEn = e := rfl
      rw [hsb]
      rw [hsg] at HI
      obtain ⟨f, hf⟩ : ∃ f, (l[i + 1]?).getD noEn = f := ⟨_, rfl⟩
      have KX1 := Lib.hid (KX.out _ (HI.out.own.below (Below.refl _ wr).drew) e.key (HFI.out e (List.mem_of_getElem? he)).1)
      have KX2 : Hid (∀ W, OwnT K W0 W a N g → Calls Try.prog 17 #[.pointer (some a), .agg #[.int .u64 (e.key.at_ : Int), .int .u64 (e.key.seq : Int)]] W fun e W' => e = .returned (.tuple #[.agg #[.int .u64 (f.key.at_ : Int), .int .u64 (f.key.seq : Int), .int .i64 f.val], .bool l[i + 1]?.isSome]) ∧ OwnT K W0 W' a N g ∧ Below W.heap.size W W') := by
        refine Lib.hid fun W h => ?_
        have h1 := KX.out W h e.key (HFI.out e (List.mem_of_getElem? he)).1
        rw [next_at HRI.out he] at h1
        rw [← hf]
        exact h1
      obtain ⟨B, rfl, hB, s0, s1, s2⟩ := en_at HI.out.all.row HNN.out he
      obtain ⟨c0, c1, c2, _⟩ := HI.out.cells
      clear KX1 hsb hsg hin he
      go_upto_region 7 with fail
      go_quiet (fail)
      have HI2 := Lib.hid (HI.out.below (below_drewN (Below.refl _ wr) nq))
      clear HI s0 s1 s2
      go_wp2_with fail
      refine (KX2.out _ HI2.out.own).mono ?_
      rintro e' w5 ⟨rfl, _, b5⟩
      have HI5 := Lib.hid (HI2.out.below b5)
      have HE := Lib.hid (HI5.out.put f)
      obtain ⟨d0, d1, d2, df⟩ := HI5.out.cells
      have df0 := df 0
      have df1 := df 1
      have df2 := df 2
      rw [← hf] at HE
      have HF := Lib.hid hf
      clear b5 c0 c1 c2 HI2 HI5 KX2 hf df
      go_wp2_with fail
      rw [HF.out] at HE
      go_roundg (n - (i + 1))
      case measure => omega
      case rel => exact ⟨i + 1, rfl, by omega, rfl, by go_num, by rw [HF.out]; exact HE⟩

end Go.Proofs.Ytagjgfmkfljneaa
