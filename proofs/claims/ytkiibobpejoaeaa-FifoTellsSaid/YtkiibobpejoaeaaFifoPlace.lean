/-
  The program's own queue: where a key stands in a row, whether it is there, and whether one comes in order.
-/
import Derived.Test.YtkiibobpejoaeaaFifoOwn
import Derived.StillTailTactics
import Derived.Shelf.Abstract
namespace Go.Proofs.Ytkiibobpejoaeaa
open Go.RowKit
set_option linter.unusedVariables false
set_option maxRecDepth 100000
set_option linter.unusedSimpArgs false

theorem key_eql (a k : Ky) (W : World) : (binOp .eql 68 (.agg #[.int .u64 (a.at_ : Int), .int .u64 (a.seq : Int)]) (.agg #[.int .u64 (k.at_ : Int), .int .u64 (k.seq : Int)])).run Try.prog W = .ok (.bool (decide (a = k))) W := by
  by_cases h0 : a.at_ = k.at_
  · by_cases h1 : a.seq = k.seq
    · have he : a = k := by
        cases a; cases k
        simp only at h0 h1
        rw [h0, h1]
      have : decide (a = k) = true := by simp [he]
      rw [this, he]
      go_simp
    · have he : decide (a = k) = false := by
        rw [decide_eq_false_iff_not]
        intro e
        exact h1 (by rw [e])
      have h1z : ((a.seq : Int) == (k.seq : Int)) = false := by rw [beq_eq_false_iff_ne]; omega
      rw [he, h0]
      go_simp
  · have he : decide (a = k) = false := by
      rw [decide_eq_false_iff_not]
      intro e
      exact h0 (by rw [e])
    have h0z : ((a.at_ : Int) == (k.at_ : Int)) = false := by rw [beq_eq_false_iff_ne]; omega
    rw [he]
    go_simp
set_option maxHeartbeats 2000000 in
theorem f_clo {W : World} {rb kb : Nat} {v : Value} {r : List En} (hv : W.cell? ⟨rb, 0, none⟩ = some v) (h : RowAt W v r) {k : Ky} (hk0 : W.cell? ⟨kb, 0, none⟩ = some (.int .u64 (k.at_ : Int))) (hk1 : W.cell? ⟨kb, 1, none⟩ = some (.int .u64 (k.seq : Int))) {i : Nat} {x : En} (hx : r[i]? = some x) :
    Calls Try.prog 81 (#[.int .i64 (i : Int)] ++ #[.pointer (some ⟨rb, 0, none⟩), .pointer (some ⟨kb, 0, none⟩)]) W fun e w' => e = .returned (.bool (!decide (x.key.lt k))) ∧ Below W.heap.size W w' := by
  obtain ⟨p, c, rfl, h2, h3, h4⟩ := h
  obtain ⟨g, o, rfl, x0, x1, x2⟩ := h4 i x hx
  have hi := (List.getElem?_eq_some_iff.1 hx).1
  have hiz : (i : Int) < (r.length : Int) := by omega
  have hi0 : (0 : Int) ≤ (i : Int) := by omega
  have HF := Lib.hid (fun W => f_before x.key k W)
  unfold kyV at HF
  clear h4 hx hi h2 h3
  go_enter Try.func81, Try.ntmps81
  go_upto_region 1 with fail
  go_still_tail 6, (by kernel_rfl)
  change wpList _ _ _ _ _ W.drew
  go_wp2_with fail
  refine (HF.out _).mono ?_
  rintro e w1 ⟨rfl, b1⟩
  have HB := Lib.hid (below_tr (Below.refl _ W).drew b1)
  clear b1 HF
  go_wp2_with fail
  go_ret
  exact ⟨rfl, HB.out⟩
set_option maxHeartbeats 2000000 in
theorem f_place {W : World} {v : Value} {r : List En} (h : RowAt W v r) (hr : Rises r) (hl : r.length ≤ 65536) (k : Ky) :
    Calls Try.prog 60 #[v, kyV k] W fun e w' => e = .returned (.int .i64 (below k r : Nat)) ∧ Below W.heap.size W w' := by
  unfold kyV
  have bl := (((Below.refl _ W).alloc (Nat.le_refl _) (.cells #[v] 110)).alloc (by rw [World.size_alloc]; omega) (.cells #[.int .u64 (k.at_ : Int), .int .u64 (k.seq : Int)] 68))
  have y1 := (Box.new W 110 #[v]).alloc (.cells #[.int .u64 (k.at_ : Int), .int .u64 (k.seq : Int)] 68)
  have y2 := Box.new (W.alloc (.cells #[v] 110)) 68 #[.int .u64 (k.at_ : Int), .int .u64 (k.seq : Int)]
  rw [World.size_alloc] at y2
  have hR := h.below bl
  obtain ⟨rb, HRb⟩ : ∃ rb, Hid (W.heap.size = rb) := ⟨_, Lib.hid rfl⟩
  obtain ⟨W1, HW⟩ : ∃ W1, Hid ((W.alloc (.cells #[v] 110)).alloc (.cells #[.int .u64 (k.at_ : Int), .int .u64 (k.seq : Int)] 68) = W1) := ⟨_, Lib.hid rfl⟩
  rw [HW.out] at y1 y2 bl hR
  rw [HRb.out] at y1 y2
  have hr1 := y1.lt
  have hr2 := y2.lt
  have hf : Hid (∀ (W' : World) (i : Nat), Below W1.heap.size W1 W' → i < r.length → Calls Try.prog 81 (#[.int .i64 (i : Int)] ++ #[.pointer (some ⟨rb, 0, none⟩), .pointer (some ⟨rb + 1, 0, none⟩)]) W' fun e w' => e = .returned (.bool (decide (below k r ≤ i))) ∧ Below W'.heap.size W' w') := by
    refine Lib.hid fun W' i b hi => ?_
    have hx : r[i]? = some r[i] := List.getElem?_eq_getElem hi
    have c1 := f_clo (rb := rb) (kb := rb + 1) (k := k) (v := v) ((y1.below b hr1).cell 0) (hR.below b) ((y2.below b hr2).cell 0) ((y2.below b hr2).cell 1) hx
    have e : (!decide (r[i].key.lt k)) = decide (below k r ≤ i) := by
      by_cases c : below k r ≤ i
      · rw [decide_eq_true c, decide_eq_false (below_ge hr c hx)]; rfl
      · rw [decide_eq_false c, decide_eq_true (below_lt (by omega) hx)]; rfl
    rw [e] at c1
    exact c1
  have eg : ∀ args w, (callFunc 81 args).run Try.prog w = .ok (.enter 81 args) w := enters_of Try.func81 (by kernel_rfl) rfl
  have HS := Lib.hid (f_search 81 #[.pointer (some ⟨rb, 0, none⟩), .pointer (some ⟨rb + 1, 0, none⟩)] r.length (below k r) below_le hl W1 hf eg)
  have HBl := Lib.hid bl
  have y0 := y1.cell 0
  obtain ⟨p, c, rfl, _⟩ := h
  obtain ⟨j, Hj⟩ : ∃ j, Hid (below k r = j) := ⟨_, Lib.hid rfl⟩
  rw [Hj.out] at HS ⊢
  clear hf eg y1 y2 bl hR hr1 hr2
  go_enter Try.func60, Try.ntmps60
  go_upto_region 1 with fail
  rw [HW.out, HRb.out]
  go_wp2_with fail
  refine HS.out.mono ?_
  rintro e w1 ⟨rfl, b1⟩
  clear HS
  go_wp2_with fail
  go_ret
  exact ⟨rfl, below_tr HBl.out b1⟩

set_option maxHeartbeats 4000000 in
set_option maxRecDepth 100000 in
theorem f_has {w : World} {b gone : Nat} {ta : Addr} {NT : Nat → Prop} {rv : Value} {P r : List En} {tg : Tg} {g : Fg} (h : FLie w b ta NT rv gone P r tg g) (hsz : r.length ≤ 65536) (k : Ky) (hk : k.Fits) :
    Calls Try.prog 49 #[.pointer (some ⟨b, 0, none⟩), kyV k] w fun e w' => e = .returned (.bool (getL k g.l).isSome) ∧ Below w.heap.size w w' := by
  have bl := (Below.refl _ w).alloc (Nat.le_refl _) (.cells #[.int .u64 (k.at_ : Int), .int .u64 (k.seq : Int)] 68)
  have y1 := Box.new w 68 #[.int .u64 (k.at_ : Int), .int .u64 (k.seq : Int)]
  obtain ⟨kb, HKb⟩ : ∃ kb, Hid (w.heap.size = kb) := ⟨_, Lib.hid rfl⟩
  obtain ⟨W1, HW⟩ : ∃ W1, Hid (w.alloc (.cells #[.int .u64 (k.at_ : Int), .int .u64 (k.seq : Int)] 68) = W1) := ⟨_, Lib.hid rfl⟩
  rw [HW.out] at y1 bl
  rw [HKb.out] at y1
  have HY := Lib.hid y1
  have HB1 := Lib.hid bl
  have HL := Lib.hid (h.below bl)
  have HK := Lib.hid hk
  have hpf := h.parts.has k
  have HRi := Lib.hid h.parts.rr
  have KW := Lib.hid (f_waiting HL.out.box HL.out.row HL.out.drop HL.out.gl)
  clear bl y1 h
  unfold kyV
  go_enter Try.func49, Try.ntmps49
  go_upto_region 1 with fail
  rw [HW.out, HKb.out]
  go_upto_region 2 with (go_at_call 57; refine KW.out.mono ?_; rintro e W2 ⟨v, rfl, hR, b2⟩)
  have HB2 := Lib.hid (below_tr HB1.out b2)
  have HY2 := Lib.hid (HY.out.below b2 HY.out.lt)
  have HL2 := Lib.hid (HL.out.below b2)
  have KP := Lib.hid (f_place hR HRi.out hsz k)
  unfold kyV at KP
  have HR2 := Lib.hid hR
  have c0 := HY2.out.cell 0
  have c1 := HY2.out.cell 1
  clear KW HY b2 hR HL HB1
  go_upto_region 3 with (go_at_call 60; refine KP.out.mono ?_; rintro e W3 ⟨rfl, b3⟩)
  have HB3 := Lib.hid (below_tr HB2.out b3)
  have HY3 := Lib.hid (HY2.out.below b3 HY2.out.lt)
  have HL3 := Lib.hid (HL2.out.below b3)
  have HR3 := HR2.out.below b3
  obtain ⟨p, c, rfl, a1, a2, a3⟩ := HR3
  clear KP HR2 b3 HL2 HB2 HY2 c0 c1
  obtain ⟨j, Hj⟩ : ∃ j, Hid (below k r = j) := ⟨_, Lib.hid rfl⟩
  have hjl : j ≤ r.length := by rw [← Hj.out]; exact below_le
  have HHas := Lib.hid (below_has (k := k) HRi.out)
  rw [Hj.out] at HHas ⊢
  have c0 := HY3.out.cell 0
  have c1 := HY3.out.cell 1
  have hrest : ∀ (t : Bool), Hid ((getL k r).isSome = t) → True := fun _ _ => trivial
  obtain ⟨t, Ht⟩ : ∃ t, Hid ((getL k r).isSome = t) := ⟨_, Lib.hid rfl⟩
  go_cut [26] (fun v26 wx => ∃ n, v26 = .bool t ∧ W3.drewN n = wx)
  case first =>
    by_cases hj : j < r.length
    · obtain ⟨x, hx⟩ : ∃ x, r[j]? = some x := ⟨_, List.getElem?_eq_getElem hj⟩
      obtain ⟨gh, o, rfl, x0, x1, x2⟩ := a3 j x hx
      have hjz : (j : Int) < (r.length : Int) := by omega
      have hj0 : (0 : Int) ≤ (j : Int) := by omega
      have HE := Lib.hid (fun W => key_eql x.key k W)
      have htd : decide (x.key = k) = t := by
        rw [← Ht.out]
        cases hd : (getL k r).isSome with
        | true =>
          obtain ⟨y, hy, hyk⟩ := HHas.out.1 hd
          rw [hx] at hy
          rw [Option.some.inj hy, hyk]
          simp
        | false =>
          rw [decide_eq_false_iff_not]
          intro e
          rw [HHas.out.2 ⟨x, hx, e⟩] at hd
          cases hd
      rw [htd] at HE
      have he := HE.out
      clear a3 hj htd hx hrest
      go_quiet (fail)
      go_wp2_with fail
      go_meet
      exact ⟨_, rfl, rfl⟩
    · have hjz : ¬ (j : Int) < (r.length : Int) := by omega
      have ht : t = false := by
        rw [← Ht.out]
        cases hd : (getL k r).isSome with
        | false => rfl
        | true =>
          obtain ⟨y, hy, _⟩ := HHas.out.1 hd
          have := (List.getElem?_eq_some_iff.1 hy).1
          omega
      subst ht
      clear a3 hj hrest
      go_quiet (fail)
      go_wp2_with fail
      go_meet
      exact ⟨_, rfl, rfl⟩
  case rest =>
  obtain ⟨n, rfl, rfl⟩ := hcut
  have bn := below_drewN (Below.refl W3.heap.size W3) n
  have HB4 := Lib.hid (below_tr HB3.out bn)
  have HY4 := HY3.out.below bn HY3.out.lt
  have HL4 := HL3.out.below bn
  obtain ⟨W4, HW4⟩ : ∃ W4, Hid (W3.drewN n = W4) := ⟨_, Lib.hid rfl⟩
  rw [HW4.out] at HB4 HY4 HL4 ⊢
  have d0 := HY4.cell 0
  have d1 := HY4.cell 1
  obtain ⟨e0, e1, e2, e3⟩ := HL4.box.cells
  have KG := Lib.hid (fun wy (bl : Below W4.heap.size W4 wy) => treeK.get k (HL4.below bl).tr HL4.tok HK.out)
  unfold kyV at KG
  have HC : Hid (∀ wy, Below W4.heap.size W4 wy → wy.cell? ⟨b, 3, none⟩ = some (.pointer (some ta)) ∧ wy.cell? ⟨kb, 0, none⟩ = some (.int .u64 (k.at_ : Int)) ∧ wy.cell? ⟨kb, 1, none⟩ = some (.int .u64 (k.seq : Int))) := Lib.hid fun wy bl => ⟨(HL4.below bl).box.cells.2.2.2, (HY4.below bl HY4.lt).cell 0, (HY4.below bl HY4.lt).cell 1⟩
  have Hpf := Lib.hid hpf
  rw [Ht.out] at Hpf
  clear bn HY4 HL4 a3 hpf HHas c0 c1 HB3 HY3 HL3 HW4 hrest
  cases t with
  | true =>
    go_wp2_with fail
    go_ret
    exact ⟨by rw [Hpf.out]; rfl, HB4.out⟩
  | false =>
    go_upto_region 5 with fail
    unfold outI at KG
    go_region_held3 (fun wy => wy.cell? ⟨b, 3, none⟩ = some (.pointer (some ta)) ∧ wy.cell? ⟨kb, 0, none⟩ = some (.int .u64 (k.at_ : Int)) ∧ wy.cell? ⟨kb, 1, none⟩ = some (.int .u64 (k.seq : Int)))
      (first | exact HC.out _ (Below.refl _ _).drew | exact HC.out _ (by assumption))
      (first | (go_at_call 69; refine (KG.out _ (Below.refl _ _).drew).mono ?_; rintro e W5 ⟨rfl, b5⟩; have bb := below_tr (Below.refl _ W4).drew b5))
    all_goals
      have HB5 := Lib.hid (below_tr HB4.out bb)
      clear b5 bb KG HC
      go_wp2_with fail
      go_ret
      exact ⟨by rw [Hpf.out]; rfl, HB5.out⟩

/-- Whether a key is above all those of a row. -/
def inO (k : Ky) (r : List En) : Bool := match r.getLast? with
  | none => true
  | some e => decide (e.key.lt k)
theorem inO_all {k : Ky} {r : List En} (hr : Rises r) (h : inO k r = true) : ∀ e, e ∈ r → e.key.lt k := by
  intro e he
  obtain ⟨i, hi, rfl⟩ := List.getElem_of_mem he
  unfold inO at h
  rw [List.getLast?_eq_getElem?, List.getElem?_eq_getElem (by omega)] at h
  have hl : r[r.length - 1].key.lt k := by simpa using h
  rcases Nat.lt_or_ge i (r.length - 1) with c | c
  · exact Ky.lt_trans (List.pairwise_iff_getElem.1 hr i (r.length - 1) hi (by omega) c) hl
  · have : i = r.length - 1 := by omega
    subst this
    exact hl
set_option maxHeartbeats 4000000 in
set_option maxRecDepth 100000 in
theorem f_inOrder {w : World} {b gone : Nat} {ta : Addr} {NT : Nat → Prop} {rv : Value} {P r : List En} {tg : Tg} {g : Fg} (h : FLie w b ta NT rv gone P r tg g) (hsz : r.length ≤ 65536) (k : Ky) :
    Calls Try.prog 51 #[.pointer (some ⟨b, 0, none⟩), kyV k] w fun e w' => e = .returned (.bool (inO k r)) ∧ Below w.heap.size w w' := by
  have bl := (Below.refl _ w).alloc (Nat.le_refl _) (.cells #[.int .u64 (k.at_ : Int), .int .u64 (k.seq : Int)] 68)
  have y1 := Box.new w 68 #[.int .u64 (k.at_ : Int), .int .u64 (k.seq : Int)]
  obtain ⟨kb, HKb⟩ : ∃ kb, Hid (w.heap.size = kb) := ⟨_, Lib.hid rfl⟩
  obtain ⟨W1, HW⟩ : ∃ W1, Hid (w.alloc (.cells #[.int .u64 (k.at_ : Int), .int .u64 (k.seq : Int)] 68) = W1) := ⟨_, Lib.hid rfl⟩
  rw [HW.out] at y1 bl
  rw [HKb.out] at y1
  have HY := Lib.hid y1
  have HB1 := Lib.hid bl
  have hL := h.below bl
  have KW := Lib.hid (f_waiting hL.box hL.row hL.drop hL.gl)
  clear bl y1 h hL
  unfold kyV
  go_enter Try.func51, Try.ntmps51
  go_upto_region 1 with fail
  rw [HW.out, HKb.out]
  go_upto_region 2 with (go_at_call 57; refine KW.out.mono ?_; rintro e W2 ⟨v, rfl, hR, b2⟩)
  have HB2 := Lib.hid (below_tr HB1.out b2)
  have HY2 := HY.out.below b2 HY.out.lt
  have c0 := HY2.cell 0
  have c1 := HY2.cell 1
  obtain ⟨p, c, rfl, a1, a2, a3⟩ := hR
  clear KW HY b2 HB1 HY2
  by_cases hz : r.length = 0
  · have hn : inO k r = true := by
      rw [List.length_eq_zero_iff.1 hz]
      rfl
    have hzz : ((r.length : Int) == 0) = true := by rw [beq_iff_eq]; omega
    have HN := Lib.hid hn
    clear a3 hn hz
    go_quiet (fail)
    go_wp2_with fail
    go_ret
    exact ⟨by rw [HN.out]; rfl, below_drewN HB2.out _⟩
  · obtain ⟨x, hx⟩ : ∃ x, r[r.length - 1]? = some x := ⟨_, List.getElem?_eq_getElem (by omega)⟩
    obtain ⟨gh, o, rfl, x0, x1, x2⟩ := a3 _ x hx
    have hn : inO k r = decide (x.key.lt k) := by
      unfold inO
      rw [List.getLast?_eq_getElem?, hx]
    obtain ⟨j, Hj⟩ : ∃ j, Hid (r.length - 1 = j) := ⟨_, Lib.hid rfl⟩
    rw [Hj.out] at x0 x1 x2
    have hzz : ((r.length : Int) == 0) = false := by rw [beq_eq_false_iff_ne]; omega
    have hzz2 : (r.length == 0) = false := by rw [beq_eq_false_iff_ne]; omega
    have hjw : IntKind.i64.wrap ((r.length : Int) - 1) = (j : Int) := by have := Hj.out; rw [IntKind.wrap_i64]; omega
    have hjz : (j : Int) < (r.length : Int) := by have := Hj.out; omega
    have hj0 : (0 : Int) ≤ (j : Int) := by omega
    have HF := Lib.hid (fun W => f_before x.key k W)
    unfold kyV at HF
    have HN := Lib.hid hn
    clear a3 hx hn hz
    go_still_tail 12, (by kernel_rfl)
    change wpList _ _ _ _ _ W2.drew
    go_wp2_with fail
    refine (HF.out _).mono ?_
    rintro e W3 ⟨rfl, b3⟩
    have HB3 := Lib.hid (below_tr HB2.out (below_tr (Below.refl _ W2).drew b3))
    clear b3 HF
    go_wp2_with fail
    go_ret
    exact ⟨by rw [HN.out]; rfl, HB3.out⟩

end Go.Proofs.Ytkiibobpejoaeaa
