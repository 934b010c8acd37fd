/-
  The program's own queue: Head, Len and New.
-/
import Derived.Test.YtkiibobpejoaeaaFifoPop
namespace Go.Proofs.Ytkiibobpejoaeaa
open Go.RowKit
set_option linter.unusedVariables false
set_option linter.unusedSimpArgs false

set_option maxHeartbeats 4000000 in
set_option maxRecDepth 100000 in
theorem f_head {w : World} {N : Nat → Prop} {a : Addr} {g : Fg} (h : AtF N w a g) (ok : g.Ok) :
    Calls Try.prog 27 #[.pointer (some a)] w fun e w' => e = popV g.l.head? ∧ Below w.heap.size w w' := by
  obtain ⟨b, ta, NT, rv, gone, P, r, tg, rfl, h1, hN⟩ := h
  have hsm := parts_small ok h1.parts
  have bl := (Below.refl _ w).alloc (Nat.le_refl _) (.cells #[.int .u64 0, .int .u64 0] 68)
  have y1 := Box.new w 68 #[.int .u64 0, .int .u64 0]
  have HKb0 := Lib.hid (Nat.le_refl w.heap.size)
  obtain ⟨kb, HKb⟩ : ∃ kb, Hid (w.heap.size = kb) := ⟨_, Lib.hid rfl⟩
  obtain ⟨W1, HW⟩ : ∃ W1, Hid (w.alloc (.cells #[.int .u64 0, .int .u64 0] 68) = W1) := ⟨_, Lib.hid rfl⟩
  rw [HW.out] at y1 bl
  rw [HKb.out] at y1
  have HY := Lib.hid y1
  have HB1 := Lib.hid bl
  have HL := Lib.hid (h1.below bl)
  have HL0 := Lib.hid h1
  have KM := Lib.hid (f_made HL.out.box)
  have KF0 := f_first HL.out hsm.1
  unfold firstV pkV at KF0
  have KF := Lib.hid KF0
  have HN := Lib.hid hN
  have HOk := Lib.hid ok
  clear bl y1 h1 hN ok HKb0 KF0
  go_enter Try.func27, Try.ntmps27
  go_upto_region 1 with fail
  rw [HW.out, HKb.out]
  go_upto_region 3 with (go_at_call 48; refine KM.out.mono ?_; rintro e w1 ⟨rfl, rfl⟩)
  go_upto_region 4 with (go_at_call 54; refine KF.out.mono ?_; rintro e W2 ⟨x, la, okk, rfl, hI, b2⟩)
  have HIt := Lib.hid (isFirst_tail HL0.out.parts hI)
  have HB2 := Lib.hid (below_tr HB1.out b2)
  have bl3 := (Below.refl _ W2).alloc (Nat.le_refl _) (.cells (pks x) 116)
  have y3 := Box.new W2 116 (pks x)
  have hpb := HB2.out.size
  obtain ⟨pb, HPb⟩ : ∃ pb, Hid (W2.heap.size = pb) := ⟨_, Lib.hid rfl⟩
  obtain ⟨W3, HW3⟩ : ∃ W3, Hid (W2.alloc (.cells (pks x) 116) = W3) := ⟨_, Lib.hid rfl⟩
  rw [HW3.out] at y3 bl3
  rw [HPb.out] at y3 hpb
  unfold pks at HW3
  rw [HW3.out, HPb.out]
  have HB3 := Lib.hid (below_tr HB2.out bl3)
  have HY3 := Lib.hid (HY.out.below (below_tr b2 bl3) HY.out.lt)
  have HX3 := Lib.hid y3
  have HL3 := Lib.hid ((HL.out.below b2).below bl3)
  have hkb : w.heap.size ≤ kb := by rw [HKb.out]; exact Nat.le_refl _
  have HX4 := Lib.hid y3
  clear b2 bl3 y3 HW3 HPb KM KF HY HB1 HB2 HL hI
  have p0 : W3.cell? ⟨pb, 0, none⟩ = some (.int .u64 x.val) := HX4.out.cell 0
  have p1 : W3.cell? ⟨pb, 1, none⟩ = some (.int .u64 (x.key.at_ : Int)) := HX4.out.cell 1
  have p2 : W3.cell? ⟨pb, 2, none⟩ = some (.int .u64 (x.key.seq : Int)) := HX4.out.cell 2
  have k0 := HY3.out.cell 0
  have k1 := HY3.out.cell 1
  have q0 := HY3.out.frozen 0
  have q1 := HY3.out.frozen 1
  have hpk : pb ≠ kb := Box.ne (show Box W3 pb _ _ from HX4.out) HY3.out (by decide)
  have hkp : kb ≠ pb := fun e => hpk e.symm
  go_region_held3 (fun wy => wy.cell? ⟨pb, 0, none⟩ = some (.int .u64 x.val) ∧ wy.cell? ⟨pb, 1, none⟩ = some (.int .u64 (x.key.at_ : Int)) ∧ wy.cell? ⟨pb, 2, none⟩ = some (.int .u64 (x.key.seq : Int))) (go_keep) (fail)
  all_goals
    have HF := Lib.hid (((HY3.out.set 0 (.int .u64 (x.key.at_ : Int))).set 1 (.int .u64 (x.key.seq : Int))))
    have HG : Hid (Box ((W3.setCell ⟨kb, 0, none⟩ (.int .u64 (x.key.at_ : Int))).setCell ⟨kb, 1, none⟩ (.int .u64 (x.key.seq : Int))).drew kb 68 #[.int .u64 (x.key.at_ : Int), .int .u64 (x.key.seq : Int)]) := Lib.hid HF.out
    have HZ := Lib.hid (((HB3.out.setCell (p := ⟨kb, 0, none⟩) hkb (.int .u64 (x.key.at_ : Int))).setCell (p := ⟨kb, 1, none⟩) hkb (.int .u64 (x.key.seq : Int))).drew)
    have HV : Hid (popV g.l.head? = .returned (.tuple #[.int .u64 x.val, kyV x.key, .bool okk])) := Lib.hid (by unfold popV; rw [HIt.out.1, HIt.out.2.1])
    clear p0 p1 p2 k0 k1 q0 q1 HF hpk hkp HIt
    go_wp2_with fail
    obtain ⟨W9, HW9⟩ : ∃ W9, Hid (((W3.setCell ⟨kb, 0, none⟩ (.int .u64 (x.key.at_ : Int))).setCell ⟨kb, 1, none⟩ (.int .u64 (x.key.seq : Int))).drew = W9) := ⟨_, Lib.hid rfl⟩
    rw [HW9.out] at HG HZ ⊢
    have k0 := HG.out.cell 0
    have k1 := HG.out.cell 1
    simp only [List.getElem?_toArray, List.getElem?_cons_zero, List.getElem?_cons_succ] at k0 k1
    rw [HV.out]
    refine bodyPost_ret (v := .tuple #[.int .u64 x.val, kyV x.key, .bool okk]) ?_ rfl ⟨rfl, HZ.out⟩
    simp [results, Try.f27, go_sem, k0, k1, kyV]

set_option maxHeartbeats 4000000 in
set_option maxRecDepth 100000 in
theorem f_len {w : World} {b gone : Nat} {ta : Addr} {NT : Nat → Prop} {rv : Value} {P r : List En} {tg : Tg} {g : Fg} (h : FLie w b ta NT rv gone P r tg g) (hsz : r.length + tg.l.length ≤ 65536) :
    Calls Try.prog 29 #[.pointer (some ⟨b, 0, none⟩)] w fun e w' => e = .returned (.int .i64 (g.l.length : Nat)) ∧ Below w.heap.size w w' := by
  have KM := Lib.hid (f_made h.box)
  have KW := Lib.hid (fun wy (bl : Below w.heap.size w wy) => let F := h.below bl; f_waiting F.box F.row F.drop F.gl)
  have KT := Lib.hid (fun wy (bl : Below w.heap.size w wy) => let F := h.below bl; treeK.len F.tr F.tok)
  have HC : Hid (∀ wy, Below w.heap.size w wy → wy.cell? ⟨b, 3, none⟩ = some (.pointer (some ta))) := Lib.hid fun wy bl => (h.below bl).box.cells.2.2.2
  obtain ⟨c0, c1, c2, c3⟩ := h.box.cells
  have hlen := h.parts.len
  obtain ⟨q, Hq⟩ : ∃ q, Hid (tg.l.length = q) := ⟨_, Lib.hid rfl⟩
  obtain ⟨s, Hs⟩ : ∃ q, Hid (g.l.length = q) := ⟨_, Lib.hid rfl⟩
  rw [Hs.out, Hq.out] at hlen
  rw [Hq.out] at hsz KT
  rw [Hs.out]
  have hsum : (r.length : Int) + (q : Int) = (s : Int) := by omega
  have hsw : IntKind.i64.wrap ((r.length : Int) + (q : Int)) = (s : Int) := by rw [IntKind.wrap_i64]; omega
  have hs2 : IntKind.i64.wrap (s : Int) = (s : Int) := by rw [IntKind.wrap_i64]; omega
  clear h hlen
  go_enter Try.func29, Try.ntmps29
  go_upto_region 3 with (go_at_call 48; refine KM.out.mono ?_; rintro e w1 ⟨rfl, rfl⟩)
  go_region_held3 (fun wy => wy.cell? ⟨b, 3, none⟩ = some (.pointer (some ta)))
    (first | exact HC.out _ (Below.refl _ _).drew | exact HC.out _ (by assumption))
    (first
      | (go_at_call 57; (first | (refine Calls.mono (KW.out _ (Below.refl _ _).drew) ?_; rintro e W2 ⟨v, rfl, ⟨p, c, rfl, _⟩, b2⟩; have bb := below_tr (Below.refl _ w1).drew b2) | (refine Calls.mono (KW.out _ (by assumption)) ?_; rintro e W2 ⟨v, rfl, ⟨p, c, rfl, _⟩, b2⟩; have bc := below_tr (by assumption) b2)))
      | (go_at_call 58; (first | (refine Calls.mono (KT.out _ (Below.refl _ _).drew) ?_; rintro e W2 ⟨rfl, b2⟩; have bb := below_tr (Below.refl _ w1).drew b2) | (refine Calls.mono (KT.out _ (by assumption)) ?_; rintro e W2 ⟨rfl, b2⟩; have bc := below_tr (by assumption) b2))))
  all_goals
    have HE := Lib.hid bc
    clear bb bc b2 KW KT HC c0 c1 c2 c3
    go_wp2_with fail
    go_ret
    exact ⟨rfl, HE.out⟩

theorem f_new (room : Nat) (h1 : 1 ≤ room) (h2 : room ≤ 65536) (w : World) : Calls Try.prog 20 #[.int .i64 (room : Int)] w fun e w' => ∃ a N, e = .returned (.tuple #[.pointer (some a), .int .i64 0]) ∧ AtF N w' a ⟨room, []⟩ ∧ (∀ k, N k → w.heap.size ≤ k) ∧ Below w.heap.size w w' := by
  have HN := Lib.hid (treeK.new room w h1 h2)
  go_enter Try.func20, Try.ntmps20
  go_wp2_with fail
  refine HN.out.mono ?_
  rintro e w1 ⟨ta, NT, rfl, k1, k2, k3⟩
  have bx := Box.new w1 112 #[.pointer (some ⟨w1.heap.size, 0, none⟩), .slice none 0 0, .int .i64 0, .pointer (some ta)]
  have bl := (Below.refl _ w1).alloc (Nat.le_refl _) (.cells #[.pointer (some ⟨w1.heap.size, 0, none⟩), .slice none 0 0, .int .i64 0, .pointer (some ta)] 112)
  have HE : Hid (AtF (fun k => k = w1.heap.size ∨ NT k ∨ (Value.slice none 0 0).ownBlock = some k) (w1.alloc (.cells #[.pointer (some ⟨w1.heap.size, 0, none⟩), .slice none 0 0, .int .i64 0, .pointer (some ta)] 112)) ⟨w1.heap.size, 0, none⟩ ⟨room, []⟩) := by
    refine Lib.hid ⟨_, ta, NT, .slice none 0 0, 0, [], [], _, rfl, ⟨bx, treeK.below k1 bl, ⟨List.Pairwise.nil, ⟨0, rfl⟩, fun e he => by simp [Tg.l, RB.toL] at he, Nat.zero_le _, h1, h2⟩, rfl, ⟨rfl, .inl ⟨rfl, rfl⟩⟩, rfl, Nat.le_refl _, Nat.le_refl _, Parts.nil, fun hk => ?_, fun k hk e => by simp [Value.ownBlock] at e⟩, fun k => Iff.rfl⟩
    have := treeK.lt k1 _ hk
    omega
  have HO : Hid (∀ k, (k = w1.heap.size ∨ NT k ∨ (Value.slice none 0 0).ownBlock = some k) → w.heap.size ≤ k) := by
    apply Lib.hid
    have := k3.size
    rintro k (e | e | e)
    · omega
    · exact k2 k e
    · simp [Value.ownBlock] at e
  have HL := Lib.hid (below_tr k3 bl)
  clear bx bl k1 k2 k3 HN
  go_wp2_with fail
  go_ret2
  exact ⟨_, _, rfl, HE.out, HO.out, HL.out⟩
theorem f_new_no (room : Int) (h : room < 1 ∨ 65536 < room) (w : World) : Calls Try.prog 20 #[.int .i64 room] w fun e w' => e = .returned (.tuple #[.pointer none, .int .i64 2]) ∧ Below w.heap.size w w' := by
  have HN := Lib.hid (treeK.new_no room w h)
  clear h
  go_enter Try.func20, Try.ntmps20
  go_wp2_with fail
  refine HN.out.mono ?_
  rintro e w1 ⟨rfl, b1⟩
  have HB := Lib.hid b1
  clear b1 HN
  go_wp2_with fail
  go_ret2
  exact ⟨rfl, HB.out⟩

end Go.Proofs.Ytkiibobpejoaeaa
