/-
  The program's own queue: Pop and Head.
-/
import Derived.Test.YtkiibobpejoaeaaFifoFirst
import Derived.Test.YtkiibobpejoaeaaFifoLeave
namespace Go.Proofs.Ytkiibobpejoaeaa
open Go.RowKit
set_option linter.unusedVariables false
set_option maxRecDepth 100000
set_option linter.unusedSimpArgs false

def popV (o : Option En) : Ending := .returned (.tuple #[.int .u64 (o.getD noEn).val, kyV (o.getD noEn).key, .bool o.isSome])
theorem parts_small {g : Fg} (ok : g.Ok) {r t : List En} (h : Parts g.l r t) : r.length ≤ 65536 ∧ t.length ≤ 65536 ∧ r.length + t.length ≤ g.room := by
  have h1 := h.len
  have h2 := ok.room
  have h3 := ok.small
  omega
theorem isFirst_tail {l r t : List En} (h : Parts l r t) {x : En} {la ok : Bool} (hf : IsFirst l r t x la ok) : x = l.head?.getD noEn ∧ ok = l.head?.isSome ∧ ((la = false ∧ ok = false ∧ l.tail = l) ∨ (la = false ∧ ok = true ∧ ∃ r', r = x :: r' ∧ Parts l.tail r' t) ∨ (la = true ∧ ok = true ∧ ∃ y t', t = y :: t' ∧ x.key = y.key ∧ Parts l.tail r (delL y.key t))) := by
  cases hf with
  | none h1 h2 h3 =>
    subst h1
    exact ⟨rfl, rfl, .inl ⟨rfl, rfl, rfl⟩⟩
  | row x r' h1 h2 =>
    subst h1
    obtain ⟨m, rfl, hm⟩ := h.head_row h2
    exact ⟨rfl, rfl, .inr (.inl ⟨rfl, rfl, r', rfl, hm⟩)⟩
  | late y t' h1 h2 =>
    subst h1
    obtain ⟨m, rfl, hm⟩ := h.head_late h2
    refine ⟨rfl, rfl, .inr (.inr ⟨rfl, rfl, y, t', rfl, rfl, ?_⟩)⟩
    rw [del_head h.rt]
    exact hm
theorem Turned.wide {N N' : Nat → Prop} {w w' : World} (h : Turned N w w') (s : ∀ k, N k → N' k) : Turned N' w w' := ⟨h.os, h.tape, h.output, h.size, fun k hk hn => h.block k hk (fun e => hn (s k e))⟩
/-- As WentG, but what is new lies beyond a later world. -/
def WentW (N : Nat → Prop) (w W : World) (a : Addr) (g : Fg) (V : World) : Prop := ∃ N', AtF N' V a g ∧ Turned N w V ∧ ∀ k, N' k → N k ∨ W.heap.size ≤ k
theorem WentW.g {N : Nat → Prop} {w W V : World} {a : Addr} {g : Fg} (h : WentW N w W a g V) (hw : w.heap.size ≤ W.heap.size) : WentG AtF N w a g V := by
  obtain ⟨N', h1, h2, h3⟩ := h
  exact ⟨N', h1, h2, fun k hk => (h3 k hk).imp id (Nat.le_trans hw)⟩
theorem WentW.fin {N : Nat → Prop} {w W V V' : World} {a : Addr} {g : Fg} {kb : Nat} (h : WentW N w W a g V) (hk : w.heap.size ≤ kb) (hk2 : kb < W.heap.size) (hn : ¬ N kb) (hw : w.heap.size ≤ W.heap.size) (T : Turned (fun k => k = kb) V V') : WentG AtF N w a g V' := by
  obtain ⟨N', h1, h2, h3⟩ := h
  refine ⟨N', h1.kept (fun k hk' => T.block k (h1.lt k hk') (fun e => ?_)) T.size, ⟨T.os.trans h2.os, T.tape.trans h2.tape, T.output.trans h2.output, Nat.le_trans h2.size T.size, fun k hk' hn' => (T.block k (Nat.lt_of_lt_of_le hk' h2.size) (fun e => by omega)).trans (h2.block k hk' hn')⟩, fun k hk' => (h3 k hk').imp id (Nat.le_trans hw)⟩
  subst e
  rcases h3 k hk' with e | e
  · exact hn e
  · omega
theorem went_row {N : Nat → Prop} {w W V : World} {b gone' : Nat} {ta : Addr} {NT : Nat → Prop} {rv rv' : Value} {P' r' : List En} {tg : Tg} {g' : Fg} (hN : ∀ k, N k ↔ k = b ∨ NT k ∨ rv.ownBlock = some k) (bl : Below w.heap.size w W) (F : FLie V b ta NT rv' gone' P' r' tg g') (T : Turned (fun k => k = b ∨ rv.ownBlock = some k) W V) (loc : rv'.ownBlock = rv.ownBlock ∨ ∃ k, rv'.ownBlock = some k ∧ W.heap.size ≤ k) : WentW N w W ⟨b, 0, none⟩ g' V := by
  refine ⟨fun k => k = b ∨ NT k ∨ rv'.ownBlock = some k, ⟨b, ta, NT, rv', gone', P', r', tg, rfl, F, fun k => Iff.rfl⟩, (Turned.below bl).trans (T.wide fun k hk => (hN k).2 (hk.imp id .inr)), fun k hk => ?_⟩
  rcases hk with hk | hk | hk
  · exact .inl ((hN k).2 (.inl hk))
  · exact .inl ((hN k).2 (.inr (.inl hk)))
  · rcases loc with e | ⟨k', e, hk'⟩
    · exact .inl ((hN k).2 (.inr (.inr (e ▸ hk))))
    · rw [e] at hk
      obtain rfl := Option.some.inj hk
      exact .inr hk'
theorem went_tree {N : Nat → Prop} {w W V : World} {b gone : Nat} {ta : Addr} {NT : Nat → Prop} {rv : Value} {P r t' : List En} {tg : Tg} {g : Fg} {l' : List En} (hN : ∀ k, N k ↔ k = b ∨ NT k ∨ rv.ownBlock = some k) (bl : Below w.heap.size w W) (F : FLie W b ta NT rv gone P r tg g) (hp : Parts l' r t') (T : TurnT treeK.At NT W ta g.room t' V) : WentW N w W ⟨b, 0, none⟩ ⟨g.room, l'⟩ V := by
  obtain ⟨tg', e1, e2, ok, NT', h1, h2, h3⟩ := T
  have hrow : V.ownsRow 0 116 3 rv P.length (P.flatMap pkC) := own_turnedV F.row (fun k hk => F.nr k hk) h2
  refine ⟨fun k => k = b ∨ NT' k ∨ rv.ownBlock = some k, ⟨b, ta, NT', rv, gone, P, r, tg', rfl, ⟨Box.turned (show Box W b _ _ from F.box) h2 F.nb, h1, ok, e1, hrow, F.drop, F.gl, F.gr, by rw [e2]; exact hp, fun hk => ?_, fun k hk e => ?_⟩, fun k => Iff.rfl⟩, (Turned.below bl).trans (h2.wide fun k hk => (hN k).2 (.inr (.inl hk))), fun k hk => ?_⟩
  · rcases h3 b hk with h4 | h4
    · exact F.nb h4
    · have := F.box.lt; omega
  · rcases h3 k hk with h4 | h4
    · exact F.nr k h4 e
    · have := (F.row.lt k e).2; omega
  · rcases hk with hk | hk | hk
    · exact .inl ((hN k).2 (.inl hk))
    · rcases h3 k hk with h4 | h4
      · exact .inl ((hN k).2 (.inr (.inl h4)))
      · exact .inr h4
    · exact .inl ((hN k).2 (.inr (.inr hk)))
set_option maxHeartbeats 4000000 in
set_option maxRecDepth 100000 in
theorem f_pop {w : World} {N : Nat → Prop} {a : Addr} {g : Fg} (h : AtF N w a g) (ok : g.Ok) :
    Calls Try.prog 25 #[.pointer (some a)] w fun e w' => e = popV g.l.head? ∧ WentG AtF N w a ⟨g.room, g.l.tail⟩ w' := by
  obtain ⟨b, ta, NT, rv, gone, P, r, tg, rfl, h1, hN⟩ := h
  have hsm := parts_small ok h1.parts
  have bl := (Below.refl _ w).alloc (Nat.le_refl _) (.cells #[.int .u64 0, .int .u64 0] 68)
  have y1 := Box.new w 68 #[.int .u64 0, .int .u64 0]
  have HKb0 := Lib.hid (Nat.le_refl w.heap.size)
  obtain ⟨kb, HKb⟩ : ∃ kb, Hid (w.heap.size = kb) := ⟨_, Lib.hid rfl⟩
  obtain ⟨W1, HW⟩ : ∃ W1, Hid (w.alloc (.cells #[.int .u64 0, .int .u64 0] 68) = W1) := ⟨_, Lib.hid rfl⟩
  rw [HW.out] at y1 bl
  rw [HKb.out] at y1
  have HY := Lib.hid y1
  have HB1 := Lib.hid bl
  have HL := Lib.hid (h1.below bl)
  have HL0 := Lib.hid h1
  have KM := Lib.hid (f_made HL.out.box)
  have KF0 := f_first HL.out hsm.1
  unfold firstV pkV at KF0
  have KF := Lib.hid KF0
  have HN := Lib.hid hN
  have HOk := Lib.hid ok
  clear bl y1 h1 hN ok HKb0 KF0
  go_enter Try.func25, Try.ntmps25
  go_upto_region 1 with fail
  rw [HW.out, HKb.out]
  go_upto_region 3 with (go_at_call 48; refine KM.out.mono ?_; rintro e w1 ⟨rfl, rfl⟩)
  go_upto_region 4 with (go_at_call 54; refine KF.out.mono ?_; rintro e W2 ⟨x, la, okk, rfl, hI, b2⟩)
  have HIt := Lib.hid (isFirst_tail HL0.out.parts hI)
  have HB2 := Lib.hid (below_tr HB1.out b2)
  have bl3 := (Below.refl _ W2).alloc (Nat.le_refl _) (.cells (pks x) 116)
  have y3 := Box.new W2 116 (pks x)
  have hpb := HB2.out.size
  obtain ⟨pb, HPb⟩ : ∃ pb, Hid (W2.heap.size = pb) := ⟨_, Lib.hid rfl⟩
  obtain ⟨W3, HW3⟩ : ∃ W3, Hid (W2.alloc (.cells (pks x) 116) = W3) := ⟨_, Lib.hid rfl⟩
  rw [HW3.out] at y3 bl3
  rw [HPb.out] at y3 hpb
  unfold pks at HW3
  rw [HW3.out, HPb.out]
  have HB3 := Lib.hid (below_tr HB2.out bl3)
  have HY3 := Lib.hid (HY.out.below (below_tr b2 bl3) HY.out.lt)
  have HX3 := Lib.hid y3
  have HL3 := Lib.hid ((HL.out.below b2).below bl3)
  have hkb : w.heap.size ≤ kb := by rw [HKb.out]; exact Nat.le_refl _
  obtain ⟨c0, c1, c2, c3⟩ := HL3.out.box.cells
  have p1 : W3.cell? ⟨pb, 1, none⟩ = some (.int .u64 (x.key.at_ : Int)) := y3.cell 1
  have p2 : W3.cell? ⟨pb, 2, none⟩ = some (.int .u64 (x.key.seq : Int)) := y3.cell 2
  clear b2 bl3 y3 HW3 HPb KM KF HY HB1 HB2 HL hI
  go_upto_if 18 with fail
  go_cut [] (fun wx => ∃ V : World, V = wx ∧ Hid (Box V pb 116 (pks x)) ∧ Hid (Box V kb 68 #[.int .u64 0, .int .u64 0]) ∧ Hid (WentW N w W3 ⟨b, 0, none⟩ ⟨g.room, g.l.tail⟩ V))
  case first =>
    rcases HIt.out.2.2 with ⟨rfl, rfl, ht⟩ | ⟨rfl, rfl, r', hr, hp⟩ | ⟨rfl, rfl, y, t', ht, hk, hp⟩
    · have HE : Hid (WentW N w W3 ⟨b, 0, none⟩ ⟨g.room, g.l.tail⟩ W3) := by
        rw [ht]
        exact Lib.hid ⟨N, ⟨b, ta, NT, rv, gone, P, r, tg, rfl, HL3.out, HN.out⟩, Turned.below HB3.out, fun k hk => .inl hk⟩
      clear ht HIt
      go_wp2_with fail
      go_meet
      exact ⟨_, rfl, HX3, HY3, HE⟩
    · subst hr
      have hPs : P.length ≤ 131072 := by
        have e1 := congrArg List.length HL3.out.drop
        have e2 := HL3.out.gr
        rw [List.length_drop] at e1
        omega
      have KL := Lib.hid (f_leave HL3.out hPs g.l.tail hp)
      clear hp HIt
      go_wp2_with fail
      refine KL.out.mono ?_
      rintro e W4 ⟨rfl, rv', gone', P', F, T, loc⟩
      have hnb : ¬ (pb = b ∨ rv.ownBlock = some pb) := by
        rintro (e | e)
        · have := HL0.out.box.lt; omega
        · have := (HL0.out.row.lt pb e).2; omega
      have hnk : ¬ (kb = b ∨ rv.ownBlock = some kb) := by
        rintro (e | e)
        · have := HL0.out.box.lt; omega
        · have := (HL0.out.row.lt kb e).2; omega
      have HE1 := Lib.hid (HX3.out.turned T hnb)
      have HE2 := Lib.hid (HY3.out.turned T hnk)
      have HE3 := Lib.hid (went_row HN.out HB3.out F T loc)
      clear F T loc KL
      go_wp2_with fail
      go_meet
      exact ⟨_, rfl, HE1, HE2, HE3⟩
    · have hyf : y.key.Fits := (HL0.out.tok.fits y (by show y ∈ tg.l; rw [ht]; exact List.mem_cons_self)).1
      have KD0 := treeK.drop y.key (HL3.out.below (Below.refl _ _).drew).tr HL3.out.tok hyf
      rw [HL3.out.troom, ← hk] at KD0
      rw [← hk] at hp
      unfold kyV at KD0
      have KD := Lib.hid KD0
      have HP := Lib.hid hp
      clear hp ht hk hyf KD0 HIt
      go_upto_region 5 with fail
      go_still_tail 6, (by kernel_rfl)
      change wpList _ _ _ _ _ W3.drew
      have hnb : ¬ NT pb := fun e => by have := treeK.lt HL0.out.tr pb e; omega
      have hnk : ¬ NT kb := fun e => by have := treeK.lt HL0.out.tr kb e; omega
      go_wp2_with fail
      refine KD.out.mono ?_
      rintro e W4 ⟨rfl, T⟩
      have HE3 : Hid (WentW N w W3 ⟨b, 0, none⟩ ⟨g.room, g.l.tail⟩ W4) := Lib.hid (went_tree (W := W3.drew) HN.out (below_tr HB3.out (Below.refl _ W3).drew) (HL3.out.below (Below.refl _ _).drew) HP.out T)
      obtain ⟨_, _, _, _, NT', _, T2, _⟩ := T
      have HE1 := Lib.hid ((HX3.out.below (Below.refl _ W3).drew HX3.out.lt).turned T2 hnb)
      have HE2 := Lib.hid ((HY3.out.below (Below.refl _ W3).drew HY3.out.lt).turned T2 hnk)
      clear T2 KD
      go_wp2_with fail
      go_meet
      exact ⟨_, rfl, HE1, HE2, HE3⟩
  case rest =>
  obtain ⟨V, rfl, HX4, HY4, HE⟩ := hcut
  have p0 : V.cell? ⟨pb, 0, none⟩ = some (.int .u64 x.val) := HX4.out.cell 0
  have p1 : V.cell? ⟨pb, 1, none⟩ = some (.int .u64 (x.key.at_ : Int)) := HX4.out.cell 1
  have p2 : V.cell? ⟨pb, 2, none⟩ = some (.int .u64 (x.key.seq : Int)) := HX4.out.cell 2
  have k0 := HY4.out.cell 0
  have k1 := HY4.out.cell 1
  have q0 := HY4.out.frozen 0
  have q1 := HY4.out.frozen 1
  clear c0 c1 c2 c3
  go_upto_region 8 with fail
  have hpk : pb ≠ kb := Box.ne (show Box V pb _ _ from HX4.out) HY4.out (by decide)
  have hkp : kb ≠ pb := fun e => hpk e.symm
  go_region_held3 (fun wy => wy.cell? ⟨pb, 0, none⟩ = some (.int .u64 x.val) ∧ wy.cell? ⟨pb, 1, none⟩ = some (.int .u64 (x.key.at_ : Int)) ∧ wy.cell? ⟨pb, 2, none⟩ = some (.int .u64 (x.key.seq : Int))) (go_keep) (fail)
  all_goals
    have HF := Lib.hid (((HY4.out.set 0 (.int .u64 (x.key.at_ : Int))).set 1 (.int .u64 (x.key.seq : Int))))
    have HT : Hid (Turned (fun k => k = kb) V ((V.setCell ⟨kb, 0, none⟩ (.int .u64 (x.key.at_ : Int))).setCell ⟨kb, 1, none⟩ (.int .u64 (x.key.seq : Int))).drew) := Lib.hid (((Turned.refl (fun k => k = kb) V).set (b := kb) rfl _).set (b := kb) rfl _).drew
    have HG : Hid (Box ((V.setCell ⟨kb, 0, none⟩ (.int .u64 (x.key.at_ : Int))).setCell ⟨kb, 1, none⟩ (.int .u64 (x.key.seq : Int))).drew kb 68 #[.int .u64 (x.key.at_ : Int), .int .u64 (x.key.seq : Int)]) := Lib.hid HF.out
    have hkW : kb < W3.heap.size := HY3.out.lt
    have hnk : ¬ N kb := fun e => by
      have h9 := HL0.out.lt kb ((HN.out kb).1 e)
      omega
    have HZ := Lib.hid (HE.out.fin hkb hkW hnk HB3.out.size HT.out)
    have HV : Hid (popV g.l.head? = .returned (.tuple #[.int .u64 x.val, kyV x.key, .bool okk])) := Lib.hid (by unfold popV; rw [HIt.out.1, HIt.out.2.1])
    clear p0 p1 p2 k0 k1 q0 q1 hkW hnk HF HT hpk hkp HIt
    go_wp2_with fail
    obtain ⟨W9, HW9⟩ : ∃ W9, Hid (((V.setCell ⟨kb, 0, none⟩ (.int .u64 (x.key.at_ : Int))).setCell ⟨kb, 1, none⟩ (.int .u64 (x.key.seq : Int))).drew = W9) := ⟨_, Lib.hid rfl⟩
    rw [HW9.out] at HG HZ ⊢
    have k0 := HG.out.cell 0
    have k1 := HG.out.cell 1
    simp only [List.getElem?_toArray, List.getElem?_cons_zero, List.getElem?_cons_succ] at k0 k1
    rw [HV.out]
    refine bodyPost_ret (v := .tuple #[.int .u64 x.val, kyV x.key, .bool okk]) ?_ rfl ⟨rfl, HZ.out⟩
    simp [results, Try.f25, go_sem, k0, k1, kyV]

end Go.Proofs.Ytkiibobpejoaeaa
