/-
  The program's own wheel: what is due is put behind what is due already.
-/
import Derived.Test.YtkiibobpejoaeaaDoorWheelSort
import Derived.Test.YtkiibobpejoaeaaDoorWheelApart
namespace Go.Proofs.YtkiibobpejoaeaaDoor
open Go.RowKit
set_option linter.unusedVariables false
set_option linter.unusedSimpArgs false

theorem tail_slice {w : World} {base : Nat} {e : TypeId} {v : Value} {xs : List Value} (h : TailRow w base e v xs) : ∃ p n c, v = .slice p n c := by
  rcases h with ⟨rfl, _⟩ | ⟨g, o, cap, cur, rfl, _⟩
  · exact ⟨none, 0, 0, rfl⟩
  · exact ⟨_, _, _, rfl⟩
/-- append of one value to a row whose head may have been left behind, in a region that draws its order. -/
theorem step_append_tail {P : Program} {w : World} {ops : Array Oper} {o : Oper} {a : Act} {K : Act → World → Prop} {Q : Exit → Act → World → Prop} {E : Prop} (hgd : o.guard = none) (s x : Operand) (t : TypeId)
    (ho : o.op = .call { callee := .builtin .append, args := #[s, x], argTypes := #[t, t] })
    (base : Nat) (e : TypeId) (i : TypeInfo) (z : Value) (bytes : Nat) (ht : P.underlying t = some (.slice e)) (hi : P.info? e = some i) (hz : i.zero = some z)
    (hsize : i.size = 1) (hby : i.bytes = bytes) (hzs : z.cells.size = 1)
    (v : Value) (xs : List Value) (hs : a.eval s = v) (hown : TailRow w base e v xs)
    (ad : Addr) (c : Nat) (u : Value) (hx : a.eval x = .slice (some ad) 1 c) (hu : w.cell? (ad.add 0) = some u) (hc : u.oneCell' = true)
    (h63 : xs.length + 1 ≤ maxLen) (hbytes : (xs.length + 1) * bytes ≤ 140737488355328) (hbase : base ≤ w.heap.size)
    (h : ∀ p n c w', TailRow w' base e (.slice p n c) (xs ++ [u]) → w.grownBy w' v.ownBlock → ((Value.slice p n c).ownBlock = v.ownBlock ∨ (Value.slice p n c).ownBlock = some w.heap.size) → K (a.put o.dst (.slice p n c)) w') :
    if Region.wanted o (yielded ops a.tmps) = true then Oper.wp P o a w K Q else E := by
  have hw : Region.wanted o (yielded ops a.tmps) = true := by simp [Region.wanted, hgd]
  rw [if_pos hw]
  obtain ⟨v', w', hrun, a1, a2, a3⟩ := run_append_tail (P := P) w base t o.type e i z bytes ht hi hz hsize hby hzs v xs hown ad c u hu hc h63 hbytes hbase
  obtain ⟨p', n', c', rfl⟩ := tail_slice a1
  unfold Oper.wp
  simp [execOp, ho, resolve, invoke, builtin, hs, hx, hrun, Result.andThen]
  exact h p' n' c' w' a1 a2 a3
section
variable {w w5 : World} {b gs : Nat} {fa : Addr} {NB : Nat → Prop} {sv : Nat → Value} {dv dv' : Value} {m : Nat → Bool} {s : Ws}
theorem WLie.addDue (h : WLie w b gs fa NB sv dv m s) {v : Nat} (t5 : TailRow w5 0 22 dv' (s.due.map u64V ++ [u64V v])) (g5 : w.grownBy w5 dv.ownBlock) (hat : dv'.ownBlock = dv.ownBlock ∨ dv'.ownBlock = some w.heap.size) :
    WLie (w5.setCell ⟨b, 8, none⟩ dv') b gs fa NB sv dv' m { s with due := s.due ++ [v] } ∧ (∀ k, dv'.ownBlock = some k → dv.ownBlock = some k ∨ w.heap.size ≤ k) ∧ Turned (OwnW b gs s.S NB sv dv) w (w5.setCell ⟨b, 8, none⟩ dv') := by
  have hb := Box.lt (show Box w b _ _ from h.box)
  have hdb : dv'.ownBlock ≠ some b := by
    rcases hat with e | e
    · rw [e]; exact h.db
    · rw [e]; intro e'; have := Option.some.inj e'; omega
  have hset : ∀ k, k ≠ b → (w5.setCell ⟨b, 8, none⟩ dv').heap[k]? = w5.heap[k]? := fun k hk => Below.heap_setCell w5 ⟨b, 8, none⟩ _ k hk
  have h5 : Box w5 b _ _ := (g5.block b hb (fun e => h.db e.symm)).trans h.box
  refine ⟨⟨Box.set h5 8 dv', ?_, ?_, fun k hk => ?_⟩, fun k hk => ?_, ?_⟩
  · refine h.sl.same ?_ (fun k hk => ?_) (fun p hp k hk => ?_)
    · rw [hset gs (fun e => h.sl.bg e.symm), g5.block gs h.sl.gr.lt (fun e => h.dg e.symm)]
    · rw [hset k (fun e => h.sl.nbb (e ▸ hk)), g5.block k (h.sl.bm.lt k hk) (fun e => h.nbd k hk e.symm)]
    · rw [hset k (fun e => h.sl.br p hp (e ▸ hk)), g5.block k ((h.sl.row p hp).lt k hk).2 (fun e => h.dr hp k hk e.symm)]
  · show TailRow _ 0 _ dv' ((s.due ++ [v]).map u64V)
    rw [List.map_append]
    exact tail_set t5 hdb
  · rcases hat with e | e
    · rw [e]; exact h.nbd k hk
    · rw [e]; intro e'; have := Option.some.inj e'; have := h.sl.bm.lt k hk; omega
  · rcases hat with e | e
    · exact .inl (e ▸ hk)
    · rw [e] at hk
      have := Option.some.inj hk
      exact .inr (by omega)
  · exact ((Turned.refl _ w).grown g5 (fun k e _ => .inr (.inr (.inr (.inr e))))).trans ((Turned.refl _ w5).set (.inl rfl) _)
end
/-- In the midst of that: so many are behind the others. -/
structure DueR (N N' : Nat → Prop) (w W : World) (a : Addr) (s : Ws) (base c : Nat) (q : Option Addr) (l : List Tw) (i : Nat) : Prop where
  at_ : WAt N' W a { s with due := s.due ++ (l.take i).map Tw.v }
  row : W.ownsRow base 67 3 (.slice q l.length c) l.length (flatT l)
  off : OffV N' (.slice q l.length c)
  lo : Turned N w W
  in_ : ∀ k, N' k → N k ∨ w.heap.size ≤ k
section
variable {N N' : Nat → Prop} {w W W' w5 : World} {b gs base c i : Nat} {fa : Addr} {NB : Nat → Prop} {sv : Nat → Value} {dv dv' : Value} {m : Nat → Bool} {s : Ws} {q : Option Addr} {l : List Tw}
theorem DueR.below {a : Addr} (h : DueR N N' w W a s base c q l i) (g : Below W.heap.size W W') : DueR N N' w W' a s base c q l i :=
  ⟨h.at_.below g, owns_below h.row g, h.off, h.lo.trans (Turned.below g), h.in_⟩
theorem DueR.step (h : DueR N N' w W ⟨b, 0, none⟩ s base c q l i) {x : Tw} (hx : l[i]? = some x) (lie : WLie W b gs fa NB sv dv m { s with due := s.due ++ (l.take i).map Tw.v }) (hm : ∀ p, m p = true ↔ p < s.S ∧ s.R p ≠ []) (hN : ∀ k, N' k ↔ OwnW b gs s.S NB sv dv k)
    (t5 : TailRow w5 0 22 dv' ((s.due ++ (l.take i).map Tw.v).map u64V ++ [u64V x.v])) (g5 : W.grownBy w5 dv.ownBlock) (hat : dv'.ownBlock = dv.ownBlock ∨ dv'.ownBlock = some W.heap.size) :
    ∃ N2, DueR N N2 w (w5.setCell ⟨b, 8, none⟩ dv') ⟨b, 0, none⟩ s base c q l (i + 1) := by
  obtain ⟨k1, k2, k3⟩ := lie.addDue t5 g5 hat
  have k4 : Turned N' W (w5.setCell ⟨b, 8, none⟩ dv') := Turned.less (fun k hk => (hN k).2 hk) k3
  have hin : ∀ k, OwnW b gs s.S NB sv dv' k → N' k ∨ W.heap.size ≤ k := by
    rintro k (e | e | e | e | e)
    · exact .inl ((hN k).2 (.inl e))
    · exact .inl ((hN k).2 (.inr (.inl e)))
    · exact .inl ((hN k).2 (.inr (.inr (.inl e))))
    · exact .inl ((hN k).2 (.inr (.inr (.inr (.inl e)))))
    · exact (k2 k e).imp (fun e => (hN k).2 (.inr (.inr (.inr (.inr e))))) id
  refine ⟨OwnW b gs s.S NB sv dv', ⟨b, gs, fa, NB, sv, dv', m, rfl, ?_, hm, fun k => Iff.rfl⟩, own_turnedV h.row h.off k4, h.off.went h.row hin, ?_, fun k hk => ?_⟩
  · rw [take_snoc' hx, List.map_append, ← List.append_assoc]
    exact k1
  · refine ⟨k4.os.trans h.lo.os, k4.tape.trans h.lo.tape, k4.output.trans h.lo.output, Nat.le_trans h.lo.size k4.size, fun j hj hn => ?_⟩
    refine (k4.block j (Nat.lt_of_lt_of_le hj h.lo.size) fun e => ?_).trans (h.lo.block j hj hn)
    rcases h.in_ j e with h1 | h1
    · exact hn h1
    · omega
  · rcases hin k hk with h1 | h1
    · exact h.in_ k h1
    · exact .inr (Nat.le_trans h.lo.size h1)
end

end Go.Proofs.YtkiibobpejoaeaaDoor
