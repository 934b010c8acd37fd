/-
  TreeBack's steps: a tree of the call's own, and entries in a slice that may be cut.
-/
import Derived.Test.YtfedjeojanpnpabTreeRows
import Derived.Test.YtfedjeojanpnpabTreeSame
import Derived.ArgAppend
import Derived.Maps.AppendAt
import Derived.StillTailTactics
namespace Go.Proofs.Ytfedjeojanpnpab
open Go.RowKit
set_option linter.unusedVariables false

/-- A slice that owns its row, or one without spare capacity whose cells read so. -/
def ERow (w W : World) (p : Option Addr) (n c : Nat) (H : List En) : Prop :=
  W.ownsRow w.heap.size 52 3 (.slice p n c) n (H.flatMap enC) ∨
    ∃ g, p = some ⟨g, 0, none⟩ ∧ c = n ∧ w.heap.size ≤ g ∧ g < W.heap.size ∧ ∀ j u, (H.flatMap enC)[j]? = some u → W.cell? ⟨g, j, none⟩ = some u
theorem flat3 (H : List En) : (H.flatMap enC).length = H.length * 3 := by
  induction H with
  | nil => rfl
  | cons a H ih => rw [List.flatMap_cons, List.length_append, ih, List.length_cons, Nat.succ_mul]; simp [enC]; omega
section
variable {w W W' : World} {p : Option Addr} {n c : Nat} {H : List En}
theorem ERow.lt (h : ERow w W p n c H) : ∀ k, (Value.slice p n c).ownBlock = some k → w.heap.size ≤ k ∧ k < W.heap.size := by
  intro k hk
  rcases h with h | ⟨g, rfl, _, h1, h2, _⟩
  · exact h.lt k hk
  · have : g = k := by simpa [Value.ownBlock] using hk
    subst this
    exact ⟨h1, h2⟩
theorem ERow.same (h : ERow w W p n c H) (k : ∀ g, (Value.slice p n c).ownBlock = some g → W'.heap[g]? = W.heap[g]?) (hs : W.heap.size ≤ W'.heap.size) : ERow w W' p n c H := by
  rcases h with h | ⟨g, rfl, h0, h1, h2, h3⟩
  · exact .inl (own_same h k)
  · exact .inr ⟨g, rfl, h0, h1, Nat.lt_of_lt_of_le h2 hs, fun j u hu => (World.cell?_of_block (a := ⟨g, j, none⟩) (k g rfl)).trans (h3 j u hu)⟩
theorem ERow.below (h : ERow w W p n c H) (b : Below W.heap.size W W') : ERow w W' p n c H := h.same (fun g hg => b.block g (h.lt g hg).2) b.size
theorem ERow.cell (h : ERow w W p n c H) (hn : H.length = n) (h0 : 0 < n) : ∃ g, p = some ⟨g, 0, none⟩ ∧ ∀ j u, (H.flatMap enC)[j]? = some u → W.cell? ⟨g, j, none⟩ = some u := by
  rcases h with h | ⟨g, rfl, _, h1, h2, h3⟩
  · rcases h.2 with ⟨_, e⟩ | ⟨g, cap, cur, e, h2, h3, h4, h5, h6, h7⟩
    · omega
    · cases e
      refine ⟨g, rfl, fun j u hu => ?_⟩
      rw [cell_of_row W g j cur _ (0, 0) h3]
      have hj := (List.getElem?_eq_some_iff.1 hu).1
      rw [flat3] at hj
      rw [← h7, List.getElem?_take, if_pos (by omega)] at hu
      simpa using hu
  · exact ⟨g, rfl, h3⟩
theorem ERow.cap (h : ERow w W p n c H) (hH : n ≤ 1000) : n ≤ c ∧ c ≤ 9223372036854775807 := by
  rcases h with h | ⟨g, rfl, h1, _⟩
  · rcases h.2 with ⟨e, e2⟩ | ⟨g, cap, cur, e, _, _, h2, h3, _⟩
    · injection e with _ _ e3
      exact ⟨by omega, by omega⟩
    · injection e with _ _ e3
      subst e3
      exact ⟨h2, h3⟩
  · omega
end
/-- Three cells of one entry. -/
theorem ERow.at_ {W : World} {g : Nat} {H : List En} (h : ∀ j u, (H.flatMap enC)[j]? = some u → W.cell? ⟨g, j, none⟩ = some u) {i : Nat} {e : En} (he : H[i]? = some e) : W.cell? ⟨g, i * 3, none⟩ = some (.int .u64 (e.key.at_ : Int)) ∧ W.cell? ⟨g, i * 3 + 1, none⟩ = some (.int .u64 (e.key.seq : Int)) ∧ W.cell? ⟨g, i * 3 + 2, none⟩ = some (.int .i64 e.val) := by
  refine ⟨h (i * 3) _ ?_, h (i * 3 + 1) _ ?_, h (i * 3 + 2) _ ?_⟩
  · have := flat_get enC 3 (fun _ => rfl) H i 0 (by omega)
    rw [he] at this
    exact this
  · rw [flat_get enC 3 (fun _ => rfl) H i 1 (by omega), he]
    rfl
  · rw [flat_get enC 3 (fun _ => rfl) H i 2 (by omega), he]
    rfl
/-- The tree, and the entries that are left. -/
structure BackR (K : TreeK) (w W : World) (a : Addr) (N : Nat → Prop) (g : Tg) (p : Option Addr) (n c : Nat) (H : List En) : Prop where
  own : OwnT K w W a N g
  row : ERow w W p n c H
  off : OffV N (.slice p n c)
section
variable {K : TreeK} {w W W' : World} {a : Addr} {N N' : Nat → Prop} {g g' : Tg} {p : Option Addr} {n c : Nat} {H : List En}
theorem BackR.below (h : BackR K w W a N g p n c H) (b : Below W.heap.size W W') : BackR K w W' a N g p n c H := ⟨h.own.below b, h.row.below b, h.off⟩
theorem BackR.step (h : BackR K w W a N g p n c H) (o : OwnT K w W' a N' g') (s : SteppedT W W' N N') : BackR K w W' a N' g' p n c H := by
  refine ⟨o, h.row.same (fun k hk => s.turned.block k (h.row.lt k hk).2 (fun hn => h.off k hn hk)) s.turned.size, fun k hk he => ?_⟩
  rcases s.own k hk with h4 | h4
  · exact h.off k h4 he
  · have := (h.row.lt k he).2
    omega
/-- A new row. -/
theorem BackR.put (h : BackR K w W a N g p n c H) {w1 : World} {p' : Option Addr} {n' c' : Nat} {H' : List En} (o : w1.ownsRow W.heap.size 52 3 (.slice p' n' c') n' (H'.flatMap enC)) (t : W.grownBy w1 none) : BackR K w w1 a N g p' n' c' H' := by
  have b : Below W.heap.size W w1 := ⟨t.os, t.tape, t.output, t.size, fun k hk => t.block k hk (by simp)⟩
  refine ⟨h.own.below b, .inl (own_low o h.own.lo.size), fun k hk e => ?_⟩
  have h1 := (o.lt k e).1
  have h2 := K.lt h.own.at_ k hk
  omega
/-- What is behind a place is cut off. -/
theorem BackR.cut {gT : Nat} (h : BackR K w W a N g (some ⟨gT, 0, none⟩) n c H) (hn : H.length = n) (k : Nat) (hk : k < n) : BackR K w W a N g (some ⟨gT, 0, none⟩) k k (H.take k) := by
  obtain ⟨g1, e1, hc⟩ := h.row.cell hn (by omega)
  have e2 : gT = g1 := by have := Option.some.inj e1; exact congrArg Addr.block this
  subst e2
  have h1 := h.row.lt gT rfl
  refine ⟨h.own, .inr ⟨gT, rfl, rfl, h1.1, h1.2, fun j u hu => hc j u ?_⟩, fun i hi e => h.off i hi e⟩
  have hj := (List.getElem?_eq_some_iff.1 hu).1
  have e3 : H.flatMap enC = (H.take k).flatMap enC ++ (H.drop k).flatMap enC := by rw [← List.flatMap_append, List.take_append_drop]
  rw [e3, List.getElem?_append_left hj]
  exact hu
end
theorem run_append_zero (t ty e : TypeId) (i : TypeInfo) (ht : Try.prog.underlying t = some (.slice e)) (hi : Try.prog.info? e = some i) (g k : Nat) (ao : Option Addr) (c : Nat) (W : World) :
    (Builtin.append_ #[t, t] ty #[.slice (some ⟨g, 0, none⟩) k k, .slice ao 0 c]).run Try.prog W = .ok (.slice (some ⟨g, 0, none⟩) k k) W := by
  cases ao with
  | none => simp [Builtin.append_, run_underlying ht, sizeOf, typeInfo, hi, Builtin.lenOf, Builtin.firstCells, storeCells]
  | some ad => simp [Builtin.append_, run_underlying ht, sizeOf, typeInfo, hi, Builtin.lenOf, Builtin.firstCells, loadCells, loadCellsFrom, storeCells]
/-- append(l[:k:k], l[k+1:]...): something is behind k. -/
theorem wpList_append_drop {ops : Array Oper} {rest : List Oper} {o : Oper} {a : Act} {Q : Exit → Act → World → Prop} {W : World} (hgd : o.guard = none) (s x : Operand)
    (ho : o.op = .call { callee := .builtin .append, args := #[s, x], argTypes := #[35, 35] })
    (g k m c : Nat) (H : List En) (hk : k + 1 + m = H.length) (hm : 0 < m) (hs : a.eval s = .slice (some ⟨g, 0, none⟩) k k) (hx : a.eval x = .slice (some ⟨g, (k + 1) * 3, none⟩) m c)
    (hc : ∀ j u, (H.flatMap enC)[j]? = some u → W.cell? ⟨g, j, none⟩ = some u) (hl : H.length ≤ 1000)
    (h : ∀ p' c' w1, w1.ownsRow W.heap.size 52 3 (.slice p' (k + m) c') (k + m) ((H.take k ++ H.drop (k + 1)).flatMap enC) → W.grownBy w1 none → wpList Try.prog ops Q rest (a.put o.dst (.slice p' (k + m) c')) w1) :
    wpList Try.prog ops Q (o :: rest) a W := by
  obtain ⟨i0, hi, hz0, hz1, hz2⟩ := info_parts (P := Try.prog) (e := 52) (z := .agg #[.int .u64 0, .int .u64 0, .int .i64 0]) (size := 3) (bytes := 24) (by kernel_rfl)
  have e3 : ∀ k, H.flatMap enC = (H.take k).flatMap enC ++ (H.drop k).flatMap enC := fun k => by rw [← List.flatMap_append, List.take_append_drop]
  have h1 : ∀ b, (some ⟨g, 0, none⟩ : Option Addr) = some b → ∀ j u, ((H.take k).flatMap enC)[j]? = some u → W.cell? (b.add j) = some u := by
    intro b e j u hu
    cases e
    have hadd : (⟨g, 0, none⟩ : Addr).add j = ⟨g, j, none⟩ := by unfold Addr.add; split <;> simp_all
    rw [hadd]
    refine hc j u ?_
    rw [e3 k, List.getElem?_append_left (List.getElem?_eq_some_iff.1 hu).1]
    exact hu
  have h2 : ∀ j u, ((H.drop (k + 1)).flatMap enC)[j]? = some u → W.cell? ((⟨g, (k + 1) * 3, none⟩ : Addr).add j) = some u := by
    intro j u hu
    have hadd : (⟨g, (k + 1) * 3, none⟩ : Addr).add j = ⟨g, (k + 1) * 3 + j, none⟩ := by unfold Addr.add; split <;> simp_all
    rw [hadd]
    refine hc _ u ?_
    have hl1 : ((H.take (k + 1)).flatMap enC).length = (k + 1) * 3 := by rw [flat3, List.length_take]; omega
    rw [e3 (k + 1), List.getElem?_append_right (by omega), hl1, show (k + 1) * 3 + j - (k + 1) * 3 = j by omega]
    exact hu
  refine wpList_append_grows _ hgd s x 35 ho 52 i0 (.agg #[.int .u64 0, .int .u64 0, .int .i64 0]) 3 24 Try.underlying35 hi hz0 hz1 hz2 rfl (by decide) (some ⟨g, 0, none⟩) k k ((H.take k).flatMap enC) hs (fun e => by cases e) (by rw [flat3, List.length_take]; omega) h1 ⟨g, (k + 1) * 3, none⟩ m c ((H.drop (k + 1)).flatMap enC) hx (by rw [flat3, List.length_drop]; omega) h2 (by
    intro u hu
    obtain ⟨a, _, hu⟩ := List.mem_flatMap.1 hu
    simp [enC] at hu
    rcases hu with rfl | rfl | rfl <;> rfl) (by omega) (by unfold maxLen; omega) (by omega) ?_
  intro v5 w5 own5 gr5
  obtain ⟨p5, c5, rfl⟩ := owns_slice own5
  rw [← List.flatMap_append] at own5
  exact h p5 c5 w5 own5 gr5
/-- The same, where nothing is behind k. -/
theorem wpList_append_last {ops : Array Oper} {rest : List Oper} {o : Oper} {a : Act} {Q : Exit → Act → World → Prop} {W : World} (hgd : o.guard = none) (s x : Operand)
    (ho : o.op = .call { callee := .builtin .append, args := #[s, x], argTypes := #[35, 35] })
    (g k c : Nat) (ao : Option Addr) (hs : a.eval s = .slice (some ⟨g, 0, none⟩) k k) (hx : a.eval x = .slice ao 0 c)
    (h : wpList Try.prog ops Q rest (a.put o.dst (.slice (some ⟨g, 0, none⟩) k k)) W) :
    wpList Try.prog ops Q (o :: rest) a W := by
  obtain ⟨i0, hi, hz0, hz1, hz2⟩ := info_parts (P := Try.prog) (e := 52) (z := .agg #[.int .u64 0, .int .u64 0, .int .i64 0]) (size := 3) (bytes := 24) (by kernel_rfl)
  have hrun := run_append_zero 35 o.type 52 i0 Try.underlying35 hi g k ao c W
  refine wpList_plain hgd fun K hK' => ?_
  unfold Oper.wp
  simp [execOp, ho, resolve, invoke, builtin, hs, hx, hrun, Result.andThen]
  exact hK' _ _ h
/-- Of entries that rise: one leaves. -/
theorem del_nth {H : List En} (h : Rises H) {k : Nat} {e : En} (he : H[k]? = some e) : delL e.key H = H.take k ++ H.drop (k + 1) := by
  obtain ⟨hk, ek⟩ := List.getElem?_eq_some_iff.1 he
  have e1 : H = H.take k ++ e :: H.drop (k + 1) := by rw [← ek, ← List.drop_eq_getElem_cons hk, List.take_append_drop]
  have h2 := h
  rw [e1] at h2
  have h1 := List.pairwise_append.1 h2
  have hA : ∀ y, y ∈ H.take k → y.key ≠ e.key := fun y hy e' => by
    have := h1.2.2 y hy e (by simp)
    rw [e'] at this
    exact Ky.lt_irrefl _ this
  have hC : ∀ y, y ∈ H.drop (k + 1) → y.key ≠ e.key := fun y hy e' => by
    have := (List.pairwise_cons.1 h1.2.1).1 y hy
    rw [e'] at this
    exact Ky.lt_irrefl _ this
  conv => lhs; rw [e1]
  unfold delL
  rw [List.filter_append, List.filter_cons, if_neg (by simp), List.filter_eq_self.2 (fun y hy => by simpa using hA y hy), List.filter_eq_self.2 (fun y hy => by simpa using hC y hy)]
theorem del_same {k : Ky} {l : List En} (h : getL k l = none) : delL k l = l := List.filter_eq_self.2 fun y hy => by simpa using getL_none h y hy

end Go.Proofs.Ytfedjeojanpnpab
