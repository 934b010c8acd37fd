/-
  ArenaRoom's steps: the program's arena, and the handles that are held, in a slice that may be cut.
-/
import Derived.Test.YtacienpjoegclaaArenaPlayed
import Derived.Test.YtacienpjoegclaaArenaTurnSteps
import Derived.ArgAppend
import Derived.Maps.AppendAt
namespace Go.Proofs.Ytacienpjoegclaa
open Go.RowKit
set_option linter.unusedVariables false

/-- A slice that owns its row, or one without spare capacity whose cells read so. -/
def HRow (w W : World) (p : Option Addr) (c : Nat) (H : List Nat) : Prop :=
  W.ownsRow w.heap.size 35 1 (.slice p H.length c) H.length (H.map u64V) ∨
    ∃ g, p = some ⟨g, 0, none⟩ ∧ c = H.length ∧ w.heap.size ≤ g ∧ g < W.heap.size ∧ ∀ j u, (H.map u64V)[j]? = some u → W.cell? ⟨g, j, none⟩ = some u
section
variable {w W W' : World} {p : Option Addr} {c : Nat} {H : List Nat}
theorem HRow.lt (h : HRow w W p c H) : ∀ k, (Value.slice p H.length c).ownBlock = some k → w.heap.size ≤ k ∧ k < W.heap.size := by
  intro k hk
  rcases h with h | ⟨g, rfl, _, h1, h2, _⟩
  · exact h.lt k hk
  · have : g = k := by simpa [Value.ownBlock] using hk
    subst this
    exact ⟨h1, h2⟩
theorem HRow.same (h : HRow w W p c H) (k : ∀ g, (Value.slice p H.length c).ownBlock = some g → W'.heap[g]? = W.heap[g]?) (hs : W.heap.size ≤ W'.heap.size) : HRow w W' p c H := by
  rcases h with h | ⟨g, rfl, h0, h1, h2, h3⟩
  · left
    refine ⟨h.1, ?_⟩
    rcases h.2 with h' | ⟨g, cap, cur, e, h2, h3, r⟩
    · exact .inl h'
    · exact .inr ⟨g, cap, cur, e, h2, (k g (by rw [e]; rfl)).trans h3, r⟩
  · exact .inr ⟨g, rfl, h0, h1, Nat.lt_of_lt_of_le h2 hs, fun j u hu => (World.cell?_of_block (a := ⟨g, j, none⟩) (k g rfl)).trans (h3 j u hu)⟩
theorem HRow.below (h : HRow w W p c H) (b : Below W.heap.size W W') : HRow w W' p c H := h.same (fun g hg => b.block g (h.lt g hg).2) b.size
theorem HRow.cell (h : HRow w W p c H) {k : Nat} (hk : k < H.length) : ∃ g, p = some ⟨g, 0, none⟩ ∧ ∀ j u, (H.map u64V)[j]? = some u → W.cell? ⟨g, j, none⟩ = some u := by
  rcases h with h | ⟨g, rfl, h0, h1, h2, h3⟩
  · obtain ⟨_, hf⟩ := own_form h
    obtain ⟨g, rfl⟩ := hf (by omega)
    refine ⟨g, rfl, fun j u hu => ?_⟩
    have hj := (List.getElem?_eq_some_iff.1 hu).1
    rw [List.length_map] at hj
    rw [h.cellAt j (by omega)]
    exact hu
  · exact ⟨g, rfl, h3⟩
theorem HRow.cap (h : HRow w W p c H) (hH : H.length ≤ 1000) : H.length ≤ c ∧ c ≤ 9223372036854775807 := by
  rcases h with h | ⟨g, rfl, h0, h1, h2, h3⟩
  · rcases h.2 with ⟨e, e2⟩ | ⟨g, cap, cur, e, _, _, h2, h3, _⟩
    · injection e with _ _ e3
      exact ⟨by omega, by omega⟩
    · injection e with _ _ e3
      subst e3
      exact ⟨h2, h3⟩
  · omega
end

structure RMem (K : ArenaK) (w W : World) (a : Addr) (N : Nat → Prop) (g : Gh) (p : Option Addr) (c : Nat) (H : List Nat) : Prop where
  at_ : K.At N W a g
  new : ∀ k, N k → w.heap.size ≤ k
  off : Off N p H.length c
  row : HRow w W p c H
  lo : Below w.heap.size w W
section
variable {K : ArenaK} {w W W' : World} {a : Addr} {N : Nat → Prop} {g g' : Gh} {p : Option Addr} {c : Nat} {H : List Nat}
theorem RMem.below (h : RMem K w W a N g p c H) (b : Below W.heap.size W W') : RMem K w W' a N g p c H :=
  ⟨K.below h.at_ b, h.new, h.off, h.row.below b, h.lo.trans (b.mono h.lo.size)⟩
theorem RMem.went (h : RMem K w W a N g p c H) (t : Went K.At N W a g' W') : ∃ N', RMem K w W' a N' g' p c H := by
  obtain ⟨N', h1, h2, h3⟩ := t
  have hs := h.lo.size
  refine ⟨N', h1, fun k hk => ?_, fun k hk he => ?_, h.row.same (fun k hk => h2.block k (h.row.lt k hk).2 (fun hn => h.off k hn hk)) h2.size, below_turned h2 hs h.new h.lo⟩
  · rcases h3 k hk with h4 | h4
    · exact h.new k h4
    · omega
  · rcases h3 k hk with h4 | h4
    · exact h.off k h4 he
    · have := (h.row.lt k he).2; omega
/-- The slice is another one: it owns its row, which is the old one's, or new. -/
theorem RMem.put (h : RMem K w W a N g p c H) {w1 : World} {p' : Option Addr} {c' : Nat} {H' : List Nat} (o : w1.ownsRow w.heap.size 35 1 (.slice p' H'.length c') H'.length (H'.map u64V)) (t : W.grownBy w1 (Value.slice p H.length c).ownBlock)
    (hat : ∀ k, (Value.slice p' H'.length c').ownBlock = some k → (Value.slice p H.length c).ownBlock = some k ∨ W.heap.size ≤ k) : RMem K w w1 a N g p' c' H' := by
  have hlt := fun k hk => K.lt h.at_ k hk
  refine ⟨K.kept h.at_ (fun k hk => t.block k (hlt k hk) (fun e => h.off k hk e.symm)) t.size, h.new, fun k hk e => ?_, .inl o, h.lo.grown t h.lo.size (fun k e => (h.row.lt k e).1)⟩
  rcases hat k e with h4 | h4
  · exact h.off k hk h4
  · have := hlt k hk; omega
/-- The last one is cut off. -/
theorem RMem.cut {gT : Nat} (h : RMem K w W a N g (some ⟨gT, 0, none⟩) c H) (k : Nat) (hk : k < H.length) : RMem K w W a N g (some ⟨gT, 0, none⟩) k (H.take k) := by
  have hl : (H.take k).length = k := by rw [List.length_take]; omega
  obtain ⟨g1, e1, hc⟩ := h.row.cell hk
  have e2 : gT = g1 := by have := Option.some.inj e1; exact congrArg Addr.block this
  subst e2
  have h1 := h.row.lt gT rfl
  refine ⟨h.at_, h.new, fun i hi e => h.off i hi e, .inr ⟨gT, rfl, hl.symm, h1.1, h1.2, fun j u hu => ?_⟩, h.lo⟩
  rw [List.map_take, List.getElem?_take] at hu
  split at hu
  · exact hc j u hu
  · cases hu
end

/-- All that is held holds, and as many places are taken. -/
structure RGh (g : Gh) (M n : Nat) (H : List Nat) : Prop where
  ok : g.Ok M
  all : ∀ x, x ∈ H → ∃ q, g.at x = some q
  nodup : H.Nodup
  cnt : g.l.count true = H.length
  room : g.room = n
theorem RGh.new {n : Nat} (h : n ≤ 65536) : RGh (Gh.new n) 0 n [] := ⟨Gh.new_ok h, fun x hx => by simp at hx, List.nodup_nil, rfl, rfl⟩
theorem RGh.full {g : Gh} {M n : Nat} {H : List Nat} (h : RGh g M n H) : g.full ↔ H.length = n := by
  unfold Gh.full
  rw [h.cnt, h.room]
theorem RGh.more {g : Gh} {M n : Nat} {H : List Nat} (h : RGh g M n H) : RGh g (M + 1) n H := { h with ok := h.ok.mono (by omega) }
theorem RGh.small {g : Gh} {M n : Nat} {H : List Nat} (h : RGh g M n H) (hM : M ≤ 1000) {x : Nat} (hx : x ∈ H) : x < 18446744073709551616 := by
  obtain ⟨q, hq⟩ := h.all x hx
  obtain ⟨_, m, hm, e⟩ := (hd_iff h.ok).1 ((at_iff h.ok).1 hq)
  have h1 := h.ok.le q _ hm
  have h2 := (hd_lt h.ok ((at_iff h.ok).1 hq)).1
  omega
theorem take_room {g : Gh} : g.take.room = g.room := by
  unfold Gh.take
  split <;> rfl
theorem RGh.take {g : Gh} {M n : Nat} {H : List Nat} (h : RGh g M n H) (hr : ¬ g.full) : RGh g.take (M + 1) n (H ++ [g.handle]) := by
  have hold : ∀ x, x ∈ H → g.Old x := fun x hx => by
    obtain ⟨q, hq⟩ := h.all x hx
    exact old_of_at h.ok hq
  refine ⟨h.ok.take hr, fun x hx => ?_, ?_, ?_, take_room.trans h.room⟩
  · rcases List.mem_append.1 hx with hx | hx
    · rw [at_take_old h.ok hr (hold x hx)]
      exact h.all x hx
    · rw [List.mem_singleton.1 hx]
      exact ⟨_, at_take_new h.ok hr⟩
  · refine List.nodup_append.2 ⟨h.nodup, by simp, fun x hx y hy e => ?_⟩
    rw [List.mem_singleton.1 hy] at e
    exact handle_new h.ok (e ▸ hold x hx)
  · rw [take_count h.ok hr, h.cnt]
    simp
theorem RGh.give {g : Gh} {M n : Nat} {H : List Nat} (h : RGh g M n H) {k x q : Nat} (hk : H[k]? = some x) (hq : g.at x = some q) : RGh (g.give q) M n (H.take k ++ H.drop (k + 1)) := by
  obtain ⟨hkl, hkx⟩ := List.getElem?_eq_some_iff.1 hk
  have hl := ((hd_iff h.ok).1 ((at_iff h.ok).1 hq)).1
  have e : H = H.take k ++ x :: H.drop (k + 1) := by
    rw [← hkx, List.getElem_cons_drop hkl, List.take_append_drop]
  have hnd := h.nodup
  rw [e] at hnd
  obtain ⟨n1, n2, n3⟩ := List.nodup_append.1 hnd
  obtain ⟨n4, n5⟩ := List.nodup_cons.1 n2
  refine ⟨h.ok.give hl, fun y hy => ?_, ?_, ?_, h.room⟩
  · have hne : y ≠ x := by
      rcases List.mem_append.1 hy with hy | hy
      · exact n3 y hy x (by simp)
      · exact fun e => n4 (e ▸ hy)
    rw [at_give h.ok hq, if_neg hne]
    refine h.all y ?_
    rw [e]
    rcases List.mem_append.1 hy with hy | hy
    · exact List.mem_append_left _ hy
    · exact List.mem_append_right _ (List.mem_cons_of_mem _ hy)
  · exact List.nodup_append.2 ⟨n1, n5, fun a ha b hb => n3 a ha b (List.mem_cons_of_mem _ hb)⟩
  · have h1 := give_count h.ok hl
    have h2 := h.cnt
    simp only [List.length_append, List.length_take, List.length_drop]
    omega

def RoomAt (K : ArenaK) (w W : World) (a : Addr) (n : Nat) (hv : Value) (M : Nat) : Prop :=
  ∃ N g p c H, hv = .slice p H.length c ∧ H.length ≤ M ∧ RGh g M n H ∧ RMem K w W a N g p c H

theorem info_u64w : (Try.prog.info? 35).map (fun i => (i.zero, i.size, i.bytes)) = some (some (.int .u64 0), 1, 8) := by kernel_rfl

/-- append of one more, whether the slice was cut or not. -/
theorem wpList_append_held {ops : Array Oper} {rest : List Oper} {o : Oper} {a : Act} {Q : Exit → Act → World → Prop} {w W : World} (hgd : o.guard = none) (s x : Operand)
    (ho : o.op = .call { callee := .builtin .append, args := #[s, x], argTypes := #[34, 34] })
    (p : Option Addr) (c : Nat) (H : List Nat) (hs : a.eval s = .slice p H.length c) (hrow : HRow w W p c H) (hw : w.heap.size ≤ W.heap.size)
    (y : Nat) (hx : a.eval x = .slice (some ⟨W.heap.size, 0, none⟩) 1 1) (hl : H.length ≤ 1000)
    (h : ∀ p' c' w1, w1.ownsRow w.heap.size 35 1 (.slice p' (H ++ [y]).length c') (H ++ [y]).length ((H ++ [y]).map u64V) → (W.alloc (.cells #[.int .u64 (y : Int)] 35)).grownBy w1 (Value.slice p H.length c).ownBlock →
      (∀ k, (Value.slice p' (H ++ [y]).length c').ownBlock = some k → (Value.slice p H.length c).ownBlock = some k ∨ (W.alloc (.cells #[.int .u64 (y : Int)] 35)).heap.size ≤ k) → wpList Try.prog ops Q rest (a.put o.dst (.slice p' (H.length + 1) c')) w1) :
    wpList Try.prog ops Q (o :: rest) a (W.alloc (.cells #[.int .u64 (y : Int)] 35)) := by
  obtain ⟨i0, hi, hz0, hz1, hz2⟩ := info_parts info_u64w
  have el : (H ++ [y]).length = H.length + 1 := by simp
  have em : (H ++ [y]).map u64V = H.map u64V ++ [.int .u64 (y : Int)] := by rw [List.map_append]; rfl
  have hsz : W.heap.size ≤ (W.alloc (.cells #[.int .u64 (y : Int)] 35)).heap.size := by simp
  rw [el, em] at h
  rcases hrow with hr | ⟨g, rfl, hc, h1, h2, h3⟩
  · refine wpList_append_own_at _ hgd s x 34 ho w.heap.size 35 i0 (.int .u64 0) 1 8 Try.underlying34 hi hz0 hz1 hz2 rfl (by decide) _ H.length _ hs (hr.alloc _) ⟨W.heap.size, 0, none⟩ 1 1 [.int .u64 (y : Int)] hx rfl (cell_one_new _ _ _) (by intro u hu; simp at hu; subst hu; rfl) (by unfold maxLen; omega) (by omega) (by omega) ?_
    intro v5 w5 own5 gr5 nil5 loc5
    obtain ⟨p5, c5, rfl⟩ := owns_slice own5
    refine h p5 c5 w5 own5 gr5 fun k hk => ?_
    rcases loc5 with e | e
    · exact .inl (e.symm.trans hk)
    · rw [hk] at e
      have := Option.some.inj e
      exact .inr (by omega)
  · have h4 : ∀ b, (some ⟨g, 0, none⟩ : Option Addr) = some b → ∀ j u, (H.map u64V)[j]? = some u → (W.alloc (.cells #[.int .u64 (y : Int)] 35)).cell? (b.add j) = some u := by
      intro b e j u hu
      cases e
      have hadd : (⟨g, 0, none⟩ : Addr).add j = ⟨g, j, none⟩ := by unfold Addr.add; split <;> simp_all
      rw [hadd]
      exact (((Below.refl _ W).alloc (Nat.le_refl _) _).cell (p := ⟨g, j, none⟩) h2).trans (h3 j u hu)
    refine wpList_append_grows _ hgd s x 34 ho 35 i0 (.int .u64 0) 1 8 Try.underlying34 hi hz0 hz1 hz2 rfl (by decide) (some ⟨g, 0, none⟩) H.length c (H.map u64V) hs (fun e => by cases e) (by simp) h4 ⟨W.heap.size, 0, none⟩ 1 1 [.int .u64 (y : Int)] hx rfl (cell_one_new _ _ _) (by intro u hu; simp at hu; subst hu; rfl) (by omega) (by unfold maxLen; omega) (by omega) ?_
    intro v5 w5 own5 gr5
    obtain ⟨p5, c5, rfl⟩ := owns_slice own5
    refine h p5 c5 w5 (own_low own5 (by omega)) ⟨gr5.os, gr5.tape, gr5.output, gr5.size, fun k hk _ => gr5.block k hk (fun e => by cases e)⟩ fun k hk => .inr ?_
    have := (own5.lt k hk).1
    omega

theorem run_append_zero (t ty e : TypeId) (i : TypeInfo) (ht : Try.prog.underlying t = some (.slice e)) (hi : Try.prog.info? e = some i) (g k : Nat) (ao : Option Addr) (c : Nat) (W : World) :
    (Builtin.append_ #[t, t] ty #[.slice (some ⟨g, 0, none⟩) k k, .slice ao 0 c]).run Try.prog W = .ok (.slice (some ⟨g, 0, none⟩) k k) W := by
  cases ao with
  | none => simp [Builtin.append_, run_underlying ht, sizeOf, typeInfo, hi, Builtin.lenOf, Builtin.firstCells, storeCells]
  | some ad => simp [Builtin.append_, run_underlying ht, sizeOf, typeInfo, hi, Builtin.lenOf, Builtin.firstCells, loadCells, loadCellsFrom, storeCells]

/-- append(l[:k:k], l[k+1:]...): something is behind k. -/
theorem wpList_append_drop {ops : Array Oper} {rest : List Oper} {o : Oper} {a : Act} {Q : Exit → Act → World → Prop} {W : World} (hgd : o.guard = none) (s x : Operand)
    (ho : o.op = .call { callee := .builtin .append, args := #[s, x], argTypes := #[34, 34] })
    (g k m c : Nat) (H : List Nat) (hk : k + 1 + m = H.length) (hm : 0 < m) (hs : a.eval s = .slice (some ⟨g, 0, none⟩) k k) (hx : a.eval x = .slice (some ⟨g, k + 1, none⟩) m c)
    (hc : ∀ j u, (H.map u64V)[j]? = some u → W.cell? ⟨g, j, none⟩ = some u) (hl : H.length ≤ 1000)
    (h : ∀ p' c' w1, w1.ownsRow W.heap.size 35 1 (.slice p' (k + m) c') (k + m) ((H.take k ++ H.drop (k + 1)).map u64V) → W.grownBy w1 none → wpList Try.prog ops Q rest (a.put o.dst (.slice p' (k + m) c')) w1) :
    wpList Try.prog ops Q (o :: rest) a W := by
  obtain ⟨i0, hi, hz0, hz1, hz2⟩ := info_parts info_u64w
  have h1 : ∀ b, (some ⟨g, 0, none⟩ : Option Addr) = some b → ∀ j u, ((H.take k).map u64V)[j]? = some u → W.cell? (b.add j) = some u := by
    intro b e j u hu
    cases e
    have hadd : (⟨g, 0, none⟩ : Addr).add j = ⟨g, j, none⟩ := by unfold Addr.add; split <;> simp_all
    rw [hadd]
    rw [List.map_take, List.getElem?_take] at hu
    split at hu
    · exact hc j u hu
    · cases hu
  have h2 : ∀ j u, ((H.drop (k + 1)).map u64V)[j]? = some u → W.cell? ((⟨g, k + 1, none⟩ : Addr).add j) = some u := by
    intro j u hu
    have hadd : (⟨g, k + 1, none⟩ : Addr).add j = ⟨g, k + 1 + j, none⟩ := by unfold Addr.add; split <;> simp_all
    rw [hadd]
    rw [List.map_drop, List.getElem?_drop] at hu
    exact hc _ u hu
  refine wpList_append_grows _ hgd s x 34 ho 35 i0 (.int .u64 0) 1 8 Try.underlying34 hi hz0 hz1 hz2 rfl (by decide) (some ⟨g, 0, none⟩) k k ((H.take k).map u64V) hs (fun e => by cases e) (by simp; omega) h1 ⟨g, k + 1, none⟩ m c ((H.drop (k + 1)).map u64V) hx (by simp; omega) h2 (by intro u hu; obtain ⟨a, _, rfl⟩ := List.mem_map.1 hu; rfl) (by omega) (by unfold maxLen; omega) (by omega) ?_
  intro v5 w5 own5 gr5
  obtain ⟨p5, c5, rfl⟩ := owns_slice own5
  rw [← List.map_append] at own5
  exact h p5 c5 w5 own5 gr5

/-- The same, where nothing is behind k. -/
theorem wpList_append_last {ops : Array Oper} {rest : List Oper} {o : Oper} {a : Act} {Q : Exit → Act → World → Prop} {W : World} (hgd : o.guard = none) (s x : Operand)
    (ho : o.op = .call { callee := .builtin .append, args := #[s, x], argTypes := #[34, 34] })
    (g k c : Nat) (ao : Option Addr) (hs : a.eval s = .slice (some ⟨g, 0, none⟩) k k) (hx : a.eval x = .slice ao 0 c)
    (h : wpList Try.prog ops Q rest (a.put o.dst (.slice (some ⟨g, 0, none⟩) k k)) W) :
    wpList Try.prog ops Q (o :: rest) a W := by
  obtain ⟨i0, hi, hz0, hz1, hz2⟩ := info_parts info_u64w
  have hrun := run_append_zero 34 o.type 35 i0 Try.underlying34 hi g k ao c W
  refine wpList_plain hgd fun K hK' => ?_
  unfold Oper.wp
  simp [execOp, ho, resolve, invoke, builtin, hs, hx, hrun, Result.andThen]
  exact hK' _ _ h

end Go.Proofs.Ytacienpjoegclaa
