/-
  What the document's own copying of layer 4 leaves.
-/
import Derived.Test.YtmaofmbnlfggiabArenaPlace
import Derived.Laws.AppendOwnNone
namespace Go.Proofs.Ytmaofmbnlfggiab
open Go.RowKit
set_option linter.unusedVariables false

theorem info_int : (Try.prog.info? 3).map (fun i => (i.zero, i.size, i.bytes)) = some (some (.int .i64 0), 1, 8) := by kernel_rfl
theorem info_bool : (Try.prog.info? 4).map (fun i => (i.zero, i.size, i.bytes)) = some (some (.bool false), 1, 1) := by kernel_rfl

theorem Boxed4.set0 {w : World} {b : Nat} {v0 v1 v2 v3 : Value} (h : Boxed4 w b v0 v1 v2 v3) (u : Value) : Boxed4 (w.setCell ⟨b, 0, none⟩ u) b u v1 v2 v3 := by
  obtain ⟨hlt, hk⟩ := Array.getElem?_eq_some_iff.1 h
  show (w.heap.modify b _)[b]? = _
  rw [Array.getElem?_eq_getElem (by rw [Array.size_modify]; exact hlt), Array.getElem_modify_self, hk]
  rfl
theorem Boxed4.set1 {w : World} {b : Nat} {v0 v1 v2 v3 : Value} (h : Boxed4 w b v0 v1 v2 v3) (u : Value) : Boxed4 (w.setCell ⟨b, 1, none⟩ u) b v0 u v2 v3 := by
  obtain ⟨hlt, hk⟩ := Array.getElem?_eq_some_iff.1 h
  show (w.heap.modify b _)[b]? = _
  rw [Array.getElem?_eq_getElem (by rw [Array.size_modify]; exact hlt), Array.getElem_modify_self, hk]
  rfl
theorem Boxed4.set2 {w : World} {b : Nat} {v0 v1 v2 v3 : Value} (h : Boxed4 w b v0 v1 v2 v3) (u : Value) : Boxed4 (w.setCell ⟨b, 2, none⟩ u) b v0 v1 u v3 := by
  obtain ⟨hlt, hk⟩ := Array.getElem?_eq_some_iff.1 h
  show (w.heap.modify b _)[b]? = _
  rw [Array.getElem?_eq_getElem (by rw [Array.size_modify]; exact hlt), Array.getElem_modify_self, hk]
  rfl
theorem Boxed4.set3 {w : World} {b : Nat} {v0 v1 v2 v3 : Value} (h : Boxed4 w b v0 v1 v2 v3) (u : Value) : Boxed4 (w.setCell ⟨b, 3, none⟩ u) b v0 v1 v2 u := by
  obtain ⟨hlt, hk⟩ := Array.getElem?_eq_some_iff.1 h
  show (w.heap.modify b _)[b]? = _
  rw [Array.getElem?_eq_getElem (by rw [Array.size_modify]; exact hlt), Array.getElem_modify_self, hk]
  rfl
theorem Boxed4.other {w : World} {b c i : Nat} {v0 v1 v2 v3 : Value} (h : Boxed4 w b v0 v1 v2 v3) (hne : b ≠ c) (u : Value) : Boxed4 (w.setCell ⟨c, i, none⟩ u) b v0 v1 v2 v3 :=
  (Below.heap_setCell w ⟨c, i, none⟩ u b hne).trans h
theorem Boxed4.not_row {w : World} {b : Nat} {v0 v1 v2 v3 : Value} (h : Boxed4 w b v0 v1 v2 v3) {base e size n : Nat} {v : Value} {xs : List Value} (hr : w.ownsRow base e size v n xs) (he : e ≠ 30) : v.ownBlock ≠ some b := by
  rcases hr.2 with ⟨rfl, _⟩ | ⟨g, cap, cur, rfl, _, hg, _⟩
  · intro e; cases e
  · intro e'
    obtain rfl : g = b := by simpa [Value.ownBlock] using e'
    have := h.symm.trans hg
    simp at this
    exact he this.2.symm
/-- A row lies as it lay behind a store into a struct's cells. -/
theorem Boxed4.row {w : World} {b i : Nat} {v0 v1 v2 v3 u : Value} (h : Boxed4 w b v0 v1 v2 v3) {base e size n : Nat} {v : Value} {xs : List Value} (hr : w.ownsRow base e size v n xs) (he : e ≠ 30) : (w.setCell ⟨b, i, none⟩ u).ownsRow base e size v n xs :=
  hr.kept (grownBy_set w b i u) (.inr (h.not_row hr he))
/-- A struct's cells written, all four. -/
def put4 (w : World) (b : Nat) (u0 u1 u2 u3 : Value) : World := (((w.setCell ⟨b, 0, none⟩ u0).setCell ⟨b, 1, none⟩ u1).setCell ⟨b, 2, none⟩ u2).setCell ⟨b, 3, none⟩ u3
theorem Boxed4.put {w : World} {b : Nat} {v0 v1 v2 v3 : Value} (h : Boxed4 w b v0 v1 v2 v3) (u0 u1 u2 u3 : Value) : Boxed4 (put4 w b u0 u1 u2 u3) b u0 u1 u2 u3 :=
  (((h.set0 u0).set1 u1).set2 u2).set3 u3
theorem Boxed4.put_row {w : World} {b : Nat} {v0 v1 v2 v3 : Value} (h : Boxed4 w b v0 v1 v2 v3) (u0 u1 u2 u3 : Value) {base e size n : Nat} {v : Value} {xs : List Value} (hr : w.ownsRow base e size v n xs) (he : e ≠ 30) : (put4 w b u0 u1 u2 u3).ownsRow base e size v n xs :=
  (((h.set0 u0).set1 u1).set2 u2).row (((h.set0 u0).set1 u1).row ((h.set0 u0).row (h.row hr he) he) he) he
theorem below_put4 {B : Nat} {a w : World} {b : Nat} (h : Below B a w) (hb : B ≤ b) (u0 u1 u2 u3 : Value) : Below B a (put4 w b u0 u1 u2 u3) :=
  (((h.setCell (p := ⟨b, 0, none⟩) hb u0).setCell (p := ⟨b, 1, none⟩) hb u1).setCell (p := ⟨b, 2, none⟩) hb u2).setCell (p := ⟨b, 3, none⟩) hb u3
theorem Boxed4.frozen {w : World} {b : Nat} {v0 v1 v2 v3 : Value} (h : Boxed4 w b v0 v1 v2 v3) (i : Nat) : w.frozen? ⟨b, i, none⟩ = false := by
  unfold Boxed4 at h
  simp [World.frozen?, h]
theorem Boxed4.grown {w w' : World} {row : Option Nat} {b : Nat} {v0 v1 v2 v3 : Value} (h : Boxed4 w b v0 v1 v2 v3) (g : w.grownBy w' row) (hne : some b ≠ row) : Boxed4 w' b v0 v1 v2 v3 :=
  (g.block b (Array.getElem?_eq_some_iff.1 h).1 hne).trans h
theorem Boxed4.alloc {w : World} {b : Nat} {v0 v1 v2 v3 : Value} (h : Boxed4 w b v0 v1 v2 v3) (o : Obj) : Boxed4 (w.alloc o) b v0 v1 v2 v3 := h.grown (World.grownBy_alloc w o none) (by simp)

theorem wpList_append_anyV {P : Program} (w : World) {ops : Array Oper} {rest : List Oper} {o : Oper} {a : Act} {Q : Exit → Act → World → Prop} (hgd : o.guard = none) (s x : Operand) (t : TypeId)
    (ho : o.op = .call { callee := .builtin .append, args := #[s, x], argTypes := #[t, t] })
    (base : Nat) (e : TypeId) (i : TypeInfo) (z : Value) (size bytes : Nat) (ht : P.underlying t = some (.slice e)) (hi : P.info? e = some i) (hz : i.zero = some z)
    (hsize : i.size = size) (hby : i.bytes = bytes) (hzs : z.cells.size = size) (hsz : 0 < size)
    (v : Value) (n : Nat) (xs : List Value) (hs : a.eval s = v) (hown : w.ownsRow base e size v n xs)
    (b0 : Nat) (v2 : Value) (m : Nat) (news : List Value) (hx : a.eval x = v2) (hsrc : w.ownsRow b0 e size v2 m news) (h1 : ∀ u ∈ news, u.oneCell' = true)
    (h63 : n + m ≤ maxLen) (hbytes : (n + m) * bytes ≤ 140737488355328) (hbase : base ≤ w.heap.size)
    (h : ∀ v' w', w'.ownsRow base e size v' (n + m) (xs ++ news) → w.grownBy w' v.ownBlock → wpList P ops Q rest (a.put o.dst v') w') : wpList P ops Q (o :: rest) a w := by
  rcases hsrc.2 with ⟨rfl, rfl⟩ | ⟨g, cap, cur, rfl, _⟩
  · have hn : news = [] := List.length_eq_zero_iff.1 (by rw [hsrc.1, Nat.zero_mul])
    subst hn
    refine wpList_append_own_none hgd s x t ho base e i size ht hi v n xs hs hown hx (h v w ?_ (World.grownBy.refl w _))
    rw [Nat.add_zero, List.append_nil]
    exact hown
  · exact wpList_append_own w hgd s x t ho base e i z size bytes ht hi hz hsize hby hzs hsz v n xs hs hown ⟨g, 0, none⟩ m cap news hx hsrc.1 (hsrc.cells rfl) h1 h63 hbytes hbase fun v' w' a b _ => h v' w' a b

set_option maxHeartbeats 1000000 in
theorem ref_copied (pt0 pk0 pb : Option Addr) (nt ct nk ck nb cb : Nat) (room : Int) (ts : List Nat) (l : List Bool) (w : World) (hlen : ts.length = l.length) (hl : l.length ≤ 65536) 
    (ht : w.ownsRow 0 3 1 (.slice pt0 nt ct) ts.length (ts.map natV)) (hk : w.ownsRow 0 4 1 (.slice pk0 nk ck) l.length (l.map Value.bool)) :
    Calls Try.prog 37 #[.agg #[.slice pt0 nt ct, .slice pk0 nk ck, .slice pb nb cb, .int .i64 room]] w fun e w' =>
      ∃ pt nt' ct' pk nk' ck', e = .returned (.agg #[.slice pt nt' ct', .slice pk nk' ck', .slice pb nb cb, .int .i64 room]) ∧ w'.ownsRow w.heap.size 3 1 (.slice pt nt' ct') ts.length (ts.map natV) ∧
        w'.ownsRow w.heap.size 4 1 (.slice pk nk' ck') l.length (l.map Value.bool) ∧ Below w.heap.size w w' := by
  obtain ⟨i0, hi, hz0, hz1, hz2⟩ := info_parts info_int
  obtain ⟨i1, hi', hz0', hz1', hz2'⟩ := info_parts info_bool
  obtain ⟨rfl, _⟩ := owns_nat ht
  obtain ⟨rfl, _⟩ := owns_bool hk
  have HL := Lib.hid hlen
  have hts : ts.length ≤ 65536 := by omega
  have hx1 : 0 + ts.length ≤ maxLen := by unfold maxLen; omega
  have hx2 : 0 + l.length ≤ maxLen := by unfold maxLen; omega
  clear hlen
  have hlit := lit_empty (e := 3) ((w.alloc (.cells #[.slice pt0 ts.length ct, .slice pk0 l.length ck, .slice pb nb cb, .int .i64 room] 30)).alloc (.cells #[.slice none 0 0, .slice none 0 0, .slice none 0 0, .int .i64 0] 30)) w.heap.size (by simp; omega)
  simp only [World.size_alloc] at hlit
  have hA3 := ((Boxed4.new w (.slice pt0 ts.length ct) (.slice pk0 l.length ck) (.slice pb nb cb) (.int .i64 room)).alloc (.cells #[.slice none 0 0, .slice none 0 0, .slice none 0 0, .int .i64 0] 30)).alloc (.cells #[] 3)
  have hR3 := (Boxed4.new (w.alloc (.cells #[.slice pt0 ts.length ct, .slice pk0 l.length ck, .slice pb nb cb, .int .i64 room] 30)) (.slice none 0 0) (.slice none 0 0) (.slice none 0 0) (.int .i64 0)).alloc (.cells #[] 3)
  rw [World.size_alloc] at hR3
  have hB3 : Below w.heap.size w (((w.alloc (.cells #[.slice pt0 ts.length ct, .slice pk0 l.length ck, .slice pb nb cb, .int .i64 room] 30)).alloc (.cells #[.slice none 0 0, .slice none 0 0, .slice none 0 0, .int .i64 0] 30)).alloc (.cells #[] 3)) := (((Below.refl _ w).alloc (Nat.le_refl _) _).alloc (by simp) _).alloc (by simp; omega) _
  go_enter Try.func37, Try.ntmps37
  go_wp2_with (first
    | (at_builtin; (refine wpList_append_anyV _ rfl (.tmp 3) (.tmp 5) 27 rfl w.heap.size 3 i0 (.int .i64 0) 1 8 Try.underlying27 hi hz0 hz1 hz2 rfl (by decide) _ 0 [] rfl hlit 0 _ ts.length (ts.map natV) rfl (((ht.alloc _).alloc _).alloc _) (by intro u hu; obtain ⟨a, _, rfl⟩ := List.mem_map.1 hu; rfl) hx1 (by omega) (by simp; omega) ?_; intro v1 w1 hown1 hgrow1; simp only [Nat.zero_add, List.nil_append] at hown1; obtain ⟨p1, c1, rfl⟩ := owns_slice hown1; have hA1 := hA3.grown hgrow1 (ne_some (b := w.heap.size + 1 + 1) (by omega)); have hR1 := hR3.grown hgrow1 (ne_some (b := w.heap.size + 1 + 1) (by omega)); obtain ⟨ca0, ca1, ca2, ca3⟩ := hA1.cells; have fa := hA1.frozen; obtain ⟨cr0, cr1, cr2, cr3⟩ := hR1.cells; have fr := hR1.frozen; have hB1 := hB3.grown hgrow1 (by simp; omega) (fun k e => by cases e; simp; omega); have hs1 := hgrow1.size; simp only [World.size_alloc] at hs1; have hA2 := (hA1.set0 (.slice p1 ts.length c1)).alloc (.cells #[] 4); have cb1 := hA2.cells.2.1; have hlit2 := lit_empty (e := 4) (w1.setCell ⟨w.heap.size, 0, none⟩ (.slice p1 ts.length c1)) w.heap.size (by simp; omega); rw [World.size_setCell] at hlit2; have hB2 := (hB1.setCell (p := ⟨w.heap.size, 0, none⟩) (Nat.le_refl _) (.slice p1 ts.length c1)).alloc (by simp; omega) (.cells #[] 4); have hk2 := owns_below hk hB2; have hR2 := (hR1.other (c := w.heap.size) (i := 0) (by omega) (.slice p1 ts.length c1)).alloc (.cells #[] 4)))
    | (at_builtin; (refine wpList_append_anyV _ rfl (.tmp 8) (.tmp 10) 28 rfl w.heap.size 4 i1 (.bool false) 1 1 Try.underlying28 hi' hz0' hz1' hz2' rfl (by decide) _ 0 [] rfl hlit2 0 _ l.length (l.map Value.bool) rfl hk2 (by intro u hu; obtain ⟨a, _, rfl⟩ := List.mem_map.1 hu; rfl) hx2 (by omega) (by simp; omega) ?_; intro v2 w3 hown2 hgrow2; simp only [Nat.zero_add, List.nil_append] at hown2; obtain ⟨p2, c2, rfl⟩ := owns_slice hown2; have hA5 := hA2.grown hgrow2 (ne_some (b := w1.heap.size) (by omega)); have fa5 := hA5.frozen; have ca5 := hA5.cells.2.1; have hA6 := hA5.set1 (.slice p2 l.length c2); obtain ⟨d0, d1, d2, d3⟩ := hA6.cells; have hR5 := hR2.grown hgrow2 (ne_some (b := w1.heap.size) (by omega)); have hR6 := hR5.other (c := w.heap.size) (i := 1) (by omega) (.slice p2 l.length c2); obtain ⟨r0, r1, r2, r3⟩ := hR6.cells; have fr6 := hR6.frozen; clear ca0 ca1 ca2 ca3 cr0 cr1 cr2 cr3 fa fr cb1)))
  have hB7 := ((hB2.grown hgrow2 (by simp; omega) (fun k e => by cases e; simp; omega)).setCell (p := ⟨w.heap.size, 1, none⟩) (Nat.le_refl _) (.slice p2 l.length c2))
  have q1 := ((hA1.row (i := 0) (u := .slice p1 ts.length c1) hown1 (by decide)).alloc (.cells #[] 4)).kept hgrow2 (by
    by_cases c : (Value.slice p1 ts.length c1).ownBlock = none
    · exact .inl c
    · refine .inr fun e => ?_
      have := (hown1.lt w1.heap.size e).2
      omega)
  have q2 := hA5.row (i := 1) (u := .slice p2 l.length c2) q1 (by decide)
  have q3 := hR6.put_row (.slice p1 ts.length c1) (.slice p2 l.length c2) (.slice pb nb cb) (.int .i64 room) q2 (by decide)
  have k2 := hA5.row (i := 1) (u := .slice p2 l.length c2) hown2 (by decide)
  have k3 := hR6.put_row (.slice p1 ts.length c1) (.slice p2 l.length c2) (.slice pb nb cb) (.int .i64 room) k2 (by decide)
  have hB8 := below_put4 hB7 (b := w.heap.size + 1) (by omega) (.slice p1 ts.length c1) (.slice p2 l.length c2) (.slice pb nb cb) (.int .i64 room)
  obtain ⟨e0, e1, e2, e3⟩ := (hR6.put (.slice p1 ts.length c1) (.slice p2 l.length c2) (.slice pb nb cb) (.int .i64 room)).cells
  unfold put4 at q3 k3 hB8 e0 e1 e2 e3
  refine bodyPost_ret (v := .agg #[.slice p1 ts.length c1, .slice p2 l.length c2, .slice pb nb cb, .int .i64 room]) ?_ rfl ⟨p1, ts.length, c1, p2, l.length, c2, rfl, q3, k3, hB8⟩
  simp [results, Try.f37, go_sem, e0, e1, e2, e3]

end Go.Proofs.Ytmaofmbnlfggiab
