/-
  The document's own chains: Push.
-/
import Derived.Test.YthdgpnkkeeebkaaChainRefD
namespace Go.Proofs.Ythdgpnkkeeebkaa
open Go.RowKit
set_option linter.unusedVariables false

/-- append of what another slice owns, as one step of a region that draws its order. -/
theorem step_append_any {P : Program} {w : World} {ops : Array Oper} {o : Oper} {a : Act} {K : Act → World → Prop} {Q : Exit → Act → World → Prop} {E : Prop} (hgd : o.guard = none) (s x : Operand) (t : TypeId)
    (ho : o.op = .call { callee := .builtin .append, args := #[s, x], argTypes := #[t, t] })
    (base : Nat) (e : TypeId) (i : TypeInfo) (z : Value) (size bytes : Nat) (ht : P.underlying t = some (.slice e)) (hi : P.info? e = some i) (hz : i.zero = some z)
    (hsize : i.size = size) (hby : i.bytes = bytes) (hzs : z.cells.size = size) (hsz : 0 < size)
    (v : Value) (n : Nat) (xs : List Value) (hs : a.eval s = v) (hown : w.ownsRow base e size v n xs)
    (b0 : Nat) (v2 : Value) (m : Nat) (news : List Value) (hx : a.eval x = v2) (hsrc : w.ownsRow b0 e size v2 m news) (h1 : ∀ u ∈ news, u.oneCell' = true)
    (N : Nat) (hN : n + m = N) (h63 : N ≤ maxLen) (hbytes : N * bytes ≤ 140737488355328) (hbase : base ≤ w.heap.size)
    (h : ∀ p' c' w', w'.ownsRow base e size (.slice p' N c') N (xs ++ news) → w.grownBy w' v.ownBlock → ((Value.slice p' N c').ownBlock = v.ownBlock ∨ (Value.slice p' N c').ownBlock = some w.heap.size) → K (a.put o.dst (.slice p' N c')) w') :
    if Region.wanted o (yielded ops a.tmps) = true then Oper.wp P o a w K Q else E := by
  subst hN
  have hw : Region.wanted o (yielded ops a.tmps) = true := by simp [Region.wanted, hgd]
  rw [if_pos hw]
  rcases hsrc.2 with ⟨rfl, rfl⟩ | ⟨g, cap, cur, rfl, _⟩
  · have hn : news = [] := List.length_eq_zero_iff.1 (by rw [hsrc.1, Nat.zero_mul])
    subst hn
    obtain ⟨p, c, rfl⟩ := owns_slice hown
    have hrun := run_append_owned_none (P := P) (w := w) base t o.type e i size ht hi _ n xs hown
    unfold Oper.wp
    simp [execOp, ho, resolve, invoke, builtin, hs, hx, hrun, Result.andThen]
    refine h p c w ?_ (World.grownBy.refl w _) (.inl rfl)
    rw [Nat.add_zero, List.append_nil]
    exact hown
  · obtain ⟨v', w', hrun, a1, a2, _, a3⟩ := run_append_own_at (P := P) w base t o.type e i z size bytes ht hi hz hsize hby hzs hsz v n xs hown ⟨g, 0, none⟩ m cap news hsrc.1 (hsrc.cells rfl) h1 h63 hbytes hbase
    obtain ⟨p', c', rfl⟩ := owns_slice a1
    unfold Oper.wp
    simp [execOp, ho, resolve, invoke, builtin, hs, hx, hrun, Result.andThen]
    exact h p' c' w' a1 a2 a3

/-- What a call's loads find, in whatever world it has come to. -/
theorem TwoB.reads {w W : World} {n s u : Value} {B G i : Nat} (T : TwoB w W n s B) (hG : w.cell? ⟨G, i, none⟩ = some u) : W.cell? ⟨B, 0, none⟩ = some n ∧ W.cell? ⟨B, 1, none⟩ = some s ∧ W.cell? ⟨G, i, none⟩ = some u :=
  ⟨T.b2.cell 0, T.b2.cell 1, (T.lo.cell (p := ⟨G, i, none⟩) (World.block_lt_of_cell? w _ hG)).trans hG⟩
theorem TwoB.put {w W : World} {n s u u0 u1 : Value} {B G i : Nat} (T : TwoB w W n s B) (hG : w.cell? ⟨G, i, none⟩ = some u) : ((W.setCell ⟨B + 1, 0, none⟩ u0).setCell ⟨B + 1, 1, none⟩ u1).cell? ⟨B, 0, none⟩ = some n ∧ ((W.setCell ⟨B + 1, 0, none⟩ u0).setCell ⟨B + 1, 1, none⟩ u1).cell? ⟨B, 1, none⟩ = some s ∧ ((W.setCell ⟨B + 1, 0, none⟩ u0).setCell ⟨B + 1, 1, none⟩ u1).cell? ⟨G, i, none⟩ = some u := by
  have x := (T.b2.other (c := B + 1) (i := 0) (by omega) u0).other (c := B + 1) (i := 1) (by omega) u1
  have lo := below_put (q := B + 1) u0 u1 T.lo (by have := T.hB; omega)
  exact ⟨x.cell 0, x.cell 1, (lo.cell (p := ⟨G, i, none⟩) (World.block_lt_of_cell? w _ hG)).trans hG⟩

section
variable {M : Nat → Prop} {w : World} {s : Value} {g : Ch} {vs : List Value}
/-- Where nothing is pushed, the chains are as they were. -/
theorem ref_same {P : Option Addr} {C B : Nat} {W : World} (f : Value → Value) (h : RefAt M w (.slice P g.ls.length C) g vs) (T : TwoB w W (.int .i64 (g.nodes : Int)) (.slice P g.ls.length C) B) :
    RefC f M w g (.returned (f (.agg #[.int .i64 (g.nodes : Int), .slice P g.ls.length C]))) ((W.setCell ⟨B + 1, 0, none⟩ (.int .i64 (g.nodes : Int))).setCell ⟨B + 1, 1, none⟩ (.slice P g.ls.length C)) ∧
      ((W.setCell ⟨B + 1, 0, none⟩ (.int .i64 (g.nodes : Int))).setCell ⟨B + 1, 1, none⟩ (.slice P g.ls.length C)).cell? ⟨B + 1, 0, none⟩ = some (.int .i64 (g.nodes : Int)) ∧
      ((W.setCell ⟨B + 1, 0, none⟩ (.int .i64 (g.nodes : Int))).setCell ⟨B + 1, 1, none⟩ (.slice P g.ls.length C)).cell? ⟨B + 1, 1, none⟩ = some (.slice P g.ls.length C) := by
  obtain ⟨r6, x6⟩ := (h.kept (fun i hi => T.lo.block i (h.lt i hi)) T.lo.size).put (u0 := .int .i64 (g.nodes : Int)) (u1 := .slice P g.ls.length C) T.b4
  have lo6 := below_put (q := B + 1) (.int .i64 (g.nodes : Int)) (.slice P g.ls.length C) T.lo (by have := T.hB; omega)
  exact ⟨⟨_, M, vs, rfl, r6, fun k hk => .inl hk, lo6⟩, x6.cell 0, x6.cell 1⟩
theorem ref_push_no (h : RefAt M w s g vs) (ok : g.Ok) (i n : Int) (hno : i < 0 ∨ (g.ls.length : Int) ≤ i ∨ n < 0 ∨ (g.nodes : Int) ≤ n) :
    Calls Try.prog 13 #[refV g s, .int .i64 i, .int .i64 n] w (RefC (fun v => .tuple #[v, .int .i64 2]) M w g) := by
  unfold refV
  obtain ⟨P, C, rfl⟩ := h.form
  have hlen := ok.len
  have hsm := ok.small
  obtain ⟨B, HBE⟩ : ∃ B, Hid (w.heap.size = B) := ⟨_, Lib.hid rfl⟩
  have S0 := Lib.hid (TwoB.start w (.int .i64 (g.nodes : Int)) (.slice P g.ls.length C) B HBE.out)
  obtain ⟨W, HW⟩ : ∃ W, Hid (((w.alloc (.cells #[.int .i64 (g.nodes : Int), .slice P g.ls.length C] 29)).alloc (.cells #[.int .i64 0, .slice none 0 0] 29)) = W) := ⟨_, Lib.hid rfl⟩
  rw [HW.out] at S0
  obtain ⟨d0, d1, d2, d3, d4, d5⟩ := S0.out.cells
  obtain ⟨hE, e0, e1⟩ := ref_same (fun v => .tuple #[v, .int .i64 2]) h S0.out
  have HE := Lib.hid hE
  clear h ok hE S0
  by_cases h1 : i < 0
  · clear hno
    go_enter Try.func13, Try.ntmps13
    go_upto_region 1 with fail
    rw [HW.out, HBE.out]
    go_wp2_with fail
    refine bodyPost_ret (v := .tuple #[.agg #[.int .i64 (g.nodes : Int), .slice P g.ls.length C], .int .i64 2]) ?_ rfl HE.out
    simp [results, Try.f13, go_sem, e0, e1]
  by_cases h2 : (g.ls.length : Int) ≤ i
  · clear hno
    go_enter Try.func13, Try.ntmps13
    go_upto_region 1 with fail
    rw [HW.out, HBE.out]
    go_wp2_with fail
    refine bodyPost_ret (v := .tuple #[.agg #[.int .i64 (g.nodes : Int), .slice P g.ls.length C], .int .i64 2]) ?_ rfl HE.out
    simp [results, Try.f13, go_sem, e0, e1]
  by_cases h3 : n < 0
  · clear hno
    go_enter Try.func13, Try.ntmps13
    go_upto_region 1 with fail
    rw [HW.out, HBE.out]
    go_wp2_with fail
    refine bodyPost_ret (v := .tuple #[.agg #[.int .i64 (g.nodes : Int), .slice P g.ls.length C], .int .i64 2]) ?_ rfl HE.out
    simp [results, Try.f13, go_sem, e0, e1]
  · have h4 : (g.nodes : Int) ≤ n := by omega
    clear hno
    go_enter Try.func13, Try.ntmps13
    go_upto_region 1 with fail
    rw [HW.out, HBE.out]
    go_wp2_with fail
    refine bodyPost_ret (v := .tuple #[.agg #[.int .i64 (g.nodes : Int), .slice P g.ls.length C], .int .i64 2]) ?_ rfl HE.out
    simp [results, Try.f13, go_sem, e0, e1]
theorem ref_push_in (h : RefAt M w s g vs) (ok : g.Ok) (i x j : Nat) (hi : i < g.ls.length) (hx : x < g.nodes) (ha : g.at x = some j) :
    Calls Try.prog 13 #[refV g s, .int .i64 (i : Int), .int .i64 (x : Int)] w (RefC (fun v => .tuple #[v, .int .i64 50]) M w g) := by
  unfold refV
  obtain ⟨P, C, rfl⟩ := h.form
  have hlen := ok.len
  have hsm := ok.small
  obtain ⟨B, HBE⟩ : ∃ B, Hid (w.heap.size = B) := ⟨_, Lib.hid rfl⟩
  have S0 := Lib.hid (TwoB.start w (.int .i64 (g.nodes : Int)) (.slice P g.ls.length C) B HBE.out)
  obtain ⟨W, HW⟩ : ∃ W, Hid (((w.alloc (.cells #[.int .i64 (g.nodes : Int), .slice P g.ls.length C] 29)).alloc (.cells #[.int .i64 0, .slice none 0 0] 29)) = W) := ⟨_, Lib.hid rfl⟩
  rw [HW.out] at S0
  obtain ⟨d0, d1, d2, d3, d4, d5⟩ := S0.out.cells
  have KI := ref_in (h.kept (fun i hi => S0.out.lo.block i (h.lt i hi)) S0.out.lo.size) ok (x : Int)
  rw [Ch.inn_nat, ha] at KI
  have KI' : Hid (Calls Try.prog 24 #[.agg #[.int .i64 (g.nodes : Int), .slice P g.ls.length C], .int .i64 (x : Int)] W fun e w' => e = .returned (.tuple #[.int .i64 (j : Int), .bool true]) ∧ Below W.heap.size W w') := KI
  have HH := Lib.hid h
  have h1 : ¬ (g.ls.length : Int) ≤ (i : Int) := by omega
  have h2 : ¬ (g.nodes : Int) ≤ (x : Int) := by omega
  clear h ok KI ha
  go_enter Try.func13, Try.ntmps13
  go_upto_region 1 with fail
  rw [HW.out, HBE.out]
  go_wp2_with fail
  refine KI'.out.mono ?_
  rintro e w1 ⟨rfl, b1⟩
  have S1 := Lib.hid (S0.out.below b1)
  clear d0 d1 d2 d3 d4 d5 b1 KI' S0
  obtain ⟨d0, d1, d2, d3, d4, d5⟩ := S1.out.cells
  obtain ⟨hE, e0, e1⟩ := ref_same (fun v => .tuple #[v, .int .i64 50]) HH.out S1.out
  have HE := Lib.hid hE
  clear hE S1
  go_wp2_with fail
  refine bodyPost_ret (v := .tuple #[.agg #[.int .i64 (g.nodes : Int), .slice P g.ls.length C], .int .i64 50]) ?_ rfl HE.out
  simp [results, Try.f13, go_sem, e0, e1]
end
end Go.Proofs.Ythdgpnkkeeebkaa
