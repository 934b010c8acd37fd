/-
  The program's own tree: the places of all nodes, in the order of their keys.
-/
import Derived.Test.YtkiibobpejoaeaaTreeFirst
namespace Go.Proofs.Ytkiibobpejoaeaa
open Go.RowKit
set_option linter.unusedVariables false
set_option maxRecDepth 100000

def T.pls : T → List Nat
  | .leaf => []
  | .node p _ l _ r => l.pls ++ p :: r.pls
theorem T.pls_len : ∀ t : T, t.pls.length = t.toL.length
  | .leaf => rfl
  | .node p c l e r => by
    show (l.pls ++ p :: r.pls).length = (l.toL ++ e :: r.toL).length
    rw [List.length_append, List.length_append, List.length_cons, List.length_cons, T.pls_len l, T.pls_len r]
theorem T.pls_occ : ∀ (t : T) (x : Nat), x ∈ t.pls ↔ t.occ x ≠ 0
  | .leaf, x => by simp [T.pls, T.occ]
  | .node p c l e r, x => by
    rw [T.pls, List.mem_append, List.mem_cons, T.pls_occ l, T.pls_occ r, T.occ]
    by_cases h : p = x
    · subst h
      simp
    · simp [h, Ne.symm h]
      omega

/-- What along answers. -/
def AlongC (B0 : Nat) (xs : List Nat) (w : World) (e : Ending) (w' : World) : Prop :=
  ∃ p c, e = .returned (.slice p xs.length c) ∧ w'.ownsRow B0 3 1 (.slice p xs.length c) xs.length (xs.map natV) ∧ Below B0 w w'
section
variable {w w' : World} {b B c room n B0 : Nat} {G : Gr} {z : List Fr} {t : T}
theorem RawT.low (h : RawT w b B c room n G) (bl : Below B0 w w') (h1 : b < B0) (h2 : B < B0) : RawT w' b B c room n G := h.same fun k hk => bl.block k (by rcases hk with rfl | rfl <;> assumption)
theorem along_leaf (w : World) (b : Nat) (xs : List Nat) (p : Option Addr) (k : Nat) (h : w.ownsRow B0 3 1 (.slice p xs.length k) xs.length (xs.map natV)) :
    Calls Try.prog 89 #[.pointer (some ⟨b, 0, none⟩), .int .i64 0, .slice p xs.length k] w (AlongC B0 xs w) := by
  have HE : Hid (AlongC B0 xs w (.returned (.slice p xs.length k)) w) := Lib.hid ⟨p, k, rfl, h, Below.refl _ _⟩
  clear h
  generalize xs.length = m at *
  go_enter Try.func89, Try.ntmps89
  go_wp2_with fail
  go_ret
  exact HE.out
theorem along_node {q lp rp : Nat} {l1 l2 : List Nat} (xs : List Nat) (p : Option Addr) (k : Nat) (hr : RawT w b B c room n G) (q0 : q ≠ 0) (qn : q < n) (ql : G.dn q 0 = lp) (qr : G.dn q 1 = rp) (h1 : b < B0) (h2 : B < B0) (hB : B0 ≤ w.heap.size) (hlen : (xs ++ l1 ++ q :: l2).length ≤ 65536) (hx : w.ownsRow B0 3 1 (.slice p xs.length k) xs.length (xs.map natV))
    (IL : Calls Try.prog 89 #[.pointer (some ⟨b, 0, none⟩), .int .i64 (lp : Int), .slice p xs.length k] w (AlongC B0 (xs ++ l1) w))
    (IR : ∀ (w' : World) (ys : List Nat) (p : Option Addr) (k : Nat), RawT w' b B c room n G → B0 ≤ w'.heap.size → (ys ++ l2).length ≤ 65536 → w'.ownsRow B0 3 1 (.slice p ys.length k) ys.length (ys.map natV) → Calls Try.prog 89 #[.pointer (some ⟨b, 0, none⟩), .int .i64 (rp : Int), .slice p ys.length k] w' (AlongC B0 (ys ++ l2) w')) :
    Calls Try.prog 89 #[.pointer (some ⟨b, 0, none⟩), .int .i64 (q : Int), .slice p xs.length k] w (AlongC B0 (xs ++ (l1 ++ q :: l2)) w) := by
  obtain ⟨c0, c1, c2⟩ := hr.cells
  have d5 := hr.c_dn0 qn
  rw [ql] at d5
  have n2 := hr.n2
  have hz0 : ((q : Int) == 0) = false := by rw [beq_eq_false_iff_ne]; omega
  have hz1 : (q : Int) < (n : Int) := by omega
  have HL := Lib.hid IL
  have HI := Lib.hid IR
  have HR := Lib.hid hr
  have HQ := Lib.hid qr
  have hl1 : (xs ++ l1).length + 1 ≤ 65536 := by
    rw [List.length_append] at hlen ⊢
    simp at hlen
    omega
  have HLen : Hid (((xs ++ l1 ++ [q]) ++ l2).length ≤ 65536) := by
    refine Lib.hid ?_
    simp at hlen ⊢
    omega
  have HA : Hid (xs ++ l1 ++ [q] ++ l2 = xs ++ (l1 ++ q :: l2)) := Lib.hid (by simp)
  obtain ⟨inf, hi1, hi2, hi3, hi4⟩ := info_parts (P := Try.prog) (e := 3) (z := .int .i64 0) (size := 1) (bytes := 8) (by kernel_rfl)
  generalize hxl : xs.length = xn at *
  clear hr IL IR ql qr hlen hx hxl
  go_enter Try.func89, Try.ntmps89
  go_wp2_with fail
  refine HL.out.mono ?_
  rintro e w1 ⟨p1, k1, rfl, o1, b1⟩
  clear HL
  have HB1 := Lib.hid b1
  have o1' := owns_below o1 ((Below.refl _ w1).alloc (Nat.le_refl _) (.cells #[.int .i64 (q : Int)] 3))
  have hbs : B0 ≤ w1.heap.size := Nat.le_trans hB b1.size
  have HRA := Lib.hid ((HR.out.low b1 h1 h2).below ((Below.refl _ w1).alloc (Nat.le_refl _) (.cells #[.int .i64 (q : Int)] 3)))
  have HRow := Lib.hid o1
  generalize hm : xs ++ l1 = ys at *
  have hml : ys.length + 1 ≤ maxLen := by simp [maxLen]; omega
  have hbz : B0 ≤ (w1.alloc (.cells #[.int .i64 (q : Int)] 3)).heap.size := by rw [World.size_alloc]; omega
  have HBA := Lib.hid ((Below.refl w1.heap.size w1).alloc (Nat.le_refl _) (.cells #[.int .i64 (q : Int)] 3))
  clear o1 b1 HR c0 c1 c2 d5
  go_upto_region 5 with (first | (at_builtin; (refine wpList_append_any _ rfl (.tmp 22) (.tmp 24) 27 rfl B0 3 inf (.int .i64 0) 1 8 Try.underlying27 hi1 hi2 hi3 hi4 rfl (by decide) (.slice p1 ys.length k1) ys.length _ rfl o1' 0 _ 1 [.int .i64 (q : Int)] rfl (lit_one w1 _) (by intro u hu; simp at hu; subst hu; rfl) hml (by omega) hbz ?_; intro p5 c5 w5 own5 gr5 loc5; have HO5 := Lib.hid own5; have HG5 := Lib.hid gr5; clear own5 gr5 loc5)))
  have HB5 : Hid (Below B0 w1 w5) := by
    have g := HG5.out
    have b := HBA.out
    refine Lib.hid ⟨g.os.trans b.os, g.tape.trans b.tape, g.output.trans b.output, Nat.le_trans b.size g.size, fun i hi => ?_⟩
    refine (g.block i (by omega) ?_).trans (b.block i (by omega))
    intro e
    have := (HRow.out.lt i e.symm).1
    omega
  have HR5 : Hid (RawT w5 b B c room n G) := by
    have g := HG5.out
    refine Lib.hid (HRA.out.same fun i hi => g.block i (HRA.out.lt i hi) ?_)
    intro e
    have := (HRow.out.lt i e.symm).1
    rcases hi with rfl | rfl <;> omega
  have hle : (ys ++ [q]).length = ys.length + 1 := by simp
  have hO5 : w5.ownsRow B0 3 1 (.slice p5 (ys ++ [q]).length c5) (ys ++ [q]).length ((ys ++ [q]).map natV) := by
    rw [hle, List.map_append]
    exact HO5.out
  have HC := Lib.hid (HI.out w5 (ys ++ [q]) p5 c5 HR5.out (Nat.le_trans hbs HB5.out.size) HLen.out hO5)
  rw [hle, HA.out] at HC
  obtain ⟨c0, c1, c2⟩ := HR5.out.cells
  have d6 := HR5.out.c_dn1 qn
  rw [HQ.out] at d6
  have HB15 := Lib.hid (HB1.out.trans HB5.out)
  clear hO5 HO5 HG5 HB5 HR5 HI HRA HRow o1' HBA HA HLen hle HB1 HQ
  go_wp2_with fail
  refine HC.out.mono ?_
  rintro e w6 ⟨p6, k6, rfl, o6, b6⟩
  have HE : Hid (AlongC B0 (xs ++ (l1 ++ q :: l2)) w (.returned (.slice p6 (xs ++ (l1 ++ q :: l2)).length k6)) w6) := Lib.hid ⟨p6, k6, rfl, o6, HB15.out.trans b6⟩
  clear o6 b6 HC HB15 c0 c1 c2 d6
  generalize (xs ++ (l1 ++ q :: l2)).length = mm at *
  go_wp2_with fail
  go_ret
  exact HE.out
theorem raw_along (h1 : b < B0) (h2 : B < B0) : ∀ (t : T) (u : Nat) (w : World) (xs : List Nat) (p : Option Addr) (k : Nat), Rep G t u → (∀ x, t.occ x ≠ 0 → x < n) → RawT w b B c room n G → B0 ≤ w.heap.size → (xs ++ t.pls).length ≤ 65536 → w.ownsRow B0 3 1 (.slice p xs.length k) xs.length (xs.map natV) →
    Calls Try.prog 89 #[.pointer (some ⟨b, 0, none⟩), .int .i64 (t.pl : Int), .slice p xs.length k] w (AlongC B0 (xs ++ t.pls) w) := by
  intro t
  induction t with
  | leaf =>
    intro u w xs p k _ _ _ _ _ hx
    have := along_leaf w b xs p k hx
    simpa [T.pls, T.pl] using this
  | node q cc l e r ihl ihr =>
    intro u w xs p k hrep hlt hr hB hlen hx
    obtain ⟨q0, _, _, _, _, ql, qr, rl, rr⟩ := hrep
    have hlt' : ∀ x, l.occ x + r.occ x ≠ 0 → x < n := fun x hx => hlt x (by simp only [T.occ]; omega)
    refine along_node xs p k hr q0 (hlt q (by simp [T.occ])) ql qr h1 h2 hB (by simpa [T.pls] using hlen) hx ?_ ?_
    · exact ihl q w xs p k rl (fun x hx => hlt' x (by omega)) hr hB (by simp [T.pls] at hlen ⊢; omega) hx
    · intro w' ys p' k' hr' hB' hl' hy
      exact ihr q w' ys p' k' rr (fun x hx => hlt' x (by omega)) hr' hB' hl' hy
/-- What rising answers. -/
theorem raw_rising {t0 : T} (h : LieT w b B c room n G [] t0) (hn : t0.toL.length + 1 = n) :
    Calls Try.prog 78 #[.pointer (some ⟨b, 0, none⟩)] w (AlongC w.heap.size t0.pls w) := by
  have HL := Lib.hid (raw_len h.raw)
  have n2 := h.raw.n2
  have hpl := T.pls_len t0
  have hle : t0.pls.length = n - 1 := by omega
  by_cases h0 : n - 1 = 0
  · rw [h0] at HL
    have HE : Hid (AlongC w.heap.size t0.pls w (.returned (.slice none 0 0)) w) := by
      have : t0.pls = [] := List.length_eq_zero_iff.1 (by omega)
      rw [this]
      exact Lib.hid ⟨none, 0, rfl, World.ownsRow_nil _ _ _ _, Below.refl _ _⟩
    clear h hn h0 hpl hle
    go_enter Try.func78, Try.ntmps78
    go_wp2_with fail
    refine HL.out.mono ?_
    rintro e w1 ⟨rfl, rfl⟩
    go_wp2_with fail
    go_ret
    exact HE.out
  · have HRt : Hid (Calls Try.prog 82 #[.pointer (some ⟨b, 0, none⟩)] w fun e w' => e = .returned (.int .i64 (t0.pl : Int)) ∧ w' = w) := by
      refine Lib.hid ((raw_root h.raw).mono fun e w' ⟨e1, e2⟩ => ⟨?_, e2⟩)
      rw [e1, show G.dn 0 0 = t0.pl from h.sits.hole]
    have HA : Hid (∀ (w' : World) (k : Nat), w.grownBy w' none → w'.ownsRow w.heap.size 3 1 (.slice (some ⟨w.heap.size, 0, none⟩) 0 k) 0 [] → Calls Try.prog 89 #[.pointer (some ⟨b, 0, none⟩), .int .i64 (t0.pl : Int), .slice (some ⟨w.heap.size, 0, none⟩) 0 k] w' (AlongC w.heap.size t0.pls w)) := by
      refine Lib.hid fun w' k g o => ?_
      have bl : Below w.heap.size w w' := ⟨g.os, g.tape, g.output, g.size, fun i hi => g.block i hi (by simp)⟩
      have := raw_along (xs := []) (b := b) (B := B) (c := c) (room := room) (n := n) (G := G) h.raw.box.lt h.raw.row.lt t0 0 w' (some ⟨w.heap.size, 0, none⟩) k h.sits.rep (fun x hx => h.lt x (by simpa [occZ] using hx)) (h.raw.below bl) g.size (by simp; omega) o
      refine this.mono ?_
      rintro e w2 ⟨p, c, e1, o2, b2⟩
      exact ⟨p, c, e1, o2, bl.trans b2⟩
    have hz0 : (((n - 1 : Nat) : Int) == 0) = false := by rw [beq_eq_false_iff_ne]; omega
    obtain ⟨inf, hi1, hi2, hi3, hi4⟩ := info_parts (P := Try.prog) (e := 3) (z := .int .i64 0) (size := 1) (bytes := 8) (by kernel_rfl)
    clear h hn hpl hle h0
    have hnn : n - 1 ≤ 65536 := by omega
    generalize n - 1 = nn at *
    have hml : nn ≤ maxLen := by simp [maxLen]; omega
    go_enter Try.func78, Try.ntmps78
    go_wp2_with fail
    refine HL.out.mono ?_
    rintro e w1 ⟨rfl, rfl⟩
    go_wp2_with fail
    refine HRt.out.mono ?_
    rintro e w1 ⟨rfl, rfl⟩
    go_wp2_with fail
    refine HL.out.mono ?_
    rintro e w1 ⟨rfl, rfl⟩
    go_wp2_with (refine wpList_make_own _ rfl _ _ 27 rfl w1.heap.size 3 inf (.int .i64 0) 1 rfl hi1 hi2 hi3 .i64 .i64 _ nn rfl rfl rfl (by rw [hi4]; omega) hml (Nat.le_refl _) ?_; intro w2 o2 g2; have HO := Lib.hid o2; have HG := Lib.hid g2; clear o2 g2)
    refine (HA.out _ _ HG.out HO.out).mono ?_
    intro e w3 h3
    obtain ⟨p3, k3, rfl, o3, b3⟩ := h3
    have HE : Hid (AlongC w1.heap.size t0.pls w1 (.returned (.slice p3 t0.pls.length k3)) w3) := Lib.hid ⟨p3, k3, rfl, o3, b3⟩
    clear o3 b3 HA HG HO
    generalize t0.pls.length = mm at *
    go_wp2_with fail
    go_ret
    exact HE.out
end

end Go.Proofs.Ytkiibobpejoaeaa
