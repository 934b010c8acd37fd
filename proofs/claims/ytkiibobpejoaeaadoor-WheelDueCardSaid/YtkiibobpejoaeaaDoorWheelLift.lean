/-
  The program's own wheel: lift, which takes all things out of the slots up to one.
-/
import Derived.Test.YtkiibobpejoaeaaDoorWheelStand
import Derived.Test.YtkiibobpejoaeaaDoorWheelK
import Derived.Test.YtkiibobpejoaeaaDoorBytes
namespace Go.Proofs.YtkiibobpejoaeaaDoor
open Go.RowKit
set_option linter.unusedVariables false
set_option linter.unusedSimpArgs false

/-- In the midst of lifting: what is left, what was lifted. -/
structure LiftR (w W : World) (b gs : Nat) (fa : Addr) (NB : Nat → Prop) (sv : Nat → Value) (dv : Value) (s : Ws) (nw : Nat) (R' : Nat → List Tw) (lifted : List Tw) (q : Option Addr) (c : Nat) (sv' : Nat → Value) (m' : Nat → Bool) : Prop where
  lie : WLie W b gs fa NB sv' dv m' { s with R := R' }
  marks : ∀ p, m' p = true ↔ p < s.S ∧ R' p ≠ []
  own : ∀ p, p < s.S → ∀ k, (sv' p).ownBlock = some k → (sv p).ownBlock = some k
  good : GoodR s.S s.cur R'
  sub : ∀ p, p < s.S → ∀ x, x ∈ R' p → x ∈ s.R p
  perm : (lifted ++ flatAll s.S R').Perm (flatAll s.S s.R)
  le : ∀ x, x ∈ lifted → x.at_ ≤ nw
  row : W.ownsRow w.heap.size 67 3 (.slice q lifted.length c) lifted.length (flatT lifted)
  lo : Turned (OwnW b gs s.S NB sv dv) w W
section
variable {w W W5 W6 W7 : World} {b gs : Nat} {fa : Addr} {NB : Nat → Prop} {sv : Nat → Value} {dv : Value} {s : Ws} {nw : Nat} {R' : Nat → List Tw} {lifted : List Tw} {q : Option Addr} {c : Nat} {sv' : Nat → Value} {m' : Nat → Bool}
theorem LiftR.old (h : LiftR w W b gs fa NB sv dv s nw R' lifted q c sv' m') : ∀ k, OwnW b gs s.S NB sv' dv k → OwnW b gs s.S NB sv dv k := by
  rintro k (e | e | e | ⟨p, hp, e⟩ | e)
  · exact .inl e
  · exact .inr (.inl e)
  · exact .inr (.inr (.inl e))
  · exact .inr (.inr (.inr (.inl ⟨p, hp, h.own p hp k e⟩)))
  · exact .inr (.inr (.inr (.inr e)))
theorem LiftR.at_ (h : LiftR w W b gs fa NB sv dv s nw R' lifted q c sv' m') : WAt (OwnW b gs s.S NB sv' dv) W ⟨b, 0, none⟩ { s with R := R' } := ⟨b, gs, fa, NB, sv', dv, m', rfl, h.lie, h.marks, fun k => Iff.rfl⟩
theorem LiftR.fits (h : LiftR w W b gs fa NB sv dv s nw R' lifted q c sv' m') (f : s.Fits) (hall : (flatAll s.S s.R).length ≤ 65536) : ({ s with R := R' } : Ws).Fits := by
  refine ⟨f.s1, f.s2, f.w1, f.w2, f.cur, fun p hp => ?_, fun p hp x hx => f.word p hp x (h.sub p hp x hx)⟩
  obtain ⟨A, B, e, _⟩ := flat_split (R := R') hp
  have h1 := h.perm.length_eq
  rw [List.length_append, e, List.length_append, List.length_append] at h1
  show (R' p).length ≤ 65536
  omega
theorem LiftR.below (h : LiftR w W b gs fa NB sv dv s nw R' lifted q c sv' m') (g : Below W.heap.size W W5) : LiftR w W5 b gs fa NB sv dv s nw R' lifted q c sv' m' :=
  ⟨h.lie.below g, h.marks, h.own, h.good, h.sub, h.perm, h.le, owns_below h.row g, h.lo.trans (Turned.below g)⟩
theorem LiftR.len (h : LiftR w W b gs fa NB sv dv s nw R' lifted q c sv' m') {p : Nat} (hp : p < s.S) : lifted.length + (R' p).length ≤ (flatAll s.S s.R).length := by
  obtain ⟨A, B, e, _⟩ := flat_split (R := R') hp
  have h1 := h.perm.length_eq
  rw [List.length_append, e, List.length_append, List.length_append] at h1
  omega
/-- A slot's things are lifted, and the slot is emptied; its mark is there yet. -/
structure LiftM (w W : World) (b gs : Nat) (fa : Addr) (NB : Nat → Prop) (sv : Nat → Value) (dv : Value) (s : Ws) (R' : Nat → List Tw) (n : Nat) (l : List Tw) (q : Option Addr) (c : Nat) (sv' : Nat → Value) (m' : Nat → Bool) : Prop where
  lie : WLie W b gs fa NB sv' dv m' { s with R := R' }
  row : W.ownsRow w.heap.size 67 3 (.slice q n c) n (flatT l)
  lo : Turned (OwnW b gs s.S NB sv dv) w W
theorem LiftR.grown (h : LiftR w W b gs fa NB sv dv s nw R' lifted q c sv' m') (hold : ∀ k, OwnW b gs s.S NB sv dv k → k < w.heap.size) {p n c' : Nat} {q' : Option Addr} (o5 : W5.ownsRow w.heap.size 67 3 (.slice q' n c') n (flatT lifted ++ flatT (R' p))) (g5 : W.grownBy W5 (Value.slice q lifted.length c).ownBlock) :
    LiftM w W5 b gs fa NB sv dv s R' n (lifted ++ R' p) q' c' sv' m' := by
  have hlow : ∀ k, (Value.slice q lifted.length c).ownBlock = some k → w.heap.size ≤ k := fun k hk => (h.row.lt k hk).1
  refine ⟨h.lie.same fun k hk => ?_, by rw [flatT_app]; exact o5, h.lo.grown g5 fun k e hk => ?_⟩
  · have h1 := hold k (h.old k hk)
    exact g5.block k (h.lie.lt k hk) (fun e => by have := hlow k e.symm; omega)
  · have := hlow k e
    omega
theorem LiftM.clear {n c' : Nat} {l : List Tw} {q' : Option Addr} (h : LiftM w W b gs fa NB sv dv s R' n l q' c' sv' m') (hold : ∀ k, OwnW b gs s.S NB sv dv k → k < w.heap.size) {p : Nat} (hp : p < s.S) :
    LiftM w (W.setCell ⟨gs, p, none⟩ (.slice none 0 0)) b gs fa NB sv dv s (updR R' p []) n l q' c' (updV sv' p (.slice none 0 0)) m' := by
  refine ⟨h.lie.clear hp, own_same h.row fun k hk => Below.heap_setCell W ⟨gs, p, none⟩ _ k (fun e => ?_), h.lo.trans ((Turned.refl _ W).set (.inr (.inl rfl)) _)⟩
  have h1 := (h.row.lt k hk).1
  have h2 := hold gs (.inr (.inl rfl))
  have h3 : k = gs := e
  omega
theorem LiftR.step (h : LiftR w W b gs fa NB sv dv s nw R' lifted q c sv' m') (hold : ∀ k, OwnW b gs s.S NB sv dv k → k < w.heap.size) (hS : 2 ≤ s.S) {p n c' : Nat} {q' : Option Addr} (hp : p < s.S) (hle : slotAt s.S s.cur p ≤ nw) (hn : lifted.length + (R' p).length = n)
    (k6 : LiftM w W6 b gs fa NB sv dv s (updR R' p []) n (lifted ++ R' p) q' c' (updV sv' p (.slice none 0 0)) m') (k : WentB NB W6 fa (clearG ⟨s.S, m'⟩ (p : Int)) W7) :
    LiftR w W7 b gs fa NB sv dv s nw (updR R' p []) (lifted ++ R' p) q' c' (updV sv' p (.slice none 0 0)) (clearG ⟨s.S, m'⟩ (p : Int)).m := by
  refine ⟨k6.lie.clear_mark hp k, fun r => ?_, fun r hr k' hk => ?_, h.good.upd (fun x hx => by cases hx), fun r hr x hx => ?_, ?_, fun x hx => ?_, ?_, ?_⟩
  · rw [clear_mark_iff hp, h.marks r]
    by_cases e : r = p
    · subst e; rw [updR_at]; simp
    · rw [updR_ne e]; simp [e]
  · by_cases e : r = p
    · subst e
      rw [updV_at] at hk
      simp [Value.ownBlock] at hk
    · rw [updV_ne e] at hk
      exact h.own r hr k' hk
  · by_cases e : r = p
    · subst e; rw [updR_at] at hx; cases hx
    · rw [updR_ne e] at hx; exact h.sub r hr x hx
  · have h1 := flat_out (R := R') hp
    rw [List.append_assoc]
    exact (h1.append_left lifted).trans h.perm
  · rcases List.mem_append.1 hx with hx | hx
    · exact h.le x hx
    · rw [h.good.at_ hS hp hx]; exact hle
  · have hl : (lifted ++ R' p).length = n := by rw [List.length_append]; exact hn
    rw [hl]
    refine own_same k6.row fun j hj => k.2.block j (k6.row.lt j hj).2 (fun hN => ?_)
    have h1 := (k6.row.lt j hj).1
    have h2 := hold j (.inr (.inr (.inl hN)))
    omega
  · exact k6.lo.trans (Turned.less (fun k hk => .inr (.inr (.inl hk))) k.2)
end
def LiftP (N : Nat → Prop) (w : World) (a : Addr) (s : Ws) (nw : Nat) (e : Ending) (w' : World) : Prop :=
  ∃ q c lifted R1 N', e = .returned (.slice q lifted.length c) ∧ w'.ownsRow w.heap.size 67 3 (.slice q lifted.length c) lifted.length (flatT lifted) ∧ WAt N' w' a { s with R := R1 } ∧ Turned N w w' ∧ (∀ k, N' k → N k) ∧
    (lifted ++ flatAll s.S R1).Perm (flatAll s.S s.R) ∧ (∀ x, x ∈ lifted → x.at_ ≤ nw) ∧ (∀ x, x ∈ flatAll s.S R1 → nw < x.at_) ∧ GoodR s.S s.cur R1 ∧ (∀ p, p < s.S → ∀ x, x ∈ R1 p → x ∈ s.R p)
theorem lift_end {w W : World} {b gs : Nat} {fa : Addr} {NB N : Nat → Prop} {sv : Nat → Value} {dv : Value} {s : Ws} {nw : Nat} {R' : Nat → List Tw} {lifted : List Tw} {q : Option Addr} {c : Nat} {sv' : Nat → Value} {m' : Nat → Bool} (h : LiftR w W b gs fa NB sv dv s nw R' lifted q c sv' m') (hN : ∀ k, N k ↔ OwnW b gs s.S NB sv dv k) (hend : ∀ x, x ∈ flatAll s.S R' → nw < x.at_) : LiftP N w ⟨b, 0, none⟩ s nw (.returned (.slice q lifted.length c)) W :=
  ⟨q, c, lifted, R', _, rfl, h.row, h.at_, ⟨h.lo.os, h.lo.tape, h.lo.output, h.lo.size, fun k hk hn => h.lo.block k hk (fun ho => hn ((hN k).2 ho))⟩, fun k hk => (hN k).2 (h.old k hk), h.perm, h.le, hend, h.good, h.sub⟩

set_option maxHeartbeats 4000000 in
set_option maxRecDepth 100000 in
theorem w_lift {N : Nat → Prop} {w : World} {a : Addr} {s : Ws} (h : WAt N w a s) (f : s.Fits) (hg : GoodR s.S s.cur s.R) (hall : (flatAll s.S s.R).length ≤ 65536) (hT : TabN N w) (nw : Nat) (hnw : nw < 18446744073709551616) :
    Calls Tryd.prog 29 #[.pointer (some a), .int .u64 (nw : Int)] w (LiftP N w a s nw) := by
  have HF := Lib.hid (w_first h f hg hT.1)
  obtain ⟨b, gs, fa, NB, sv, dv, m, rfl, h1, h2, h3⟩ := h
  have hold := Lib.hid h1.lt
  have HN := Lib.hid h3
  have HTo := Lib.hid (hT.less (fun k hk => (h3 k).2 hk))
  have HR0 : Hid (LiftR w w b gs fa NB sv dv s nw s.R [] none 0 sv m) := Lib.hid ⟨h1, h2, fun p hp k hk => hk, hg, fun p hp x hx => hx, .refl _, fun x hx => (by cases hx), ⟨rfl, .inl ⟨rfl, rfl⟩⟩, Turned.refl _ _⟩
  have hs1 := f.s1
  have hs2 := f.s2
  have HFi := Lib.hid f
  have HAll := Lib.hid hall
  obtain ⟨inf, hi1, hi2, hi3, hi4⟩ := info_parts (P := Tryd.prog) (e := 67) (z := .agg #[.int .u64 0, .int .u64 0, .int .u64 0]) (size := 3) (bytes := 24) (by kernel_rfl)
  have HI := Lib.hid (And.intro hi1 (And.intro hi2 (And.intro hi3 hi4)))
  clear h1 h2 h3 hg hT f hall hi1 hi2 hi3 hi4
  go_enter Tryd.func29, Tryd.ntmps29
  go_wp2_with fail
  refine HF.out.mono ?_
  rintro e W1 ⟨⟨o, ho, rfl⟩, b1⟩
  have HR1 := Lib.hid (HR0.out.below b1)
  have HO := Lib.hid ho
  have HB1 := Lib.hid b1
  clear ho b1 HF HR0
  go_wp2_with fail
  go_loopg [5, 6, 7] (flatAll s.S s.R).length (fun n v5 v6 v7 wx => ∃ (R' : Nat → List Tw) (lifted : List Tw) (q : Option Addr) (c : Nat) (sv' : Nat → Value) (m' : Nat → Bool) (o : Option Nat), (flatAll s.S R').length = n ∧ v5 = .slice q lifted.length c ∧ v6 = .int .u64 ((o.getD 0 : Nat) : Int) ∧ v7 = .bool o.isSome ∧ Hid (LiftR w wx b gs fa NB sv dv s nw R' lifted q c sv' m') ∧ Hid (IsFirst s.S s.cur R' o))
  case atStart => exact ⟨s.R, [], none, 0, sv, m, o, rfl, rfl, rfl, rfl, HR1, HO⟩
  case round =>
    obtain ⟨R', lifted, q, c, sv', m', o, hn, rfl, rfl, rfl, HR, HF⟩ := hrel
    have HNn := Lib.hid hn
    clear HR1 HO HB1 hn
    cases o with
    | none =>
      simp only [Option.getD_none, Option.isSome_none]
      have hend : ∀ x, x ∈ flatAll s.S R' → nw < x.at_ := fun x hx => by
        obtain ⟨p, hp, hx⟩ := flat_mem.1 hx
        rw [HF.out p hp] at hx
        cases hx
      have HE := Lib.hid (lift_end HR.out HN.out hend)
      clear hend
      go_wp2_with fail
      go_ret
      exact HE.out
    | some sl =>
      simp only [Option.getD_some, Option.isSome_some]
      obtain ⟨p, hp, hne, hsl, hmin⟩ := HF.out
      by_cases hle : sl ≤ nw
      · have hlz : (sl : Int) ≤ (nw : Int) := by omega
        have hslm : sl % s.S = p := by rw [hsl]; exact slotAt_mod hp
        have hslt : sl < 18446744073709551616 := by omega
        have HPl0 := w_place HR.out.lie.box hs1 hs2 sl hslt
        rw [hslm] at HPl0
        have HPl := Lib.hid HPl0
        have HLen := Lib.hid (HR.out.len hp)
        have HSl := Lib.hid hsl
        have HNe := Lib.hid hne
        clear hsl hmin hne hslm HPl0 HF
        obtain ⟨n, Hn⟩ : ∃ n, Hid (lifted.length + (R' p).length = n) := ⟨_, Lib.hid rfl⟩
        have hn6 : n ≤ 65536 := by have := Hn.out; have := HLen.out; have := HAll.out; omega
        obtain ⟨c0, c1, c2, c3, c4, c5, c6, c7, c8⟩ := HR.out.lie.box.cells
        have g0 := HR.out.lie.sl.gr.cell hp
        have hpz0 : (0 : Int) ≤ (p : Int) := by omega
        have hpz : (p : Int) < (s.S : Int) := by omega
        have fz := HR.out.lie.sl.gr.frozen p
        have HSrc := Lib.hid (HR.out.lie.sl.row p hp)
        go_upto_region 7 with (first
          | (go_at_call 39; refine HPl.out.mono ?_; rintro e W2 ⟨rfl, rfl⟩)
          | (at_builtin; refine wpList_append_any' _ rfl (.tmp 28) (.tmp 35) 71 rfl w.heap.size 67 inf (.agg #[.int .u64 0, .int .u64 0, .int .u64 0]) 3 24 Tryd.underlying71 HI.out.1 HI.out.2.1 HI.out.2.2.1 HI.out.2.2.2 rfl (by omega) _ lifted.length _ rfl HR.out.row 0 (sv' p) (R' p).length _ rfl HSrc.out (flatT_one _) n Hn.out (by omega) (by omega) HR.out.lo.size ?_; intro q' c' W5 o5 g5 l5; have HM5 := Lib.hid (HR.out.grown hold.out o5 g5); clear o5 g5 l5))
        clear c0 c1 c2 c3 c4 c5 c6 c7 c8 g0 fz HPl HSrc
        obtain ⟨c0, c1, c2, c3, c4, c5, c6, c7, c8⟩ := HM5.out.lie.box.cells
        have g0 := HM5.out.lie.sl.gr.cell hp
        have fz := HM5.out.lie.sl.gr.frozen p
        have HM6 := Lib.hid (HM5.out.clear hold.out hp)
        go_upto_region 8 with fail
        clear c0 c1 c2 c3 c4 c5 c6 c7 c8 g0 fz HM5
        obtain ⟨W6, HW6⟩ : ∃ W6, Hid (W5.setCell ⟨gs, p, none⟩ (.slice none 0 0) = W6) := ⟨_, Lib.hid rfl⟩
        rw [HW6.out] at HM6 ⊢
        clear HW6
        obtain ⟨c0, c1, c2, c3, c4, c5, c6, c7, c8⟩ := HM6.out.lie.box.cells
        have HC := Lib.hid (c_clear HM6.out.lie.sl.bm (p : Int))
        go_wp2_with fail
        refine HC.out.mono ?_
        rintro e W7 ⟨rfl, k7⟩
        have HR7 := Lib.hid (HR.out.step hold.out hs1 hp (by rw [← HSl.out]; exact hle) Hn.out HM6.out k7)
        have HF7 := Lib.hid (w_first HR7.out.at_ (HR7.out.fits HFi.out HAll.out) HR7.out.good (HTo.out.turned HR7.out.lo))
        clear k7 HC c0 c1 c2 c3 c4 c5 c6 c7 c8
        go_wp2_with fail
        refine HF7.out.mono ?_
        rintro e W8 ⟨⟨o8, ho8, rfl⟩, b8⟩
        have HR8 := Lib.hid (HR7.out.below b8)
        have HO8 := Lib.hid ho8
        clear ho8 b8 HF7
        go_wp2_with fail
        go_roundg (flatAll s.S (updR R' p [])).length
        case measure =>
          have h1 := (flat_out (R := R') hp).length_eq
          rw [List.length_append] at h1
          have h2 : 0 < (R' p).length := List.length_pos_iff.2 HNe.out
          have := HNn.out
          omega
        case rel => exact ⟨updR R' p [], lifted ++ R' p, q', c', _, _, o8, rfl, by rw [List.length_append, Hn.out], rfl, rfl, HR8, HO8⟩
      · have hlz : ¬ (sl : Int) ≤ (nw : Int) := by omega
        have hend : ∀ x, x ∈ flatAll s.S R' → nw < x.at_ := fun x hx => by
          obtain ⟨r, hr, hx⟩ := flat_mem.1 hx
          have e1 := HR.out.good.at_ hs1 hr hx
          have e2 := hmin r hr (fun e => by rw [e] at hx; cases hx)
          omega
        have HE := Lib.hid (lift_end HR.out HN.out hend)
        clear hend hsl hmin hne
        go_wp2_with fail
        go_ret
        exact HE.out

end Go.Proofs.YtkiibobpejoaeaaDoor
