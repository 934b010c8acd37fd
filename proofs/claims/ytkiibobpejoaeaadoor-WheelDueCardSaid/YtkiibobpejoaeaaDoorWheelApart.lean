/-
  The program's own wheel: apart, which puts anew what is not due of the lifted things; whether one is due is told by a closure.
-/
import Derived.Test.YtkiibobpejoaeaaDoorWheelLift
namespace Go.Proofs.YtkiibobpejoaeaaDoor
open Go.RowKit
set_option linter.unusedVariables false
set_option linter.unusedSimpArgs false

theorem thing_cell {W : World} {base n c i : Nat} {q : Option Addr} {l : List Tw} {x : Tw} (h : W.ownsRow base 67 3 (.slice q n c) n (flatT l)) (hl : l.length = n) (hx : l[i]? = some x) :
    ∃ g, q = some ⟨g, 0, none⟩ ∧ W.cell? ⟨g, i * 3, none⟩ = some (.int .u64 (x.v : Int)) ∧ W.cell? ⟨g, i * 3 + 1, none⟩ = some (.int .u64 (x.slot : Int)) ∧ W.cell? ⟨g, i * 3 + 2, none⟩ = some (.int .u64 (x.turn : Int)) := by
  have hi := (List.getElem?_eq_some_iff.1 hx).1
  obtain ⟨x0, x1, x2⟩ := flatT_get hx
  rcases h.2 with ⟨_, e⟩ | ⟨g, cap, cur, e, h2, h3, h4, h5, h6, h7⟩
  · omega
  · cases e
    have hb : Box W g _ cur := h3
    have key : ∀ j, j < n * 3 → cur[j]? = (flatT l)[j]? := fun j hj => by rw [← h7, List.getElem?_take, if_pos hj, Array.getElem?_toList]
    exact ⟨g, rfl, by rw [hb.cell, key _ (by omega), x0], by rw [hb.cell, key _ (by omega), x1], by rw [hb.cell, key _ (by omega), x2]⟩

/-- Whether a thing is due: the closure of Advance. -/
theorem w_isdue (v slot turn nw tb : Nat) (w : World) (hc : w.cell? ⟨tb, 0, none⟩ = some (.int .u64 (nw : Int))) :
    Calls Tryd.prog 31 #[.agg #[.int .u64 (v : Int), .int .u64 (slot : Int), .int .u64 (turn : Int)], .pointer (some ⟨tb, 0, none⟩)] w fun e w' => e = .returned (.bool (decide (slot ≤ nw))) ∧ Below w.heap.size w w' := by
  have hb := World.block_lt_of_cell? w _ hc
  have b1 := (Below.refl _ w).alloc (Nat.le_refl _) (.cells #[.int .u64 (v : Int), .int .u64 (slot : Int), .int .u64 (turn : Int)] 67)
  have d1 := (b1.cell (p := ⟨tb, 0, none⟩) hb).trans hc
  have HB := Lib.hid b1
  by_cases h : slot ≤ nw
  · have hz : (slot : Int) ≤ (nw : Int) := by omega
    have e1 : decide (slot ≤ nw) = true := by simpa using h
    rw [e1]
    clear b1 e1 h
    go_enter Tryd.func31, Tryd.ntmps31
    go_wp2_with fail
    go_ret
    exact ⟨rfl, HB.out⟩
  · have hz : ¬ (slot : Int) ≤ (nw : Int) := by omega
    have hz2 : decide ((slot : Int) ≤ (nw : Int)) = false := by simpa using h
    have e1 : decide (slot ≤ nw) = false := by simpa using h
    rw [e1]
    clear b1 e1 h
    go_enter Tryd.func31, Tryd.ntmps31
    go_wp2_with fail
    go_ret
    exact ⟨rfl, HB.out⟩

def dueL (nw : Nat) (l : List Tw) : List Tw := l.filter fun x => decide (x.slot ≤ nw)
def farL (nw : Nat) (l : List Tw) : List Tw := l.filter fun x => !decide (x.slot ≤ nw)
/-- In the midst of parting: what is due so far, what was put anew. -/
structure ApR (N N' : Nat → Prop) (w W : World) (a : Addr) (s : Ws) (nw : Nat) (done : List Tw) (R' : Nat → List Tw) (due : List Tw) (q' : Option Addr) (c' : Nat) : Prop where
  at_ : WAt N' W a { s with R := R' }
  is_ : due = dueL nw done
  perm : (flatAll s.S R').Perm (flatAll s.S s.R ++ (farL nw done).map fun x => x.stand s.S s.cur)
  good : GoodR s.S s.cur R'
  word : ∀ p, p < s.S → ∀ x, x ∈ R' p → x.v < 18446744073709551616 ∧ x.slot < 18446744073709551616 ∧ x.turn < 18446744073709551616
  row : W.ownsRow w.heap.size 67 3 (.slice q' due.length c') due.length (flatT due)
  off : OffV N' (.slice q' due.length c')
  lo : Turned N w W
  in_ : ∀ k, N' k → N k ∨ w.heap.size ≤ k
section
variable {N N' : Nat → Prop} {w W W' : World} {a : Addr} {s : Ws} {nw : Nat} {done : List Tw} {R' : Nat → List Tw} {due : List Tw} {q' : Option Addr} {c' : Nat}
theorem ApR.below (h : ApR N N' w W a s nw done R' due q' c') (b : Below W.heap.size W W') : ApR N N' w W' a s nw done R' due q' c' :=
  ⟨h.at_.below b, h.is_, h.perm, h.good, h.word, owns_below h.row b, h.off, h.lo.trans (Turned.below b), h.in_⟩
theorem ApR.some (h : ApR N N' w W a s nw done R' due q' c') {x : Tw} (hx : x.slot ≤ nw) {gg cap : Nat} {W5 : World} (o5 : W5.ownsRow w.heap.size 67 3 (.slice (some ⟨gg, 0, none⟩) (due.length + 1) cap) (due.length + 1) (flatT due ++ x.cells)) (g5 : W.grownBy W5 (Value.slice q' due.length c').ownBlock) (hat : (Value.slice q' due.length c').ownBlock = Option.some gg ∨ gg = W.heap.size) :
    ApR N N' w W5 a s nw (done ++ [x]) R' (due ++ [x]) (some ⟨gg, 0, none⟩) cap := by
  have hl : (due ++ [x]).length = due.length + 1 := by simp
  refine ⟨h.at_.kept fun k hk => g5.block k (h.at_.lt k hk) (fun e => h.off k hk e.symm), ?_, ?_, h.good, h.word, ?_, ?_, ?_, h.in_⟩
  · rw [h.is_]; unfold dueL; rw [List.filter_append]; simp [hx]
  · have e : farL nw (done ++ [x]) = farL nw done := by unfold farL; rw [List.filter_append]; simp [hx]
    rw [e]; exact h.perm
  · rw [hl, flatT_app, show flatT [x] = x.cells by simp [flatT]]; exact o5
  · intro k hk e
    have e' : gg = k := by simpa [Value.ownBlock] using e
    rcases hat with h1 | h1
    · exact h.off k hk (by rw [h1, e'])
    · have := h.at_.lt k hk; omega
  · exact h.lo.grown g5 fun k e hk => absurd (h.row.lt k e).1 (by omega)
theorem ApR.none (h : ApR N N' w W a s nw done R' due q' c') (hS : 2 ≤ s.S) (hcur : s.cur < 18446744073709551616) {x : Tw} (hx : ¬ x.slot ≤ nw) (hw : x.v < 18446744073709551616 ∧ x.slot < 18446744073709551616 ∧ x.turn < 18446744073709551616) (k : WentG WAt N' W a { s with R := updR R' (standW s.S s.cur x.slot % s.S) (R' (standW s.S s.cur x.slot % s.S) ++ [x.stand s.S s.cur]) } W') :
    ∃ N2, ApR N N2 w W' a s nw (done ++ [x]) (updR R' (standW s.S s.cur x.slot % s.S) (R' (standW s.S s.cur x.slot % s.S) ++ [x.stand s.S s.cur])) due q' c' := by
  obtain ⟨N2, k1, k2, k3⟩ := k
  have hp : standW s.S s.cur x.slot % s.S < s.S := Nat.mod_lt _ (by omega)
  refine ⟨N2, k1, ?_, ?_, h.good.upd fun y hy => ?_, fun p hpS y hy => ?_, own_turnedV h.row h.off k2, h.off.went h.row k3, ?_, fun j hj => ?_⟩
  · have e : dueL nw (done ++ [x]) = dueL nw done := by unfold dueL; rw [List.filter_append]; simp [hx]
    rw [e]; exact h.is_
  · refine (flat_add hp _).trans ?_
    have e : farL nw (done ++ [x]) = farL nw done ++ [x] := by unfold farL; rw [List.filter_append]; simp [hx]
    rw [e, List.map_append, ← List.append_assoc]
    exact h.perm.append_right _
  · rcases List.mem_append.1 hy with hy | hy
    · exact h.good _ hp y hy
    · rw [List.mem_singleton.1 hy]
      exact ⟨(stand_in hcur).1, (stand_in hcur).2, rfl⟩
  · by_cases c : p = standW s.S s.cur x.slot % s.S
    · subst c
      rw [updR_at] at hy
      rcases List.mem_append.1 hy with hy | hy
      · exact h.word _ hpS y hy
      · rw [List.mem_singleton.1 hy]; exact hw
    · rw [updR_ne c] at hy; exact h.word p hpS y hy
  · refine ⟨k2.os.trans h.lo.os, k2.tape.trans h.lo.tape, k2.output.trans h.lo.output, Nat.le_trans h.lo.size k2.size, fun j hj hn => ?_⟩
    have hj2 := Nat.lt_of_lt_of_le hj h.lo.size
    refine (k2.block j hj2 fun c => ?_).trans (h.lo.block j hj hn)
    rcases h.in_ j c with h1 | h1
    · exact hn h1
    · omega
  · rcases k3 j hj with h1 | h1
    · exact h.in_ j h1
    · exact .inr (Nat.le_trans h.lo.size h1)
end
def ApartP (N : Nat → Prop) (w : World) (a : Addr) (s : Ws) (nw : Nat) (lifted : List Tw) (e : Ending) (w' : World) : Prop :=
  ∃ N' R' q' c', e = .returned (.slice q' (dueL nw lifted).length c') ∧ ApR N N' w w' a s nw lifted R' (dueL nw lifted) q' c'
theorem take_snoc' {l : List Tw} {i : Nat} {x : Tw} (hx : l[i]? = some x) : l.take (i + 1) = l.take i ++ [x] := by
  obtain ⟨hi, e⟩ := List.getElem?_eq_some_iff.1 hx
  rw [List.take_succ_eq_append_getElem hi, e]

set_option maxHeartbeats 4000000 in
set_option maxRecDepth 100000 in
/-- apart: those of the lifted things that are due; the others are put anew. -/
theorem w_apart {N : Nat → Prop} {w : World} {a : Addr} {s : Ws} (h : WAt N w a s) (f : s.Fits) (hg : GoodR s.S s.cur s.R) (nw tb base c : Nat) (q : Option Addr) (lifted : List Tw) (hn : (flatAll s.S s.R).length + lifted.length ≤ 65536)
    (hrow : w.ownsRow base 67 3 (.slice q lifted.length c) lifted.length (flatT lifted)) (hoff : OffV N (.slice q lifted.length c)) (hw : ∀ x, x ∈ lifted → x.v < 18446744073709551616 ∧ x.slot < 18446744073709551616 ∧ x.turn < 18446744073709551616)
    (hc : w.cell? ⟨tb, 0, none⟩ = some (.int .u64 (nw : Int))) (htb : ¬ N tb) :
    Calls Tryd.prog 30 #[.pointer (some a), .slice q lifted.length c, .func (.func 31) #[] #[.pointer (some ⟨tb, 0, none⟩)]] w (ApartP N w a s nw lifted) := by
  have HR0 : Hid (ApR N N w w a s nw [] s.R [] none 0) := Lib.hid ⟨h, rfl, by simp [farL], hg, f.word, ⟨rfl, .inl ⟨rfl, rfl⟩⟩, fun k hk e => by simp [Value.ownBlock] at e, Turned.refl _ _, fun k hk => .inl hk⟩
  have hs1 := f.s1
  have hs2 := f.s2
  have HFi := Lib.hid f
  have HW := Lib.hid hw
  have htl := World.block_lt_of_cell? w _ hc
  have HCell : Hid (∀ W, Turned N w W → W.cell? ⟨tb, 0, none⟩ = some (.int .u64 (nw : Int))) := Lib.hid (fun W t => by
    have e := t.block tb htl htb
    unfold World.cell? at hc ⊢
    simp only at hc ⊢
    rw [e]
    exact hc)
  have HSrc : Hid (∀ W, Turned N w W → W.ownsRow base 67 3 (.slice q lifted.length c) lifted.length (flatT lifted)) := Lib.hid (fun W t => own_turnedV hrow hoff t)
  obtain ⟨inf, hi1, hi2, hi3, hi4⟩ := info_parts (P := Tryd.prog) (e := 67) (z := .agg #[.int .u64 0, .int .u64 0, .int .u64 0]) (size := 3) (bytes := 24) (by kernel_rfl)
  have HI := Lib.hid (And.intro hi1 (And.intro hi2 (And.intro hi3 hi4)))
  obtain ⟨n, Hn⟩ : ∃ n, Hid (lifted.length = n) := ⟨_, Lib.hid rfl⟩
  have hn6 : n ≤ 65536 := by have := Hn.out; omega
  have HTot := Lib.hid hn
  rw [Hn.out] at HSrc ⊢
  clear h f hg hw hc htb hrow hoff hi1 hi2 hi3 hi4 htl hn
  go_enter Tryd.func30, Tryd.ntmps30
  go_wp2_with fail
  go_loopg [7, 12] n (fun r v7 v12 wx => ∃ (i : Nat) (N' : Nat → Prop) (R' : Nat → List Tw) (due : List Tw) (q' : Option Addr) (c' : Nat), i + r = n ∧ v7 = .slice q' due.length c' ∧ v12 = .int .i64 (i : Int) ∧ Hid (ApR N N' w wx a s nw (lifted.take i) R' due q' c'))
  case atStart => exact ⟨0, N, s.R, [], none, 0, by omega, rfl, rfl, HR0⟩
  case round =>
    obtain ⟨i, N', R', due, q', c', hin, rfl, rfl, HR⟩ := hrel
    clear HR0
    by_cases hie : i = n
    · have hiz : ¬ (i : Int) < (n : Int) := by omega
      have HE : Hid (ApartP N w a s nw lifted (.returned (.slice q' due.length c')) wr) := by
        have h1 := HR.out
        rw [List.take_of_length_le (by rw [Hn.out]; omega)] at h1
        have e := h1.is_
        subst e
        exact Lib.hid ⟨N', R', q', c', rfl, h1⟩
      go_wp2_with fail
      go_ret
      exact HE.out
    · have hiz : (i : Int) < (n : Int) := by omega
      obtain ⟨x, hx⟩ : ∃ x, lifted[i]? = some x := ⟨_, List.getElem?_eq_getElem (by rw [Hn.out]; omega)⟩
      have HTk := Lib.hid (take_snoc' hx)
      have hxw := HW.out x (List.mem_of_getElem? hx)
      obtain ⟨g, rfl, x0, x1, x2⟩ := thing_cell (HSrc.out wr HR.out.lo) Hn.out hx
      obtain ⟨xv, xs, xt, xa⟩ := x
      simp only at hxw x0 x1 x2
      have HXw := Lib.hid hxw
      have hiz0 : (0 : Int) ≤ (i : Int) := by omega
      clear hx hxw
      go_upto_region 5 with fail
      clear x0 x1 x2
      obtain ⟨xb, HXB⟩ : ∃ xb, Hid (wr.heap.size = xb) := ⟨_, Lib.hid rfl⟩
      obtain ⟨W5, HW5⟩ : ∃ W5, Hid (wr.alloc (.cells #[.int .u64 (xv : Int), .int .u64 (xs : Int), .int .u64 (xt : Int)] 67) = W5) := ⟨_, Lib.hid rfl⟩
      have HR5 := Lib.hid (HR.out.below (W' := W5) (by rw [← HW5.out]; exact (Below.refl _ _).alloc (Nat.le_refl _) _))
      have HX5 : Hid (Box W5 xb 67 #[.int .u64 (xv : Int), .int .u64 (xs : Int), .int .u64 (xt : Int)]) := by rw [← HW5.out, ← HXB.out]; exact Lib.hid (Box.new _ _ _)
      rw [HW5.out, HXB.out]
      clear HW5 HXB HR
      have x0 := HX5.out.cell 0
      have x1 := HX5.out.cell 1
      have x2 := HX5.out.cell 2
      have HD := Lib.hid (w_isdue xv xs xt nw tb W5 (HCell.out W5 HR5.out.lo))
      have hwi : IntKind.i64.wrap ((i : Int) + 1) = ((i + 1 : Nat) : Int) := by rw [IntKind.wrap_i64]; omega
      have hlen : due.length ≤ 65536 := by
        have h1 := HR5.out.is_
        have h2 := List.length_filter_le (fun x : Tw => decide (x.slot ≤ nw)) (lifted.take i)
        have h3 : (lifted.take i).length ≤ i := List.length_take_le _ _
        have h4 : due.length = (dueL nw (lifted.take i)).length := by rw [← h1]
        unfold dueL at h4
        omega
      by_cases hd : xs ≤ nw
      · have e1 : decide (xs ≤ nw) = true := by simpa using hd
        rw [e1] at HD
        have HDd := Lib.hid hd
        clear e1 hd
        go_wp2_with (first
          | (go_at_call 31; refine HD.out.mono ?_; rintro e W6 ⟨rfl, b6⟩; have HR6 := Lib.hid (HR5.out.below b6); have HX6 := Lib.hid (HX5.out.below b6 HX5.out.lt); clear b6 HD x0 x1 x2; have x0 := HX6.out.cell 0; have x1 := HX6.out.cell 1; have x2 := HX6.out.cell 2; have ro := owns_below HR6.out.row ((Below.refl _ W6).alloc (Nat.le_refl _) (.cells #[.int .u64 (xv : Int), .int .u64 (xs : Int), .int .u64 (xt : Int)] 67)))
          | (at_builtin; refine wpList_append_lies _ rfl (.tmp 19) (.tmp 21) _ rfl w.heap.size 67 inf _ 3 24 Tryd.underlying71 HI.out.1 HI.out.2.1 HI.out.2.2.1 HI.out.2.2.2 rfl (by omega) _ due.length _ rfl ro ⟨W6.heap.size, 0, none⟩ 1 1 [.int .u64 (xv : Int), .int .u64 (xs : Int), .int .u64 (xt : Int)] rfl rfl (World.news_of_block (cs := #[.int .u64 (xv : Int), .int .u64 (xs : Int), .int .u64 (xt : Int)]) (t := 67) (fr := (0, 0)) (heap_alloc_new W6 _)) (by simp [Value.oneCell']) (by omega) (by simp [maxLen]; omega) (by omega) (by have := HR6.out.lo.size; simp; omega) (W6.heap.size + 1) (by simp) ?_; intro gg cap W7 o7 g7 hat hlt; have HR7 := Lib.hid ((HR6.out.below ((Below.refl _ W6).alloc (Nat.le_refl _) (.cells #[.int .u64 (xv : Int), .int .u64 (xs : Int), .int .u64 (xt : Int)] 67))).some (x := ⟨xv, xs, xt, xa⟩) HDd.out o7 g7 (hat.imp id (fun e => e.trans (by simp)))); clear o7 g7 hat hlt))
        go_roundg (n - (i + 1))
        case measure => omega
        case rel => exact ⟨i + 1, N', R', due ++ [⟨xv, xs, xt, xa⟩], some ⟨gg, 0, none⟩, cap, by omega, by simp, by go_num, by rw [HTk.out]; exact HR7⟩
      · have e1 : decide (xs ≤ nw) = false := by simpa using hd
        rw [e1] at HD
        have HDd := Lib.hid hd
        clear e1 hd
        have hpl : standW s.S s.cur xs % s.S < s.S := Nat.mod_lt _ (by omega)
        have hlp : (R' (standW s.S s.cur xs % s.S)).length < 65536 := by
          obtain ⟨A, B, e, _⟩ := flat_split (R := R') hpl
          have h1 := HR5.out.perm.length_eq
          rw [e, List.length_append, List.length_append, List.length_append, List.length_map] at h1
          have h2 := List.length_filter_le (fun x : Tw => !decide (x.slot ≤ nw)) (lifted.take i)
          have h3 : (lifted.take i).length ≤ i := List.length_take_le _ _
          have h4 := HTot.out
          have h5 := Hn.out
          unfold farL at h1
          omega
        have hf5 : ({ s with R := R' } : Ws).Fits := ⟨hs1, hs2, HFi.out.w1, HFi.out.w2, HFi.out.cur, fun p hp => by
          obtain ⟨A, B, e, _⟩ := flat_split (R := R') hp
          have h1 := HR5.out.perm.length_eq
          rw [e, List.length_append, List.length_append, List.length_append, List.length_map] at h1
          have h2 := List.length_filter_le (fun x : Tw => !decide (x.slot ≤ nw)) (lifted.take i)
          have h3 : (lifted.take i).length ≤ i := List.length_take_le _ _
          have h4 := HTot.out
          have h5 := Hn.out
          unfold farL at h1
          show (R' p).length ≤ 65536
          omega, HR5.out.word⟩
        have HFL := Lib.hid (And.intro hf5 hlp)
        clear hf5 hlp
        go_wp2_with fail
        refine HD.out.mono ?_
        rintro e W6 ⟨rfl, b6⟩
        have HR6 := Lib.hid (HR5.out.below b6)
        have HX6 := Lib.hid (HX5.out.below b6 HX5.out.lt)
        have HS := Lib.hid (w_stand HR6.out.at_ HFL.out.1 ⟨xv, xs, xt, xa⟩ HXw.out.2.1 HFL.out.2)
        clear b6 HD x0 x1 x2
        have x0 := HX6.out.cell 0
        have x1 := HX6.out.cell 1
        have x2 := HX6.out.cell 2
        go_wp2_with fail
        refine HS.out.mono ?_
        rintro e W7 ⟨rfl, k7⟩
        obtain ⟨N2, hR7⟩ := HR6.out.none hs1 HFi.out.cur (x := ⟨xv, xs, xt, xa⟩) HDd.out HXw.out k7
        have HR7 := Lib.hid hR7
        clear k7 hR7 HS x0 x1 x2
        go_wp2_with fail
        go_roundg (n - (i + 1))
        case measure => omega
        case rel => exact ⟨i + 1, N2, _, due, q', c', by omega, rfl, by go_num, by rw [HTk.out]; exact HR7⟩

end Go.Proofs.YtkiibobpejoaeaaDoor
