/-
  BitmapTells: the bitmap beside the document's.
-/
import Derived.Test.YtlpniacffahnkabDoorBitRefW
import Derived.Test.YtlpniacffahnkabDoorBitSt
import Derived.Test.YtlpniacffahnkabDoorInts
namespace Go.Proofs.YtlpniacffahnkabDoor
open Go.RowKit
set_option linter.unusedVariables false

theorem upB_one {j : Nat} {m : Nat → Bool} : ∀ {n : Nat}, j < n → upB n m (j + 1) = upB n m j ++ (if m j then [j] else [])
  | 0, h => absurd h (by omega)
  | n + 1, h => by
    unfold upB
    rw [markL_succ, markL_succ]
    by_cases c : j = n
    · subst c
      rw [markL_congr (n := j) (m := fun q => m q && decide (q < j + 1)) (m' := fun q => m q && decide (q < j)) (fun i hi => by
        have e1 : decide (i < j + 1) = true := by simp; omega
        have e2 : decide (i < j) = true := by simp; omega
        simp [e1, e2])]
      have e1 : decide (j < j) = false := by simp
      have e2 : decide (j < j + 1) = true := by simp
      simp only [e1, e2, Bool.and_false, Bool.and_true]
      simp
    · have e := upB_one (m := m) (n := n) (j := j) (by omega)
      unfold upB at e
      rw [e]
      have e1 : decide (n < j + 1) = false := by simp; omega
      have e2 : decide (n < j) = false := by simp; omega
      simp [e1, e2]
theorem upB_full (n : Nat) (m : Nat → Bool) : upB n m n = markL n m := markL_congr fun i hi => by simp [hi]
theorem round_one {m : Nat → Bool} {fr : Int} {a b : Option Nat} (h : IsRound m fr a) (k : IsRound m fr b) : a = b := by
  rcases h with ⟨h1, h2⟩ | ⟨h1, h2⟩ <;> rcases k with ⟨k1, k2⟩ | ⟨k1, k2⟩
  · exact next_one h1 k1
  · exact absurd (next_one h1 k1) h2
  · exact absurd (next_one k1 h1) k2
  · exact next_one h2 k2
section
variable {w w' : World} {base b c n : Nat} {m : Nat → Bool}
theorem ref_all (h : RefB w base b c n m) : Calls Tryd.prog 21 #[.agg #[.slice (some ⟨b, 0, none⟩) n c]] w fun e w' => ∃ p d, e = .returned (.slice p (markL n m).length d) ∧ w'.ownsRow w.heap.size 3 1 (.slice p (markL n m).length d) (markL n m).length ((markL n m).map natV) ∧ Below w.heap.size w w' := by
  have HB := Lib.hid ((Below.refl _ w).alloc (Nat.le_refl _) (.cells #[.slice (some ⟨b, 0, none⟩) n c] 29))
  have x1 := Lib.hid (Box.new w 29 #[.slice (some ⟨b, 0, none⟩) n c])
  have H' := Lib.hid (h.below HB.out)
  have hn2 := h.n2
  obtain ⟨inf, hi1, hi2, hi3, hi4⟩ := info_parts (P := Tryd.prog) (e := 3) (z := .int .i64 0) (size := 1) (bytes := 8) (by kernel_rfl)
  clear h
  obtain ⟨W, HW⟩ : ∃ W, Hid (w.alloc (.cells #[.slice (some ⟨b, 0, none⟩) n c] 29) = W) := ⟨_, Lib.hid rfl⟩
  rw [HW.out] at HB H' x1
  go_enter Tryd.func21, Tryd.ntmps21
  go_upto_region 3 with fail
  rw [HW.out]
  go_loopg [3, 4] (n + 1) (fun s v3 v4 wx => ∃ (j : Nat) (p : Option Addr) (d : Nat), n + 1 - j = s ∧ j ≤ n ∧ v3 = .slice p (upB n m j).length d ∧ v4 = .int .i64 (j : Int) ∧ Hid (wx.ownsRow w.heap.size 3 1 (.slice p (upB n m j).length d) (upB n m j).length ((upB n m j).map natV)) ∧ Hid (Below W.heap.size W wx) ∧ Hid (Below w.heap.size w wx))
  case atStart => exact ⟨0, none, 0, rfl, by omega, by rw [upB_zero]; rfl, rfl, Lib.hid (by rw [upB_zero]; exact World.ownsRow_nil _ _ _ _), Lib.hid (Below.refl _ _), HB⟩
  case round =>
    obtain ⟨j, p, d, rfl, hj, rfl, rfl, HR, HBr, HLo⟩ := hrel
    have c0 := (x1.out.below HBr.out x1.out.lt).cell 0
    by_cases hjn : j = n
    · subst hjn
      have hz : ¬ (j : Int) < (j : Int) := by omega
      rw [upB_full] at HR ⊢
      clear H' x1
      go_wp2_with fail
      go_ret
      exact ⟨p, d, rfl, HR.out, HLo.out⟩
    · have hz : (j : Int) < (n : Int) := by omega
      have hj' : j < n := by omega
      have d0 := (H'.out.below HBr.out).cell hj'
      have HE := Lib.hid (upB_one (m := m) hj')
      have hlen : (upB n m j).length ≤ 65536 := Nat.le_trans (markL_le _ _) hn2
      cases cm : m j with
      | false =>
        rw [cm] at d0 HE
        have he : upB n m (j + 1) = upB n m j := by rw [HE.out]; simp
        have HR2 : Hid (wr.ownsRow w.heap.size 3 1 (.slice p (upB n m (j + 1)).length d) (upB n m (j + 1)).length ((upB n m (j + 1)).map natV)) := by rw [he]; exact HR
        have HEl : Hid (upB n m (j + 1) = upB n m j) := Lib.hid he
        clear H' HE HR he cm
        go_wp2_with fail
        go_roundg (n + 1 - (j + 1))
        case measure => omega
        case rel => exact ⟨j + 1, p, d, rfl, by omega, by rw [HEl.out], by go_num, HR2, HBr, HLo⟩
      | true =>
        rw [cm] at d0 HE
        have r5 := owns_below HR.out ((Below.refl _ wr).alloc (Nat.le_refl _) (.cells #[.int .i64 (j : Int)] 3))
        have hsl := lit_one (e := 3) wr (.int .i64 (j : Int))
        have HB5 := Lib.hid (HLo.out.alloc HLo.out.size (.cells #[.int .i64 (j : Int)] 3))
        have hWw : w.heap.size + 1 = W.heap.size := by rw [← HW.out]; simp
        have hb5 := HLo.out.size
        have HBr5 := Lib.hid (below_tr HBr.out ((Below.refl _ wr).alloc (Nat.le_refl _) (.cells #[.int .i64 (j : Int)] 3)))
        have X5 := Lib.hid ((x1.out.below HBr.out x1.out.lt).alloc (.cells #[.int .i64 (j : Int)] 3))
        clear HR HBr HLo cm
        generalize upB n m j = l0 at *
        have hml : l0.length + 1 ≤ maxLen := by simp only [maxLen]; omega
        go_wp2_with (first | (at_builtin; (refine wpList_append_any _ rfl (.tmp 17) (.tmp 19) 39 rfl w.heap.size 3 inf (.int .i64 0) 1 8 Tryd.underlying39 hi1 hi2 hi3 hi4 rfl (by decide) (.slice p l0.length d) l0.length _ rfl r5 0 _ 1 [.int .i64 (j : Int)] rfl hsl (by intro u hu; simp at hu; subst hu; rfl) hml (by omega) (by simp; omega) ?_; intro p5 c5 w5 own5 gr5 loc5)))
        have HLo6 := Lib.hid (below_grown HB5.out r5 (Nat.le_refl _) gr5)
        have HR6 : Hid (w5.ownsRow w.heap.size 3 1 (.slice p5 (upB n m (j + 1)).length c5) (upB n m (j + 1)).length ((upB n m (j + 1)).map natV)) := by
          rw [HE.out]
          simp only [if_true, List.length_append, List.map_append]
          exact Lib.hid own5
        have hle6 : l0.length + 1 = (upB n m (j + 1)).length := by rw [HE.out]; simp
        have hW6 : Hid (Below W.heap.size W w5) := by
          refine Lib.hid (HBr5.out.trans ⟨gr5.os, gr5.tape, gr5.output, gr5.size, fun k hk => gr5.block k (Nat.lt_of_lt_of_le hk HBr5.out.size) (fun e => ?_)⟩)
          have h1 := (r5.lt k e.symm).1
          obtain rfl : k = w.heap.size := by omega
          exact X5.out.not_row r5 (by decide) e.symm
        rw [hle6]
        clear own5 gr5 loc5 r5 hsl HB5 HBr5 X5 hle6 HE H'
        go_roundg (n + 1 - (j + 1))
        case measure => omega
        case rel => exact ⟨j + 1, p5, c5, rfl, by omega, rfl, by go_num, HR6, hW6, HLo6⟩
end

/-- The bitmap, the document's in block B, its row in block b. -/
structure TStN (N : Nat → Prop) (w W : World) (a : Addr) (n B b c : Nat) (m m' : Nat → Bool) : Prop where
  at_ : BmAt N W a ⟨n, m⟩
  new : ∀ j, N j → w.heap.size ≤ j
  lo : Below w.heap.size w W
  box : Box W B 29 #[.slice (some ⟨b, 0, none⟩) n c]
  nb : ¬ N B
  hB : w.heap.size ≤ B
  ref : RefB W w.heap.size b c n m'
  off : ¬ N b
section
variable {N : Nat → Prop} {w W W' : World} {a : Addr} {n B b c : Nat} {m m' : Nat → Bool}
theorem TStN.below (h : TStN N w W a n B b c m m') (g : Below W.heap.size W W') : TStN N w W' a n B b c m m' :=
  ⟨h.at_.below g, h.new, below_tr h.lo g, h.box.below g h.box.lt, h.nb, h.hB, h.ref.below g, h.off⟩
theorem TStN.bst (h : TStN N w W a n B b c m m') : BSt w W a ⟨n, m⟩ := ⟨N, h.at_, h.new, h.lo⟩
theorem TStN.went {m2 : Nat → Bool} (h : TStN N w W a n B b c m m') (k : WentB N W a ⟨n, m2⟩ W') : TStN N w W' a n B b c m2 m' := by
  refine ⟨k.1, h.new, below_turned k.2 h.lo.size h.new h.lo, h.box.turned k.2 h.nb, h.nb, h.hB, ⟨own_turnedV h.ref.own (fun j hj e => ?_) k.2, h.ref.n1, h.ref.n2⟩, h.off⟩
  have : b = j := by simpa [Value.ownBlock] using e
  exact h.off (this ▸ hj)
theorem TStN.set_yes (h : TStN N w W a n B b c m m') {p : Nat} (hp : p < n) (hm : m p = false) : Calls Tryd.prog 13 #[.pointer (some a), .int .i64 (p : Int)] W fun e W' => e = .returned (.bool true) ∧ TStN N w W' a n B b c (setB m p true) m' := by
  refine (c_set h.at_ (p : Int)).mono ?_
  rintro e W' ⟨rfl, k⟩
  have hn : newB ⟨n, m⟩ (p : Int) = true := by simp [newB, hp, hm]
  rw [setG_yes hn] at k
  rw [hn]
  exact ⟨rfl, h.went k⟩
theorem TStN.set_no (h : TStN N w W a n B b c m m') {i : Int} (hi : newB ⟨n, m⟩ i = false) : Calls Tryd.prog 13 #[.pointer (some a), .int .i64 i] W fun e W' => e = .returned (.bool false) ∧ TStN N w W' a n B b c m m' ∧ Turned N W W' := by
  refine (c_set h.at_ i).mono ?_
  rintro e W' ⟨rfl, k⟩
  rw [setG_no hi] at k
  rw [hi]
  exact ⟨rfl, h.went k, k.2⟩
theorem TStN.clear_yes (h : TStN N w W a n B b c m m') {p : Nat} (hp : p < n) (hm : m p = true) : Calls Tryd.prog 14 #[.pointer (some a), .int .i64 (p : Int)] W fun e W' => e = .returned (.bool true) ∧ TStN N w W' a n B b c (setB m p false) m' := by
  refine (c_clear h.at_ (p : Int)).mono ?_
  rintro e W' ⟨rfl, k⟩
  have hn : hasB ⟨n, m⟩ (p : Int) = true := by simp [hasB, hp, hm]
  rw [clearG_yes hn] at k
  rw [hn]
  exact ⟨rfl, h.went k⟩
theorem TStN.clear_no (h : TStN N w W a n B b c m m') {i : Int} (hi : hasB ⟨n, m⟩ i = false) : Calls Tryd.prog 14 #[.pointer (some a), .int .i64 i] W fun e W' => e = .returned (.bool false) ∧ TStN N w W' a n B b c m m' := by
  refine (c_clear h.at_ i).mono ?_
  rintro e W' ⟨rfl, k⟩
  rw [clearG_no hi] at k
  rw [hi]
  exact ⟨rfl, h.went k⟩
/-- The document's is another one now. -/
theorem TStN.put {b' c' : Nat} {m2 : Nat → Bool} {W1 : World} (h : TStN N w W a n B b c m m') (g : Below W.heap.size W W1) (r : RefB W1 W.heap.size b' c' n m2) (o : Obj) : TStN N w ((W1.alloc o).setCell ⟨B, 0, none⟩ (.slice (some ⟨b', 0, none⟩) n c')) a n B b' c' m m2 := by
  have b1 := (Below.refl _ W1).alloc (Nat.le_refl _) o
  have h1 := (h.below g).below b1
  have r1 := r.below b1
  have hb' := (r.own.lt b' rfl).1
  refine ⟨h1.at_.kept (fun j hj => Below.heap_setCell _ ⟨B, 0, none⟩ _ j (fun e => h1.nb (by have : j = B := e; rw [← this]; exact hj))), h1.new, h1.lo.setCell (p := ⟨B, 0, none⟩) h1.hB _, h1.box.set 0 _, h1.nb, h1.hB, ⟨h1.box.row (own_low r1.own h.lo.size) (by decide), r.n1, r.n2⟩, fun hn => ?_⟩
  have := h.at_.lt _ hn
  omega
/-- .. or the same one, in its place again. -/
theorem TStN.again (h : TStN N w W a n B b c m m') : TStN N w (W.setCell ⟨B, 0, none⟩ (.slice (some ⟨b, 0, none⟩) n c)) a n B b c m m' :=
  ⟨h.at_.kept (fun j hj => Below.heap_setCell _ ⟨B, 0, none⟩ _ j (fun e => h.nb (by have : j = B := e; rw [← this]; exact hj))), h.new, h.lo.setCell (p := ⟨B, 0, none⟩) h.hB _, h.box.set 0 _, h.nb, h.hB, ⟨h.box.row h.ref.own (by decide), h.ref.n1, h.ref.n2⟩, h.off⟩
end

end Go.Proofs.YtlpniacffahnkabDoor
