/-
  What the program's own From, Upto and Sweep answer, of whatever reads as a tree.
-/
import Derived.Test.YtfedjeojanpnpabWalkSteps
namespace Go.Proofs.Ytfedjeojanpnpab
open Go.RowKit Go.Shelf
set_option linter.unusedVariables false

theorem reads_of (K : TreeK) {N : Nat → Prop} {w : World} {a : Addr} {g : Tg} (h : K.At N w a g) (ok : g.Ok) : Reads (.pointer (some a)) g.l N w :=
  ⟨fun j hj => K.lt h j hj, ok.fits, ok.rises, fun W k hk hm hs => K.next k (K.kept h hm hs) ok hk, fun W k hk hm hs => K.get k (K.kept h hm hs) ok hk⟩
theorem AllC.lower {w W w' : World} {l : List En} {e : Ending} (b : Below w.heap.size w W) (h : AllC W l e w') : AllC w l e w' := by
  obtain ⟨p, c, rfl, r, b'⟩ := h
  exact ⟨p, c, rfl, own_low r b.size, below_tr b b'⟩
/-- Sweep's two answers. -/
def lastK (l : List En) (k : Ky) : Ky := (l.getLast?.map En.key).getD k
def SweepC (w : World) (l : List En) (k : Ky) (e : Ending) (w' : World) : Prop :=
  ∃ p c, e = .returned (.tuple #[.slice p l.length c, kyV (lastK l k)]) ∧ w'.ownsRow w.heap.size 52 3 (.slice p l.length c) l.length (l.flatMap enC) ∧ Below w.heap.size w w'

section
variable {p : Option Addr} {l : List En} {M : Nat → Prop} {w : World}
theorem walk_from (h : Reads (.pointer p) l M w) (hl : l.length ≤ 65536) (k : Ky) (hk : k.Fits) (n : Int) :
    Calls Try.prog 17 #[.pointer p, kyV k, .int .i64 n] w (AllC w ((fromL k l).take n.toNat)) := by
  unfold kyV
  obtain ⟨W, HW⟩ : ∃ W, Hid (w.alloc (.cells #[.int .u64 (k.at_ : Int), .int .u64 (k.seq : Int)] 27) = W) := ⟨_, Lib.hid rfl⟩
  have b1 : Below w.heap.size w W := by rw [← HW.out]; exact (Below.refl _ w).alloc (Nat.le_refl _) _
  have bK : Box W w.heap.size 27 #[.int .u64 (k.at_ : Int), .int .u64 (k.seq : Int)] := by rw [← HW.out]; exact Box.new _ _ _
  have c0 := bK.cell 0
  have c1 := bK.cell 1
  have r1 := h.later (fun j hj => b1.block j (h.lt j hj)) b1.size
  have HM := Lib.hid ((callsIn_wide (n := 0)).1 (onward_makes p k W))
  have b2 : Below W.heap.size W ((W.alloc (.cells #[.pointer p] 28)).alloc (.cells #[.int .u64 (k.at_ : Int), .int .u64 (k.seq : Int)] 27)) := ((Below.refl _ W).alloc (Nat.le_refl _) _).alloc (by simp) _
  have r2 := r1.later (fun j hj => b2.block j (r1.lt j hj)) b2.size
  have hlen : (fromL k l).length ≤ 131072 := Nat.le_trans (List.length_filter_le _ _) (by omega)
  have HS := (callsIn_wide (n := 0)).1 (steps_calls (enters_of Try.func54 (by kernel_rfl) rfl) (onward_seq r2 (boxes_new p k W) hk) (by
    rintro j (hj | rfl | rfl)
    · exact r2.lt j hj
    · simp; omega
    · simp) n hlen)
  obtain ⟨X, HX⟩ : ∃ X, Hid ((fromL k l).take n.toNat = X) := ⟨_, Lib.hid rfl⟩
  rw [HX.out] at HS ⊢
  replace HS := Lib.hid HS
  have HB := Lib.hid (And.intro b1 b2)
  clear h r1 r2 b1 b2 bK hlen
  go_enter Try.func17, Try.ntmps17
  go_upto_region 1 with fail
  rw [HW.out]
  go_wp2_with (first
    | (go_at_call 41; refine HM.out.mono ?_; rintro e w2 ⟨rfl, rfl⟩; clear c0 c1 HW)
    | (go_at_call 37; refine HS.out.mono ?_; rintro e w3 hA; obtain ⟨q, c, rfl, r, b⟩ := hA))
  go_ret
  exact AllC.lower (below_tr HB.out.1 HB.out.2) ⟨q, c, rfl, r, b⟩

theorem walk_upto (h : Reads (.pointer p) l M w) (hl : l.length ≤ 65536) (t : Nat) (ht : t < 18446744073709551616) (n : Int) :
    Calls Try.prog 19 #[.pointer p, .int .u64 (t : Int), .int .i64 n] w (AllC w ((uptoL t l).take n.toNat)) := by
  obtain ⟨k, hkv, HK⟩ : ∃ k : Ky, kyV k = .agg #[.int .u64 (t : Int), .int .u64 18446744073709551615] ∧ Hid (k = ⟨t, 18446744073709551615⟩) := ⟨⟨t, 18446744073709551615⟩, by simp [kyV], Lib.hid rfl⟩
  have HM := (callsIn_wide (n := 0)).1 (until_makes p k w)
  rw [hkv] at HM
  replace HM := Lib.hid HM
  have b2 : Below w.heap.size w ((w.alloc (.cells #[.pointer p] 28)).alloc (.cells #[.int .u64 (k.at_ : Int), .int .u64 (k.seq : Int)] 27)) := ((Below.refl _ w).alloc (Nat.le_refl _) _).alloc (by simp) _
  have r2 := h.later (fun j hj => b2.block j (h.lt j hj)) b2.size
  have hlen : (belowL k l).length ≤ 131072 := Nat.le_trans (List.length_filter_le _ _) (by omega)
  have HS := (callsIn_wide (n := 0)).1 (steps_calls (enters_of Try.func56 (by kernel_rfl) rfl) (until_seq r2 (boxes_new p k w) (fun hm => by have := h.lt _ hm; omega)) (by
    rintro j (hj | rfl | rfl)
    · exact r2.lt j hj
    · simp; omega
    · simp) n hlen)
  have e1 : belowL k l = uptoL t l := by rw [HK.out]; exact upto_eq h.fits
  rw [e1] at HS
  obtain ⟨X, HX⟩ : ∃ X, Hid ((uptoL t l).take n.toNat = X) := ⟨_, Lib.hid rfl⟩
  rw [HX.out] at HS ⊢
  replace HS := Lib.hid HS
  have HB := Lib.hid b2
  clear h r2 b2 hlen e1 hkv
  go_enter Try.func19, Try.ntmps19
  go_wp2_with (first
    | (go_at_call 42; refine HM.out.mono ?_; rintro e w2 ⟨rfl, rfl⟩)
    | (go_at_call 37; refine HS.out.mono ?_; rintro e w3 hA; obtain ⟨q, c, rfl, r, b⟩ := hA))
  go_ret
  exact AllC.lower HB.out ⟨q, c, rfl, r, b⟩

theorem walk_sweep (h : Reads (.pointer p) l M w) (hl : l.length ≤ 65536) (k : Ky) (hk : k.Fits) (n : Int) :
    Calls Try.prog 15 #[.pointer p, kyV k, .int .i64 n] w (SweepC w ((roundL k l).take n.toNat) k) := by
  unfold kyV
  obtain ⟨W, HW⟩ : ∃ W, Hid ((w.alloc (.cells #[.int .u64 (k.at_ : Int), .int .u64 (k.seq : Int)] 27)).alloc (.cells #[.int .u64 0, .int .u64 0] 27) = W) := ⟨_, Lib.hid rfl⟩
  have b1 : Below w.heap.size w W := by rw [← HW.out]; exact ((Below.refl _ w).alloc (Nat.le_refl _) _).alloc (by simp) _
  have bK : Box W w.heap.size 27 #[.int .u64 (k.at_ : Int), .int .u64 (k.seq : Int)] := by rw [← HW.out]; exact (Box.new _ _ _).alloc _
  have bR : Box W (w.heap.size + 1) 27 #[.int .u64 0, .int .u64 0] := by
    rw [← HW.out]
    have := Box.new (w.alloc (.cells #[.int .u64 (k.at_ : Int), .int .u64 (k.seq : Int)] 27)) 27 #[.int .u64 0, .int .u64 0]
    rwa [World.size_alloc] at this
  have c0 := bK.cell 0
  have c1 := bK.cell 1
  have r1 := h.later (fun j hj => b1.block j (h.lt j hj)) b1.size
  have HM := Lib.hid ((callsIn_wide (n := 0)).1 (round_makes p k W))
  have b2 : Below W.heap.size W ((W.alloc (.cells #[.pointer p] 28)).alloc (.cells #[.int .u64 (k.at_ : Int), .int .u64 (k.seq : Int)] 27)) := ((Below.refl _ W).alloc (Nat.le_refl _) _).alloc (by simp) _
  have r2 := r1.later (fun j hj => b2.block j (r1.lt j hj)) b2.size
  have hlen : (roundL k l).length ≤ 131072 := by
    unfold roundL
    rw [List.length_append]
    have h1 := List.length_filter_le (fun e : En => decide (k.lt e.key)) l
    have h2 := List.length_filter_le (fun e : En => !decide (k.lt e.key)) l
    unfold aboveL belowL
    omega
  have HS := (callsIn_wide (n := 0)).1 (steps_calls (enters_of Try.func52 (by kernel_rfl) rfl) (round_seq r2 (boxes_new p k W) hk) (by
    rintro j (hj | rfl | rfl)
    · exact r2.lt j hj
    · simp; omega
    · simp) n hlen)
  have hXl : ((roundL k l).take n.toNat).length ≤ 131072 := by rw [List.length_take]; omega
  obtain ⟨X, HX⟩ : ∃ X, Hid ((roundL k l).take n.toNat = X) := ⟨_, Lib.hid rfl⟩
  rw [HX.out] at HS hXl ⊢
  replace HS := Lib.hid HS
  have HB := Lib.hid (And.intro b1 (And.intro b2 (And.intro bK bR)))
  obtain ⟨H, HH⟩ : ∃ H, Hid (w.heap.size = H) := ⟨_, Lib.hid rfl⟩
  clear h r1 r2 b1 b2 bK bR hlen
  go_enter Try.func15, Try.ntmps15
  go_upto_region 1 with fail
  rw [HW.out]
  go_upto_region 2 with (first
    | (go_at_call 38; refine HM.out.mono ?_; rintro e w2 ⟨rfl, rfl⟩; clear c0 c1 HW)
    | (go_at_call 37; refine HS.out.mono ?_; rintro e w3 hA; obtain ⟨q, c, rfl, r, b⟩ := hA))
  obtain ⟨b1, b2, bK, bR⟩ := HB.out
  have b3 : Below W.heap.size W w3 := below_tr b2 b
  have bK3 := bK.below b3 bK.lt
  have bR3 := bR.below b3 bR.lt
  have k0 := bK3.cell 0
  have k1 := bK3.cell 1
  have z0 := bR3.cell 0
  have z1 := bR3.cell 1
  have g0 := bR3.frozen 0
  have g1 := bR3.frozen 1
  have hBg : ∀ j, (Value.slice q X.length c).ownBlock = some j → w.heap.size + 1 < j := fun j hj => Nat.lt_of_lt_of_le bR.lt (Nat.le_trans b2.size (r.lt j hj).1)
  have HO := Lib.hid (And.intro (own_low r (Nat.le_trans b1.size b2.size)) hBg)
  have HL := Lib.hid (below_tr b1 b3)
  clear HB HM HS b1 b2 bK bR b3 bK3 r b hBg
  cases X with
  | nil =>
    have bz := (bR3.set 0 (.int .u64 (k.at_ : Int))).set 1 (.int .u64 (k.seq : Int))
    have y0 := bz.cell 0
    have y1 := bz.cell 1
    simp at y0 y1
    clear bz bR3
    dsimp only [List.length]
    go_wp2_with fail
    go_region
    go_wp2_with fail
    refine bodyPost_ret (v := .tuple #[.slice none 0 0, .agg #[.int .u64 (k.at_ : Int), .int .u64 (k.seq : Int)]]) ?_ rfl ?_
    · simp [results, Try.f15, go_sem, y0, y1]
    · have hz : w.heap.size ≤ w.heap.size + 1 := Nat.le_succ _
      exact ⟨none, 0, rfl, World.ownsRow_nil _ _ _ _, ((HL.out.setCell hz _).setCell hz _).drew⟩
  | cons e X =>
    obtain ⟨m, HM⟩ : ∃ m, Hid (X.length = m) := ⟨_, Lib.hid rfl⟩
    have hm : m ≤ 131072 := by have := hXl; rw [List.length_cons, HM.out] at this; omega
    have hmem : m < (e :: X).length := by rw [List.length_cons, HM.out]; omega
    obtain ⟨B, hB, hBl, e0, e1, e2⟩ := en_cells HO.out.1 hmem
    clear e2
    subst hB
    obtain ⟨y, HE⟩ : ∃ y, Hid ((e :: X)[m]'hmem = y) := ⟨_, Lib.hid rfl⟩
    rw [HE.out] at e0 e1
    have bz := (bR3.set 0 (.int .u64 (y.key.at_ : Int))).set 1 (.int .u64 (y.key.seq : Int))
    have y0 := bz.cell 0
    have y1 := bz.cell 1
    simp at y0 y1
    have HXL : Hid ((e :: X).length = m + 1) := Lib.hid (by rw [List.length_cons, HM.out])
    have HLK : Hid (lastK (e :: X) k = y.key) := Lib.hid (by
      unfold lastK
      rw [List.getLast?_eq_getElem?, HXL.out, show m + 1 - 1 = m by omega, List.getElem?_eq_getElem hmem, HE.out]
      rfl)
    have hne : (((m + 1 : Nat) : Int) == 0) = false := by rw [beq_eq_false_iff_ne]; omega
    have hne' : ((m : Int) + 1 == 0) = false := by rw [beq_eq_false_iff_ne]; omega
    have hwr : IntKind.i64.wrap ((m : Int) + 1 - 1) = (m : Int) := by rw [IntKind.wrap_i64]; omega
    rw [HXL.out]
    clear bz bR3 hBl hXl HE hmem HM
    go_wp2_with fail
    go_region
    all_goals go_wp2_with fail
    refine bodyPost_ret (v := .tuple #[.slice (some ⟨B, 0, none⟩) (m + 1) c, .agg #[.int .u64 (y.key.at_ : Int), .int .u64 (y.key.seq : Int)]]) ?_ rfl ?_
    · simp [results, Try.f15, go_sem, y0, y1]
    · have hz : w.heap.size ≤ w.heap.size + 1 := Nat.le_succ _
      obtain ⟨ho, hg⟩ := HO.out
      refine ⟨some ⟨B, 0, none⟩, c, by rw [HXL.out, HLK.out]; rfl, ?_, ((HL.out.setCell hz _).setCell hz _).drew⟩
      have hb := hg B rfl
      exact own_same ho fun j hj => by
        have e : j = B := (Option.some.inj hj).symm
        subst e
        exact (Below.heap_setCell _ _ _ j (by show j ≠ w.heap.size + 1; omega)).trans (Below.heap_setCell _ _ _ j (by show j ≠ w.heap.size + 1; omega))

end

end Go.Proofs.Ytfedjeojanpnpab
