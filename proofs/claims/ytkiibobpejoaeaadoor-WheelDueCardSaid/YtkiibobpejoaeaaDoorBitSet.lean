/-
  The program's own bitmap: Set, Clear.
-/
import Derived.Test.YtkiibobpejoaeaaDoorBitHas
import Derived.Test.YtkiibobpejoaeaaDoorTake
namespace Go.Proofs.YtkiibobpejoaeaaDoor
open Go.RowKit
set_option linter.unusedVariables false
set_option linter.unusedSimpArgs false

/-- The floors below f have the mark. -/
def setX (X : Nat → Nat → Nat) (p f : Nat) : Nat → Nat → Nat := fun g => if g < f then updN (X g) (p / 64 ^ (g + 1)) (X g (p / 64 ^ (g + 1)) ||| 2 ^ (p / 64 ^ g % 64)) else X g
theorem setX_zero (X : Nat → Nat → Nat) (p : Nat) : setX X p 0 = X := rfl
theorem setX_step (X : Nat → Nat → Nat) (p f : Nat) : upd2 (setX X p f) f (p / 64 ^ (f + 1)) (X f (p / 64 ^ (f + 1)) ||| 2 ^ (p / 64 ^ f % 64)) = setX X p (f + 1) := by
  funext g
  unfold upd2 setX
  by_cases c : g = f
  · subst c
    rw [if_pos rfl, if_neg (by omega), if_pos (by omega)]
  · rw [if_neg c]
    by_cases d : g < f
    · rw [if_pos d, if_pos (by omega)]
    · rw [if_neg d, if_neg (by omega)]
theorem setX_at (X : Nat → Nat → Nat) (p f : Nat) : setX X p f f = X f := by unfold setX; rw [if_neg (by omega)]
theorem wrap_small {r : Nat} (h : r ≤ 65536) : IntKind.i64.wrap (r : Int) = (r : Int) := by
  rw [IntKind.wrap_i64]
  omega
theorem upd2_ne {X : Nat → Nat → Nat} {f g j v : Nat} (h : g ≠ f) : upd2 X f j v g = X g := by unfold upd2; rw [if_neg h]
theorem upd2_at {X : Nat → Nat → Nat} {f j v : Nat} : upd2 X f j v f = updN (X f) j v := by unfold upd2; rw [if_pos rfl]
section
variable {w w' : World} {b gf cf k n cnt : Nat} {fb : Nat → Nat} {X : Nat → Nat → Nat} {m : Nat → Bool}
theorem bit_set_no (h : BMem w b gf cf k n cnt fb X) (hG : ∀ f, f < k → GoodF n m f (X f)) (i : Int) (hi : ¬ (0 ≤ i ∧ i < n ∧ m i.toNat = false)) :
    Calls Tryd.prog 45 #[.pointer (some ⟨b, 0, none⟩), .int .i64 i] w fun e w' => e = .returned (.bool false) ∧ Below w.heap.size w w' := by
  by_cases c : 0 ≤ i ∧ i < n
  · have HT := Lib.hid (bit_there h i true ⟨fun _ => c, fun _ => rfl⟩)
    have HH := Lib.hid (bit_has h hG i true ⟨fun _ => ⟨c.1, c.2, by
      cases e : m i.toNat
      · exact absurd ⟨c.1, c.2, e⟩ hi
      · rfl⟩, fun _ => rfl⟩)
    clear h hG hi c
    go_enter Tryd.func45, Tryd.ntmps45
    go_wp2_with fail
    refine HT.out.mono ?_
    rintro e w1 ⟨rfl, rfl⟩
    go_wp2_with fail
    refine HH.out.mono ?_
    rintro e w1 ⟨rfl, b1⟩
    go_wp2_with fail
    go_ret
    exact ⟨rfl, b1⟩
  · have HT := Lib.hid (bit_there h i false ⟨fun h => (by cases h), fun h => absurd h c⟩)
    clear h hG hi c
    go_enter Tryd.func45, Tryd.ntmps45
    go_wp2_with fail
    refine HT.out.mono ?_
    rintro e w1 ⟨rfl, rfl⟩
    go_wp2_with fail
    go_ret
    exact ⟨rfl, Below.refl _ _⟩
theorem or_val {x p : Nat} (hx : x < 18446744073709551616) : bits .or .u64 (x : Int) ((2 ^ (p % 64) : Nat) : Int) = ((x ||| 2 ^ (p % 64) : Nat) : Int) := bits_or_u64_nat x _ hx (pow_lt64 p)
theorem bit_set (h : BMem w b gf cf k n cnt fb X) (hG : ∀ f, f < k → GoodF n m f (X f)) (hc : cnt ≤ 65536) (p : Nat) (hp : p < n) (hmp : m p = false) :
    Calls Tryd.prog 45 #[.pointer (some ⟨b, 0, none⟩), .int .i64 (p : Int)] w fun e w' => e = .returned (.bool true) ∧ BMem w' b gf cf k n (cnt + 1) fb (setX X p k) ∧ Turned (OwnB b gf k fb) w w' := by
  have HT := Lib.hid (bit_there h (p : Int) true ⟨fun _ => ⟨by omega, by omega⟩, fun _ => rfl⟩)
  have HH := Lib.hid (bit_has h hG (p : Int) false ⟨fun h => (by cases h), fun h => by simp [hmp] at h⟩)
  have hn2 := h.n2
  have hk3 := h.k3
  have H := Lib.hid h
  have HG := Lib.hid hG
  clear h hG hmp
  go_enter Tryd.func45, Tryd.ntmps45
  go_wp2_with fail
  refine HT.out.mono ?_
  rintro e w1 ⟨rfl, rfl⟩
  go_upto_region 3 with (go_at_call 59; refine HH.out.mono ?_; rintro e w2 ⟨rfl, b1⟩)
  have R := H.out.below b1
  obtain ⟨c0, c1, c2, c3⟩ := R.cells
  have fz := R.box.frozen 2
  obtain ⟨cn, HCN⟩ : ∃ cn, Hid (cnt + 1 = cn) := ⟨_, Lib.hid rfl⟩
  have HR := Lib.hid (R.setCnt cn)
  have HTu := Lib.hid ((Turned.below (N := OwnB b gf k fb) b1).set (b := b) (i := 2) (.inl rfl) (.int .i64 (cn : Int)))
  have hcn : (cnt : Int) + 1 = (cn : Int) := by have := HCN.out; omega
  have hcn2 : cn ≤ 65537 := by have := HCN.out; omega
  clear R H HT HH b1
  go_upto_region 4 with fail
  obtain ⟨W, HW⟩ : ∃ W, Hid (w2.setCell ⟨b, 2, none⟩ (.int .i64 (cn : Int)) = W) := ⟨_, Lib.hid rfl⟩
  rw [HW.out] at HR HTu ⊢
  obtain ⟨e0, e1, e2, e3⟩ := HR.out.cells
  go_upto_region 5 with fail
  go_loopg [1, 27] k (fun s v1 v27 wx => ∃ f : Nat, k - f = s ∧ f ≤ k ∧ v1 = .int .i64 ((p / 64 ^ f : Nat) : Int) ∧ v27 = .int .i64 (f : Int) ∧ Hid (BMem wx b gf cf k n cn fb (setX X p f)) ∧ Hid (Turned (OwnB b gf k fb) w1 wx))
  case atStart => exact ⟨0, rfl, by omega, by simp, rfl, HR, HTu⟩
  case round =>
    clear HR HTu e0 e1 e2 e3 c0 c1 c2 c3 HW
    obtain ⟨f, rfl, hf, rfl, rfl, HR, HTu⟩ := hrel
    by_cases hfk : f = k
    · have hz : ¬ (f : Int) < (k : Int) := by omega
      subst hfk
      go_wp2_with fail
      go_ret
      exact ⟨rfl, HCN.out ▸ HR.out, HTu.out⟩
    · have hz : (f : Int) < (k : Int) := by omega
      have hfk' : f < k := by omega
      obtain ⟨c0, c1, c2, c3⟩ := HR.out.cells
      have d0 := HR.out.fl.cell hfk'
      have hlt := wn_lt hp f
      have r1 := HR.out.row f hfk'
      rw [setX_at] at r1
      have d1 := r1.cell hlt
      have fz1 := r1.frozen (p / 64 ^ (f + 1))
      have hx := (HG.out f hfk' _ hlt).1
      have hor := or_val (p := p / 64 ^ f) hx
      have hw1 := wn_le hn2 f
      have hq : p / 64 ^ f ≤ 65536 := by
        have := Nat.div_le_self p (64 ^ f)
        omega
      have HK := Lib.hid (fun W => bit_mark (p / 64 ^ f) (by omega) W)
      have hdv : p / 64 ^ f / 64 = p / 64 ^ (f + 1) := (div_up p f).symm
      have HR2 := HR.out.put hfk' (p / 64 ^ (f + 1)) (X f (p / 64 ^ (f + 1)) ||| 2 ^ (p / 64 ^ f % 64))
      rw [setX_step] at HR2
      have HTu2 := Lib.hid (HTu.out.set (b := fb f) (i := p / 64 ^ (f + 1)) (.inr (.inr ⟨f, hfk', rfl⟩)) (.int .u64 ((X f (p / 64 ^ (f + 1)) ||| 2 ^ (p / 64 ^ f % 64) : Nat) : Int)))
      replace HR2 := Lib.hid HR2
      have HD : Hid (p / 64 ^ f / 64 = p / 64 ^ (f + 1)) := Lib.hid hdv
      rw [← hdv] at d1 fz1 hlt hor HR2 HTu2
      clear r1 hx HR HTu hdv HG hfk
      generalize p / 64 ^ f = q at *
      obtain ⟨r, hr⟩ : ∃ r, q / 64 = r := ⟨_, rfl⟩
      rw [hr] at d1 fz1 hlt hor HR2 HTu2 HD
      have hqr : (q : Int) / 64 = (r : Int) := by omega
      have hr1 : (r : Int) < (wn n f : Int) := by omega
      have hr2 : (0 : Int) ≤ (r : Int) := by omega
      have hwr : IntKind.i64.wrap (r : Int) = (r : Int) := wrap_small (by omega)
      have HC2 := Lib.hid (And.intro HR2.out.cells.2.2.2 (HR2.out.fl.cell hfk'))
      clear hr
      generalize X f r = x at *
      generalize wn n f = wf at *
      generalize 2 ^ (q % 64) = mk at *
      generalize (x ||| mk) = y at *
      go_upto_region 7 with fail
      -- @set
      refine wp_region_noPanic ?_
      refine wp_region_held_drew (S := fun wy => wy.cell? ⟨b, 3, none⟩ = some (.slice (some ⟨gf, 0, none⟩) k cf) ∧ wy.cell? ⟨gf, f, none⟩ = some (.slice (some ⟨fb f, 0, none⟩) wf wf)) (by kernel_rfl) ?_ (fun hHeld => ?_)
      · exact ⟨c3, d0⟩
      refine tk (i := 0) (oi := _) (v := ?_) rfl (by kernel_rfl) (by kernel_rfl) (by kernel_rfl) (fun _ _ _ h => h) (Or.inl ⟨by rfl, ?_⟩) (by assumption) ?_
      rotate_left
      · intro w hSw; (try dsimp only at hSw); go_simp; try with_reducible rfl
      try simp only [Act.put, List.setIfInBounds_toArray, List.set_cons_zero, List.set_cons_succ]
      refine tk (i := 1) (oi := _) (v := ?_) rfl (by kernel_rfl) (by kernel_rfl) (by kernel_rfl) (fun _ _ _ h => h) (Or.inl ⟨by rfl, ?_⟩) (by assumption) ?_
      rotate_left
      · intro w hSw; (try dsimp only at hSw); go_simp; try with_reducible rfl
      try simp only [Act.put, List.setIfInBounds_toArray, List.set_cons_zero, List.set_cons_succ]
      refine tk (i := 2) (oi := _) (v := ?_) rfl (by kernel_rfl) (by kernel_rfl) (by kernel_rfl) (fun _ _ _ h => h) (Or.inl ⟨by rfl, ?_⟩) (by assumption) ?_
      rotate_left
      · intro w hSw; (try dsimp only at hSw); go_simp; try with_reducible rfl
      try simp only [Act.put, List.setIfInBounds_toArray, List.set_cons_zero, List.set_cons_succ]
      refine tk (i := 3) (oi := _) (v := ?_) rfl (by kernel_rfl) (by kernel_rfl) (by kernel_rfl) (fun _ _ _ h => h) (Or.inl ⟨by rfl, ?_⟩) (by assumption) ?_
      rotate_left
      · intro w hSw; (try dsimp only at hSw); go_simp; try with_reducible rfl
      try simp only [Act.put, List.setIfInBounds_toArray, List.set_cons_zero, List.set_cons_succ]
      refine tk (i := 4) (oi := _) (v := ?_) rfl (by kernel_rfl) (by kernel_rfl) (by kernel_rfl) (fun _ _ _ h => h) (Or.inl ⟨by rfl, ?_⟩) (by assumption) ?_
      rotate_left
      · intro w hSw; (try dsimp only at hSw); go_simp; try with_reducible rfl
      try simp only [Act.put, List.setIfInBounds_toArray, List.set_cons_zero, List.set_cons_succ]
      refine tk (i := 5) (oi := _) (v := ?_) rfl (by kernel_rfl) (by kernel_rfl) (by kernel_rfl) (fun _ _ _ h => h) (Or.inl ⟨by rfl, ?_⟩) (by assumption) ?_
      rotate_left
      · intro w hSw; (try dsimp only at hSw); go_simp; try with_reducible rfl
      try simp only [Act.put, List.setIfInBounds_toArray, List.set_cons_zero, List.set_cons_succ]
      refine tk (i := 6) (oi := _) (v := ?_) rfl (by kernel_rfl) (by kernel_rfl) (by kernel_rfl) (fun _ _ _ h => h) (Or.inl ⟨by rfl, ?_⟩) (by assumption) ?_
      rotate_left
      · intro w hSw; (try dsimp only at hSw); go_simp; try with_reducible rfl
      try simp only [Act.put, List.setIfInBounds_toArray, List.set_cons_zero, List.set_cons_succ]
      refine tk (i := 7) (oi := _) (v := ?_) rfl (by kernel_rfl) (by kernel_rfl) (by kernel_rfl) (fun _ _ _ h => h) (Or.inl ⟨by rfl, ?_⟩) (by assumption) ?_
      rotate_left
      · intro w hSw; (try dsimp only at hSw); go_simp; try with_reducible rfl
      try simp only [Act.put, List.setIfInBounds_toArray, List.set_cons_zero, List.set_cons_succ]
      refine tk (i := 8) (oi := _) (v := ?_) rfl (by kernel_rfl) (by kernel_rfl) (by kernel_rfl) (fun _ _ _ h => h) (Or.inl ⟨by rfl, ?_⟩) (by assumption) ?_
      rotate_left
      · intro w hSw; (try dsimp only at hSw); go_simp; try with_reducible rfl
      try simp only [Act.put, List.setIfInBounds_toArray, List.set_cons_zero, List.set_cons_succ]
      refine tk (i := 9) (oi := _) (v := ?_) rfl (by kernel_rfl) (by kernel_rfl) (by kernel_rfl) (fun _ _ _ h => h) (Or.inl ⟨by rfl, ?_⟩) (by assumption) ?_
      rotate_left
      · intro w hSw; (try dsimp only at hSw); go_simp; try with_reducible rfl
      try simp only [Act.put, List.setIfInBounds_toArray, List.set_cons_zero, List.set_cons_succ]
      refine tk (i := 11) (oi := _) (v := ?_) rfl (by kernel_rfl) (by kernel_rfl) (by kernel_rfl) (fun _ _ _ h => h) (Or.inl ⟨by rfl, ?_⟩) (by assumption) ?_
      rotate_left
      · intro w hSw; (try dsimp only at hSw); go_simp; try with_reducible rfl
      try simp only [Act.put, List.setIfInBounds_toArray, List.set_cons_zero, List.set_cons_succ]
      refine wpAnyH_ready (rs := [10, 12]) (by kernel_rfl) (by simp) ?_
      refine tcons (o := _) rfl (fun K hK => ?_) ?_
      · skip
        go_simp
        refine hK.out _ _ ?_ (fun hHeld => ?_)
        · exact ⟨c3, d0⟩
        clear hK K
        try simp only [Act.put, List.setIfInBounds_toArray, List.set_cons_zero, List.set_cons_succ]
        refine wpAnyH_ready (rs := [12]) (by kernel_rfl) (by simp) ?_
        refine tcons (o := _) rfl (fun K hK => ?_) AllReadyH.nil
        go_simp
        refine (HK.out _).mono ?_
        rintro e w3 ⟨rfl, rfl⟩
        refine hK.out _ _ ?_ (fun hHeld => ?_)
        · exact ⟨c3, d0⟩
        clear hK K
        try simp only [Act.put, List.setIfInBounds_toArray, List.set_cons_zero, List.set_cons_succ]
        refine tk (i := 13) (oi := _) (v := ?_) rfl (by kernel_rfl) (by kernel_rfl) (by kernel_rfl) (fun _ _ _ h => h) (Or.inl ⟨by rfl, ?_⟩) (by assumption) ?_
        rotate_left
        · intro w hSw; (try dsimp only at hSw); go_simp; try with_reducible rfl
        try simp only [Act.put, List.setIfInBounds_toArray, List.set_cons_zero, List.set_cons_succ]
        refine tk (i := 14) (oi := _) (v := ?_) rfl (by kernel_rfl) (by kernel_rfl) (by kernel_rfl) (fun _ _ _ h => h) (Or.inl ⟨by rfl, ?_⟩) (by assumption) ?_
        rotate_left
        · intro w hSw; (try dsimp only at hSw); go_simp; try with_reducible rfl
        try simp only [Act.put, List.setIfInBounds_toArray, List.set_cons_zero, List.set_cons_succ]
        refine wpAnyH_ready (rs := [15]) (by kernel_rfl) (by simp) ?_
        refine tcons (o := _) rfl (fun K hK => ?_) AllReadyH.nil
        go_simp
        refine hK.out _ _ ?_ (fun hHeld => ?_)
        · exact HC2.out
        clear hK K
        try simp only [Act.put, List.setIfInBounds_toArray, List.set_cons_zero, List.set_cons_succ]
        refine wpAnyH_done (by kernel_rfl) ?_ _
        refine NoPanic.normal ?_
        go_wp2_with fail
        go_roundg (k - (f + 1))
        case measure => omega
        case rel => exact ⟨f + 1, rfl, by omega, by rw [← HD.out], by go_num, Lib.hid (HR2.out.below (Below.refl _ _).drew), Lib.hid HTu2.out.drew⟩
      refine tcons (o := _) rfl (fun K hK => ?_) ?_
      · skip
        go_simp
        refine (HK.out _).mono ?_
        rintro e w3 ⟨rfl, rfl⟩
        refine hK.out _ _ ?_ (fun hHeld => ?_)
        · exact ⟨c3, d0⟩
        clear hK K
        try simp only [Act.put, List.setIfInBounds_toArray, List.set_cons_zero, List.set_cons_succ]
        refine wpAnyH_ready (rs := [10]) (by kernel_rfl) (by simp) ?_
        refine tcons (o := _) rfl (fun K hK => ?_) AllReadyH.nil
        go_simp
        refine hK.out _ _ ?_ (fun hHeld => ?_)
        · exact ⟨c3, d0⟩
        clear hK K
        try simp only [Act.put, List.setIfInBounds_toArray, List.set_cons_zero, List.set_cons_succ]
        refine tk (i := 13) (oi := _) (v := ?_) rfl (by kernel_rfl) (by kernel_rfl) (by kernel_rfl) (fun _ _ _ h => h) (Or.inl ⟨by rfl, ?_⟩) (by assumption) ?_
        rotate_left
        · intro w hSw; (try dsimp only at hSw); go_simp; try with_reducible rfl
        try simp only [Act.put, List.setIfInBounds_toArray, List.set_cons_zero, List.set_cons_succ]
        refine tk (i := 14) (oi := _) (v := ?_) rfl (by kernel_rfl) (by kernel_rfl) (by kernel_rfl) (fun _ _ _ h => h) (Or.inl ⟨by rfl, ?_⟩) (by assumption) ?_
        rotate_left
        · intro w hSw; (try dsimp only at hSw); go_simp; try with_reducible rfl
        try simp only [Act.put, List.setIfInBounds_toArray, List.set_cons_zero, List.set_cons_succ]
        refine wpAnyH_ready (rs := [15]) (by kernel_rfl) (by simp) ?_
        refine tcons (o := _) rfl (fun K hK => ?_) AllReadyH.nil
        go_simp
        refine hK.out _ _ ?_ (fun hHeld => ?_)
        · exact HC2.out
        clear hK K
        try simp only [Act.put, List.setIfInBounds_toArray, List.set_cons_zero, List.set_cons_succ]
        refine wpAnyH_done (by kernel_rfl) ?_ _
        refine NoPanic.normal ?_
        go_wp2_with fail
        go_roundg (k - (f + 1))
        case measure => omega
        case rel => exact ⟨f + 1, rfl, by omega, by rw [← HD.out], by go_num, Lib.hid (HR2.out.below (Below.refl _ _).drew), Lib.hid HTu2.out.drew⟩
      exact AllReadyH.nil
      -- @end
/-- Words of which those below f are right without the mark, the others with it. -/
def Half (n k p f : Nat) (m : Nat → Bool) (Y : Nat → Nat → Nat) : Prop := ∀ g, g < k → (g < f → GoodF n (setB m p false) g (Y g)) ∧ (f ≤ g → GoodF n m g (Y g))
theorem half_next {f p : Nat} {Y : Nat → Nat → Nat} (h : Half n k p f m Y) (hf : f < k) (ha : Alone m p f) : Half n k p (f + 1) m (upd2 Y f (p / 64 ^ (f + 1)) (Y f (p / 64 ^ (f + 1)) &&& (18446744073709551615 - 2 ^ (p / 64 ^ f % 64)))) := by
  intro g hg
  by_cases c : g = f
  · subst c
    refine ⟨fun _ => ?_, fun h => absurd h (by omega)⟩
    rw [upd2_at]
    exact good_clear ((h g hg).2 (Nat.le_refl _)) ha
  · rw [upd2_ne c]
    exact ⟨fun h1 => (h g hg).1 (by omega), fun h1 => (h g hg).2 (by omega)⟩
theorem half_stop {f p : Nat} {Y : Nat → Nat → Nat} (h : Half n k p (f + 1) m Y) (hf : f < k) (hp : p < n) (hw : Y f (p / 64 ^ (f + 1)) ≠ 0) : ∀ g, g < k → GoodF n (setB m p false) g (Y g) := by
  intro g hg
  by_cases c : g < f + 1
  · exact (h g hg).1 c
  · obtain ⟨d, rfl⟩ : ∃ d, g = f + 1 + d := ⟨g - (f + 1), by omega⟩
    exact clear_stop ((h f hf).1 (by omega)) hp hw d _ ((h _ hg).2 (by omega))
theorem andNot_val {x p : Nat} (hx : x < 18446744073709551616) : bits .andNot .u64 (x : Int) ((2 ^ (p % 64) : Nat) : Int) = ((x &&& (18446744073709551615 - 2 ^ (p % 64)) : Nat) : Int) := u64_andNot_nat x _ hx (pow_lt64 p)
theorem updN_at {f : Nat → Nat} {i v : Nat} : updN f i v i = v := by unfold updN; rw [if_pos rfl]
theorem bit_clear_no (h : BMem w b gf cf k n cnt fb X) (hG : ∀ f, f < k → GoodF n m f (X f)) (i : Int) (hi : ¬ (0 ≤ i ∧ i < n ∧ m i.toNat = true)) :
    Calls Tryd.prog 47 #[.pointer (some ⟨b, 0, none⟩), .int .i64 i] w fun e w' => e = .returned (.bool false) ∧ Below w.heap.size w w' := by
  have HH := Lib.hid (bit_has h hG i false ⟨fun h => (by cases h), fun h => absurd h hi⟩)
  clear h hG hi
  go_enter Tryd.func47, Tryd.ntmps47
  go_wp2_with fail
  refine HH.out.mono ?_
  rintro e w1 ⟨rfl, b1⟩
  go_wp2_with fail
  go_ret
  exact ⟨rfl, b1⟩
theorem bit_clear (h : BMem w b gf cf k n cnt fb X) (hG : ∀ f, f < k → GoodF n m f (X f)) (hc : cnt ≤ 65536) (hc1 : 1 ≤ cnt) (p : Nat) (hp : p < n) (hmp : m p = true) :
    Calls Tryd.prog 47 #[.pointer (some ⟨b, 0, none⟩), .int .i64 (p : Int)] w fun e w' => e = .returned (.bool true) ∧ ∃ Y, BMem w' b gf cf k n (cnt - 1) fb Y ∧ (∀ g, g < k → GoodF n (setB m p false) g (Y g)) ∧ Turned (OwnB b gf k fb) w w' := by
  have HH := Lib.hid (bit_has h hG (p : Int) true ⟨fun _ => ⟨by omega, by omega, by simpa using hmp⟩, fun _ => rfl⟩)
  have hn2 := h.n2
  have hk3 := h.k3
  have H := Lib.hid h
  have HG : Hid (Half n k p 0 m X) := Lib.hid fun g hg => ⟨fun h => absurd h (by omega), fun _ => hG g hg⟩
  clear h hG hmp
  go_enter Tryd.func47, Tryd.ntmps47
  go_upto_region 3 with (go_at_call 59; refine HH.out.mono ?_; rintro e w2 ⟨rfl, b1⟩)
  have R := H.out.below b1
  obtain ⟨c0, c1, c2, c3⟩ := R.cells
  have fz := R.box.frozen 2
  obtain ⟨cn, HCN⟩ : ∃ cn, Hid (cnt - 1 = cn) := ⟨_, Lib.hid rfl⟩
  have HR := Lib.hid (R.setCnt cn)
  have HTu := Lib.hid ((Turned.below (N := OwnB b gf k fb) b1).set (b := b) (i := 2) (.inl rfl) (.int .i64 (cn : Int)))
  have hcn : (cnt : Int) - 1 = (cn : Int) := by have := HCN.out; omega
  have hcn2 : cn ≤ 65537 := by have := HCN.out; omega
  clear R H HH b1
  go_upto_region 4 with fail
  obtain ⟨W, HW⟩ : ∃ W, Hid (w2.setCell ⟨b, 2, none⟩ (.int .i64 (cn : Int)) = W) := ⟨_, Lib.hid rfl⟩
  rw [HW.out] at HR HTu ⊢
  obtain ⟨e0, e1, e2, e3⟩ := HR.out.cells
  go_upto_region 5 with fail
  go_loopg [1, 23] k (fun s v1 v23 wx => ∃ (f : Nat) (Y : Nat → Nat → Nat), k - f = s ∧ f ≤ k ∧ v1 = .int .i64 ((p / 64 ^ f : Nat) : Int) ∧ v23 = .int .i64 (f : Int) ∧ Hid (BMem wx b gf cf k n cn fb Y) ∧ Hid (Half n k p f m Y) ∧ Hid (Alone m p f) ∧ Hid (Turned (OwnB b gf k fb) w wx))
  case atStart => exact ⟨0, X, rfl, by omega, by simp, rfl, HR, HG, Lib.hid alone_zero, HTu⟩
  case round =>
    clear HR HTu e0 e1 e2 e3 c0 c1 c2 c3 HW HG
    obtain ⟨f, Y, rfl, hf, rfl, rfl, HR, HG, HA, HTu⟩ := hrel
    by_cases hfk : f = k
    · have hz : ¬ (f : Int) < (k : Int) := by omega
      subst hfk
      go_wp2_with fail
      go_ret
      exact ⟨rfl, Y, HCN.out ▸ HR.out, fun g hg => (HG.out g hg).1 hg, HTu.out⟩
    · have hz : (f : Int) < (k : Int) := by omega
      have hfk' : f < k := by omega
      obtain ⟨c0, c1, c2, c3⟩ := HR.out.cells
      have d0 := HR.out.fl.cell hfk'
      have hlt := wn_lt hp f
      have r1 := HR.out.row f hfk'
      have d1 := r1.cell hlt
      have fz1 := r1.frozen (p / 64 ^ (f + 1))
      have hx := ((HG.out f hfk').2 (Nat.le_refl _) _ hlt).1
      have hor := andNot_val (p := p / 64 ^ f) hx
      have hw1 := wn_le hn2 f
      have hq : p / 64 ^ f ≤ 65536 := by
        have := Nat.div_le_self p (64 ^ f)
        omega
      have HK := Lib.hid (fun W => bit_mark (p / 64 ^ f) (by omega) W)
      have hdv : p / 64 ^ f / 64 = p / 64 ^ (f + 1) := (div_up p f).symm
      obtain ⟨y, HY⟩ : ∃ y, Hid (Y f (p / 64 ^ (f + 1)) &&& (18446744073709551615 - 2 ^ (p / 64 ^ f % 64)) = y) := ⟨_, Lib.hid rfl⟩
      have hN := half_next HG.out hfk' HA.out
      rw [HY.out] at hN hor
      have HR2 := Lib.hid ((HR.out.put hfk' (p / 64 ^ (f + 1)) y).below (Below.refl _ _).drew)
      have HTu2 := Lib.hid (HTu.out.set (b := fb f) (i := p / 64 ^ (f + 1)) (.inr (.inr ⟨f, hfk', rfl⟩)) (.int .u64 (y : Int))).drew
      have dy := (HR2.out.row f hfk').cell hlt
      rw [upd2_at, updN_at] at dy
      have HA2 : Hid (y = 0 → Alone m p (f + 1)) := Lib.hid fun e => clear_on ((hN f hfk').1 (by omega)) hp (by rw [upd2_at, updN_at]; exact e)
      have HG3 : Hid (y ≠ 0 → ∀ g, g < k → GoodF n (setB m p false) g (upd2 Y f (p / 64 ^ (f + 1)) y g)) := Lib.hid fun e => half_stop hN hfk' hp (by rw [upd2_at, updN_at]; exact e)
      have HG2 := Lib.hid hN
      have HD : Hid (p / 64 ^ f / 64 = p / 64 ^ (f + 1)) := Lib.hid hdv
      rw [← hdv] at d1 fz1 hlt HR2 HTu2 HG2 HG3 dy hor
      clear r1 hx HR HTu hdv HG hfk hN HA HY
      generalize p / 64 ^ f = q at *
      obtain ⟨r, hr⟩ : ∃ r, q / 64 = r := ⟨_, rfl⟩
      rw [hr] at d1 fz1 hlt hor HR2 HTu2 HD HG2 HG3 dy
      have hqr : (q : Int) / 64 = (r : Int) := by omega
      have hr1 : (r : Int) < (wn n f : Int) := by omega
      have hr2 : (0 : Int) ≤ (r : Int) := by omega
      have hwr : IntKind.i64.wrap (r : Int) = (r : Int) := wrap_small (by omega)
      clear hr
      generalize Y f r = x at *
      generalize wn n f = wf at *
      generalize 2 ^ (q % 64) = mk at *
      go_upto_region 8 with fail
      -- @clear
      refine wp_region_noPanic ?_
      refine wp_region_held_drew (S := fun _ => True) (by kernel_rfl) ?_ (fun hHeld => ?_)
      · exact trivial
      refine tk (i := 0) (oi := _) (v := ?_) rfl (by kernel_rfl) (by kernel_rfl) (by kernel_rfl) (fun _ _ _ h => h) (Or.inl ⟨by rfl, ?_⟩) (by assumption) ?_
      rotate_left
      · intro w hSw; (try dsimp only at hSw); go_simp; try with_reducible rfl
      try simp only [Act.put, List.setIfInBounds_toArray, List.set_cons_zero, List.set_cons_succ]
      refine tk (i := 1) (oi := _) (v := ?_) rfl (by kernel_rfl) (by kernel_rfl) (by kernel_rfl) (fun _ _ _ h => h) (Or.inl ⟨by rfl, ?_⟩) (by assumption) ?_
      rotate_left
      · intro w hSw; (try dsimp only at hSw); go_simp; try with_reducible rfl
      try simp only [Act.put, List.setIfInBounds_toArray, List.set_cons_zero, List.set_cons_succ]
      refine tk (i := 3) (oi := _) (v := ?_) rfl (by kernel_rfl) (by kernel_rfl) (by kernel_rfl) (fun _ _ _ h => h) (Or.inl ⟨by rfl, ?_⟩) (by assumption) ?_
      rotate_left
      · intro w hSw; (try dsimp only at hSw); go_simp; try with_reducible rfl
      try simp only [Act.put, List.setIfInBounds_toArray, List.set_cons_zero, List.set_cons_succ]
      refine wpAnyH_ready (rs := [2, 4]) (by kernel_rfl) (by simp) ?_
      refine tcons (o := _) rfl (fun K hK => ?_) ?_
      · skip
        go_simp
        refine hK.out _ _ ?_ (fun hHeld => ?_)
        · exact trivial
        clear hK K
        try simp only [Act.put, List.setIfInBounds_toArray, List.set_cons_zero, List.set_cons_succ]
        refine wpAnyH_ready (rs := [4]) (by kernel_rfl) (by simp) ?_
        refine tcons (o := _) rfl (fun K hK => ?_) AllReadyH.nil
        go_simp
        refine (HK.out _).mono ?_
        rintro e w3 ⟨rfl, rfl⟩
        refine hK.out _ _ ?_ (fun hHeld => ?_)
        · exact trivial
        clear hK K
        try simp only [Act.put, List.setIfInBounds_toArray, List.set_cons_zero, List.set_cons_succ]
        refine tk (i := 5) (oi := _) (v := ?_) rfl (by kernel_rfl) (by kernel_rfl) (by kernel_rfl) (fun _ _ _ h => h) (Or.inl ⟨by rfl, ?_⟩) (by assumption) ?_
        rotate_left
        · intro w hSw; (try dsimp only at hSw); go_simp; try with_reducible rfl
        try simp only [Act.put, List.setIfInBounds_toArray, List.set_cons_zero, List.set_cons_succ]
        refine tk (i := 6) (oi := _) (v := ?_) rfl (by kernel_rfl) (by kernel_rfl) (by kernel_rfl) (fun _ _ _ h => h) (Or.inl ⟨by rfl, ?_⟩) (by assumption) ?_
        rotate_left
        · intro w hSw; (try dsimp only at hSw); go_simp; try with_reducible rfl
        try simp only [Act.put, List.setIfInBounds_toArray, List.set_cons_zero, List.set_cons_succ]
        refine wpAnyH_ready (rs := [7]) (by kernel_rfl) (by simp) ?_
        refine tcons (o := _) rfl (fun K hK => ?_) AllReadyH.nil
        go_simp
        refine hK.out _ _ ?_ (fun hHeld => ?_)
        · exact trivial
        clear hK K
        try simp only [Act.put, List.setIfInBounds_toArray, List.set_cons_zero, List.set_cons_succ]
        refine wpAnyH_done (by kernel_rfl) ?_ _
        refine NoPanic.normal ?_
        obtain ⟨W2, HW2⟩ : ∃ W2, Hid ((wr.setCell ⟨fb f, r, none⟩ (.int .u64 (y : Int))).drew = W2) := ⟨_, Lib.hid rfl⟩
        rw [HW2.out] at HR2 HTu2 dy ⊢
        by_cases hy : y = 0
        · have hyz : (((y : Nat) : Int) != 0) = false := by rw [hy]; rfl
          go_wp2_with fail
          go_roundg (k - (f + 1))
          case measure => omega
          case rel => exact ⟨f + 1, _, rfl, by omega, by rw [← HD.out], by go_num, HR2, HG2, Lib.hid (HA2.out hy), HTu2⟩
        · have hyz : (((y : Nat) : Int) != 0) = true := by
            simp only [bne_iff_ne, ne_eq]; omega
          go_wp2_with fail
          go_ret
          exact ⟨rfl, _, HCN.out ▸ HR2.out, HG3.out hy, HTu2.out⟩
      refine tcons (o := _) rfl (fun K hK => ?_) ?_
      · skip
        go_simp
        refine (HK.out _).mono ?_
        rintro e w3 ⟨rfl, rfl⟩
        refine hK.out _ _ ?_ (fun hHeld => ?_)
        · exact trivial
        clear hK K
        try simp only [Act.put, List.setIfInBounds_toArray, List.set_cons_zero, List.set_cons_succ]
        refine wpAnyH_ready (rs := [2]) (by kernel_rfl) (by simp) ?_
        refine tcons (o := _) rfl (fun K hK => ?_) AllReadyH.nil
        go_simp
        refine hK.out _ _ ?_ (fun hHeld => ?_)
        · exact trivial
        clear hK K
        try simp only [Act.put, List.setIfInBounds_toArray, List.set_cons_zero, List.set_cons_succ]
        refine tk (i := 5) (oi := _) (v := ?_) rfl (by kernel_rfl) (by kernel_rfl) (by kernel_rfl) (fun _ _ _ h => h) (Or.inl ⟨by rfl, ?_⟩) (by assumption) ?_
        rotate_left
        · intro w hSw; (try dsimp only at hSw); go_simp; try with_reducible rfl
        try simp only [Act.put, List.setIfInBounds_toArray, List.set_cons_zero, List.set_cons_succ]
        refine tk (i := 6) (oi := _) (v := ?_) rfl (by kernel_rfl) (by kernel_rfl) (by kernel_rfl) (fun _ _ _ h => h) (Or.inl ⟨by rfl, ?_⟩) (by assumption) ?_
        rotate_left
        · intro w hSw; (try dsimp only at hSw); go_simp; try with_reducible rfl
        try simp only [Act.put, List.setIfInBounds_toArray, List.set_cons_zero, List.set_cons_succ]
        refine wpAnyH_ready (rs := [7]) (by kernel_rfl) (by simp) ?_
        refine tcons (o := _) rfl (fun K hK => ?_) AllReadyH.nil
        go_simp
        refine hK.out _ _ ?_ (fun hHeld => ?_)
        · exact trivial
        clear hK K
        try simp only [Act.put, List.setIfInBounds_toArray, List.set_cons_zero, List.set_cons_succ]
        refine wpAnyH_done (by kernel_rfl) ?_ _
        refine NoPanic.normal ?_
        obtain ⟨W2, HW2⟩ : ∃ W2, Hid ((wr.setCell ⟨fb f, r, none⟩ (.int .u64 (y : Int))).drew = W2) := ⟨_, Lib.hid rfl⟩
        rw [HW2.out] at HR2 HTu2 dy ⊢
        by_cases hy : y = 0
        · have hyz : (((y : Nat) : Int) != 0) = false := by rw [hy]; rfl
          go_wp2_with fail
          go_roundg (k - (f + 1))
          case measure => omega
          case rel => exact ⟨f + 1, _, rfl, by omega, by rw [← HD.out], by go_num, HR2, HG2, Lib.hid (HA2.out hy), HTu2⟩
        · have hyz : (((y : Nat) : Int) != 0) = true := by
            simp only [bne_iff_ne, ne_eq]; omega
          go_wp2_with fail
          go_ret
          exact ⟨rfl, _, HCN.out ▸ HR2.out, HG3.out hy, HTu2.out⟩
      exact AllReadyH.nil
      -- @end
end

end Go.Proofs.YtkiibobpejoaeaaDoor
