/-
  The program's own wheel: how two things are told apart by their slots and turns (the closure that sorts them).
-/
import Derived.Test.YtkiibobpejoaeaaDoorWheelMem
import Derived.Sort.Grow
import Derived.Sort.Statements
namespace Go.Proofs.YtkiibobpejoaeaaDoor
open Go.RowKit
set_option linter.unusedVariables false
set_option linter.unusedSimpArgs false

def cmpN (x y : Nat) : Int := if x < y then -1 else if y < x then 1 else 0
theorem w_nan (x : Nat) (w : World) : Calls Tryd.prog 50 #[.int .u64 (x : Int)] w fun e w' => e = .returned (.bool false) ∧ w' = w := by
  go_enter Tryd.func50, Tryd.ntmps50
  go_wp2_with fail
  go_ret
  exact ⟨rfl, rfl⟩
theorem w_cmp (x y : Nat) (w : World) : Calls Tryd.prog 35 #[.int .u64 (x : Int), .int .u64 (y : Int)] w fun e w' => e = .returned (.int .i64 (cmpN x y)) ∧ w' = w := by
  have HX := Lib.hid (w_nan x)
  have HY := Lib.hid (w_nan y)
  by_cases h1 : x < y
  · have H : Hid (cmpN x y = -1) := Lib.hid (by unfold cmpN; rw [if_pos h1])
    have hz : (x : Int) < (y : Int) := by omega
    rw [H.out]
    go_enter Tryd.func35, Tryd.ntmps35
    go_wp2_with fail
    refine (HX.out _).mono ?_
    rintro e w1 ⟨rfl, rfl⟩
    go_wp2_with fail
    refine (HY.out _).mono ?_
    rintro e w1 ⟨rfl, rfl⟩
    go_wp2_with fail
    go_ret
    exact ⟨rfl, rfl⟩
  · by_cases h2 : y < x
    · have H : Hid (cmpN x y = 1) := Lib.hid (by unfold cmpN; rw [if_neg h1, if_pos h2])
      have hz : ¬ (x : Int) < (y : Int) := by omega
      have hz2 : (y : Int) < (x : Int) := by omega
      rw [H.out]
      go_enter Tryd.func35, Tryd.ntmps35
      go_wp2_with fail
      refine (HX.out _).mono ?_
      rintro e w1 ⟨rfl, rfl⟩
      go_wp2_with fail
      refine (HY.out _).mono ?_
      rintro e w1 ⟨rfl, rfl⟩
      go_wp2_with fail
      go_ret
      exact ⟨rfl, rfl⟩
    · have H : Hid (cmpN x y = 0) := Lib.hid (by unfold cmpN; rw [if_neg h1, if_neg h2])
      have hz : ¬ (x : Int) < (y : Int) := by omega
      have hz2 : ¬ (y : Int) < (x : Int) := by omega
      rw [H.out]
      go_enter Tryd.func35, Tryd.ntmps35
      go_wp2_with fail
      refine (HX.out _).mono ?_
      rintro e w1 ⟨rfl, rfl⟩
      go_wp2_with fail
      refine (HY.out _).mono ?_
      rintro e w1 ⟨rfl, rfl⟩
      go_wp2_with fail
      go_ret
      exact ⟨rfl, rfl⟩
def orN (a b : Int) : Int := if a = 0 then b else a
theorem w_or (g c : Nat) (a b : Int) (w : World) (h0 : w.cell? ⟨g, 0, none⟩ = some (.int .i64 a)) (h1 : w.cell? ⟨g, 1, none⟩ = some (.int .i64 b)) :
    Calls Tryd.prog 34 #[.slice (some ⟨g, 0, none⟩) 2 c] w fun e w' => e = .returned (.int .i64 (orN a b)) ∧ w' = w := by
  have HH := Lib.hid (And.intro h0 h1)
  clear h0 h1
  go_enter Tryd.func34, Tryd.ntmps34
  go_wp2_with fail
  go_loopg [8] 2 (fun n v8 wx => ∃ i : Nat, i + n = 2 ∧ v8 = .int .i64 (i : Int) ∧ wx = w ∧ Hid ((1 ≤ i → a = 0) ∧ (2 ≤ i → b = 0)))
  case atStart => exact ⟨0, by omega, rfl, rfl, Lib.hid ⟨fun h => by omega, fun h => by omega⟩⟩
  case round =>
    obtain ⟨i, hi, rfl, rfl, HI⟩ := hrel
    have h3 : i = 0 ∨ i = 1 ∨ i = 2 := by omega
    rcases h3 with rfl | rfl | rfl
    · have c0 := HH.out.1
      by_cases ha : a = 0
      · have hb : (a != 0) = false := by simpa using ha
        have HA := Lib.hid ha
        clear ha
        go_wp2_with fail
        go_roundg 1
        case measure => omega
        case rel => exact ⟨1, by omega, rfl, rfl, Lib.hid ⟨fun _ => HA.out, fun h => by omega⟩⟩
      · have hb : (a != 0) = true := by simpa using ha
        have HE : Hid (orN a b = a) := Lib.hid (if_neg ha)
        go_wp2_with fail
        go_ret
        exact ⟨by rw [HE.out]; rfl, rfl⟩
    · have c1 := HH.out.2
      have HE : Hid (orN a b = b) := Lib.hid (if_pos (HI.out.1 (by omega)))
      by_cases ha : b = 0
      · have hb : (b != 0) = false := by simpa using ha
        have HA := Lib.hid ha
        clear ha
        go_wp2_with fail
        go_roundg 0
        case measure => omega
        case rel => exact ⟨2, by omega, rfl, rfl, Lib.hid ⟨fun _ => HI.out.1 (by omega), fun _ => HA.out⟩⟩
      · have hb : (b != 0) = true := by simpa using ha
        go_wp2_with fail
        go_ret
        exact ⟨by rw [HE.out]; rfl, rfl⟩
    · have HE : Hid (orN a b = 0) := Lib.hid (by unfold orN; rw [if_pos (HI.out.1 (by omega))]; exact HI.out.2 (by omega))
      go_wp2_with fail
      go_ret
      exact ⟨by rw [HE.out]; rfl, rfl⟩

def cmpT (x y : Tw) : Int := orN (cmpN x.slot y.slot) (cmpN x.turn y.turn)
theorem or_cells (W : World) (a b : Int) : (W.alloc (.cells #[.int .i64 a, .int .i64 b] 3)).drew.cell? ⟨W.heap.size, 0, none⟩ = some (.int .i64 a) ∧ (W.alloc (.cells #[.int .i64 a, .int .i64 b] 3)).drew.cell? ⟨W.heap.size, 1, none⟩ = some (.int .i64 b) := by
  have h := Box.new W 3 #[.int .i64 a, .int .i64 b]
  exact ⟨h.cell 0, h.cell 1⟩
theorem grown_two (w : World) (o1 o2 o3 : Obj) (q : Nat) : (((w.alloc o1).alloc o2).drewN q).alloc o3 = Go.Sort.grow (w.drewN q) #[o1, o2, o3] := by
  rw [Go.Sort.alloc_eq_grow, Go.Sort.alloc_eq_grow, Go.Sort.alloc_eq_grow, Go.Sort.grow_grow]
  show Go.Sort.grow (Go.Sort.grow (w.drewN q) (#[o1] ++ #[o2])) #[o3] = _
  rw [Go.Sort.grow_grow]
  rfl
theorem grown_drew (w : World) (o1 o2 o3 : Obj) : (((w.alloc o1).alloc o2).alloc o3).drew = Go.Sort.grow (w.drewN 1) #[o1, o2, o3] := grown_two w o1 o2 o3 1
set_option maxHeartbeats 2000000 in
set_option maxRecDepth 100000 in
theorem w_less (x y : Tw) (w : World) :
    Calls Tryd.prog 33 #[.agg #[.int .u64 (x.v : Int), .int .u64 (x.slot : Int), .int .u64 (x.turn : Int)], .agg #[.int .u64 (y.v : Int), .int .u64 (y.slot : Int), .int .u64 (y.turn : Int)]] w fun e w' => e = .returned (.int .i64 (cmpT x y)) ∧ ∃ q os', w' = Go.Sort.grow (w.drewN q) os' := by
  obtain ⟨xv, xs, xt, xa⟩ := x
  obtain ⟨yv, ys, yt, ya⟩ := y
  simp only [cmpT]
  have HC := Lib.hid (fun (p q : Nat) W => w_cmp p q W)
  have HO := Lib.hid (fun g c W a b h0 h1 => w_or g c a b W h0 h1)
  have HX1 := Lib.hid ((Box.new w 67 #[.int .u64 (xv : Int), .int .u64 (xs : Int), .int .u64 (xt : Int)]).alloc (.cells #[.int .u64 (yv : Int), .int .u64 (ys : Int), .int .u64 (yt : Int)] 67))
  have HY1 := Lib.hid (Box.new (w.alloc (.cells #[.int .u64 (xv : Int), .int .u64 (xs : Int), .int .u64 (xt : Int)] 67)) 67 #[.int .u64 (yv : Int), .int .u64 (ys : Int), .int .u64 (yt : Int)])
  rw [World.size_alloc] at HY1
  go_enter Tryd.func33, Tryd.ntmps33
  go_upto_region 1 with fail
  obtain ⟨xb, HXb⟩ : ∃ xb, Hid (w.heap.size = xb) := ⟨_, Lib.hid rfl⟩
  obtain ⟨yb, HYb⟩ : ∃ yb, Hid (w.heap.size + 1 = yb) := ⟨_, Lib.hid rfl⟩
  obtain ⟨W, HW⟩ : ∃ W, Hid ((w.alloc (.cells #[.int .u64 (xv : Int), .int .u64 (xs : Int), .int .u64 (xt : Int)] 67)).alloc (.cells #[.int .u64 (yv : Int), .int .u64 (ys : Int), .int .u64 (yt : Int)] 67) = W) := ⟨_, Lib.hid rfl⟩
  rw [HW.out] at HX1 HY1 ⊢
  rw [HYb.out] at HY1 ⊢
  rw [HXb.out] at HX1 ⊢
  have x1 : W.cell? ⟨xb, 1, none⟩ = some (.int .u64 (xs : Int)) := HX1.out.cell 1
  have x2 : W.cell? ⟨xb, 2, none⟩ = some (.int .u64 (xt : Int)) := HX1.out.cell 2
  have y1 : W.cell? ⟨yb, 1, none⟩ = some (.int .u64 (ys : Int)) := HY1.out.cell 1
  have y2 : W.cell? ⟨yb, 2, none⟩ = some (.int .u64 (yt : Int)) := HY1.out.cell 2
  have HN := Lib.hid (or_cells W)
  have HG : Hid (∀ o3, (W.alloc o3).drew = Go.Sort.grow (w.drewN 1) #[.cells #[.int .u64 (xv : Int), .int .u64 (xs : Int), .int .u64 (xt : Int)] 67, .cells #[.int .u64 (yv : Int), .int .u64 (ys : Int), .int .u64 (yt : Int)] 67, o3]) := Lib.hid (fun o3 => by rw [← HW.out]; exact grown_drew w _ _ o3)
  clear HW HXb HYb HX1 HY1
  go_region_held3 (fun w' => w'.cell? ⟨xb, 1, none⟩ = some (.int .u64 (xs : Int)) ∧ w'.cell? ⟨xb, 2, none⟩ = some (.int .u64 (xt : Int)) ∧ w'.cell? ⟨yb, 1, none⟩ = some (.int .u64 (ys : Int)) ∧ w'.cell? ⟨yb, 2, none⟩ = some (.int .u64 (yt : Int))) (go_keep)
    (first | ((go_at_call 35; refine (HC.out _ _ _).mono ?_; rintro e w1 ⟨rfl, rfl⟩)) | ((go_at_call 34; refine (HO.out _ _ _ _ _ (HN.out _ _).1 (HN.out _ _).2).mono ?_; rintro e w1 ⟨rfl, rfl⟩)))
  all_goals
    go_wp2_with fail
    go_ret
    exact ⟨rfl, 1, _, HG.out _⟩

end Go.Proofs.YtkiibobpejoaeaaDoor
