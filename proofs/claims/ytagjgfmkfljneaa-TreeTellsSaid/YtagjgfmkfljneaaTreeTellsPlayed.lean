/-
  TreeTells' walk, over whatever the program's tree is (TreeK).
-/
import Derived.Test.YtagjgfmkfljneaaTreeTellsFacts
import Derived.BigQuiet
namespace Go.Proofs.Ytagjgfmkfljneaa
open Go.RowKit
set_option linter.unusedVariables false

/-- Len and Room only read. -/
structure QuietT (K : TreeK) : Prop where
  len : ∀ {N w a g}, K.At N w a g → g.Ok → Calls Try.prog 22 #[.pointer (some a)] w fun e w' => e = .returned (.int .i64 (g.l.length : Nat)) ∧ w' = w
  room : ∀ {N w a g}, K.At N w a g → g.Ok → Calls Try.prog 23 #[.pointer (some a)] w fun e w' => e = .returned (.int .i64 (g.room : Nat)) ∧ w' = w
def Tl6At (K : TreeK) (w W : World) (a : Addr) (q room : Nat) : Prop := ∃ N g p n c, Tl6 K w W a q room N g p n c g.l

/-- What All told: values that may be written. -/
def AllRow (B0 : Nat) (wx : World) (p2 : Option Addr) (n : Nat) : Prop := 0 < n → ∃ B cs, p2 = some ⟨B, 0, none⟩ ∧ B0 ≤ B ∧ Box wx B 44 cs ∧ ∀ j, j < n → ∃ x : Int, cs[j * 3 + 2]? = some (.int .i64 x)
theorem AllRow.of {W : World} {B0 n c : Nat} {p : Option Addr} {l : List En} (h : W.ownsRow B0 44 3 (.slice p n c) n (l.flatMap enC)) (hn : l.length = n) : AllRow B0 W p n := by
  intro h0
  have hc : ∀ j, j < n → ∃ B, p = some ⟨B, 0, none⟩ ∧ ∃ x : Int, W.cell? ⟨B, j * 3 + 2, none⟩ = some (.int .i64 x) := by
    intro j hj
    obtain ⟨B, e, _, _, _, c2⟩ := en_at (k := (l[j]'(by omega)).key) (v := (l[j]'(by omega)).val) h hn (List.getElem?_eq_getElem (by omega))
    exact ⟨B, e, _, c2⟩
  rcases h.2 with ⟨_, e⟩ | ⟨B, cap, cur, e, h2, h3, h4, h5, h6, h7⟩
  · omega
  · cases e
    have bx : Box W B 44 cur := h3
    refine ⟨B, cur, rfl, h2, bx, fun j hj => ?_⟩
    obtain ⟨B', e, x, hx⟩ := hc j hj
    cases e
    rw [bx.cell] at hx
    exact ⟨x, hx⟩
theorem AllRow.below {B0 n : Nat} {W W' : World} {p : Option Addr} (h : AllRow B0 W p n) (b : Below W.heap.size W W') : AllRow B0 W' p n := fun h0 => by
  obtain ⟨B, cs, e, h1, h2, h3⟩ := h h0
  exact ⟨B, cs, e, h1, h2.below b h2.lt, h3⟩
theorem AllRow.at_ {B0 n i : Nat} {W : World} {p : Option Addr} (h : AllRow B0 W p n) (hi : i < n) : ∃ B x, p = some ⟨B, 0, none⟩ ∧ B0 ≤ B ∧ W.cell? ⟨B, i * 3 + 2, none⟩ = some (.int .i64 x) ∧ W.frozen? ⟨B, i * 3 + 2, none⟩ = false ∧ ∀ y : Int, AllRow B0 (W.setCell ⟨B, i * 3 + 2, none⟩ (.int .i64 y)) p n := by
  obtain ⟨B, cs, e, h1, h2, h3⟩ := h (by omega)
  obtain ⟨x, hx⟩ := h3 i hi
  refine ⟨B, x, e, h1, by rw [h2.cell]; exact hx, h2.frozen _, fun y _ => ⟨B, _, e, h1, h2.set _ _, fun j hj => ?_⟩⟩
  by_cases hji : j = i
  · subst hji
    exact ⟨y, Array.getElem?_setIfInBounds_self_of_lt (Array.getElem?_eq_some_iff.1 hx).1⟩
  · rw [Array.getElem?_setIfInBounds_ne (by omega)]
    exact h3 j hj

set_option maxHeartbeats 16000000 in
set_option maxRecDepth 100000 in
theorem treeTells_of (K : TreeK) (KQ : QuietT K) (HA : Hid Awake) (rm : Int) (hrm : I64 rm) (A : Option Addr) (len cap : Nat) (z0 : List (List Value)) (w : World) (HR : Hid (RowOf [some .u8, some .u64, some .u64, some .i64] w A len cap z0)) :
    Calls Try.prog 3 #[.int .i64 rm, .slice A len cap] w fun e w' => e = .returned (.bool true) ∧ Below w.heap.size w w' := by
  have hlc := (row_fit HR.out).1
  have hcap := (row_fit HR.out).2
  by_cases hin : 1 ≤ rm ∧ rm ≤ 65536
  case neg =>
    have R1 := Lib.hid (K.new_no rm w (by omega))
    by_cases h1 : 1 ≤ rm
    · have h2 : ¬ rm ≤ 65536 := fun h => hin ⟨h1, h⟩
      clear hin
      go_enter Try.func3, Try.ntmps3
      go_wp2_with fail
      refine R1.out.mono ?_
      rintro e w1 ⟨rfl, b1⟩
      have HB1 := Lib.hid b1
      clear b1 R1
      go_wp2_with fail
      refine (HA.out _).mono ?_
      rintro e w2 ⟨rfl, b2⟩
      have HB2 := Lib.hid (below_tr HB1.out b2)
      clear b2
      go_wp2_with fail
      go_ret
      exact ⟨rfl, HB2.out⟩
    · clear hin
      go_enter Try.func3, Try.ntmps3
      go_wp2_with fail
      refine R1.out.mono ?_
      rintro e w1 ⟨rfl, b1⟩
      have HB1 := Lib.hid b1
      clear b1 R1
      go_wp2_with fail
      refine (HA.out _).mono ?_
      rintro e w2 ⟨rfl, b2⟩
      have HB2 := Lib.hid (below_tr HB1.out b2)
      clear b2
      go_wp2_with fail
      go_ret
      exact ⟨rfl, HB2.out⟩
  case pos =>
  obtain ⟨hin1, hin2⟩ := hin
  obtain ⟨room, rfl⟩ : ∃ room : Nat, rm = (room : Int) := ⟨rm.toNat, by omega⟩
  have R1 := Lib.hid (OwnT.new_ K w room (by omega) (by omega) w (Below.refl _ _))
  go_enter Try.func3, Try.ntmps3
  go_wp2_with fail
  refine R1.out.mono ?_
  rintro e w1 ⟨a, N0, rfl, O1, _, _⟩
  have HO1 := Lib.hid O1
  clear O1 R1
  by_cases hbig : 40 < room ∨ 80 < len
  · have HLo := Lib.hid HO1.out.lo
    by_cases h40 : 40 < room
    · have h40z : (40 : Int) < (room : Int) := by omega
      clear hbig
      go_wp2_with fail
      refine (HA.out _).mono ?_
      rintro e w2 ⟨rfl, b2⟩
      have HB2 := Lib.hid (below_tr HLo.out b2)
      clear b2
      go_wp2_with fail
      go_ret
      exact ⟨rfl, HB2.out⟩
    · have h40z : ¬ (40 : Int) < (room : Int) := by omega
      have h80z : (80 : Int) < (len : Int) := by omega
      clear hbig
      go_wp2_with fail
      refine (HA.out _).mono ?_
      rintro e w2 ⟨rfl, b2⟩
      have HB2 := Lib.hid (below_tr HLo.out b2)
      clear b2
      go_wp2_with fail
      go_ret
      exact ⟨rfl, HB2.out⟩
  · have h40z : ¬ (40 : Int) < (room : Int) := by omega
    have h80z : ¬ (80 : Int) < (len : Int) := by omega
    have h40 : room ≤ 40 := by omega
    have h80 : len ≤ 80 := by omega
    clear hbig
    obtain ⟨W2, HW2⟩ : ∃ W, Hid (w1.alloc (.cells #[.slice none 0 0, .int .i64 (room : Int)] 30) = W) := ⟨_, Lib.hid rfl⟩
    obtain ⟨q, HQ⟩ : ∃ q, Hid (w1.heap.size = q) := ⟨_, Lib.hid rfl⟩
    have HT : Hid (Tl6At K w W2 a q room) := by
      have al : Below w1.heap.size w1 W2 := by rw [← HW2.out]; exact (Below.refl _ _).alloc (Nat.le_refl _) _
      refine Lib.hid ⟨N0, ⟨room, .leaf⟩, none, 0, 0, HO1.out.below al, ?_, ⟨World.ownsRow_nil _ _ _ _, fun k _ e => by cases e⟩, rfl, List.Pairwise.nil, Nat.zero_le _, fun hq => ?_, ?_, rfl⟩
      · rw [← HW2.out, ← HQ.out]
        exact Box.new _ _ _
      · have := K.lt HO1.out.at_ q hq
        have := HQ.out
        omega
      · rw [← HQ.out]
        exact HO1.out.lo.size
    go_upto_region 7 with fail
    rw [HW2.out, HQ.out]
    clear HO1 HW2 HQ
    go_wp2_with fail
    go_loopg [72] len (fun kk i wx => ∃ (j : Nat), len - j = kk ∧ j ≤ len ∧ i = .int .i64 (j : Int) ∧ Hid (Tl6At K w wx a q room))
    case atStart => exact ⟨0, rfl, by omega, rfl, HT⟩
    case round =>
      clear HT
      obtain ⟨j, rfl, hj, rfl, HT⟩ := hrel
      by_cases h0 : j = len
      · have h0z : ¬ (j : Int) < (len : Int) := by omega
        obtain ⟨N, g, p, n, c, T⟩ := HT.out
        have HLo := Lib.hid T.own.lo
        clear h0 T HT
        go_wp2_with fail
        refine (HA.out _).mono ?_
        rintro e w2 ⟨rfl, b2⟩
        have HB2 := Lib.hid (below_tr HLo.out b2)
        clear b2
        go_wp2_with fail
        go_ret
        exact ⟨rfl, HB2.out⟩
      · have hjl : j < len := by omega
        have hjz : (j : Int) < (len : Int) := by omega
        obtain ⟨N, g, p, n, c, T⟩ := HT.out
        have HP := Lib.hid T
        clear HT T h0
        obtain ⟨ad, kd, k, v, rfl, hkd, hk, hv, HO⟩ := opt_cells HR.out hjl
        obtain ⟨o0, o1, o2, o3⟩ := HO wr HP.out.own.lo
        clear HO
        go_upto_block 2 with fail
        have HP1 := Lib.hid (HP.out.below ((Below.refl _ wr).alloc (Nat.le_refl _) (.cells #[.int .u8 (kd : Int), .int .u64 (k.at_ : Int), .int .u64 (k.seq : Int), .int .i64 v] 35)))
        have X1 := Box.new wr 35 #[.int .u8 (kd : Int), .int .u64 (k.at_ : Int), .int .u64 (k.seq : Int), .int .i64 v]
        obtain ⟨W1, HW1⟩ : ∃ W1, Hid (wr.alloc (.cells #[.int .u8 (kd : Int), .int .u64 (k.at_ : Int), .int .u64 (k.seq : Int), .int .i64 v] 35) = W1) := ⟨_, Lib.hid rfl⟩
        obtain ⟨ob, HOB⟩ : ∃ ob, Hid (wr.heap.size = ob) := ⟨_, Lib.hid rfl⟩
        have HNO : Hid (¬ N ob) := Lib.hid fun h => by
          have h1 := K.lt HP.out.own.at_ ob h
          have h2 := HOB.out
          omega
        rw [HW1.out] at HP1 X1 ⊢
        rw [HOB.out] at X1 ⊢
        have x0 : W1.cell? ⟨ob, 0, none⟩ = some (.int .u8 (kd : Int)) := X1.cell 0
        have x1 : W1.cell? ⟨ob, 1, none⟩ = some (.int .u64 (k.at_ : Int)) := X1.cell 1
        have x2 : W1.cell? ⟨ob, 2, none⟩ = some (.int .u64 (k.seq : Int)) := X1.cell 2
        have x3 : W1.cell? ⟨ob, 3, none⟩ = some (.int .i64 v) := X1.cell 3
        have HX1 := Lib.hid X1
        clear HW1 HP o0 o1 o2 o3 X1 HOB
        go_cut [] (fun wx => Hid (Tl6At K w wx a q room))
        case first =>
          by_cases k1 : kd = 1
          · as_aux_lemma =>
            subst k1
            have KP := Lib.hid (HP1.out.own.put k v hk hv)
            unfold kyV at KP
            obtain ⟨ec, hec⟩ : ∃ ec, putE room g.l k = ec := ⟨_, rfl⟩
            rw [HP1.out.room_, hec] at KP
            have HEC := Lib.hid hec
            clear hec
            go_wp2_with fail
            refine KP.out.mono ?_
            rintro e w3 ⟨rfl, N3, g3, e3, l3, P3, S3⟩
            have HP3 := Lib.hid (HP1.out.step P3 (e3.trans HP1.out.room_.symm) S3)
            have X3 := HX1.out.turned S3.turned HNO.out
            have y1 : w3.cell? ⟨ob, 1, none⟩ = some (.int .u64 (k.at_ : Int)) := X3.cell 1
            have y2 : w3.cell? ⟨ob, 2, none⟩ = some (.int .u64 (k.seq : Int)) := X3.cell 2
            have y3 : w3.cell? ⟨ob, 3, none⟩ = some (.int .i64 v) := X3.cell 3
            have z0 : w3.cell? ⟨q, 0, none⟩ = some (.slice p n c) := HP3.out.box.cell 0
            have z1 : w3.cell? ⟨q, 1, none⟩ = some (.int .i64 (room : Int)) := HP3.out.box.cell 1
            have KR := Lib.hid (HP3.out.r_put k v)
            unfold kyV at KR
            rw [HEC.out] at KR
            have HL3 := Lib.hid l3
            clear P3 S3 X3 HP1 HX1 KP x0 x1 x2 x3 l3 e3
            go_wp2_with fail
            refine KR.out.mono ?_
            rintro e w4 ⟨p4, n4, c4, rfl, b4, T4⟩
            have HT4 := Lib.hid (T4 (.cells #[.slice p4 n4 c4, .int .i64 (room : Int)] 30))
            have XN := Box.new w4 30 #[.slice p4 n4 c4, .int .i64 (room : Int)]
            have XQ := (HP3.out.below b4).box.alloc (.cells #[.slice p4 n4 c4, .int .i64 (room : Int)] 30)
            obtain ⟨W5, HW5⟩ : ∃ W5, Hid (w4.alloc (.cells #[.slice p4 n4 c4, .int .i64 (room : Int)] 30) = W5) := ⟨_, Lib.hid rfl⟩
            obtain ⟨xb, HXB⟩ : ∃ xb, Hid (w4.heap.size = xb) := ⟨_, Lib.hid rfl⟩
            rw [HW5.out] at HT4 XN XQ
            rw [HXB.out] at XN
            have u0 : W5.cell? ⟨xb, 0, none⟩ = some (.slice p4 n4 c4) := XN.cell 0
            have u1 : W5.cell? ⟨xb, 1, none⟩ = some (.int .i64 (room : Int)) := XN.cell 1
            have v0 : W5.cell? ⟨q, 0, none⟩ = some (.slice p n c) := XQ.cell 0
            have v1 : W5.cell? ⟨q, 1, none⟩ = some (.int .i64 (room : Int)) := XQ.cell 1
            have v2 := XQ.frozen 0
            have v3 := XQ.frozen 1
            have HEnd : Hid (Tl6At K w ((W5.setCell ⟨q, 0, none⟩ (.slice p4 n4 c4)).setCell ⟨q, 1, none⟩ (.int .i64 (room : Int))) a q room) := by
              refine Lib.hid ⟨N3, g3, p4, n4, c4, ?_⟩
              rw [HL3.out]
              exact HT4.out
            clear b4 T4 XN XQ KR HP3 HT4 HL3 y1 y2 y3 z0 z1 HNO HEC
            go_upto_region 14 with fail
            rw [HW5.out, HXB.out]
            clear HW5 HXB
            go_wp2_with fail
            go_meet
            exact HEnd
          · by_cases k2 : kd = 2
            · as_aux_lemma =>
              subst k2
              have KP := Lib.hid (HP1.out.own.drop k hk)
              unfold kyV outI at KP
              obtain ⟨gv, hgv⟩ : ∃ gv, (getL k g.l).getD 0 = gv := ⟨_, rfl⟩
              obtain ⟨gb, hgb⟩ : ∃ gb, (getL k g.l).isSome = gb := ⟨_, rfl⟩
              rw [hgv, hgb] at KP
              have HGV := Lib.hid hgv
              have HGB := Lib.hid hgb
              have hvv : (gv != gv) = false := by simp
              have hbb : (gb != gb) = false := by simp
              clear hgv hgb
              go_wp2_with fail
              refine KP.out.mono ?_
              rintro e w3 ⟨rfl, N3, g3, e3, l3, P3, S3⟩
              have HP3 := Lib.hid (HP1.out.step P3 e3 S3)
              have X3 := HX1.out.turned S3.turned HNO.out
              have y1 : w3.cell? ⟨ob, 1, none⟩ = some (.int .u64 (k.at_ : Int)) := X3.cell 1
              have y2 : w3.cell? ⟨ob, 2, none⟩ = some (.int .u64 (k.seq : Int)) := X3.cell 2
              have z0 : w3.cell? ⟨q, 0, none⟩ = some (.slice p n c) := HP3.out.box.cell 0
              have z1 : w3.cell? ⟨q, 1, none⟩ = some (.int .i64 (room : Int)) := HP3.out.box.cell 1
              have KR := Lib.hid (HP3.out.r_drop k)
              unfold kyV at KR
              rw [HGV.out, HGB.out] at KR
              have HL3 := Lib.hid l3
              clear P3 S3 X3 HP1 HX1 KP x0 x1 x2 x3 l3 e3
              go_wp2_with fail
              refine KR.out.mono ?_
              rintro e w4 ⟨p4, n4, c4, rfl, b4, T4⟩
              have HT4 := Lib.hid (T4 (.cells #[.slice p4 n4 c4, .int .i64 (room : Int)] 30))
              have XN := Box.new w4 30 #[.slice p4 n4 c4, .int .i64 (room : Int)]
              have XQ := (HP3.out.below b4).box.alloc (.cells #[.slice p4 n4 c4, .int .i64 (room : Int)] 30)
              obtain ⟨W5, HW5⟩ : ∃ W5, Hid (w4.alloc (.cells #[.slice p4 n4 c4, .int .i64 (room : Int)] 30) = W5) := ⟨_, Lib.hid rfl⟩
              obtain ⟨xb, HXB⟩ : ∃ xb, Hid (w4.heap.size = xb) := ⟨_, Lib.hid rfl⟩
              rw [HW5.out] at HT4 XN XQ
              rw [HXB.out] at XN
              have u0 : W5.cell? ⟨xb, 0, none⟩ = some (.slice p4 n4 c4) := XN.cell 0
              have u1 : W5.cell? ⟨xb, 1, none⟩ = some (.int .i64 (room : Int)) := XN.cell 1
              have v0 : W5.cell? ⟨q, 0, none⟩ = some (.slice p n c) := XQ.cell 0
              have v1 : W5.cell? ⟨q, 1, none⟩ = some (.int .i64 (room : Int)) := XQ.cell 1
              have v2 := XQ.frozen 0
              have v3 := XQ.frozen 1
              have HEnd : Hid (Tl6At K w ((W5.setCell ⟨q, 0, none⟩ (.slice p4 n4 c4)).setCell ⟨q, 1, none⟩ (.int .i64 (room : Int))) a q room) := by
                refine Lib.hid ⟨N3, g3, p4, n4, c4, ?_⟩
                rw [HL3.out]
                exact HT4.out
              clear b4 T4 XN XQ KR HP3 HT4 HL3 y1 y2 z0 z1 HNO HGV HGB
              go_upto_region 20 with fail
              rw [HW5.out, HXB.out]
              clear HW5 HXB
              go_wp2_with fail
              go_meet
              exact HEnd
            · by_cases k3 : kd = 3
              · as_aux_lemma =>
                subst k3
                have KP := Lib.hid (HP1.out.own.get k hk)
                unfold kyV outI at KP
                obtain ⟨gv, hgv⟩ : ∃ gv, (getL k g.l).getD 0 = gv := ⟨_, rfl⟩
                obtain ⟨gb, hgb⟩ : ∃ gb, (getL k g.l).isSome = gb := ⟨_, rfl⟩
                rw [hgv, hgb] at KP
                have HGV := Lib.hid hgv
                have HGB := Lib.hid hgb
                have hvv : (gv != gv) = false := by simp
                have hbb : (gb != gb) = false := by simp
                clear hgv hgb
                go_wp2_with fail
                refine KP.out.mono ?_
                rintro e w3 ⟨rfl, P3, b3⟩
                have HP3 := Lib.hid (HP1.out.below b3)
                have X3 := HX1.out.below b3 HX1.out.lt
                have y1 : w3.cell? ⟨ob, 1, none⟩ = some (.int .u64 (k.at_ : Int)) := X3.cell 1
                have y2 : w3.cell? ⟨ob, 2, none⟩ = some (.int .u64 (k.seq : Int)) := X3.cell 2
                have z0 : w3.cell? ⟨q, 0, none⟩ = some (.slice p n c) := HP3.out.box.cell 0
                have z1 : w3.cell? ⟨q, 1, none⟩ = some (.int .i64 (room : Int)) := HP3.out.box.cell 1
                have KR := Lib.hid (ref_get p c n w.heap.size (room : Int) g.l k w3 HP3.out.len HP3.out.n6 HP3.out.ri HP3.out.row.row)
                unfold kyV outI at KR
                rw [HGV.out, HGB.out] at KR
                clear P3 b3 X3 HP1 HX1 KP x0 x1 x2 x3
                go_wp2_with fail
                refine KR.out.mono ?_
                rintro e w4 ⟨rfl, b4⟩
                have HEnd : Hid (Tl6At K w w4 a q room) := Lib.hid ⟨N, g, p, n, c, HP3.out.below b4⟩
                clear b4 KR HP3 y1 y2 z0 z1 HNO HGV HGB
                go_wp2_with fail
                go_meet
                exact HEnd
              · by_cases k4 : kd = 4
                · as_aux_lemma =>
                  subst k4
                  have KP := Lib.hid (HP1.out.own.next k hk)
                  unfold kyV outE enV at KP
                  obtain ⟨ge, hge⟩ : ∃ ge, (nextL k g.l).getD noEn = ge := ⟨_, rfl⟩
                  obtain ⟨gb, hgb⟩ : ∃ gb, (nextL k g.l).isSome = gb := ⟨_, rfl⟩
                  rw [hge, hgb] at KP
                  have HGV := Lib.hid hge
                  have HGB := Lib.hid hgb
                  have hbb : (gb != gb) = false := by simp
                  clear hge hgb
                  go_wp2_with fail
                  refine KP.out.mono ?_
                  rintro e w3 ⟨rfl, P3, b3⟩
                  have HP2 := Lib.hid (HP1.out.below b3)
                  have X2 := HX1.out.below b3 HX1.out.lt
                  have HX2 := Lib.hid X2
                  clear P3 b3 X2 HP1 HX1 KP x0 x1 x2 x3
                  go_upto_region 30 with fail
                  obtain ⟨W4, HW4⟩ : ∃ W4, Hid (w3.alloc (.cells #[.int .u64 (ge.key.at_ : Int), .int .u64 (ge.key.seq : Int), .int .i64 ge.val] 44) = W4) := ⟨_, Lib.hid rfl⟩
                  obtain ⟨xb, HXB⟩ : ∃ xb, Hid (w3.heap.size = xb) := ⟨_, Lib.hid rfl⟩
                  have bA : Below w3.heap.size w3 W4 := by rw [← HW4.out]; exact (Below.refl _ _).alloc (Nat.le_refl _) _
                  have HP3 := Lib.hid (HP2.out.below bA)
                  have X3 := HX2.out.below bA HX2.out.lt
                  have XB : Hid (Box W4 xb 44 #[.int .u64 (ge.key.at_ : Int), .int .u64 (ge.key.seq : Int), .int .i64 ge.val]) := by
                    rw [← HW4.out, ← HXB.out]
                    exact Lib.hid (Box.new _ _ _)
                  rw [HW4.out, HXB.out]
                  have y1 : W4.cell? ⟨ob, 1, none⟩ = some (.int .u64 (k.at_ : Int)) := X3.cell 1
                  have y2 : W4.cell? ⟨ob, 2, none⟩ = some (.int .u64 (k.seq : Int)) := X3.cell 2
                  have z0 : W4.cell? ⟨q, 0, none⟩ = some (.slice p n c) := HP3.out.box.cell 0
                  have z1 : W4.cell? ⟨q, 1, none⟩ = some (.int .i64 (room : Int)) := HP3.out.box.cell 1
                  have KR := Lib.hid (ref_next p c n w.heap.size (room : Int) g.l k W4 HP3.out.len HP3.out.n6 HP3.out.row.row)
                  unfold kyV outE enV at KR
                  rw [HGV.out, HGB.out] at KR
                  clear HP2 HX2 HW4 HXB bA X3
                  go_wp2_with fail
                  refine KR.out.mono ?_
                  rintro e w4 ⟨rfl, b4⟩
                  have HP4 := Lib.hid (HP3.out.below b4)
                  have XC := XB.out.below b4 XB.out.lt
                  have HXC := Lib.hid XC
                  clear b4 KR HP3 y1 y2 z0 z1 HNO HGV HGB XC XB
                  go_upto_region 31 with fail
                  obtain ⟨W5, HW5⟩ : ∃ W5, Hid (w4.alloc (.cells #[.int .u64 (ge.key.at_ : Int), .int .u64 (ge.key.seq : Int), .int .i64 ge.val] 44) = W5) := ⟨_, Lib.hid rfl⟩
                  obtain ⟨yb, HYB⟩ : ∃ yb, Hid (w4.heap.size = yb) := ⟨_, Lib.hid rfl⟩
                  have bA : Below w4.heap.size w4 W5 := by rw [← HW5.out]; exact (Below.refl _ _).alloc (Nat.le_refl _) _
                  have HEnd : Hid (Tl6At K w W5 a q room) := Lib.hid ⟨N, g, p, n, c, HP4.out.below bA⟩
                  have XA := HXC.out.below bA HXC.out.lt
                  have XD : Box W5 yb 44 #[.int .u64 (ge.key.at_ : Int), .int .u64 (ge.key.seq : Int), .int .i64 ge.val] := by
                    rw [← HW5.out, ← HYB.out]
                    exact Box.new _ _ _
                  rw [HW5.out, HYB.out]
                  have t0 : W5.cell? ⟨xb, 0, none⟩ = some (.int .u64 (ge.key.at_ : Int)) := XA.cell 0
                  have t1 : W5.cell? ⟨xb, 1, none⟩ = some (.int .u64 (ge.key.seq : Int)) := XA.cell 1
                  have t2 : W5.cell? ⟨xb, 2, none⟩ = some (.int .i64 ge.val) := XA.cell 2
                  have s0 : W5.cell? ⟨yb, 0, none⟩ = some (.int .u64 (ge.key.at_ : Int)) := XD.cell 0
                  have s1 : W5.cell? ⟨yb, 1, none⟩ = some (.int .u64 (ge.key.seq : Int)) := XD.cell 1
                  have s2 : W5.cell? ⟨yb, 2, none⟩ = some (.int .i64 ge.val) := XD.cell 2
                  clear HP4 HXC HW5 HYB bA XA XD
                  go_wp2_with fail
                  go_meet
                  exact HEnd
                · as_aux_lemma =>
                  have q1 : ((kd : Int) == 1) = false := by rw [beq_eq_false_iff_ne]; omega
                  have q2 : ((kd : Int) == 2) = false := by rw [beq_eq_false_iff_ne]; omega
                  have q3 : ((kd : Int) == 3) = false := by rw [beq_eq_false_iff_ne]; omega
                  have q4 : ((kd : Int) == 4) = false := by rw [beq_eq_false_iff_ne]; omega
                  have HEnd : Hid (Tl6At K w W1 a q room) := Lib.hid ⟨N, g, p, n, c, HP1.out⟩
                  clear k1 k2 k3 k4 HP1 HX1 HNO
                  go_wp2_with fail
                  go_meet
                  exact HEnd
        case rest =>
          obtain ⟨N6, g6, p6, n6, c6, T6⟩ := hcut.out
          have HT6 := Lib.hid T6
          obtain ⟨W6, hW6⟩ : ∃ W6, W6 = wc := ⟨_, rfl⟩
          subst hW6
          obtain ⟨l6, hl6⟩ : ∃ l6, g6.l = l6 := ⟨_, rfl⟩
          have KA := Lib.hid (K.all T6.own.at_ T6.own.ok)
          have hlen6 := T6.len
          have hsm6 := T6.sm
          clear HP1 HX1 HNO x0 x1 x2 x3 hcut T6
          rw [hl6] at KA HT6 hlen6
          unfold AllC at KA
          rw [hlen6] at KA
          have HL6 := Lib.hid hl6
          clear hl6
          go_wp2_with fail
          refine KA.out.mono ?_
          rintro e w7 ⟨p7, c7, rfl, r7, b7⟩
          have HT7 := Lib.hid (HT6.out.below b7)
          have HR7 := Lib.hid r7
          have HB7 := Lib.hid b7
          have KF := Lib.hid (HT7.out.own.first)
          rw [HL6.out] at KF
          unfold outE enV at KF
          obtain ⟨fe, hfe⟩ : ∃ fe, l6.head?.getD noEn = fe := ⟨_, rfl⟩
          obtain ⟨fb, hfb⟩ : ∃ fb, l6.head?.isSome = fb := ⟨_, rfl⟩
          rw [hfe, hfb] at KF
          have HFE := Lib.hid hfe
          have HFB := Lib.hid hfb
          clear r7 b7 KA hfe hfb
          go_wp2_with fail
          refine KF.out.mono ?_
          rintro e w8 ⟨rfl, _, b8⟩
          have HB8 := Lib.hid (below_tr HB7.out b8)
          have HT8 := Lib.hid (HT7.out.below b8)
          have HR8 := Lib.hid (owns_below HR7.out b8)
          clear b8 KF HT7 HR7 HB7
          go_upto_region 35 with fail
          obtain ⟨W9, HW9⟩ : ∃ W9, Hid (w8.alloc (.cells #[.int .u64 (fe.key.at_ : Int), .int .u64 (fe.key.seq : Int), .int .i64 fe.val] 44) = W9) := ⟨_, Lib.hid rfl⟩
          obtain ⟨xb, HXB⟩ : ∃ xb, Hid (w8.heap.size = xb) := ⟨_, Lib.hid rfl⟩
          have bA : Below w8.heap.size w8 W9 := by rw [← HW9.out]; exact (Below.refl _ _).alloc (Nat.le_refl _) _
          have HB9 := Lib.hid (below_tr HB8.out bA)
          have HT9 := Lib.hid (HT8.out.below bA)
          have HR9 := Lib.hid (owns_below HR8.out bA)
          have XB : Box W9 xb 44 #[.int .u64 (fe.key.at_ : Int), .int .u64 (fe.key.seq : Int), .int .i64 fe.val] := by
            rw [← HW9.out, ← HXB.out]
            exact Box.new _ _ _
          rw [HW9.out, HXB.out]
          have t0 : W9.cell? ⟨xb, 0, none⟩ = some (.int .u64 (fe.key.at_ : Int)) := XB.cell 0
          have t1 : W9.cell? ⟨xb, 1, none⟩ = some (.int .u64 (fe.key.seq : Int)) := XB.cell 1
          have t2 : W9.cell? ⟨xb, 2, none⟩ = some (.int .i64 fe.val) := XB.cell 2
          have z0 : W9.cell? ⟨q, 0, none⟩ = some (.slice p6 n6 c6) := HT9.out.box.cell 0
          have z1 : W9.cell? ⟨q, 1, none⟩ = some (.int .i64 (room : Int)) := HT9.out.box.cell 1
          have dn : ∀ m, Below W9.heap.size W9 (W9.drewN m) := fun m => below_drewN (Below.refl _ _) _
          have KS : Hid (∀ m, Calls Try.prog 21 #[.slice p7 n6 c7, .slice p6 n6 c6] (W9.drewN m) fun e w' => e = .returned (.bool true) ∧ ∃ m', w' = (W9.drewN m).drewN m') := Lib.hid fun m => law_same_q p7 p6 c7 c6 _ _ n6 l6 _ (by omega) hlen6 (owns_below HR9.out (dn m)) (owns_below HT9.out.row.row (dn m))
          have KL : Hid (∀ m, Calls Try.prog 22 #[.pointer (some a)] (W9.drewN m) fun e w' => e = .returned (.int .i64 (n6 : Int)) ∧ w' = W9.drewN m) := Lib.hid fun m => by
            have := KQ.len (HT9.out.below (dn m)).own.at_ HT9.out.own.ok
            rw [HL6.out, hlen6] at this
            exact this
          have KM : Hid (∀ m, Calls Try.prog 23 #[.pointer (some a)] (W9.drewN m) fun e w' => e = .returned (.int .i64 (room : Int)) ∧ w' = W9.drewN m) := Lib.hid fun m => by
            have := KQ.room (HT9.out.below (dn m)).own.at_ HT9.out.own.ok
            rw [HT9.out.room_] at this
            exact this
          have HE9 : Hid (∀ m, Below W6.heap.size W6 (W9.drewN m) ∧ AllRow W6.heap.size (W9.drewN m) p7 n6) := Lib.hid fun m => ⟨below_tr HB9.out (dn m), AllRow.of (owns_below HR9.out (dn m)) hlen6⟩
          have hnn : ((n6 : Int) != (n6 : Int)) = false := by simp
          have hrr : ((room : Int) != (room : Int)) = false := by simp
          have HRow := Lib.hid HT9.out.row.row
          have HLen6 := Lib.hid hlen6
          clear HW9 HXB bA XB dn HT8 HR8 HB8 HB9 HT9 HR9 hlen6
          go_cut [226] (fun v226 wx => v226 = .bool false ∧ Hid (Below W6.heap.size W6 wx) ∧ Hid (AllRow W6.heap.size wx p7 n6))
          case first =>
            cases l6 with
            | nil =>
              as_aux_lemma =>
              obtain rfl : n6 = 0 := HLen6.out.symm
              obtain rfl : noEn = fe := HFE.out
              obtain rfl : false = fb := HFB.out
              simp only [noEn] at t0 t1 t2
              clear HRow HLen6 HFE HFB HL6
              go_quiet (first | (go_at_call 21; exact Calls.quiet_of (KS.out _)) | (go_at_call 22; exact Calls.quiet_of_same (KL.out _)) | (go_at_call 23; exact Calls.quiet_of_same (KM.out _)))
              go_wp2_with fail
              go_meet
              exact ⟨rfl, Lib.hid (HE9.out _).1, Lib.hid (HE9.out _).2⟩
            | cons e0 tl =>
              as_aux_lemma =>
              obtain rfl : e0 = fe := HFE.out
              obtain rfl : true = fb := HFB.out
              have hn0 : 0 < n6 := by have := HLen6.out; simp at this; omega
              have hn0z : (0 : Int) < (n6 : Int) := by omega
              obtain ⟨B6, rfl, hB6, s0, s1, s2⟩ := en_at (i := 0) (k := e0.key) (v := e0.val) HRow.out HLen6.out rfl
              rw [Nat.zero_mul] at s0 s1 s2
              rw [Nat.zero_add] at s1 s2
              clear HRow HLen6 HFE HFB HL6
              go_quiet (first | (go_at_call 21; exact Calls.quiet_of (KS.out _)) | (go_at_call 22; exact Calls.quiet_of_same (KL.out _)) | (go_at_call 23; exact Calls.quiet_of_same (KM.out _)))
              go_wp2_with fail
              go_meet
              exact ⟨rfl, Lib.hid (HE9.out _).1, Lib.hid (HE9.out _).2⟩
          case rest =>
            obtain ⟨rfl, HBx, HAx⟩ := hcut
            clear HE9 KS KL KM t0 t1 t2 z0 z1 HRow HFE HFB
            go_wp2_with fail
            go_loopg [229] n6 (fun kk i wx => ∃ (ii : Nat), n6 - ii = kk ∧ ii ≤ n6 ∧ i = .int .i64 (ii : Int) ∧ Hid (Below W6.heap.size W6 wx) ∧ Hid (AllRow W6.heap.size wx p7 n6))
            case atStart => exact ⟨0, rfl, by omega, rfl, HBx, HAx⟩
            case round =>
              obtain ⟨ii, rfl, hii, rfl, HBi, HAi⟩ := hrel
              clear HBx HAx
              by_cases hi0 : ii = n6
              · as_aux_lemma =>
                have hi0z : ¬ (ii : Int) < (n6 : Int) := by omega
                have HEnd : Hid (∀ W, W = wr → Tl6At K w W a q room) := Lib.hid fun W e => by
                  subst e
                  have := HT6.out.below HBi.out
                  rw [← HL6.out] at this
                  exact ⟨N6, g6, p6, n6, c6, this⟩
                clear hi0
                go_wp2_with fail
                go_roundg (len - (j + 1))
                case measure => omega
                case rel => exact ⟨j + 1, rfl, by omega, by go_num, Lib.hid (HEnd.out _ rfl)⟩
              · as_aux_lemma =>
                have hil : ii < n6 := by omega
                have hiz : (ii : Int) < (n6 : Int) := by omega
                obtain ⟨B7, x, rfl, hB7, d0, d1, HA2⟩ := HAi.out.at_ hil
                have HA3 := Lib.hid HA2
                clear hi0 HA2
                go_wp2_with fail
                go_roundg (n6 - (ii + 1))
                case measure => omega
                case rel => exact ⟨ii + 1, rfl, by omega, by go_num, Lib.hid (HBi.out.setCell hB7 _), Lib.hid (HA3.out _)⟩

end Go.Proofs.Ytagjgfmkfljneaa
