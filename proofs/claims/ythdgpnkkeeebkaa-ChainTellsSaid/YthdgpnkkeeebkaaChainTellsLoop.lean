/-
  ChainTells' walk, over whatever the program's chains are (ChainK): the calls, one by one.
-/
import Derived.Test.YthdgpnkkeeebkaaChainTellsMain
namespace Go.Proofs.Ythdgpnkkeeebkaa
open Go.RowKit
set_option linter.unusedVariables false

set_option maxHeartbeats 16000000 in
set_option maxRecDepth 100000 in
theorem chainTells_main (K : ChainK) (HA : Hid Awake) (lists nodes : Nat) (l1 : 1 ≤ lists) (l2 : lists ≤ 64) (n1 : 1 ≤ nodes) (n2 : nodes ≤ 64) (A : Option Addr) (len cap : Nat) (z0 : List (List Value)) (hlen : len ≤ 60) (w : World) (HR : Hid (RowOf [some .u8, some .i64, some .i64] w A len cap z0)) :
    Calls Try.prog 3 #[.int .i64 (lists : Int), .int .i64 (nodes : Int), .slice A len cap] w fun e w' => e = .returned (.bool true) ∧ Below w.heap.size w w' := by
  have R1 := Lib.hid (OwnC.new_ K w lists nodes l1 l2 n1 (by omega))
  have c1 : (lists : Int) ≤ 65 := by omega
  have c2 : (nodes : Int) ≤ 65537 := by omega
  have R2 := Lib.hid (fun W => ref_new lists nodes W l1 l2 n1 (by omega) (fun _ => False))
  have hf1 : ¬ (64 : Int) < (nodes : Int) := by omega
  have hf2 : ¬ (60 : Int) < (len : Int) := by omega
  have hlc := (row_fit HR.out).1
  have hcap := (row_fit HR.out).2
  go_enter Try.func3, Try.ntmps3
  go_wp2_with fail
  refine R1.out.mono ?_
  rintro e w1 ⟨a, N, rfl, O1⟩
  have HO1 := Lib.hid O1
  clear O1 R1
  go_wp2_with fail
  refine (R2.out _).mono ?_
  rintro e w2 ⟨s', M', vs', rfl, R, hM, b2⟩
  obtain ⟨P', C', rfl, hT⟩ := Tl.start (nodes := nodes) HO1.out b2 R (fun k hk => (hM k hk).elim False.elim id) (by simp [Ch.new] : (Ch.new lists nodes).ls.length = lists) rfl
  have hv : refV (Ch.new lists nodes) (.slice P' lists C') = .agg #[.int .i64 (nodes : Int), .slice P' lists C'] := rfl
  rw [hv]
  have HT : Hid (∃ g, TlAt K w (w2.alloc (.cells #[.int .i64 (nodes : Int), .slice P' lists C'] 29)) a lists nodes w2.heap.size g) := Lib.hid ⟨_, hT⟩
  clear b2 R2 R hM hv HO1 hT
  go_wp2_with fail
  obtain ⟨q, hq⟩ : ∃ q, w2.heap.size = q := ⟨_, rfl⟩
  rw [hq] at HT ⊢
  obtain ⟨W3, HW3⟩ : ∃ W3, Hid (w2.alloc (.cells #[.int .i64 (nodes : Int), .slice P' lists C'] 29) = W3) := ⟨_, Lib.hid rfl⟩
  rw [HW3.out] at HT ⊢
  clear HW3 hq
  go_loopg [74] len (fun k i wx => ∃ (j : Nat), len - j = k ∧ j ≤ len ∧ i = .int .i64 (j : Int) ∧ Hid (∃ g, TlAt K w wx a lists nodes q g))
  case atStart => exact ⟨0, rfl, by omega, rfl, HT⟩
  case round =>
    clear HT
    obtain ⟨j, rfl, hj, rfl, HQ⟩ := hrel
    by_cases h0 : j = len
    · have h0z : ¬ (j : Int) < (len : Int) := by omega
      have h0n : ¬ j < len := by omega
      clear h0
      go_wp2_with fail
      refine (HA.out _).mono ?_
      rintro e w10 ⟨rfl, b10⟩
      go_wp2_with fail
      go_ret
      obtain ⟨g, N, P, C, M, vs, T⟩ := HQ.out
      exact ⟨rfl, below_tr T.own.lo b10⟩
    · have hjl : j < len := by omega
      have hjz : (j : Int) < (len : Int) := by omega
      obtain ⟨g, N, P, C, M, vs, T⟩ := HQ.out
      have HT := Lib.hid T
      clear HQ T h0
      obtain ⟨ad, kd, i, x, rfl, hkd, hi, hx, HO⟩ := opc_cells HR.out (show j < len by omega)
      obtain ⟨o0, o1, o2⟩ := HO wr HT.out.own.lo
      clear HO
      go_upto_block 2 with fail
      have HT1 := Lib.hid (HT.out.below ((Below.refl _ wr).alloc (Nat.le_refl _) (.cells #[.int .u8 (kd : Int), .int .i64 i, .int .i64 x] 34)))
      have X1 := Box.new wr 34 #[.int .u8 (kd : Int), .int .i64 i, .int .i64 x]
      have hnb : ¬ N wr.heap.size := fun h => absurd (K.lt HT.out.own.at_ _ h) (Nat.lt_irrefl _)
      obtain ⟨W1, HW1⟩ : ∃ W1, Hid (wr.alloc (.cells #[.int .u8 (kd : Int), .int .i64 i, .int .i64 x] 34) = W1) := ⟨_, Lib.hid rfl⟩
      rw [HW1.out] at HT1 X1 ⊢
      have x0 : W1.cell? ⟨wr.heap.size, 0, none⟩ = some (.int .u8 (kd : Int)) := X1.cell 0
      have x1 : W1.cell? ⟨wr.heap.size, 1, none⟩ = some (.int .i64 i) := X1.cell 1
      have x2 : W1.cell? ⟨wr.heap.size, 2, none⟩ = some (.int .i64 x) := X1.cell 2
      have HX1 := Lib.hid X1
      have HNB := Lib.hid hnb
      clear HW1 o0 o1 o2 X1 hnb
      obtain ⟨ob, hob⟩ : ∃ ob, wr.heap.size = ob := ⟨_, rfl⟩
      rw [hob] at x0 x1 x2 HX1 HNB ⊢
      clear hob
      go_cut [] (fun wx => Hid (∃ g, TlAt K w wx a lists nodes q g))
      case first =>
        by_cases k1 : kd = 1
        · subst k1
          go_wp2_with fail
          refine (HT1.out.own.push i x hi hx).mono ?_
          rintro e w3 ⟨rfl, N3, P3, s3⟩
          have HT3 := Lib.hid (HT1.out.step P3 s3)
          have X3 := (not_own HNB.out HX1.out s3).2
          have y1 : w3.cell? ⟨ob, 1, none⟩ = some (.int .i64 i) := X3.cell 1
          have y2 : w3.cell? ⟨ob, 2, none⟩ = some (.int .i64 x) := X3.cell 2
          have q0 : w3.cell? ⟨q, 0, none⟩ = some (.int .i64 (nodes : Int)) := HT3.out.box.cell 0
          have q1 : w3.cell? ⟨q, 1, none⟩ = some (.slice P lists C) := HT3.out.box.cell 1
          clear P3 s3 X3 HT1 HX1 x0 x1 x2
          go_wp2_with fail
          refine HT3.out.r_push.mono ?_
          rintro e w4 ⟨P', C', rfl, b4, HS⟩
          obtain ⟨t5, g0, g1, g2, g3⟩ := HS _ ((Below.refl _ w4).alloc (Nat.le_refl _) (.cells #[.int .i64 (nodes : Int), .slice P' lists C'] 29))
          have HE : Hid (∃ g, TlAt K w _ a lists nodes q g) := Lib.hid ⟨_, t5⟩
          clear t5 HS b4 q0 q1 y1 y2 HT3
          generalize g.pushE i x = pe at *
          go_wp2_with fail
          go_meet
          exact HE
        · by_cases k2 : kd = 2
          · subst k2
            go_wp2_with fail
            refine (HT1.out.own.pop i hi).mono ?_
            rintro e w3 ⟨rfl, N3, P3, s3⟩
            have HT3 := Lib.hid (HT1.out.step P3 s3)
            have X3 := (not_own HNB.out HX1.out s3).2
            have y1 : w3.cell? ⟨ob, 1, none⟩ = some (.int .i64 i) := X3.cell 1
            have q0 : w3.cell? ⟨q, 0, none⟩ = some (.int .i64 (nodes : Int)) := HT3.out.box.cell 0
            have q1 : w3.cell? ⟨q, 1, none⟩ = some (.slice P lists C) := HT3.out.box.cell 1
            clear P3 s3 X3 HT1 HX1 x0 x1 x2
            have hov : outV (g.list i).head? = .tuple #[.int .i64 (((g.list i).head?.getD 0 : Nat) : Int), .bool (g.list i).head?.isSome] := rfl
            rw [hov]
            clear hov
            go_wp2_with fail
            refine HT3.out.r_pop.mono ?_
            rintro e w4 ⟨P', C', rfl, b4, HS⟩
            obtain ⟨t5, g0, g1, g2, g3⟩ := HS _ ((Below.refl _ w4).alloc (Nat.le_refl _) (.cells #[.int .i64 (nodes : Int), .slice P' lists C'] 29))
            have HE : Hid (∃ g, TlAt K w _ a lists nodes q g) := Lib.hid ⟨_, t5⟩
            clear t5 HS b4 q0 q1 y1 HT3
            generalize (g.list i).head?.getD 0 = pe at *
            generalize (g.list i).head?.isSome = pb at *
            go_wp2_with fail
            go_meet
            exact HE
          · by_cases k3 : kd = 3
            · subst k3
              go_wp2_with fail
              refine (HT1.out.own.drop x hx).mono ?_
              rintro e w3 ⟨rfl, N3, P3, s3⟩
              have HT3 := Lib.hid (HT1.out.step P3 s3)
              have X3 := (not_own HNB.out HX1.out s3).2
              have y2 : w3.cell? ⟨ob, 2, none⟩ = some (.int .i64 x) := X3.cell 2
              have q0 : w3.cell? ⟨q, 0, none⟩ = some (.int .i64 (nodes : Int)) := HT3.out.box.cell 0
              have q1 : w3.cell? ⟨q, 1, none⟩ = some (.slice P lists C) := HT3.out.box.cell 1
              clear P3 s3 X3 HT1 HX1 x0 x1 x2
              go_wp2_with fail
              refine HT3.out.r_drop.mono ?_
              rintro e w4 ⟨P', C', rfl, b4, HS⟩
              obtain ⟨t5, g0, g1, g2, g3⟩ := HS _ ((Below.refl _ w4).alloc (Nat.le_refl _) (.cells #[.int .i64 (nodes : Int), .slice P' lists C'] 29))
              have HE : Hid (∃ g, TlAt K w _ a lists nodes q g) := Lib.hid ⟨_, t5⟩
              clear t5 HS b4 q0 q1 y2 HT3
              generalize (g.inn x).isSome = pb at *
              go_wp2_with fail
              go_meet
              exact HE
            · have k1z : ((kd : Int) == 1) = false := by rw [beq_eq_false_iff_ne]; omega
              have k2z : ((kd : Int) == 2) = false := by rw [beq_eq_false_iff_ne]; omega
              have k3z : ((kd : Int) == 3) = false := by rw [beq_eq_false_iff_ne]; omega
              have HE : Hid (∃ g, TlAt K w W1 a lists nodes q g) := Lib.hid ⟨_, _, _, _, _, _, HT1.out⟩
              clear k1 k2 k3 HT1 HX1
              go_wp2_with fail
              go_meet
              exact HE
      case rest =>
        clear HT1 HX1 HNB x0 x1 x2 HT
        obtain ⟨g, N, P, C, M, vs, T⟩ := hcut.out
        have HT := Lib.hid T
        clear T hcut
        go_upto_block 3 with fail
        go_cut [] (fun wx => Hid (Tl K w wx a lists nodes q N g P C M vs g))
        case first =>
          go_wp2_with fail
          go_loopg [24] (lists + 2) (fun k v wx => ∃ (r : Nat), lists + 2 - r = k ∧ r ≤ lists + 2 ∧ v = .int .i64 ((r : Int) - 1) ∧ Hid (Tl K w wx a lists nodes q N g P C M vs g))
          case atStart => exact ⟨0, rfl, by omega, rfl, HT⟩
          case round =>
            obtain ⟨r, rfl, hr, rfl, HI⟩ := hrel
            clear HT
            by_cases hrl : r = lists + 2
            · have hz : ¬ ((r : Int) - 1 ≤ (lists : Int)) := by omega
              clear hrl
              go_wp2_with fail
              go_meet
              exact HI
            · have hz : (r : Int) - 1 ≤ (lists : Int) := by omega
              have hli : I64 ((r : Int) - 1) := ⟨by omega, by omega⟩
              have hrz2 : (r : Int) ≤ 66 := by omega
              obtain ⟨L, HL⟩ : ∃ L, Hid (g.list ((r : Int) - 1) = L) := ⟨_, Lib.hid rfl⟩
              have hLl : L.length ≤ 64 := by
                rw [← HL.out]
                by_cases c : (r : Int) - 1 < 0
                · unfold Ch.list
                  rw [Ch.row_neg c]
                  simp
                · obtain ⟨k, hk⟩ : ∃ k : Nat, (r : Int) - 1 = (k : Int) := ⟨((r : Int) - 1).toNat, by omega⟩
                  rw [hk]
                  unfold Ch.list
                  rw [Ch.row_nat]
                  cases h : g.ls[k]? with
                  | none => simp
                  | some l =>
                    have h1 := short_list HI.out.ok h
                    have h2 := HI.out.d2
                    show l.length ≤ 64
                    omega
              have TD := Lib.hid (HI.out.below (Below.refl _ wr).drew)
              have KL := Lib.hid (K.list ((r : Int) - 1) TD.out.own.at_ TD.out.own.ok hli)
              have KR := Lib.hid (fun W (h : Tl K w W a lists nodes q N g P C M vs g) => h.r_list ((r : Int) - 1))
              have KF := Lib.hid (fun W (h : Tl K w W a lists nodes q N g P C M vs g) => h.own.first ((r : Int) - 1) hli)
              have KN := Lib.hid (fun W (h : Tl K w W a lists nodes q N g P C M vs g) => h.own.len ((r : Int) - 1) hli)
              rw [HL.out] at KL KR KF KN
              have q0 : wr.cell? ⟨q, 0, none⟩ = some (.int .i64 (nodes : Int)) := HI.out.box.cell 0
              have q1 : wr.cell? ⟨q, 1, none⟩ = some (.slice P lists C) := HI.out.box.cell 1
              have hrl2 : r < lists + 2 := by omega
              clear hrl hr
              obtain ⟨li, hlie⟩ : ∃ li : Int, (r : Int) - 1 = li := ⟨_, rfl⟩
              have HLI := Lib.hid hlie
              rw [hlie] at hz hli KL KR KF KN HL ⊢
              have hli2 : li ≤ 65 := by omega
              have hli3 : -1 ≤ li := by omega
              clear hlie
              go_upto_region 32 with fail
              go_region_held3 (fun w' => w'.cell? ⟨q, 0, none⟩ = some (.int .i64 (nodes : Int)) ∧ w'.cell? ⟨q, 1, none⟩ = some (.slice P lists C))
                (first | go_keep | exact k3 | exact k4)
                (first
                  | (go_at_call 18; refine KL.out.mono ?_; rintro e w3 ⟨p3, c3, rfl, own3, b3⟩; have T3 := TD.out.below b3; have k3 : w3.cell? ⟨q, 0, none⟩ = some (.int .i64 (nodes : Int)) ∧ w3.cell? ⟨q, 1, none⟩ = some (.slice P lists C) := ⟨T3.box.cell 0, T3.box.cell 1⟩)
                  | (go_at_call 19; refine (KR.out _ T3).mono ?_; rintro e w4 ⟨p4, c4, rfl, in4, b4⟩; have T4 := T3.below b4; have k4 : w4.cell? ⟨q, 0, none⟩ = some (.int .i64 (nodes : Int)) ∧ w4.cell? ⟨q, 1, none⟩ = some (.slice P lists C) := ⟨T4.box.cell 0, T4.box.cell 1⟩))
              have HT4 := Lib.hid T4
              have HO4 := Lib.hid (owns_below own3 b4)
              have HB4 := Lib.hid (below_tr b3 b4)
              have HI4 := Lib.hid in4
              clear T3 T4 k3 k4 own3 b3 b4 in4 KL KR q0 q1 HI
              go_wp2_with fail
              refine (KF.out _ HT4.out).mono ?_
              rintro e w5 ⟨rfl, _, b5⟩
              have HT5 := Lib.hid (HT4.out.below b5)
              have HO5 := Lib.hid (owns_below HO4.out b5)
              have HB5 := Lib.hid (below_tr HB4.out b5)
              have HI5 := Lib.hid (HI4.out.below HT4.out.ref.lt b5)
              have hov : outV L.head? = .tuple #[.int .i64 ((L.head?.getD 0 : Nat) : Int), .bool L.head?.isSome] := rfl
              rw [hov]
              clear hov b5 HT4 HO4 HB4 HI4 KF
              have HKI : Hid (Calls Try.prog 21 #[.slice p3 L.length c3, .slice p4 L.length c4] w5 fun e w' => e = .returned (.bool true) ∧ Below w5.heap.size w5 w') := by
                obtain ⟨p', c', e', r5, _⟩ := HI5.out
                cases e'
                have h := law_ints p3 p4 c3 c4 _ _ L L w5 (by omega) (by omega) HO5.out r5
                rw [decide_eq_true rfl] at h
                exact Lib.hid h
              go_wp2_with fail
              refine HKI.out.mono ?_
              rintro e w6 ⟨rfl, b6⟩
              have HT6 := Lib.hid (HT5.out.below b6)
              have HO6 := Lib.hid (owns_below HO5.out b6)
              have HB6 := Lib.hid (below_tr HB5.out b6)
              have HI6 := Lib.hid (HI5.out.below HT5.out.ref.lt b6)
              clear b6 HT5 HO5 HB5 HI5 HKI
              go_wp2_with fail
              refine (KN.out _ HT6.out).mono ?_
              rintro e w7 ⟨rfl, _, b7⟩
              have HT7 := Lib.hid (HT6.out.below b7)
              have HO7 := Lib.hid (owns_below HO6.out b7)
              have HB7 := Lib.hid (below_tr HB6.out b7)
              have HI7 := Lib.hid (HI6.out.below HT6.out.ref.lt b7)
              clear b7 HT6 HO6 HB6 HI6 KN
              cases L with
              | nil =>
                go_wp2_with fail
                refine wp_loop_rounds 1 ?_
                rw [rounds_succ]
                go_wp2_with fail
                go_roundg (lists + 2 - (r + 1))
                case measure => omega
                case rel => exact ⟨r + 1, rfl, by omega, by have h := HLI.out; congr 1; omega, HT7⟩
              | cons x t =>
                obtain ⟨B4, rfl, cx⟩ := HI7.out.cells (j := 0) (by simp)
                have cx' : w7.cell? ⟨B4, 0, none⟩ = some (.int .i64 (x : Int)) := cx
                have hgt : (0 : Int) < (((x :: t).length : Nat) : Int) := by simp <;> omega
                have hh1 : (x :: t).head?.getD 0 = x := rfl
                have hh2 : (x :: t).head?.isSome = true := rfl
                rw [hh1, hh2]
                clear hh1 hh2 cx HI7
                obtain ⟨n, hn⟩ : ∃ n, (x :: t).length = n := ⟨_, rfl⟩
                rw [hn] at hgt hLl HO7 ⊢
                have HNN := Lib.hid hn
                clear hn
                go_wp2_with fail
                obtain ⟨B3, rfl⟩ := (own_form HO7.out).2 (by omega)
                have HB3 : Hid ((wr.drew).heap.size ≤ B3) := Lib.hid (HO7.out.lt B3 rfl).1
                clear HT7 cx'
                go_loopg [200] n (fun k v wx => ∃ (u : Nat), n - u = k ∧ u ≤ n ∧ v = .int .i64 (u : Int) ∧ Hid (Below (wr.drew).heap.size wr.drew wx) ∧ Hid (∃ ys, wx.ownsRow (wr.drew).heap.size 3 1 (.slice (some ⟨B3, 0, none⟩) n c3) n ys))
                case atStart => exact ⟨0, rfl, by omega, rfl, HB7, Lib.hid ⟨_, HO7.out⟩⟩
                case round =>
                  obtain ⟨u, rfl, hu, rfl, HBu, HOu⟩ := hrel
                  clear HB7 HO7
                  by_cases hun : u = n
                  · have huz : ¬ (u : Int) < (n : Int) := by omega
                    have HE := Lib.hid (TD.out.below HBu.out)
                    clear hun HBu HOu
                    go_wp2_with fail
                    go_roundg (lists + 2 - (r + 1))
                    case measure => omega
                    case rel => exact ⟨r + 1, rfl, by omega, by have h := HLI.out; congr 1; omega, HE⟩
                  · have huz : (u : Int) < (n : Int) := by omega
                    have hul : u < n := by omega
                    obtain ⟨ys, o⟩ := HOu.out
                    obtain ⟨⟨v, cv⟩, fv, hys⟩ := own_put o hul (.int .i64 (-1))
                    have HOn := Lib.hid hys
                    have HBn := Lib.hid (HBu.out.setCell (p := ⟨B3, u, none⟩) HB3.out (.int .i64 (-1)))
                    clear o hys HOu HBu hun
                    go_wp2_with fail
                    go_roundg (n - (u + 1))
                    case measure => omega
                    case rel => exact ⟨u + 1, rfl, by omega, by go_num, HBn, HOn⟩
        case rest =>
          have HI0 := hcut
          clear HT hcut
          go_wp2_with fail
          go_loopg [30] (nodes + 2) (fun k v wx => ∃ (r : Nat), nodes + 2 - r = k ∧ r ≤ nodes + 2 ∧ v = .int .i64 ((r : Int) - 1) ∧ Hid (Tl K w wx a lists nodes q N g P C M vs g))
          case atStart => exact ⟨0, rfl, by omega, rfl, HI0⟩
          case round =>
            obtain ⟨r, rfl, hr, rfl, HI⟩ := hrel
            clear HI0
            by_cases hrl : r = nodes + 2
            · have hz : ¬ ((r : Int) - 1 ≤ (nodes : Int)) := by omega
              have HE : Hid (∃ g, TlAt K w wr a lists nodes q g) := Lib.hid ⟨g, N, P, C, M, vs, HI.out⟩
              clear hrl HI
              go_wp2_with fail
              go_roundg (len - (j + 1))
              case measure => omega
              case rel => exact ⟨j + 1, rfl, by omega, by go_num, HE⟩
            · have hz : (r : Int) - 1 ≤ (nodes : Int) := by omega
              have hli : I64 ((r : Int) - 1) := ⟨by omega, by omega⟩
              have hrl2 : r < nodes + 2 := by omega
              have KP := Lib.hid (HI.out.own.inn ((r : Int) - 1) hli)
              have KR := Lib.hid (fun W (h : Tl K w W a lists nodes q N g P C M vs g) => h.r_in ((r : Int) - 1))
              clear hrl hr
              obtain ⟨li, hlie⟩ : ∃ li : Int, (r : Int) - 1 = li := ⟨_, rfl⟩
              have HLI := Lib.hid hlie
              rw [hlie] at hz hli KP KR ⊢
              have hli2 : li ≤ 65 := by omega
              have hli3 : -1 ≤ li := by omega
              clear hlie
              obtain ⟨o, HO⟩ : ∃ o, Hid (g.inn li = o) := ⟨_, Lib.hid rfl⟩
              rw [HO.out] at KP KR
              have hov : outV o = .tuple #[.int .i64 ((o.getD 0 : Nat) : Int), .bool o.isSome] := rfl
              rw [hov] at KP KR
              clear hov
              generalize o.getD 0 = o1 at *
              generalize o.isSome = o2 at *
              go_wp2_with fail
              refine KP.out.mono ?_
              rintro e w3 ⟨rfl, _, b3⟩
              have HT3 := Lib.hid (HI.out.below b3)
              have q0 : w3.cell? ⟨q, 0, none⟩ = some (.int .i64 (nodes : Int)) := HT3.out.box.cell 0
              have q1 : w3.cell? ⟨q, 1, none⟩ = some (.slice P lists C) := HT3.out.box.cell 1
              clear b3 KP HI
              go_wp2_with fail
              refine (KR.out _ HT3.out).mono ?_
              rintro e w4 ⟨rfl, b4⟩
              have HT4 := Lib.hid (HT3.out.below b4)
              clear b4 KR HT3 q0 q1
              go_wp2_with fail
              go_roundg (nodes + 2 - (r + 1))
              case measure => omega
              case rel => exact ⟨r + 1, rfl, by omega, by have h := HLI.out; congr 1; omega, HT4⟩

end Go.Proofs.Ythdgpnkkeeebkaa
