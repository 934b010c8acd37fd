/-
  ArenaTurn's walk, over whatever the program's arena is (ArenaK).
-/
import Derived.Test.YtacienpjoegclaaArenaTurnSteps
namespace Go.Proofs.Ytacienpjoegclaa
open Go.RowKit
set_option linter.unusedVariables false

theorem row_fit {ks : List (Option IntKind)} {w : World} {A : Option Addr} {len cap : Nat} {rows : List (List Value)} (h : RowOf ks w A len cap rows) : len ≤ cap ∧ cap ≤ 9223372036854775807 := by
  rcases h.2.1 with ⟨_, rfl, rfl⟩ | ⟨_, _, h1, h2⟩
  · exact ⟨Nat.le_refl _, by decide⟩
  · exact ⟨h1, h2⟩

def TurnAt (K : ArenaK) (w W : World) (a : Addr) (p : Option Addr) (c : Nat) (q : Option Addr) (d : Nat) (H : List Nat) (pl : Value) (r : Nat) : Prop :=
  ∃ N g s f L, pl = .slice s L.length f ∧ L.length ≤ r ∧ Told g H ∧ (∃ pre, g.bk = pre ++ L) ∧ Turn K w W a N g 60 p c q d H (H.map (goneV g)) s f L

theorem turn_start {K : ArenaK} {w W : World} {a : Addr} {N : Nat → Prop} {g : Gh} {p : Option Addr} {c : Nat} {q : Option Addr} {d : Nat} {H : List Nat} (h : Held K w W a N g 60 p c q d H (H.map (goneV g))) (t : Told g H) : TurnAt K w W a p c q d H (.slice none 0 0) 0 :=
  ⟨N, g, none, 0, [], rfl, Nat.le_refl _, t, ⟨g.bk, by simp⟩, h, World.ownsRow_nil _ _ _ _, (fun k _ e => by cases e)⟩

set_option maxHeartbeats 8000000 in
set_option maxRecDepth 100000 in
theorem arenaTurn_of (K : ArenaK) (HA : Hid Awake) (a0 : Option Addr) (len0 cap0 : Nat) (z0 : List (List Value)) (A : Option Addr) (len cap : Nat) (z1 : List (List Value)) (w : World) (w0 : Hid (RowOf [some .u8, some .i64, some .u64] w a0 len0 cap0 z0)) (HR : Hid (RowOf [some .u8] w A len cap z1)) :
    Calls Try.prog 5 #[.slice a0 len0 cap0, .slice A len cap] w fun e w' => e = .returned (.bool true) ∧ Below w.heap.size w w' := by
  have R1 := Lib.hid (law_played K a0 len0 cap0 z0 w w0 (row_fit w0.out).1 (row_fit w0.out).2)
  have hlc := (row_fit HR.out).1
  have hcap := (row_fit HR.out).2
  obtain ⟨n, Hn⟩ : ∃ n, Hid (min len 30 = n) := ⟨_, Lib.hid rfl⟩
  have hn1 : n ≤ len := by have := Hn.out; omega
  have hn2 : n ≤ 30 := by have := Hn.out; omega
  go_enter Try.func5, Try.ntmps5
  go_wp2_with fail
  refine R1.out.mono ?_
  rintro e w1 ⟨a, tk, gn, rfl, N0, g0, p, c, q, d, H, rfl, rfl, hroom0, hH, hT0, P0⟩
  have HP := Lib.hid (turn_start P0 hT0)
  clear hroom0 hT0 P0 R1
  go_upto_region 3 with fail
  go_cut [37, 38, 39] (fun s l i wx => s = .slice A n cap ∧ l = .int .i64 (n : Int) ∧ i = .int .i64 0 ∧ wx = w1)
  case first =>
    by_cases h30 : 30 < len
    · have h30z : (30 : Int) < (len : Int) := by omega
      obtain rfl : n = 30 := by have := Hn.out; omega
      go_wp2_with fail
      go_meet
      exact ⟨rfl, rfl, rfl, rfl⟩
    · have h30z : ¬ (30 : Int) < (len : Int) := by omega
      obtain rfl : n = len := by have := Hn.out; omega
      go_wp2_with fail
      go_meet
      exact ⟨rfl, rfl, rfl, rfl⟩
  case rest =>
    obtain ⟨rfl, rfl, rfl, rfl⟩ := hcut
    go_upto_block 0 with fail
    go_cut [8] (fun pl wx => Hid (TurnAt K w wx a p c q d H pl 30))
    case first =>
      go_wp2_with fail
      go_loopg [8, 39] n (fun k pl i wx => ∃ (j : Nat), n - j = k ∧ j ≤ n ∧ i = .int .i64 (j : Int) ∧ Hid (TurnAt K w wx a p c q d H pl j))
      case atStart => exact ⟨0, rfl, by omega, rfl, HP⟩
      case round =>
        clear HP
        obtain ⟨j, rfl, hj, rfl, HQ⟩ := hrel
        obtain ⟨N, g, s, f, L, rfl, hL, hT, hbk, P⟩ := HQ.out
        have HP := Lib.hid P
        have HT := Lib.hid hT
        have HBK := Lib.hid hbk
        clear HQ P hT hbk
        by_cases h0 : j = n
        · have h0z : ¬ (j : Int) < (n : Int) := by omega
          have h0n : ¬ j < n := by omega
          clear h0
          go_wp2_with fail
          go_meet
          exact ⟨N, g, s, f, L, rfl, by omega, HT.out, HBK.out, HP.out⟩
        · have hjl : j < n := by omega
          have hjz : (j : Int) < (n : Int) := by omega
          clear h0
          obtain ⟨ad, x, rfl, hx, HO⟩ := u8_cell HR.out (show j < len by omega)
          have o0 := HO wr HP.out.held.lo
          clear HO
          by_cases hH0 : H.length = 0
          · have HZ := Lib.hid hH0
            have hz : ((H.length : Int) == 0) = true := by simp [hH0]
            clear hH0
            go_wp2_with fail
            go_meet
            exact ⟨N, g, s, f, L, rfl, by omega, HT.out, HBK.out, HP.out⟩
          · have hHp : 0 < H.length := by omega
            have hHz : ((H.length : Int) == 0) = false := by rw [beq_eq_false_iff_ne]; omega
            obtain ⟨k, Hk⟩ : ∃ k, Hid (x % H.length = k) := ⟨_, Lib.hid rfl⟩
            have hkH : k < H.length := by rw [← Hk.out]; exact Nat.mod_lt _ hHp
            have hkz : (x : Int) % (H.length : Int) = (k : Int) := by rw [← Hk.out]; simp
            have hkz2 : Int.tmod (x : Int) (H.length : Int) = (k : Int) := by rw [Int.tmod_eq_emod_of_nonneg (by omega)]; exact hkz
            have hkHz : (k : Int) < (H.length : Int) := by omega
            obtain ⟨_, hf1⟩ := own_form HP.out.held.row
            obtain ⟨gT, rfl⟩ := hf1 hHp
            obtain ⟨_, hf2⟩ := own_form HP.out.held.rowG
            obtain ⟨gQ, rfl⟩ := hf2 hHp
            clear hf1 hf2 hH0
            have c1 := HP.out.held.row.cellAt k (by omega)
            rw [List.getElem?_map, List.getElem?_eq_getElem hkH] at c1
            have c1' : wr.cell? ⟨gT, k, none⟩ = some (.int .u64 (H[k] : Int)) := c1
            have HKx := Lib.hid (List.getElem?_eq_getElem hkH)
            have hys := Lib.hid (HP.out.held.small H[k] (List.getElem_mem hkH))
            clear c1
            generalize H[k] = y at *
            have HPL := Lib.hid (K.place y HP.out.held.at_ HP.out.held.ok (by omega) hys.out)
            have hat : g.at y = placeOf g.ts g.l y := rfl
            cases ho : placeOf g.ts g.l y with
            | none =>
              rw [ho] at hat HPL
              have HKG := Lib.hid (fun w2 (h : Turn K w w2 a N g 60 (some ⟨gT, 0, none⟩) c (some ⟨gQ, 0, none⟩) d H (H.map (goneV g)) s f L) => K.give_no y h.held.at_ h.held.ok (by omega) hys.out ho)
              have HC2 : Hid (∀ (N2 : Nat → Prop) w2 M, Turn K w w2 a N2 g M (some ⟨gT, 0, none⟩) c (some ⟨gQ, 0, none⟩) d H (H.map (goneV g)) s f L → w2.cell? ⟨gQ, k, none⟩ = some (.bool true) ∧ w2.cell? ⟨gT, k, none⟩ = some (.int .u64 (y : Int))) := by
                intro N2 w2 M h
                have e1 := h.held.rowG.cellAt k (by omega)
                have e2 := h.held.row.cellAt k (by omega)
                rw [List.getElem?_map, HKx.out] at e1 e2
                refine ⟨e1.trans ?_, e2⟩
                show some (goneV g y) = _
                unfold goneV
                rw [hat]
                rfl
              clear ho hat
              go_wp2_with fail
              refine HPL.out.mono ?_
              rintro e w3 ⟨rfl, b3⟩
              have HP3 := Lib.hid (HP.out.below b3)
              obtain ⟨d1, d2⟩ := HC2.out _ _ _ HP3.out
              clear b3 HP c1' o0 HPL
              unfold placeV
              simp only [Option.getD_none, Option.isSome_none]
              go_wp2_with fail
              refine (HKG.out _ HP3.out).mono ?_
              rintro e w4 ⟨rfl, t⟩
              obtain ⟨N4, P4⟩ := HP3.out.went HP3.out.held.ok t
              have HP4 := Lib.hid P4
              obtain ⟨d3, d4⟩ := HC2.out _ _ _ P4
              rw [show ((40 : Nat) : Int) = 40 from rfl]
              clear t P4 HP3 d1 d2
              go_wp2_with fail
              go_roundg (n - (j + 1))
              case measure => omega
              case rel => exact ⟨j + 1, rfl, by omega, by go_num, ⟨N4, g, s, f, L, rfl, by omega, HT.out, HBK.out, HP4.out⟩⟩
            | some pp =>
              rw [ho] at hat HPL
              have hpt := place_taken ho
              have HKG := Lib.hid (fun w2 (h : Turn K w w2 a N g 60 (some ⟨gT, 0, none⟩) c (some ⟨gQ, 0, none⟩) d H (H.map (goneV g)) s f L) => K.give y pp h.held.at_ h.held.ok (by omega) hys.out ho)
              have HOK := Lib.hid (HP.out.held.ok.give hpt.2)
              have HTT := Lib.hid (HT.out.give HP.out.held.ok hat)
              have HGV := Lib.hid (gone_set HP.out.held.ok HT.out hat HKx.out)
              have HBK2 : Hid (∃ pre, (g.give pp).bk = pre ++ (L ++ [pp])) := by obtain ⟨pre, hb⟩ := HBK.out; exact ⟨pre, give_bk hb⟩
              have HC2 : Hid (∀ (N2 : Nat → Prop) w2 M g2, Turn K w w2 a N2 g2 M (some ⟨gT, 0, none⟩) c (some ⟨gQ, 0, none⟩) d H (H.map (goneV g)) s f L → w2.cell? ⟨gQ, k, none⟩ = some (.bool false) ∧ w2.cell? ⟨gT, k, none⟩ = some (.int .u64 (y : Int))) := by
                intro N2 w2 M g2 h
                have e1 := h.held.rowG.cellAt k (by omega)
                have e2 := h.held.row.cellAt k (by omega)
                rw [List.getElem?_map, HKx.out] at e1 e2
                refine ⟨e1.trans ?_, e2⟩
                show some (goneV g y) = _
                unfold goneV
                rw [hat]
                rfl
              obtain ⟨g', Hg'⟩ : ∃ g', Hid (g.give pp = g') := ⟨_, Lib.hid rfl⟩
              rw [Hg'.out] at HKG HOK HTT HGV HBK2
              clear ho hat hpt Hg'
              go_wp2_with fail
              refine HPL.out.mono ?_
              rintro e w3 ⟨rfl, b3⟩
              have HP3 := Lib.hid (HP.out.below b3)
              obtain ⟨d1, d2⟩ := HC2.out _ _ _ _ HP3.out
              clear b3 HP c1' o0 HPL
              unfold placeV
              simp only [Option.getD_some, Option.isSome_some]
              go_wp2_with fail
              refine (HKG.out _ HP3.out).mono ?_
              rintro e w4 ⟨rfl, t⟩
              obtain ⟨N4, P4⟩ := HP3.out.went HOK.out t
              have HP4 := Lib.hid P4
              obtain ⟨d3, d4⟩ := HC2.out _ _ _ _ P4
              rw [show ((0 : Nat) : Int) = 0 from rfl]
              clear t P4 HP3 d1 d2
              go_upto_region 13 with fail
              obtain ⟨i2, hi2, hz0, hz1, hz2⟩ := info_parts info_int
              have PA := Lib.hid (HP4.out.below ((Below.refl _ w4).alloc (Nat.le_refl _) (.cells #[.int .i64 (pp : Int)] 3)))
              have hs1 : L.length + 1 ≤ maxLen := by unfold maxLen; omega
              have hs2 : w.heap.size ≤ w4.heap.size := HP4.out.held.lo.size
              clear d3 d4
              go_upto_region 14 with (at_builtin; refine wpList_append_own_at _ rfl (.tmp 80) (.tmp 82) 27 rfl w.heap.size 3 i2 (.int .i64 0) 1 8 Try.underlying27 hi2 hz0 hz1 hz2 rfl (by decide) _ L.length (L.map natV) rfl PA.out.rowP ⟨w4.heap.size, 0, none⟩ 1 1 [.int .i64 (pp : Int)] rfl rfl (cell_one_new _ _ _) (by intro u hu; simp at hu; subst hu; rfl) hs1 (by omega) (by simp; omega) ?_; intro v6 w6 own6 gr6 _ at6; obtain ⟨p6, c6, rfl⟩ := owns_slice own6)
              have HP6 := Lib.hid (PA.out.put own6 gr6 at6)
              have c6k : ∃ u, w6.cell? ⟨gQ, k, none⟩ = some u := by
                have e1 := HP6.out.held.rowG.cellAt k (by omega)
                rw [List.getElem?_map, HKx.out] at e1
                exact ⟨_, e1⟩
              obtain ⟨u6, c6k⟩ := c6k
              have fz := HP6.out.held.rowG.frozenAt k
              have HM := Lib.hid (HP6.out.mark k (.bool true))
              rw [HGV.out] at HM
              clear own6 gr6 at6 PA HP4 HP6
              go_wp2_with fail
              go_roundg (n - (j + 1))
              case measure => omega
              case rel => exact ⟨j + 1, rfl, by omega, by go_num, ⟨N4, g', p6, c6, L ++ [pp], by rw [List.length_append]; rfl, by rw [List.length_append]; simp; omega, HTT.out, HBK2.out, HM.out⟩⟩
    case rest =>
      clear HP
      obtain ⟨N, g, s, f, L, rfl, hL, _, hbk, P⟩ := hcut.out
      obtain ⟨G, HG⟩ : ∃ G, Hid (H.map (goneV g) = G) := ⟨_, Lib.hid rfl⟩
      rw [HG.out] at P
      have HP : Hid (∃ N g pre, g.bk = pre ++ L.take (L.length - 0) ∧ Turn K w wc a N g (60 + 0) p c q d H G s f L) := by
        obtain ⟨pre, hb⟩ := hbk
        exact ⟨N, g, pre, by simpa using hb, P⟩
      clear P hbk HG hcut HR w0
      go_wp2_with fail
      go_loopg [90] L.length (fun k i wx => ∃ r : Nat, L.length - r = k ∧ r ≤ L.length ∧ i = .int .i64 (r : Int) ∧ Hid (∃ N g pre, g.bk = pre ++ L.take (L.length - r) ∧ Turn K w wx a N g (60 + r) p c q d H G s f L))
      case atStart => exact ⟨0, rfl, by omega, rfl, HP⟩
      case round =>
        clear HP
        obtain ⟨r, rfl, hr, rfl, HQ⟩ := hrel
        obtain ⟨N, g, pre, hbk, P⟩ := HQ.out
        have HP := Lib.hid P
        have HBK := Lib.hid hbk
        clear P hbk HQ
        by_cases hr0 : r = L.length
        · have hrz : ¬ (r : Int) < (L.length : Int) := by omega
          have hrn : ¬ r < L.length := by omega
          clear hr0
          have HN := Lib.hid (K.new 10 wr (by decide) (by decide))
          go_wp2_with fail
          refine HN.out.mono ?_
          rintro e w5 ⟨b, N5, rfl, hat, hN5, g5⟩
          have HP5 : Hid (∃ N g, K.At N w5 b g ∧ g.Ok 0 ∧ Fresh g 0 10 ∧ (∀ k, N k → w.heap.size ≤ k) ∧ Below w.heap.size w w5) :=
            ⟨N5, Gh.new 10, hat, Gh.new_ok (by decide), fresh_new 10, (fun k hk => Nat.le_trans HP.out.held.lo.size (hN5 k hk)), HP.out.held.lo.trans (g5.mono HP.out.held.lo.size)⟩
          clear hat hN5 g5 HN HP HBK
          go_wp2_with fail
          go_loopg [127] 10 (fun k i wx => ∃ r : Nat, 10 - r = k ∧ r ≤ 10 ∧ i = .int .i64 (r : Int) ∧ Hid (∃ N g, K.At N wx b g ∧ g.Ok r ∧ Fresh g r 10 ∧ (∀ k, N k → w.heap.size ≤ k) ∧ Below w.heap.size w wx))
          case atStart => exact ⟨0, rfl, by omega, rfl, HP5⟩
          case round =>
            clear HP5
            obtain ⟨r5, rfl, hr5, rfl, HQ⟩ := hrel
            obtain ⟨N, g, hat, ok, fr, hN, lo⟩ := HQ.out
            have HL := Lib.hid lo
            have HN := Lib.hid hN
            have HAT := Lib.hid hat
            have HOK := Lib.hid ok
            clear HQ
            by_cases h10 : r5 = 10
            · subst h10
              have HKT := Lib.hid (K.take_full hat ok (by omega) ((fr.full ok).2 rfl))
              have HCT := Lib.hid (fr.count ok)
              clear hat ok fr hN lo
              go_wp2_with fail
              refine HKT.out.mono ?_
              rintro e w6 ⟨rfl, N6, t1, t2, t3⟩
              have HL6 := Lib.hid (below_turned t2 HL.out.size HN.out HL.out)
              have HU := Lib.hid (fun w' (b : Below w6.heap.size w6 w') => K.used (K.below t1 b) HOK.out)
              rw [HCT.out] at HU
              clear t1 t2 t3 HKT
              rw [show ((0 : Nat) : Int) = 0 from rfl, show ((4 : Nat) : Int) = 4 from rfl]
              go_wp2_with fail
              refine (HU.out _ (Below.refl _ _)).mono ?_
              rintro e w7 ⟨rfl, b7⟩
              rw [show ((10 : Nat) : Int) = 10 from rfl]
              go_wp2_with fail
              refine (HA.out _).mono ?_
              rintro e w8 ⟨rfl, b8⟩
              go_wp2_with fail
              go_ret
              exact ⟨rfl, below_tr (HL6.out.trans (b7.mono HL6.out.size)) b8⟩
            · have hrn : r5 < 10 := by omega
              have hrz : (r5 : Int) < 10 := by omega
              have hnf : ¬ g.full := fun h => h10 ((fr.full ok).1 h)
              have HKT := Lib.hid (K.take hat ok (by omega) hnf)
              have HOK2 := Lib.hid (ok.take hnf)
              have HFR := Lib.hid fr.take
              rw [fr.handle ok] at HKT
              obtain ⟨g', Hg'⟩ : ∃ g', Hid (g.take = g') := ⟨_, Lib.hid rfl⟩
              rw [Hg'.out] at HKT HOK2 HFR
              clear Hg' hnf h10 hat ok fr hN lo
              go_wp2_with fail
              refine HKT.out.mono ?_
              rintro e w6 ⟨rfl, N6, t1, t2, t3⟩
              have HL6 := Lib.hid (below_turned t2 HL.out.size HN.out HL.out)
              have HN6 : Hid (∀ k, N6 k → w.heap.size ≤ k) := by
                intro k hk
                rcases t3 k hk with h | h
                · exact HN.out k h
                · exact Nat.le_trans HL.out.size h
              have HT1 := Lib.hid t1
              clear t1 t2 t3 HKT
              rw [show ((0 : Nat) : Int) = 0 from rfl, show ((r5 + 1 : Nat) : Int) = (r5 : Int) + 1 from rfl]
              go_wp2_with fail
              go_roundg (10 - (r5 + 1))
              case measure => omega
              case rel => exact ⟨r5 + 1, rfl, by omega, by go_num, ⟨N6, g', HT1.out, HOK2.out, HFR.out, HN6.out, HL6.out⟩⟩
        · have hrl : r < L.length := by omega
          have hrz : (r : Int) < (L.length : Int) := by omega
          obtain ⟨m, hm⟩ : ∃ m, L.length - r = m + 1 := ⟨L.length - r - 1, by omega⟩
          have hmL : m < L.length := by omega
          have hb2 : g.bk = pre ++ (L.take m ++ [L[m]]) := by rw [HBK.out, hm, List.take_append_getElem hmL]
          have hmr : L.length - (r + 1) = m := by omega
          have hmz : (L.length : Int) - 1 - (r : Int) = (m : Int) := by omega
          have hmlz : (m : Int) < (L.length : Int) := by omega
          obtain ⟨_, hf1⟩ := own_form HP.out.rowP
          obtain ⟨gS, rfl⟩ := hf1 (by omega)
          have HC : Hid (∀ (N2 : Nat → Prop) w2 M g2, Turn K w w2 a N2 g2 M p c q d H G (some ⟨gS, 0, none⟩) f L → w2.cell? ⟨gS, m, none⟩ = some (.int .i64 (L[m] : Int))) := by
            intro N2 w2 M g2 h
            have e1 := h.rowP.cellAt m (by omega)
            rw [List.getElem?_map, List.getElem?_eq_getElem hmL] at e1
            exact e1
          have ok := HP.out.held.ok
          obtain ⟨t1, t2, t3⟩ := take_back ok hb2
          have HKT := Lib.hid (K.take HP.out.held.at_ ok (by omega) t1)
          have HOK := Lib.hid (ok.take t1)
          have HHS := Lib.hid (ok.handle_small (by omega))
          have hpl : g.take.at g.handle = some L[m] := by rw [at_take_new ok t1, t2]
          have HPL := Lib.hid (fun (N2 : Nat → Prop) w2 (h : K.At N2 w2 a g.take) => K.place g.handle h (ok.take t1) (by omega) HHS.out)
          have hpl2 : placeOf g.take.ts g.take.l g.handle = some L[m] := hpl
          have HB3 := Lib.hid t3
          rw [hpl2] at HPL
          rw [← hmr] at HB3
          obtain ⟨g', Hg'⟩ : ∃ g', Hid (g.take = g') := ⟨_, Lib.hid rfl⟩
          obtain ⟨hx, Hhx⟩ : ∃ hx, Hid (g.handle = hx) := ⟨_, Lib.hid rfl⟩
          rw [Hg'.out] at HKT HOK HPL HB3
          rw [Hhx.out] at HKT HHS HPL
          clear hr0 hm hb2 hf1 ok t1 t2 t3 hpl hpl2 Hg' Hhx HBK hmr
          generalize L[m] = y at *
          go_wp2_with fail
          refine HKT.out.mono ?_
          rintro e w3 ⟨rfl, t⟩
          obtain ⟨N3, P3⟩ := HP.out.went HOK.out t
          have HP3 := Lib.hid P3
          clear t P3 HKT HP
          rw [show ((0 : Nat) : Int) = 0 from rfl]
          go_wp2_with fail
          refine (HPL.out N3 w3 HP3.out.held.at_).mono ?_
          rintro e w4 ⟨rfl, b4⟩
          have HP4 := Lib.hid (HP3.out.below b4)
          have cS := HC.out _ _ _ _ HP4.out
          clear b4 HPL HP3
          unfold placeV
          simp only [Option.getD_some, Option.isSome_some]
          go_wp2_with fail
          go_roundg (L.length - (r + 1))
          case measure => omega
          case rel => exact ⟨r + 1, rfl, by omega, by go_num, ⟨N3, g', pre, HB3.out, HP4.out⟩⟩

end Go.Proofs.Ytacienpjoegclaa
