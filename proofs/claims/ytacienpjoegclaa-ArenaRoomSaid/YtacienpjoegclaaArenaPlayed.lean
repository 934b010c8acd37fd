/-
  The laws' own play of ten places.
-/
import Derived.Test.YtacienpjoegclaaArenaHeld
import Derived.Test.YtacienpjoegclaaArenaTellsPlayed
namespace Go.Proofs.Ytacienpjoegclaa
open Go.RowKit
set_option linter.unusedVariables false

def HeldAt (K : ArenaK) (w W : World) (a : Addr) (tk gn : Value) (M : Nat) : Prop :=
  ∃ N g p c q d H, tk = .slice p H.length c ∧ gn = .slice q H.length d ∧ g.room = 10 ∧ H.length ≤ M ∧ Told g H ∧ Held K w W a N g M p c q d H (H.map (goneV g))
def PlayedP (K : ArenaK) (w : World) (e : Ending) (W : World) : Prop := ∃ a tk gn, e = .returned (.tuple #[.pointer (some a), tk, gn]) ∧ HeldAt K w W a tk gn 60

theorem Gh.Ok.mono {g : Gh} {M M' : Nat} (h : g.Ok M) (hM : M ≤ M') : g.Ok M' :=
  ⟨h.len, h.fits, h.small, h.pos, fun j n hn => Nat.le_trans (h.le j n hn) hM, h.free, h.nodup, h.cnt⟩
theorem held_start (K : ArenaK) {w w1 : World} {a : Addr} {N : Nat → Prop} (h : K.At N w1 a (Gh.new 10)) (hN : ∀ k, N k → w.heap.size ≤ k) (g1 : Below w.heap.size w w1) : HeldAt K w w1 a (.slice none 0 0) (.slice none 0 0) 0 :=
  ⟨N, Gh.new 10, none, 0, none, 0, [], rfl, rfl, rfl, Nat.le_refl _, told_new 10, ⟨h, Gh.new_ok (by decide), hN, World.ownsRow_nil _ _ _ _, (fun k _ e => by cases e), World.ownsRow_nil _ _ _ _, (fun k _ e => by cases e), (fun x hx => by simp at hx), g1⟩⟩

set_option maxHeartbeats 8000000 in
set_option maxRecDepth 100000 in
theorem law_played (K : ArenaK) (A : Option Addr) (len cap : Nat) (rows : List (List Value)) (w : World) (HR : Hid (RowOf [some .u8, some .i64, some .u64] w A len cap rows)) (hlc : len ≤ cap) (hcap : cap ≤ 9223372036854775807) :
    Calls Try.prog 23 #[.slice A len cap] w (PlayedP K w) := by
  have R1 := Lib.hid (K.new 10 w (by decide) (by decide))
  obtain ⟨n, Hn⟩ : ∃ n, Hid (min len 60 = n) := ⟨_, Lib.hid rfl⟩
  have hmin : min (len : Int) 60 = (n : Int) := by have := Hn.out; omega
  have hn1 : n ≤ len := by have := Hn.out; omega
  have hn2 : n ≤ 60 := by have := Hn.out; omega
  go_enter Try.func23, Try.ntmps23
  go_wp2_with fail
  refine R1.out.mono ?_
  rintro e w1 ⟨a, N, rfl, hat, hN, g1⟩
  have HP := Lib.hid (held_start K hat hN g1)
  clear hat hN g1 R1
  go_upto_region 4 with fail
  go_cut [24, 25, 26] (fun s l i wx => s = .slice A n cap ∧ l = .int .i64 (n : Int) ∧ i = .int .i64 0 ∧ wx = w1)
  case first =>
    by_cases h60 : 60 < len
    · have h60z : (60 : Int) < (len : Int) := by omega
      obtain rfl : n = 60 := by have := Hn.out; omega
      go_wp2_with fail
      go_meet
      exact ⟨rfl, rfl, rfl, rfl⟩
    · have h60z : ¬ (60 : Int) < (len : Int) := by omega
      obtain rfl : n = len := by have := Hn.out; omega
      go_wp2_with fail
      go_meet
      exact ⟨rfl, rfl, rfl, rfl⟩
  case rest =>
    obtain ⟨rfl, rfl, rfl, rfl⟩ := hcut
    clear hmin
    go_wp2_with fail
    go_loopg [7, 8, 26] n (fun k tk gn i wx => ∃ (j : Nat), n - j = k ∧ j ≤ n ∧ i = .int .i64 (j : Int) ∧ Hid (HeldAt K w wx a tk gn j))
    case atStart => exact ⟨0, rfl, by omega, rfl, HP⟩
    case round =>
      clear HP
      obtain ⟨j, rfl, hj, rfl, HQ⟩ := hrel
      by_cases h0 : j = n
      · have h0z : ¬ (j : Int) < (n : Int) := by omega
        have h0n : ¬ j < n := by omega
        obtain ⟨N, g, p, c, q, d, H, rfl, rfl, hroom, hH, hT, P⟩ := HQ.out
        have HP := Lib.hid P
        have HE : Hid (HeldAt K w wr a (.slice p H.length c) (.slice q H.length d) 60) := ⟨N, g, p, c, q, d, H, rfl, rfl, hroom, by omega, hT, { P with ok := P.ok.mono (by omega) }⟩
        clear h0 HQ P hT hroom
        go_wp2_with fail
        refine bodyPost_ret (v := .tuple #[.pointer (some a), .slice p H.length c, .slice q H.length d]) ?_ rfl ⟨a, _, _, rfl, HE.out⟩
        simp [results, Try.f23, go_sem]
      · have hjl : j < n := by omega
        obtain ⟨N, g, p, c, q, d, H, rfl, rfl, hroom, hH, hT, P⟩ := HQ.out
        have HP := Lib.hid P
        have HT := Lib.hid hT
        have Hroom := Lib.hid hroom
        clear HQ P hroom hT
        obtain ⟨ad, kd, hh, ni, rfl, hkd, hni, hhh, HO⟩ := op_cells HR.out (show j < len by omega)
        obtain ⟨o0, o1, o2⟩ := HO wr HP.out.lo
        clear HO h0
        have hjz : (j : Int) < (n : Int) := by omega
        go_upto_block 1 with fail
        go_cut [7, 8] (fun tk gn wx => Hid (HeldAt K w wx a tk gn (j + 1)))
        case first =>
          by_cases hk1 : kd = 1
          · subst hk1
            go_upto_region 8 with fail
            have HP1 := Lib.hid (HP.out.below ((Below.refl _ wr).alloc (Nat.le_refl _) (.cells #[.int .u8 1, .int .i64 ni, .int .u64 (hh : Int)] 37)))
            obtain ⟨W1, HW1⟩ : ∃ W1, Hid (wr.alloc (.cells #[.int .u8 1, .int .i64 ni, .int .u64 (hh : Int)] 37) = W1) := ⟨_, Lib.hid rfl⟩
            rw [HW1.out] at HP1 ⊢
            clear HW1 HP o0 o1 o2
            by_cases hf : g.full
            · have HF := Lib.hid hf
              have HKT := Lib.hid (K.take_full HP1.out.at_ HP1.out.ok (by omega) HF.out)
              clear hf
              go_wp2_with fail
              refine HKT.out.mono ?_
              rintro e w3 ⟨rfl, t⟩
              obtain ⟨N', P3⟩ := HP1.out.went HP1.out.ok.more t
              have HP3 := Lib.hid P3
              clear t P3 HKT
              rw [show ((0 : Nat) : Int) = 0 from rfl, show ((4 : Nat) : Int) = 4 from rfl]
              go_wp2_with fail
              go_meet
              exact ⟨N', g, p, c, q, d, H, rfl, rfl, Hroom.out, by omega, HT.out, HP3.out⟩
            · have HF := Lib.hid hf
              have HKT := Lib.hid (K.take HP1.out.at_ HP1.out.ok (by omega) HF.out)
              have HOK := Lib.hid (HP1.out.ok.take HF.out)
              have HHS := Lib.hid (HP1.out.ok.handle_small (by omega))
              have HTR := Lib.hid ((Gh.take_room g).trans Hroom.out)
              have HTT := Lib.hid (HT.out.take HP1.out.ok hf)
              have HGV := Lib.hid (gone_take HT.out HP1.out.ok hf)
              clear hf
              obtain ⟨g', Hg'⟩ : ∃ g', Hid (g.take = g') := ⟨_, Lib.hid rfl⟩
              obtain ⟨hx, Hhx⟩ : ∃ hx, Hid (g.handle = hx) := ⟨_, Lib.hid rfl⟩
              obtain ⟨G, HG⟩ : ∃ G, Hid (H.map (goneV g) = G) := ⟨_, Lib.hid rfl⟩
              rw [Hg'.out] at HKT HOK HTR HTT HGV
              rw [Hhx.out] at HKT HHS HTT HGV
              rw [HG.out] at HGV HP1
              clear Hg' Hhx HG
              go_wp2_with fail
              refine HKT.out.mono ?_
              rintro e w3 ⟨rfl, t⟩
              obtain ⟨N', P3⟩ := HP1.out.went HOK.out t
              have HP3 := Lib.hid P3
              clear t P3 HKT HP1
              rw [show ((0 : Nat) : Int) = 0 from rfl]
              go_upto_region 10 with fail
              obtain ⟨i2, hi2, hz0, hz1, hz2⟩ := info_parts info_u64
              obtain ⟨i3, hi3, hy0, hy1, hy2⟩ := info_parts info_bool
              have PA := Lib.hid (HP3.out.below ((Below.refl _ w3).alloc (Nat.le_refl _) (.cells #[.int .u64 (hx : Int)] 35)))
              have hs1 : H.length + 1 ≤ maxLen := by unfold maxLen; omega
              have hs2 : w.heap.size ≤ w3.heap.size := HP3.out.lo.size
              go_wp2_with (first | (at_builtin; refine wpList_append_own_at _ rfl (.tmp 40) (.tmp 42) 34 rfl w.heap.size 35 i2 (.int .u64 0) 1 8 Try.underlying34 hi2 hz0 hz1 hz2 rfl (by decide) _ H.length (H.map u64V) rfl PA.out.row ⟨w3.heap.size, 0, none⟩ 1 1 [.int .u64 (hx : Int)] rfl rfl (cell_one_new _ _ _) (by intro u hu; simp at hu; subst hu; rfl) hs1 (by omega) (by simp; omega) ?_; intro v6 w6 own6 gr6 _ at6; obtain ⟨p6, c6, rfl⟩ := owns_slice own6; have b6 := (Below.refl w6.heap.size w6).alloc (Nat.le_refl _) (.cells #[.bool false] 4); have rG6 := owns_below (PA.out.rowG.kept gr6 (own_ne2 PA.out.rowG PA.out.row (by decide))) b6; have hs6 := Nat.le_trans PA.out.lo.size gr6.size) | (at_builtin; refine wpList_append_own_at _ rfl (.tmp 44) (.tmp 45) 28 rfl w.heap.size 4 i3 (.bool false) 1 1 Try.underlying28 hi3 hy0 hy1 hy2 rfl (by decide) _ H.length G rfl rG6 ⟨w6.heap.size, 0, none⟩ 1 1 [.bool false] rfl rfl (cell_one_new _ _ _) (by intro u hu; simp at hu; subst hu; rfl) hs1 (by omega) (by simp; omega) ?_; intro v8 w8 own8 gr8 _ at8; obtain ⟨p8, c8, rfl⟩ := owns_slice own8))
              go_meet
              exact ⟨N', g', p6, c6, p8, c8, H ++ [hx], by rw [List.length_append]; rfl, by rw [List.length_append]; rfl, HTR.out, by rw [List.length_append]; simp; omega, HTT.out, by rw [HGV.out]; exact PA.out.took HHS.out own6 gr6 at6 b6 own8 gr8 at8⟩
          · have hk1z : ((kd : Int) == 1) = false := by simp; omega
            go_upto_if 51 with fail
            clear o0 o1 o2
            go_cut [13] (fun hv wx => ∃ x : Nat, hv = .int .u64 (x : Int) ∧ Hid (x < 18446744073709551616) ∧ wx = wr.alloc (.cells #[.int .u8 (kd : Int), .int .i64 ni, .int .u64 (hh : Int)] 37))
            case first =>
              by_cases hk2 : kd = 2
              · subst hk2
                have R := Lib.hid (law_of p c w.heap.size H ni _ (by omega) (HP.out.row.alloc (.cells #[.int .u8 ((2 : Nat) : Int), .int .i64 ni, .int .u64 (hh : Int)] 37)))
                have hs := Lib.hid (ofH_small HP.out.small ni)
                generalize ofH H ni = x at *
                go_wp2_with fail
                refine R.out.mono ?_
                rintro e w' ⟨rfl, rfl⟩
                go_wp2_with fail
                go_meet
                exact ⟨x, rfl, hs, rfl⟩
              · have hk2z : ((kd : Int) == 2) = false := by simp; omega
                go_wp2_with fail
                go_meet
                exact ⟨hh, rfl, hhh, rfl⟩
            case rest =>
              obtain ⟨x, rfl, Hx, rfl⟩ := hcut
              have HP1 := Lib.hid (HP.out.below ((Below.refl _ wr).alloc (Nat.le_refl _) (.cells #[.int .u8 (kd : Int), .int .i64 ni, .int .u64 (hh : Int)] 37)))
              obtain ⟨W1, HW1⟩ : ∃ W1, Hid (wr.alloc (.cells #[.int .u8 (kd : Int), .int .i64 ni, .int .u64 (hh : Int)] 37) = W1) := ⟨_, Lib.hid rfl⟩
              rw [HW1.out] at HP1 ⊢
              clear HW1 HP
              cases hpl : placeOf g.ts g.l x with
              | none =>
                have HKG := Lib.hid (K.give_no x HP1.out.at_ HP1.out.ok (by omega) Hx.out hpl)
                clear hpl
                go_wp2_with fail
                refine HKG.out.mono ?_
                rintro e w3 ⟨rfl, t⟩
                obtain ⟨N', P3⟩ := HP1.out.went HP1.out.ok.more t
                have HP3 := Lib.hid P3
                clear t P3 HKG
                rw [show ((40 : Nat) : Int) = 40 from rfl]
                go_wp2_with fail
                go_meet
                exact ⟨N', g, p, c, q, d, H, rfl, rfl, Hroom.out, by omega, HT.out, HP3.out⟩
              | some pp =>
                have hpt := place_taken hpl
                have hat : g.at x = some pp := hpl
                have HKG := Lib.hid (K.give x pp HP1.out.at_ HP1.out.ok (by omega) Hx.out hpl)
                have HOK := Lib.hid (HP1.out.ok.give hpt.2).more
                have HTR := Lib.hid ((Gh.give_room g pp).trans Hroom.out)
                have HTT := Lib.hid (HT.out.give HP1.out.ok hat)
                have HGV := Lib.hid (gone_give HP1.out.ok hat)
                obtain ⟨g', Hg'⟩ : ∃ g', Hid (g.give pp = g') := ⟨_, Lib.hid rfl⟩
                rw [Hg'.out] at HKG HOK HTR HTT HGV
                clear Hg' hpl hpt hat
                go_wp2_with fail
                refine HKG.out.mono ?_
                rintro e w3 ⟨rfl, t⟩
                obtain ⟨N', P3⟩ := HP1.out.went HOK.out t
                rw [← partG_zero g g'] at P3
                have HP3 := Lib.hid P3
                clear t P3 HKG HP1
                rw [show ((0 : Nat) : Int) = 0 from rfl]
                go_wp2_with fail
                go_loopg [62] H.length (fun k i wx => ∃ r : Nat, H.length - r = k ∧ r ≤ H.length ∧ i = .int .i64 (r : Int) ∧ Hid (Held K w wx a N' g' (j + 1) p c q d H (partG g g' H r)))
                case atStart => exact ⟨0, rfl, by omega, rfl, HP3⟩
                case round =>
                  clear HP3
                  obtain ⟨r, rfl, hr, rfl, HP⟩ := hrel
                  by_cases hr0 : r = H.length
                  · have hrz : ¬ (r : Int) < (H.length : Int) := by omega
                    have hrn : ¬ r < H.length := by omega
                    have HE := Lib.hid (show Held K w wr a N' g' (j + 1) p c q d H (H.map (goneV g')) by rw [← partG_all g g' H, ← hr0]; exact HP.out)
                    clear hr0
                    go_wp2_with fail
                    go_meet
                    exact ⟨N', g', p, c, q, d, H, rfl, rfl, HTR.out, by omega, HTT.out, HE.out⟩
                  · have hrl : r < H.length := by omega
                    have hrz : (r : Int) < (H.length : Int) := by omega
                    clear hr0
                    obtain ⟨_, hf1⟩ := own_form HP.out.row
                    obtain ⟨gT, rfl⟩ := hf1 (by omega)
                    obtain ⟨_, hf2⟩ := own_form HP.out.rowG
                    obtain ⟨gQ, rfl⟩ := hf2 (by omega)
                    clear hf1 hf2
                    have c1 := HP.out.row.cellAt r (by omega)
                    have c2 := HP.out.rowG.cellAt r (by omega)
                    have fz := HP.out.rowG.frozenAt r
                    rw [List.getElem?_map, List.getElem?_eq_getElem hrl] at c1
                    rw [partG_get g g' H hrl] at c2
                    have HS := Lib.hid (partG_set g g' H hrl)
                    have HV := Lib.hid (HGV.out H[r])
                    have HM := Lib.hid (HP.out.mark r (goneV g' H[r]))
                    rw [HS.out, HV.out] at HM
                    unfold goneV at c2
                    have c1' : wr.cell? ⟨gT, r, none⟩ = some (.int .u64 (H[r] : Int)) := c1
                    clear c1
                    clear HS HV
                    generalize H[r] = y at *
                    generalize (g.at y).isNone = b at *
                    cases b
                    · by_cases hyx : y = x
                      · have hyz : ((y : Int) == (x : Int)) = true := by simp; omega
                        rw [show (false || decide (y = x)) = true by simp [hyx]] at HM
                        clear hyx
                        go_wp2_with fail
                        go_roundg (H.length - (r + 1))
                        case measure => omega
                        case rel => exact ⟨r + 1, rfl, by omega, by go_num, HM⟩
                      · have hyz : ((y : Int) == (x : Int)) = false := by simp; omega
                        rw [show (false || decide (y = x)) = false by simp [hyx]] at HM
                        clear hyx
                        go_wp2_with fail
                        go_roundg (H.length - (r + 1))
                        case measure => omega
                        case rel => exact ⟨r + 1, rfl, by omega, by go_num, HM⟩
                    · rw [show (true || decide (y = x)) = true by simp] at HM
                      go_wp2_with fail
                      go_roundg (H.length - (r + 1))
                      case measure => omega
                      case rel => exact ⟨r + 1, rfl, by omega, by go_num, HM⟩
        case rest =>
          clear HP HT Hroom
          have HP := hcut
          clear hcut
          go_wp2_with fail
          go_roundg (n - (j + 1))
          case measure => omega
          case rel => exact ⟨j + 1, rfl, by omega, by go_num, HP⟩

end Go.Proofs.Ytacienpjoegclaa
