/-
  ArenaRoom's walk, over whatever the program's arena is (ArenaK).
-/
import Derived.Test.YtacienpjoegclaaArenaRoomSteps
import Derived.Test.YtacienpjoegclaaArenaTurnPlayed
import Derived.StillTailTactics
namespace Go.Proofs.Ytacienpjoegclaa
open Go.RowKit
set_option linter.unusedVariables false

theorem room_start (K : ArenaK) {w w1 : World} {a : Addr} {N : Nat → Prop} {n : Nat} (hn : n ≤ 65536) (h : K.At N w1 a (Gh.new n)) (hN : ∀ k, N k → w.heap.size ≤ k) (g1 : Below w.heap.size w w1) : RoomAt K w w1 a n (.slice none 0 0) 0 :=
  ⟨N, Gh.new n, none, 0, [], rfl, Nat.le_refl _, RGh.new hn, ⟨h, hN, (fun k _ e => by cases e), .inl (World.ownsRow_nil _ _ _ _), g1⟩⟩

set_option maxHeartbeats 8000000 in
set_option maxRecDepth 100000 in
theorem arenaRoom_of (K : ArenaK) (HA : Hid Awake) (r : Nat) (hr : r < 256) (A : Option Addr) (len cap : Nat) (z1 : List (List Value)) (w : World) (HR : Hid (RowOf [some .u8] w A len cap z1)) :
    Calls Try.prog 6 #[.int .u8 (r : Int), .slice A len cap] w fun e w' => e = .returned (.bool true) ∧ Below w.heap.size w w' := by
  obtain ⟨m, Hm⟩ : ∃ m, Hid (r % 200 = m) := ⟨_, Lib.hid rfl⟩
  have hm : m < 200 := by have := Hm.out; omega
  have hmz : (r : Int) % 200 = (m : Int) := by have := Hm.out; omega
  have R1 := Lib.hid (K.new (1 + m) w (by omega) (by omega))
  rw [show ((1 + m : Nat) : Int) = 1 + (m : Int) by omega] at R1
  have hlc := (row_fit HR.out).1
  have hcap := (row_fit HR.out).2
  obtain ⟨n, Hn⟩ : ∃ n, Hid (min len 100 = n) := ⟨_, Lib.hid rfl⟩
  have hn1 : n ≤ len := by have := Hn.out; omega
  have hn2 : n ≤ 100 := by have := Hn.out; omega
  go_enter Try.func6, Try.ntmps6
  go_wp2_with fail
  refine R1.out.mono ?_
  rintro e w1 ⟨a, N0, rfl, hat, hN, g1⟩
  have HP := Lib.hid (room_start K (by omega) hat hN g1)
  clear hat hN g1 R1
  go_upto_region 6 with fail
  go_cut [29, 30, 31] (fun s l i wx => s = .slice A n cap ∧ l = .int .i64 (n : Int) ∧ i = .int .i64 0 ∧ wx = w1)
  case first =>
    by_cases h30 : 100 < len
    · have h30z : (100 : Int) < (len : Int) := by omega
      obtain rfl : n = 100 := by have := Hn.out; omega
      go_wp2_with fail
      go_meet
      exact ⟨rfl, rfl, rfl, rfl⟩
    · have h30z : ¬ (100 : Int) < (len : Int) := by omega
      obtain rfl : n = len := by have := Hn.out; omega
      go_wp2_with fail
      go_meet
      exact ⟨rfl, rfl, rfl, rfl⟩
  case rest =>
    obtain ⟨rfl, rfl, rfl, rfl⟩ := hcut
    go_wp2_with fail
    go_loopg [8, 31] n (fun k hv i wx => ∃ (j : Nat), n - j = k ∧ j ≤ n ∧ i = .int .i64 (j : Int) ∧ Hid (RoomAt K w wx a (1 + m) hv j))
    case atStart => exact ⟨0, rfl, by omega, rfl, HP⟩
    case round =>
      clear HP
      obtain ⟨j, rfl, hj, rfl, HQ⟩ := hrel
      obtain ⟨N, g, p, c, H, rfl, hH, hG, P⟩ := HQ.out
      have HP := Lib.hid P
      have HG := Lib.hid hG
      clear HQ P hG
      by_cases h0 : j = n
      · have h0z : ¬ (j : Int) < (n : Int) := by omega
        have h0n : ¬ j < n := by omega
        clear h0
        go_wp2_with (first
          | (go_at_call 10; refine (HA.out _).mono ?_; rintro e w10 ⟨rfl, b10⟩))
        go_ret
        exact ⟨rfl, below_tr HP.out.lo b10⟩
      · have hjl : j < n := by omega
        have hjz : (j : Int) < (n : Int) := by omega
        clear h0
        obtain ⟨ad, x, rfl, hx, HO⟩ := u8_cell HR.out (show j < len by omega)
        have o0 := HO wr HP.out.lo
        clear HO
        obtain ⟨t, Ht⟩ : ∃ t, Hid (decide (0 < x % 3 ∨ H.length = 0) = t) := ⟨_, Lib.hid rfl⟩
        go_upto_region 9 with fail
        go_cut [42] (fun b wx => b = .bool t ∧ wx = wr)
        case first =>
          by_cases h1 : 0 < x % 3
          · have h1z : 0 < (x : Int) % 3 := by omega
            have ht : t = true := by rw [← Ht.out]; simp [h1]
            subst ht
            clear h1 o0
            go_wp2_with fail
            go_meet
            exact ⟨rfl, rfl⟩
          · have h1z : ¬ 0 < (x : Int) % 3 := by omega
            by_cases h2 : H.length = 0
            · have h2z : ((H.length : Int) == 0) = true := by rw [beq_iff_eq]; omega
              have ht : t = true := by rw [← Ht.out]; simp [h2]
              have HZ := Lib.hid h2
              subst ht
              clear h1 o0 h2
              go_wp2_with fail
              go_meet
              exact ⟨rfl, rfl⟩
            · have h2z : ((H.length : Int) == 0) = false := by rw [beq_eq_false_iff_ne]; omega
              have ht : t = false := by rw [← Ht.out, decide_eq_false_iff_not]; omega
              subst ht
              clear h1 o0 h2
              go_wp2_with fail
              go_meet
              exact ⟨rfl, rfl⟩
        case rest =>
          obtain ⟨rfl, rfl⟩ := hcut
          clear o0
          go_upto_if 42 with fail
          go_cut [8] (fun hv wx => Hid (RoomAt K w wx a (1 + m) hv (j + 1)))
          case first =>
            cases t
            · have hHp : 0 < H.length := by
                have h := Ht.out
                rw [decide_eq_false_iff_not] at h
                omega
              obtain ⟨d, Hd⟩ : ∃ d, Hid (x / 3 = d) := ⟨_, Lib.hid rfl⟩
              have hdz : (x : Int) / 3 = (d : Int) := by have := Hd.out; omega
              have hdz2 : Int.tdiv (x : Int) 3 = (d : Int) := by rw [Int.tdiv_eq_ediv_of_nonneg (by omega)]; exact hdz
              obtain ⟨k, Hk⟩ : ∃ k, Hid (d % H.length = k) := ⟨_, Lib.hid rfl⟩
              have hkH : k < H.length := by rw [← Hk.out]; exact Nat.mod_lt _ hHp
              have hkz : (d : Int) % (H.length : Int) = (k : Int) := by rw [← Hk.out]; simp
              have hkz2 : Int.tmod (d : Int) (H.length : Int) = (k : Int) := by rw [Int.tmod_eq_emod_of_nonneg (by omega)]; exact hkz
              have hkHz : (k : Int) < (H.length : Int) := by omega
              have hHz : ((H.length : Int) == 0) = false := by rw [beq_eq_false_iff_ne]; omega
              have hd256 : d < 256 := by have := Hd.out; omega
              obtain ⟨gT, rfl, hc⟩ := HP.out.row.cell hkH
              have c1' := hc k (.int .u64 (H[k] : Int)) (by rw [List.getElem?_map, List.getElem?_eq_getElem hkH]; rfl)
              have HKx := Lib.hid (List.getElem?_eq_getElem hkH)
              have hmem := List.getElem_mem hkH
              have hys := HG.out.small (by omega) hmem
              obtain ⟨q, hq⟩ := HG.out.all _ hmem
              clear hc hmem
              generalize H[k] = y at *
              have HKG := Lib.hid (K.give y q HP.out.at_ HG.out.ok (by omega) hys hq)
              have HG3 := Lib.hid (HG.out.give HKx.out hq)
              have Hcap := Lib.hid (HP.out.row.cap (by omega))
              clear hq Ht
              go_upto_region 16 with fail
              go_wp2_with fail
              refine HKG.out.mono ?_
              rintro e w3 ⟨rfl, t3⟩
              obtain ⟨N3, P3⟩ := HP.out.went t3
              have HP3 := Lib.hid P3
              clear t3 P3 HP HKG c1'
              rw [show ((0 : Nat) : Int) = 0 from rfl]
              go_upto_region 18 with fail
              have hsum : IntKind.i64.wrap ((k : Int) + 1) = ((k + 1 : Nat) : Int) := by rw [IntKind.wrap_i64]; omega
              obtain ⟨g1, e1, hc3⟩ := HP3.out.row.cell hkH
              obtain rfl : gT = g1 := congrArg Addr.block (Option.some.inj e1)
              have HC3 : Hid (∀ j u, (H.map u64V)[j]? = some u → w3.drew.cell? ⟨gT, j, none⟩ = some u) := hc3
              obtain ⟨hca1, hca2⟩ := Hcap.out
              clear e1 hc3
              have hkc : k ≤ c := by omega
              have hkc1 : k + 1 ≤ c := by omega
              have hkc2 : k + 1 ≤ H.length := by omega
              have hkz3 : 0 ≤ (k : Int) + 1 := by omega
              have hkz4 : (k : Int) + 1 ≤ (H.length : Int) := by omega
              have HP4 := Lib.hid (HP3.out.below (Below.refl _ w3).drew)
              by_cases hlast : k + 1 = H.length
              · have hz : H.length - (k + 1) = 0 := by omega
                have HE : Hid (RoomAt K w w3.drew a (1 + m) (.slice (some ⟨gT, 0, none⟩) k k) (j + 1)) := by
                  have e1 : H.take k ++ H.drop (k + 1) = H.take k := by rw [List.drop_eq_nil_of_le (by omega), List.append_nil]
                  have h1 := HG3.out.more
                  rw [e1] at h1
                  have hl : (H.take k).length = k := by rw [List.length_take]; omega
                  exact ⟨N3, _, some ⟨gT, 0, none⟩, k, H.take k, by rw [hl], by omega, h1, HP4.out.cut k hkH⟩
                clear hlast
                by_cases hce : c = k + 1
                · subst hce
                  have hkz5 : (k : Int) ≤ (k : Int) + 1 := by omega
                  have hkz6 : k ≤ k + 1 := by omega
                  go_still_tail 8, (by kernel_rfl)
                  change wpList _ _ _ _ _ w3.drew
                  refine wpList_append_last (s := .tmp 89) (x := .tmp 93) (Eq.refl _) (Eq.refl _) gT k 0 (some ⟨gT, 0, none⟩) ?hs ?hx ?_
                  case hs => go_simp
                  case hx => go_simp
                  go_wp2_with fail
                  go_meet
                  exact HE
                · go_still_tail 8, (by kernel_rfl)
                  change wpList _ _ _ _ _ w3.drew
                  refine wpList_append_last (s := .tmp 89) (x := .tmp 93) (Eq.refl _) (Eq.refl _) gT k (c - (k + 1)) (some ⟨gT, k + 1, none⟩) ?hs ?hx ?_
                  case hs => go_simp
                  case hx => go_simp
                  go_wp2_with fail
                  go_meet
                  exact HE
              · have hkc3 : ¬ c = k + 1 := by omega
                have Hm2 : Hid (k + 1 + (H.length - (k + 1)) = H.length) := by show _ = _; omega
                have hm2 : 0 < H.length - (k + 1) := by omega
                go_still_tail 8, (by kernel_rfl)
                change wpList _ _ _ _ _ w3.drew
                refine wpList_append_drop (s := .tmp 89) (x := .tmp 93) (Eq.refl _) (Eq.refl _) gT k (H.length - (k + 1)) (c - (k + 1)) H Hm2.out hm2 ?hs ?hx HC3.out (by omega) ?_
                case hs => go_simp
                case hx => go_simp
                intro p5 c5 w5 own5 gr5
                have HE : Hid (RoomAt K w w5 a (1 + m) (.slice p5 (k + (H.length - (k + 1))) c5) (j + 1)) := by
                  have hl : (H.take k ++ H.drop (k + 1)).length = k + (H.length - (k + 1)) := by simp; omega
                  have hs3 : w.heap.size ≤ w3.drew.heap.size := HP4.out.lo.size
                  have o := own_low own5 hs3
                  rw [← hl] at o
                  refine ⟨N3, _, p5, c5, H.take k ++ H.drop (k + 1), by rw [hl], by omega, HG3.out.more, HP4.out.put o ⟨gr5.os, gr5.tape, gr5.output, gr5.size, fun i hi _ => gr5.block i hi (fun e => by cases e)⟩ fun i hi => .inr ?_⟩
                  rw [hl] at hi
                  exact (own5.lt i hi).1
                clear own5 gr5
                go_wp2_with fail
                go_meet
                exact HE
            · clear Ht
              by_cases hf : g.full
              · have hHn : H.length = 1 + m := HG.out.full.1 hf
                have hHz : ((H.length : Int) == 1 + (m : Int)) = true := by rw [beq_iff_eq]; omega
                have HKT := Lib.hid (K.take_full HP.out.at_ HG.out.ok (by omega) hf)
                have HHN := Lib.hid hHn
                clear hf hHn
                go_wp2_with fail
                refine HKT.out.mono ?_
                rintro e w3 ⟨rfl, t3⟩
                obtain ⟨N3, P3⟩ := HP.out.went t3
                have HE : Hid (RoomAt K w w3 a (1 + m) (.slice p H.length c) (j + 1)) := ⟨N3, g, p, c, H, rfl, by omega, HG.out.more, P3⟩
                clear t3 P3 HP HKT
                rw [show ((0 : Nat) : Int) = 0 from rfl, show ((4 : Nat) : Int) = 4 from rfl]
                go_wp2_with fail
                go_meet
                exact HE
              · have hHn : H.length ≠ 1 + m := fun e => hf (HG.out.full.2 e)
                have hHz : ((H.length : Int) == 1 + (m : Int)) = false := by rw [beq_eq_false_iff_ne]; omega
                have HKT := Lib.hid (K.take HP.out.at_ HG.out.ok (by omega) hf)
                have HG3 := Lib.hid (HG.out.take hf)
                obtain ⟨y, Hy⟩ : ∃ y, Hid (g.handle = y) := ⟨_, Lib.hid rfl⟩
                rw [Hy.out] at HKT HG3
                clear hf hHn
                go_upto_region 10 with fail
                go_wp2_with fail
                refine HKT.out.mono ?_
                rintro e w3 ⟨rfl, t3⟩
                obtain ⟨N3, P3⟩ := HP.out.went t3
                have HP3 := Lib.hid P3
                clear t3 P3 HP HKT
                rw [show ((0 : Nat) : Int) = 0 from rfl]
                go_wp2_with (first | (at_builtin; refine wpList_append_held rfl _ _ rfl p c H rfl HP3.out.row HP3.out.lo.size y rfl (by omega) ?_; intro p5 c5 w5 own5 gr5 loc5))
                have HP5 := Lib.hid ((HP3.out.below ((Below.refl _ w3).alloc (Nat.le_refl _) (.cells #[.int .u64 (y : Int)] 35))).put own5 gr5 loc5)
                have HE : Hid (RoomAt K w w5 a (1 + m) (.slice p5 (H.length + 1) c5) (j + 1)) := ⟨N3, g.take, p5, c5, H ++ [y], by simp, by simp; omega, HG3.out, HP5.out⟩
                clear own5 gr5 loc5
                go_meet
                exact HE
          case rest =>
            obtain ⟨N4, g4, p4, c4, H4, rfl, hH4, hG4, P4⟩ := hcut.out
            have HP4 := Lib.hid P4
            have HG4 := Lib.hid hG4
            have HKU := Lib.hid (K.used P4.at_ hG4.ok)
            rw [hG4.cnt] at HKU
            clear P4 hG4 hcut HP HG Ht
            go_wp2_with fail
            refine HKU.out.mono ?_
            rintro e w6 ⟨rfl, b6⟩
            have HP6 := Lib.hid (HP4.out.below b6)
            have HKR := Lib.hid (K.room HP6.out.at_ HG4.out.ok)
            rw [HG4.out.room, show ((1 + m : Nat) : Int) = 1 + (m : Int) by omega] at HKR
            clear HP4 b6 HKU
            go_wp2_with fail
            refine HKR.out.mono ?_
            rintro e w7 ⟨rfl, b7⟩
            have HE : Hid (RoomAt K w w7 a (1 + m) (.slice p4 H4.length c4) (j + 1)) := ⟨N4, g4, p4, c4, H4, rfl, hH4, HG4.out, HP6.out.below b7⟩
            clear HP6 b7 HKR
            go_wp2_with fail
            go_roundg (n - (j + 1))
            case measure => omega
            case rel => exact ⟨j + 1, rfl, by omega, by go_num, HE⟩

end Go.Proofs.Ytacienpjoegclaa
