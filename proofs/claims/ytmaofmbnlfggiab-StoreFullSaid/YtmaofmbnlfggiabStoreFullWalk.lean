/-
  StoreFull, walked.
-/
import Derived.Test.YtmaofmbnlfggiabStoreSt
namespace Go.Proofs.Ytmaofmbnlfggiab
open Go.RowKit
set_option linter.unusedVariables false
set_option linter.unusedSimpArgs false

/-- A store of room n that i packets were put into, none freed. -/
structure Fg (n i : Nat) (g : Sg) (b : Nat) : Prop where
  room : g.a.room = n
  len : g.l.length = i
  bytes : g.bytes = (b : Int)
  next : g.next = i + 1
  bk : g.a.bk = []
  one : 1 ≤ i → ∃ x, look g.l 1 = some x ∧ x.seq = 1
theorem fg_new (n : Nat) : Fg n 0 (Sg.new n) 0 := ⟨rfl, rfl, rfl, rfl, rfl, fun h => by omega⟩
section
variable {n i b M : Nat} {g : Sg}
theorem fg_full (h : Fg n i g b) (ok : g.Ok M) : g.a.full ↔ i = n := by
  unfold Gh.full
  rw [← ok.cnt, h.len, h.room]
theorem fg_places (h : Fg n i g b) (ok : g.Ok M) : g.a.l.length = i := by
  have h1 := ok.a.cnt
  have h2 := ok.cnt
  rw [h.bk, List.length_nil] at h1
  have := h.len
  omega
theorem fg_handle (h : Fg n i g b) (ok : g.Ok M) : g.a.handle = i + 1 := by
  have h1 := fg_places h ok
  have h2 : g.a.next = i := by unfold Gh.next; rw [h.bk]; exact h1
  have h3 : g.a.times = 0 := by unfold Gh.times; rw [h2, List.getElem?_eq_none (by rw [ok.a.len, h1]; exact Nat.le_refl _)]; rfl
  unfold Gh.handle
  rw [h2, h3]
  omega
theorem fg_put (h : Fg n i g b) (ok : g.Ok M) (s now : Nat) : Fg n (i + 1) (g.put (pkt (s : Int)) now) (b + s) := by
  have hh := fg_handle h ok
  refine ⟨?_, ?_, ?_, ?_, ?_, fun _ => ?_⟩
  · show g.a.take.room = n
    rw [Gh.take_room]; exact h.room
  · show (g.l ++ [_]).length = i + 1
    rw [List.length_append, h.len]; rfl
  · rw [bytes_put, h.bytes]
    show (b : Int) + (s : Int) = ((b + s : Nat) : Int)
    omega
  · show g.next + 1 = _
    rw [h.next]
  · show g.a.take.bk = []
    unfold Gh.take
    rw [h.bk]
    rfl
  · have hf := fresh_key ok
    show ∃ x, look (g.l ++ [(g.a.handle, _)]) 1 = some x ∧ x.seq = 1
    rw [look_app hf, hh]
    by_cases c : 1 = i + 1
    · rw [if_pos c]
      exact ⟨_, rfl, by show g.next = 1; rw [h.next]; omega⟩
    · rw [if_neg c]
      exact h.one (by omega)
end
theorem u16_cell {w : World} {A : Option Addr} {len cap : Nat} {rows : List (List Value)} (h : RowOf [some .u16] w A len cap rows) {j : Nat} (hj : j < len) :
    ∃ (a : Addr) (x : Nat), A = some a ∧ x < 65536 ∧ ∀ W, Below w.heap.size w W → W.cell? (a.add j) = some (.int .u16 (x : Int)) := by
  obtain ⟨h1, _, h3⟩ := h
  obtain ⟨hf, a, rfl, hc⟩ := h3 j (by omega)
  obtain ⟨v, e⟩ : ∃ v, rows[j] = [v] := by
    have := hf.length
    match hr : rows[j], this with
    | [v], _ => exact ⟨v, rfl⟩
  rw [e] at hf hc
  obtain ⟨⟨n0, rfl, w0⟩, _⟩ := hf
  obtain ⟨x, rfl, hx⟩ : ∃ n : Nat, n0 = (n : Int) ∧ n < 65536 := by
    simp [Lit.wf, IntKind.min, IntKind.max, IntKind.signed, IntKind.bits] at w0
    exact ⟨n0.toNat, by omega, by omega⟩
  have c0 := hc 0 _ rfl
  refine ⟨a, x, rfl, hx, fun W b => ?_⟩
  have c1 : w.cell? (a.add j) = some (.int .u16 (x : Int)) := by simpa using c0
  exact (b.cell (World.block_lt_of_cell? w _ c1)).trans c1

set_option maxHeartbeats 8000000 in
set_option maxRecDepth 100000 in
/-- Below w.heap.size w w' -/
theorem storeFull_walk (a0 : Int) (a1 : Option Addr) (len1 cap1 : Nat) (z1 : List (List Value)) (w : World) (w0 : (Lit.int .u8 a0).wf = true) (w1 : RowOf [some .u16] w a1 len1 cap1 z1) :
    Calls Try.prog 6 #[.int .u8 a0, .slice a1 len1 cap1] w fun e w' => e = .returned (.bool true) ∧ Below w.heap.size w w' := by
  obtain ⟨r, rfl, hr⟩ := nat_u8 w0
  clear w0
  have hcap := row_fit w1
  have HR := Lib.hid w1
  clear w1
  obtain ⟨m, Hm⟩ : ∃ m, Hid (r % 200 = m) := ⟨_, Lib.hid rfl⟩
  have hm : m < 200 := by rw [← Hm.out]; exact Nat.mod_lt _ (by omega)
  have hr1 : Int.tmod (r : Int) 200 = (m : Int) := by rw [← Hm.out]; rfl
  have hr2 : (r : Int) % 200 = (m : Int) := by rw [← Hm.out]; rfl
  obtain ⟨n, Hn⟩ : ∃ n, Hid (1 + m = n) := ⟨_, Lib.hid rfl⟩
  have hn : 1 ≤ n ∧ n ≤ 200 := by have := Hn.out; omega
  have hna : (1 : Int) + (m : Int) = (n : Int) := by have := Hn.out; omega
  have KN := Lib.hid (SSt.new_ n hn.1 (by omega) w w (Below.refl _ _))
  clear Hm
  go_enter Try.func6, Try.ntmps6
  go_upto_region 3 with (go_at_call 8; refine KN.out.mono ?_; rintro e W0 ⟨a, rfl, S0⟩)
  have HF := Lib.hid (fg_new n)
  clear KN
  go_wp2_with fail
  go_loopg [8, 9, 32] n (fun k v8 v9 v32 wx => ∃ (i b f : Nat) (g : Sg), n - i = k ∧ i ≤ n ∧ v8 = .int .i64 (b : Int) ∧ v9 = .int .u64 (f : Int) ∧ v32 = .int .i64 (i : Int) ∧ b ≤ 65536 * i ∧ Hid (0 < i → f = 1) ∧ Hid (Fg n i g b) ∧ Hid (SSt w wx a g i [] []))
  case atStart => exact ⟨0, 0, 0, _, rfl, by omega, rfl, rfl, rfl, by omega, Lib.hid (fun h => by omega), HF, S0⟩
  case round =>
    clear HF S0
    obtain ⟨i, b, f, g, rfl, hi, rfl, rfl, rfl, hb, Hf, HF, HS⟩ := hrel
    by_cases h0 : i = n
    · subst h0
      have hfull := (fg_full HF.out HS.out.ok).2 rfl
      obtain ⟨x, hx, hx1⟩ := HF.out.one hn.1
      obtain rfl := Hf.out (by omega)
      have hok := HS.out.ok
      obtain ⟨p, hp⟩ := (hok.keys 1).2 (List.mem_map.2 ⟨_, look_mem hx, rfl⟩)
      have hps := (hok.fits _ (look_mem hx)).2.1
      obtain ⟨pk, sq, cm⟩ := x
      obtain rfl : sq = 1 := hx1
      have hp1 : 1 ≤ pk.len := hps.1
      have hp2 : pk.len ≤ 65536 := hps.2.1
      obtain ⟨ps, hps1⟩ : ∃ l : Nat, pk.len = (l : Int) := ⟨pk.len.toNat, by omega⟩
      have hps2 : 1 ≤ ps ∧ ps ≤ 65536 := by omega
      clear hps
      have hfree := bytes_one hok.nodup hx
      have hone := filter_one hok.nodup ((hok.keys 1).1 ⟨p, hp⟩)
      have hok2 := sg_free hok hp
      have K1 : Hid (Calls Try.prog 11 #[.pointer (some a), .agg #[.int .u64 0, .int .u64 0, .int .i64 1, .int .u8 0, .int .u64 0], .int .u64 0] wr fun e W' => e = .returned (.tuple #[.int .u64 0, .int .i64 4]) ∧ Hid (SSt w W' a g i [] [])) := Lib.hid (HS.out.put_full (by omega) (pkt 1) (pkt_may (by decide) (by decide)) 0 hfull)
      have hb1 : g.bytes = (b : Int) := HF.out.bytes
      have hl1 : g.l.length = i := HF.out.len
      have hx2 : g.next = i + 1 := HF.out.next
      have hn1 : IntKind.i64.wrap ((i : Int) + 1) = ((i + 1 : Nat) : Int) := by rw [IntKind.wrap_i64]; omega
      obtain ⟨n2, Hn2⟩ : ∃ n2, Hid (i + 2 = n2) := ⟨_, Lib.hid rfl⟩
      have hn2 : IntKind.i64.wrap ((i : Int) + 2) = (n2 : Int) := by have := Hn2.out; rw [IntKind.wrap_i64]; omega
      have hn3 : IntKind.u64.wrap ((i + 1 : Nat) : Int) = ((i + 1 : Nat) : Int) := by rw [IntKind.wrap_u64]; omega
      have hn4 : IntKind.u64.wrap (n2 : Int) = (n2 : Int) := by have := Hn2.out; rw [IntKind.wrap_u64]; omega
      go_wp2_with fail
      refine K1.out.mono ?_
      rintro e W1 ⟨rfl, S1⟩
      have K2 := Lib.hid S1.out.count
      rw [hl1] at K2
      clear K1 HS
      go_wp2_with fail
      refine K2.out.mono ?_
      rintro e W2 ⟨rfl, S2⟩
      have K3 := Lib.hid S2.out.bytes
      rw [hb1] at K3
      clear K2 S1
      go_wp2_with fail
      refine K3.out.mono ?_
      rintro e W3 ⟨rfl, S3⟩
      have K4 := Lib.hid S3.out.next
      rw [hx2] at K4
      clear K3 S2
      go_wp2_with fail
      refine K4.out.mono ?_
      rintro e W4 ⟨rfl, S4⟩
      have K5 : Hid (Calls Try.prog 13 #[.pointer (some a), .int .u64 1] W4 fun e W' => e = .returned (.tuple #[.agg #[.int .u64 (pk.sock : Int), .int .u64 (pk.cookie : Int), .int .i64 (ps : Int), .int .u8 (pk.prio : Int), .int .u64 (pk.at_ : Int), .int .u64 1, .int .u64 (cm : Int)], .bool true]) ∧ Hid (SSt w W' a (g.free 1 p) i [] [])) := by
        have := S4.out.free (by omega) 1 (by decide) p hp ⟨pk, 1, cm⟩ hx
        rw [← hps1]
        exact Lib.hid this
      clear K4 S3
      go_wp2_with fail
      refine K5.out.mono ?_
      rintro e W5 ⟨rfl, S5⟩
      clear K5 S4
      have S5b := Lib.hid (S5.out.keep #[.int .u64 (pk.sock : Int), .int .u64 (pk.cookie : Int), .int .i64 (ps : Int), .int .u8 (pk.prio : Int), .int .u64 (pk.at_ : Int), .int .u64 1, .int .u64 (cm : Int)])
      clear S5
      have hl3 : (g.free 1 p).l.length + 1 = i := by rw [← hl1]; exact hone
      have hnf : ¬ (g.free 1 p).a.full := fun h => by
        have h2 : (g.free 1 p).a.l.count true = (g.free 1 p).a.room := h
        rw [← hok2.cnt] at h2
        have h3 : (g.free 1 p).a.room = i := HF.out.room
        omega
      have hb3 : ((g.free 1 p).put (pkt 1) 0).bytes = (b : Int) - (ps : Int) + 1 := by
        rw [bytes_put]
        show bytesL (g.l.filter _) + 1 = _
        rw [hfree, show bytesL g.l = (b : Int) from hb1, show (⟨pk, 1, cm⟩ : Hl).pk.len = (ps : Int) from hps1]
      have hx3 : ((g.free 1 p).put (pkt 1) 0).next = n2 := by
        show g.next + 1 = _
        rw [hx2]
        exact Hn2.out
      obtain ⟨h, Hh⟩ : ∃ h, Hid ((g.free 1 p).a.handle = h) := ⟨_, Lib.hid rfl⟩
      go_upto_region 24 with fail
      obtain ⟨xb, HXb⟩ : ∃ x, Hid (W5.heap.size = x) := ⟨_, Lib.hid rfl⟩
      obtain ⟨W6, HW6⟩ : ∃ W6, Hid (W5.alloc (.cells #[.int .u64 (pk.sock : Int), .int .u64 (pk.cookie : Int), .int .i64 (ps : Int), .int .u8 (pk.prio : Int), .int .u64 (pk.at_ : Int), .int .u64 1, .int .u64 (cm : Int)] 48) = W6) := ⟨_, Lib.hid rfl⟩
      rw [HW6.out, HXb.out] at S5b ⊢
      clear HW6 HXb
      have K6 : Hid (Calls Try.prog 11 #[.pointer (some a), .agg #[.int .u64 0, .int .u64 0, .int .i64 1, .int .u8 0, .int .u64 0], .int .u64 0] W6 fun e W' => e = .returned (.tuple #[.int .u64 (h : Int), .int .i64 0]) ∧ Hid (SSt w W' a ((g.free 1 p).put (pkt 1) 0) (i + 1) [(xb, #[.int .u64 (pk.sock : Int), .int .u64 (pk.cookie : Int), .int .i64 (ps : Int), .int .u8 (pk.prio : Int), .int .u64 (pk.at_ : Int), .int .u64 1, .int .u64 (cm : Int)])] [])) := by
        rw [← Hh.out]
        exact Lib.hid (S5b.out.put (by omega) (pkt 1) (pkt_may (by decide) (by decide)) (pkt_fits (by decide) (by decide)) 0 (by decide) hnf)
      go_upto_region 25 with (go_at_call 11; refine K6.out.mono ?_; rintro e W7 ⟨rfl, S7⟩)
      clear K6 S5b
      have C2 : W7.drew.cell? ⟨xb, 2, none⟩ = some (.int .i64 (ps : Int)) := ((S7.out.below (Below.refl _ W7).drew).boxed List.mem_cons_self).cell 2
      have C5 : W7.drew.cell? ⟨xb, 5, none⟩ = some (.int .u64 1) := ((S7.out.below (Below.refl _ W7).drew).boxed List.mem_cons_self).cell 5
      have S7d := Lib.hid (S7.out.below (Below.refl _ W7).drew)
      have K7 := Lib.hid S7d.out.bytes
      rw [hb3] at K7
      obtain ⟨bb, Hbb⟩ : ∃ bb : Int, Hid ((b : Int) - (ps : Int) = bb) := ⟨_, Lib.hid rfl⟩
      obtain ⟨b2, Hb2⟩ : ∃ b2 : Int, Hid (bb + 1 = b2) := ⟨_, Lib.hid rfl⟩
      rw [Hbb.out, Hb2.out] at K7
      have hw5 : IntKind.i64.wrap ((b : Int) - (ps : Int)) = bb := by have := Hbb.out; rw [IntKind.wrap_i64]; omega
      have hw6 : IntKind.i64.wrap (bb + 1) = b2 := by have := Hbb.out; have := Hb2.out; rw [IntKind.wrap_i64]; omega
      clear S7 S7d hfree hone hb3 hnf hfull hp hx hok hok2 hl3 hb1 hl1 hx2 hp1 hp2 hps1 HF Hf HR hn1 hn3 Hh
      have HX3 := Lib.hid hx3
      have HAw := Lib.hid awake10
      clear hx3
      go_region_held3 (fun w' => w'.cell? ⟨xb, 2, none⟩ = some (.int .i64 (ps : Int)) ∧ w'.cell? ⟨xb, 5, none⟩ = some (.int .u64 1))
        (first | exact ⟨f2, f5⟩ | exact ⟨e2, e5⟩ | exact ⟨d2, d5⟩ | exact ⟨C2, C5⟩)
        (first
          | (go_at_call 18; refine K7.out.mono ?_; rintro e W8 ⟨rfl, S8⟩; have d2 : W8.cell? ⟨xb, 2, none⟩ = some (.int .i64 (ps : Int)) := (S8.out.boxed List.mem_cons_self).cell 2; have d5 : W8.cell? ⟨xb, 5, none⟩ = some (.int .u64 1) := (S8.out.boxed List.mem_cons_self).cell 5)
          | (go_at_call 20; refine S8.out.next.mono ?_; rintro e W9 ⟨rfl, S9⟩; have e2 : W9.cell? ⟨xb, 2, none⟩ = some (.int .i64 (ps : Int)) := (S9.out.boxed List.mem_cons_self).cell 2; have e5 : W9.cell? ⟨xb, 5, none⟩ = some (.int .u64 1) := (S9.out.boxed List.mem_cons_self).cell 5; rw [HX3.out])
          | (go_at_call 10; refine (HAw.out _).mono ?_; rintro e WA ⟨rfl, bA⟩; have SA := Lib.hid (S9.out.below bA); have f2 : WA.cell? ⟨xb, 2, none⟩ = some (.int .i64 (ps : Int)) := (SA.out.boxed List.mem_cons_self).cell 2; have f5 : WA.cell? ⟨xb, 5, none⟩ = some (.int .u64 1) := (SA.out.boxed List.mem_cons_self).cell 5))
      have HE := Lib.hid SA.out.lo
      clear S8 S9 d2 d5 e2 e5 f2 f5 bA SA C2 C5 K7
      go_wp2_with fail
      go_ret
      exact ⟨rfl, HE.out⟩
    · have hiz : (i : Int) < (n : Int) := by omega
      obtain ⟨t, Ht⟩ : ∃ t, Hid (decide (0 < len1) = t) := ⟨_, Lib.hid rfl⟩
      go_upto_region 11 with fail
      go_cut [37] (fun v37 wx => v37 = .bool t ∧ wr = wx)
      case first =>
        go_wp2_with fail
        go_meet
        exact ⟨by rw [Ht.out], rfl⟩
      case rest =>
      obtain ⟨rfl, rfl⟩ := hcut
      go_upto_if 37 with fail
      go_cut [11] (fun v11 wx => ∃ s : Nat, v11 = .int .i64 (s : Int) ∧ 1 ≤ s ∧ s ≤ 65536 ∧ wr = wx)
      case first =>
        cases t
        · go_wp2_with fail
          go_meet
          exact ⟨1, rfl, by omega, by omega, rfl⟩
        · have hl0 : 0 < len1 := by simpa using Ht.out
          have hl0' : ((len1 : Int) == 0) = false := by rw [beq_eq_false_iff_ne]; omega
          obtain ⟨k, Hk⟩ : ∃ k, Hid (i % len1 = k) := ⟨_, Lib.hid rfl⟩
          have hkl : k < len1 := by rw [← Hk.out]; exact Nat.mod_lt _ (by omega)
          have hk1 : (i : Int) % (len1 : Int) = (k : Int) := by rw [← Hk.out]; simp
          have hk2 : Int.tmod (i : Int) (len1 : Int) = (k : Int) := by rw [Int.tmod_eq_emod_of_nonneg (by omega)]; exact hk1
          have hkz : (k : Int) < (len1 : Int) := by omega
          obtain ⟨ad, x, rfl, hx, HO⟩ := u16_cell HR.out hkl
          have o0 := HO wr HS.out.lo
          have hw1 : IntKind.i64.wrap (1 + (x : Int)) = ((1 + x : Nat) : Int) := by rw [IntKind.wrap_i64]; omega
          clear HO hl0
          go_wp2_with fail
          go_meet
          exact ⟨1 + x, by go_num, by omega, by omega, rfl⟩
      case rest =>
        obtain ⟨s, rfl, hs1, hs2, rfl⟩ := hcut
        have hnf : ¬ g.a.full := fun h => h0 ((fg_full HF.out HS.out.ok).1 h)
        have hh := fg_handle HF.out HS.out.ok
        have KP0 := HS.out.put (by omega) (pkt (s : Int)) (pkt_may (by omega) (by omega)) (pkt_fits (by omega) (by omega)) i (by omega) hnf
        obtain ⟨h, Hh⟩ : ∃ h, Hid (i + 1 = h) := ⟨_, Lib.hid rfl⟩
        rw [hh] at KP0
        have KP : Hid (Calls Try.prog 11 #[.pointer (some a), .agg #[.int .u64 0, .int .u64 0, .int .i64 (s : Int), .int .u8 0, .int .u64 0], .int .u64 (i : Int)] wr fun e W' => e = .returned (.tuple #[.int .u64 (h : Int), .int .i64 0]) ∧ Hid (SSt w W' a (g.put (pkt (s : Int)) i) (i + 1) [] [])) := by rw [← Hh.out]; exact Lib.hid KP0
        have HF2 := Lib.hid (fg_put HF.out HS.out.ok s i)
        have hwb : IntKind.i64.wrap ((b : Int) + (s : Int)) = ((b + s : Nat) : Int) := by rw [IntKind.wrap_i64]; omega
        have hwi : IntKind.i64.wrap ((i : Int) + 1) = ((i + 1 : Nat) : Int) := by rw [IntKind.wrap_i64]; omega
        have hh0 : ((h : Int) == 0) = false := by have := Hh.out; rw [beq_eq_false_iff_ne]; omega
        clear hnf hh KP0 HF HS
        by_cases hi0 : i = 0
        · obtain rfl := hi0
          go_wp2_with (go_at_call 11; refine KP.out.mono ?_; rintro e W1 ⟨rfl, S1⟩; clear KP)
          go_roundg (n - (0 + 1))
          case measure => omega
          case rel => exact ⟨0 + 1, b + s, h, _, rfl, by omega, by go_num, rfl, by go_num, by omega, Lib.hid (fun _ => Hh.out.symm), HF2, S1⟩
        · have hi0z : ((i : Int) == 0) = false := by rw [beq_eq_false_iff_ne]; omega
          have hi0n : ¬ (i : Int) = 0 := by omega
          have hi1 : 0 < i := by omega
          clear hi0
          go_wp2_with (go_at_call 11; refine KP.out.mono ?_; rintro e W1 ⟨rfl, S1⟩; clear KP)
          go_roundg (n - (i + 1))
          case measure => omega
          case rel => exact ⟨i + 1, b + s, f, _, rfl, by omega, by go_num, rfl, by go_num, by omega, Lib.hid (fun _ => Hf.out hi1), HF2, S1⟩

end Go.Proofs.Ytmaofmbnlfggiab
