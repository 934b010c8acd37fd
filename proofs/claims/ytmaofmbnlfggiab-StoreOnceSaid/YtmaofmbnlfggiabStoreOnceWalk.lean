/-
  StoreOnce, walked.
-/
import Derived.Test.YtmaofmbnlfggiabStoreSt
import Derived.Test.YtmaofmbnlfggiabStoreEq
namespace Go.Proofs.Ytmaofmbnlfggiab
open Go.RowKit
set_option linter.unusedVariables false
set_option linter.unusedSimpArgs false

theorem AtS.kept {N : Nat → Prop} {w w' : World} {a : Addr} {g : Sg} (h : AtS N w a g) (e : ∀ k, N k → w'.heap[k]? = w.heap[k]?) (s : w.heap.size ≤ w'.heap.size) : AtS N w' a g := by
  obtain ⟨b, aa, NA, hv, hl, rfl, h1, h2⟩ := h
  exact ⟨b, aa, NA, hv, hl, rfl, h1.kept (fun k hk => e k ((h2 k).2 hk)) s, h2⟩
theorem SSt.nil {w W : World} {a : Addr} {g : Sg} {M : Nat} {B : List (Nat × Array Value)} (h : SSt w W a g M B []) : SSt w W a g M B [(none, 0, [])] := by
  obtain ⟨N, h⟩ := h
  exact ⟨N, h.at_, h.ok, h.new, h.lo, h.box, fun r hr => by obtain rfl := List.mem_singleton.1 hr; exact ⟨World.ownsRow_nil _ _ _ _, fun k _ e => by cases e⟩⟩
/-- The row is another one, behind an append. -/
theorem SSt.grow {w W w1 : World} {a : Addr} {g : Sg} {M : Nat} {p p' : Option Addr} {c c' : Nat} {l l' : List Nat} (h : SSt w W a g M [] [(p, c, l)]) (o : w1.ownsRow w.heap.size 32 1 (.slice p' l'.length c') l'.length (l'.map u64V)) (t : W.grownBy w1 (Value.slice p l.length c).ownBlock)
    (hat : (Value.slice p' l'.length c').ownBlock = (Value.slice p l.length c).ownBlock ∨ (Value.slice p' l'.length c').ownBlock = some W.heap.size) : SSt w w1 a g M [] [(p', c', l')] := by
  obtain ⟨N, h⟩ := h
  have hr := h.row _ (List.mem_singleton.2 rfl)
  have hlt := fun k hk => h.at_.lt k hk
  refine ⟨N, h.at_.kept (fun k hk => t.block k (hlt k hk) (fun e => hr.2 k hk e.symm)) t.size, h.ok, h.new, below_grown h.lo hr.1 (Nat.le_refl _) t, fun r hr => (by cases hr), fun r hr2 => ?_⟩
  obtain rfl := List.mem_singleton.1 hr2
  refine ⟨o, fun k hk e => ?_⟩
  rcases hat with h4 | h4
  · exact hr.2 k hk (h4.symm.trans e)
  · have h5 := hlt k hk
    rw [h4] at e
    have := Option.some.inj e
    omega
theorem pk_cells {w : World} {A : Option Addr} {len cap : Nat} {rows : List (List Value)} (h : RowOf [some .u64, some .u64, some .i64, some .u8, some .u64] w A len cap rows) {j : Nat} (hj : j < len) :
    ∃ (a : Addr) (p : Pk), A = some a ∧ p.Fits ∧ ∀ W, Below w.heap.size w W → W.cell? (a.add (j * 5)) = some (.int .u64 (p.sock : Int)) ∧ W.cell? ⟨(a.add (j * 5)).block, (a.add (j * 5)).off + 1, none⟩ = some (.int .u64 (p.cookie : Int)) ∧ W.cell? ⟨(a.add (j * 5)).block, (a.add (j * 5)).off + 2, none⟩ = some (.int .i64 p.len) ∧ W.cell? ⟨(a.add (j * 5)).block, (a.add (j * 5)).off + 3, none⟩ = some (.int .u8 (p.prio : Int)) ∧ W.cell? ⟨(a.add (j * 5)).block, (a.add (j * 5)).off + 4, none⟩ = some (.int .u64 (p.at_ : Int)) := by
  obtain ⟨h1, _, h3⟩ := h
  obtain ⟨hf, a, rfl, hc⟩ := h3 j (by omega)
  obtain ⟨v0, v1, v2, v3, v4, e⟩ : ∃ v0 v1 v2 v3 v4, rows[j] = [v0, v1, v2, v3, v4] := by
    have := hf.length
    match hr : rows[j], this with
    | [v0, v1, v2, v3, v4], _ => exact ⟨v0, v1, v2, v3, v4, rfl⟩
  rw [e] at hf hc
  obtain ⟨⟨n0, rfl, w0⟩, ⟨n1, rfl, w1⟩, ⟨n2, rfl, w2⟩, ⟨n3, rfl, w3⟩, ⟨n4, rfl, w4⟩, _⟩ := hf
  obtain ⟨x0, rfl, hx0⟩ := nat_u64 w0
  obtain ⟨x1, rfl, hx1⟩ := nat_u64 w1
  obtain ⟨x3, rfl, hx3⟩ := nat_u8 w3
  obtain ⟨x4, rfl, hx4⟩ := nat_u64 w4
  have hl : -9223372036854775808 ≤ n2 ∧ n2 ≤ 9223372036854775807 := by
    simp [Lit.wf, IntKind.min, IntKind.max, IntKind.signed, IntKind.bits] at w2
    omega
  have c0 := hc 0 _ rfl
  have c1 := hc 1 _ rfl
  have c2 := hc 2 _ rfl
  have c3 := hc 3 _ rfl
  have c4 := hc 4 _ rfl
  simp only [List.length_cons, List.length_nil, Nat.zero_add, Nat.add_zero, Nat.reduceAdd] at c0 c1 c2 c3 c4
  rw [add_at] at c1 c2 c3 c4
  refine ⟨a, ⟨x0, x1, n2, x3, x4⟩, rfl, ⟨hx0, hx1, hl.1, hl.2, hx3, hx4⟩, fun W b => ?_⟩
  exact ⟨(b.cell (World.block_lt_of_cell? w _ c0)).trans c0, (b.cell (World.block_lt_of_cell? w _ c1)).trans c1, (b.cell (World.block_lt_of_cell? w _ c2)).trans c2, (b.cell (World.block_lt_of_cell? w _ c3)).trans c3, (b.cell (World.block_lt_of_cell? w _ c4)).trans c4⟩
theorem sg_room {g : Sg} {p : Pk} {now : Nat} : (g.put p now).a.room = g.a.room := Gh.take_room _
theorem sg_keys {g : Sg} {p : Pk} {now : Nat} : (g.put p now).l.map Prod.fst = g.l.map Prod.fst ++ [g.a.handle] := by
  show (g.l ++ [_]).map Prod.fst = _
  rw [List.map_append]
  rfl
theorem sg_small {g : Sg} {M : Nat} (ok : g.Ok M) (hM : M ≤ 1000) {x : Nat} (hx : x ∈ g.l.map Prod.fst) : x < 18446744073709551616 := by
  obtain ⟨p, hp⟩ := (ok.keys x).2 hx
  obtain ⟨_, m, hm, e⟩ := (hd_iff ok.a).1 ((at_iff ok.a).1 hp)
  have h1 := ok.a.le p _ hm
  have h2 := (hd_lt ok.a ((at_iff ok.a).1 hp)).1
  omega

set_option maxHeartbeats 8000000 in
set_option maxRecDepth 100000 in
/-- Below w.heap.size w w' -/
theorem storeOnce_walk (a0 : Option Addr) (len0 cap0 : Nat) (z0 : List (List Value)) (a1 a2 : Int) (w : World) (w0 : RowOf [some .u64, some .u64, some .i64, some .u8, some .u64] w a0 len0 cap0 z0) (w1 : (Lit.int .u8 a1).wf = true) (w2 : (Lit.int .u64 a2).wf = true) :
    Calls Try.prog 5 #[.slice a0 len0 cap0, .int .u8 a1, .int .u64 a2] w fun e w' => e = .returned (.bool true) ∧ Below w.heap.size w w' := by
  obtain ⟨wh, rfl, hwh⟩ := nat_u8 w1
  obtain ⟨h, rfl, hh⟩ := nat_u64 w2
  clear w1 w2
  have hcap := row_fit w0
  have HR := Lib.hid w0
  clear w0
  have KN := Lib.hid (SSt.new_ 20 (by decide) (by decide) w w (Below.refl _ _))
  obtain ⟨m, Hm⟩ : ∃ m, Hid (min len0 20 = m) := ⟨_, Lib.hid rfl⟩
  have hm1 : m ≤ len0 := by have := Hm.out; omega
  have hm2 : m ≤ 20 := by have := Hm.out; omega
  go_enter Try.func5, Try.ntmps5
  go_upto_region 2 with (go_at_call 8; refine KN.out.mono ?_; rintro e W0 ⟨a, rfl, S0⟩)
  have S1 := Lib.hid S0.out.nil
  clear KN S0
  go_upto_region 5 with fail
  go_cut [36, 37, 38] (fun v36 v37 v38 wx => v36 = .slice a0 m cap0 ∧ v37 = .int .i64 (m : Int) ∧ v38 = .int .i64 0 ∧ W0 = wx)
  case first =>
    by_cases h80 : 20 < len0
    · have h80z : (20 : Int) < (len0 : Int) := by omega
      obtain rfl : m = 20 := by have := Hm.out; omega
      go_wp2_with fail
      go_meet
      exact ⟨rfl, rfl, rfl, rfl⟩
    · have h80z : ¬ (20 : Int) < (len0 : Int) := by omega
      obtain rfl : m = len0 := by have := Hm.out; omega
      go_wp2_with fail
      go_meet
      exact ⟨rfl, rfl, rfl, rfl⟩
  case rest =>
    obtain ⟨rfl, rfl, rfl, rfl⟩ := hcut
    clear Hm
    have HZ := Lib.hid (sg_new_ok (room := 20) (by decide))
    go_wp2_with fail
    go_loopg [9, 38] m (fun k v9 v38 wx => ∃ (i : Nat) (g : Sg) (p : Option Addr) (c : Nat) (l : List Nat), i + k = m ∧ v9 = .slice p l.length c ∧ v38 = .int .i64 (i : Int) ∧ l.length ≤ i ∧ Hid (g.a.room = 20 ∧ g.l.map Prod.fst = l) ∧ Hid (SSt w wx a g i [] [(p, c, l)]))
    case atStart => exact ⟨0, _, none, 0, [], by omega, rfl, rfl, Nat.le_refl _, Lib.hid ⟨rfl, rfl⟩, S1⟩
    case round =>
      clear S1 HZ
      obtain ⟨i, g, p, c, l, hik, rfl, rfl, hli, HG, HS⟩ := hrel
      by_cases hin : i = m
      · have hiz : ¬ (i : Int) < (m : Int) := by omega
        have hm3 : i ≤ 20 := by omega
        have hll : l.length ≤ 20 := by omega
        have hkeys := HG.out.2
        have HK := Lib.hid hkeys
        have hlen : g.l.length = l.length := by rw [← hkeys, List.length_map]
        have HLen := Lib.hid hlen
        clear hkeys hlen HG
        go_wp2_with fail
        go_loopg [14, 57] l.length (fun k v14 v57 wx => ∃ (j : Nat) (t : Bool), j + k = l.length ∧ v14 = .bool t ∧ v57 = .int .i64 (j : Int) ∧ Hid (t = decide (h ∈ l.take j)) ∧ wr = wx)
        case atStart => exact ⟨0, false, by omega, rfl, rfl, Lib.hid (by simp), rfl⟩
        case round =>
          obtain ⟨j, t, hjk, rfl, rfl, Ht, rfl⟩ := hrel
          by_cases hjl : j = l.length
          · have hjz : ¬ (j : Int) < (l.length : Int) := by omega
            have ht : (look g.l h).isSome = t := by
              have e := Ht.out
              rw [hjl, List.take_length, ← HK.out] at e
              by_cases hmem : h ∈ g.l.map Prod.fst
              · obtain ⟨y, hy⟩ := look_some hmem
                rw [hy, e, decide_eq_true hmem]
                rfl
              · rw [look_none hmem, e, decide_eq_false hmem]
                rfl
            obtain ⟨⟨⟨s0, c0, n0, r0, t0⟩, q0, m0⟩, hy⟩ : ∃ y : Hl, (look g.l h).getD Hl.zero = y := ⟨_, rfl⟩
            have KG0 := HS.out.get (by omega) h hh
            rw [hy, ht] at KG0
            have KG : Hid (Calls Try.prog 15 #[.pointer (some a), .int .u64 (h : Int)] wr fun e W' => e = .returned (.tuple #[.agg #[.int .u64 (s0 : Int), .int .u64 (c0 : Int), .int .i64 n0, .int .u8 (r0 : Int), .int .u64 (t0 : Int), .int .u64 (q0 : Int), .int .u64 (m0 : Int)], .bool t]) ∧ Hid (SSt w W' a g i [] [(p, c, l)])) := Lib.hid KG0
            have htt : (t != t) = false := by cases t <;> rfl
            clear KG0 hy ht Ht HS
            go_upto_region 19 with (go_at_call 15; refine KG.out.mono ?_; rintro e W2 ⟨rfl, S2⟩; clear KG)
            obtain ⟨W3, HW3⟩ : ∃ W3, Hid (W2.alloc (.cells #[.int .u64 (s0 : Int), .int .u64 (c0 : Int), .int .i64 n0, .int .u8 (r0 : Int), .int .u64 (t0 : Int), .int .u64 (q0 : Int), .int .u64 (m0 : Int)] 48) = W3) := ⟨_, Lib.hid rfl⟩
            have S3 := Lib.hid (S2.out.below (W' := W3) (by rw [← HW3.out]; exact (Below.refl _ _).alloc (Nat.le_refl _) _))
            obtain ⟨xg, HXg⟩ : ∃ xg, Hid (W2.heap.size = xg) := ⟨_, Lib.hid rfl⟩
            rw [HW3.out, HXg.out]
            clear S2 HW3 HXg
            by_cases hl0 : l.length = 0
            · have hlz : ((l.length : Int) == 0) = true := by rw [beq_iff_eq]; omega
              have KC0 := S3.out.count
              rw [HLen.out, hl0] at KC0
              have KC : Hid (Calls Try.prog 17 #[.pointer (some a)] W3 fun e W' => e = .returned (.int .i64 0) ∧ Hid (SSt w W' a g i [] [(p, c, l)])) := Lib.hid KC0
              have HAw := Lib.hid awake10
              clear KC0 hl0 S3
              go_wp2_with (first
                | (go_at_call 17; refine KC.out.mono ?_; rintro e W4 ⟨rfl, S4⟩)
                | (go_at_call 10; refine (HAw.out _).mono ?_; rintro e W5 ⟨rfl, b5⟩))
              go_ret
              exact ⟨rfl, (S4.out.below b5).lo⟩
            · have hlz : ((l.length : Int) == 0) = false := by rw [beq_eq_false_iff_ne]; omega
              obtain ⟨k, Hk⟩ : ∃ k, Hid (wh % l.length = k) := ⟨_, Lib.hid rfl⟩
              have hkl : k < l.length := by rw [← Hk.out]; exact Nat.mod_lt _ (by omega)
              have hk1 : (wh : Int) % (l.length : Int) = (k : Int) := by rw [← Hk.out]; simp
              have hk2 : Int.tmod (wh : Int) (l.length : Int) = (k : Int) := by rw [Int.tmod_eq_emod_of_nonneg (by omega)]; exact hk1
              have hkz : (k : Int) < (l.length : Int) := by omega
              obtain ⟨_, hf⟩ := own_form (S3.out.rowed List.mem_cons_self)
              obtain ⟨gT, rfl⟩ := hf (by omega)
              obtain ⟨x, hx⟩ : ∃ x, l[k]? = some x := ⟨_, List.getElem?_eq_getElem hkl⟩
              have HC : Hid (∀ (W : World) (g' : Sg) (B : List (Nat × Array Value)), SSt w W a g' i B [(some ⟨gT, 0, none⟩, c, l)] → W.cell? ⟨gT, k, none⟩ = some (.int .u64 (x : Int))) := Lib.hid fun W g' B hS => by
                rw [(hS.rowed List.mem_cons_self).cellAt k (by omega), List.getElem?_map, hx]
                rfl
              have hxk : x ∈ g.l.map Prod.fst := by rw [HK.out]; exact List.mem_of_getElem? hx
              have hxs := sg_small S3.out.ok (by omega) hxk
              obtain ⟨q, hq⟩ := (S3.out.ok.keys x).2 hxk
              obtain ⟨y, hy⟩ := look_some hxk
              have hone := filter_one S3.out.ok.nodup hxk
              have hgone : look (g.free x q).l x = none := look_less.trans (if_pos rfl)
              obtain ⟨n1, Hn1⟩ : ∃ n1, Hid ((g.free x q).l.length = n1) := ⟨_, Lib.hid rfl⟩
              have Hn2 : Hid (n1 + 1 = l.length) := by
                rw [← Hn1.out, ← HLen.out]
                exact Lib.hid hone
              have hwn : IntKind.i64.wrap ((l.length : Int) - 1) = (n1 : Int) := by have := Hn2.out; rw [IntKind.wrap_i64]; omega
              have K1a := S3.out.free (by omega) x hxs q hq y hy
              obtain ⟨⟨s1, c1, m1, r1, t1⟩, q1, m2⟩ := y
              have K1 : Hid (Calls Try.prog 13 #[.pointer (some a), .int .u64 (x : Int)] W3 fun e W' => e = .returned (.tuple #[.agg #[.int .u64 (s1 : Int), .int .u64 (c1 : Int), .int .i64 m1, .int .u8 (r1 : Int), .int .u64 (t1 : Int), .int .u64 (q1 : Int), .int .u64 (m2 : Int)], .bool true]) ∧ Hid (SSt w W' a (g.free x q) i [] [(some ⟨gT, 0, none⟩, c, l)])) := Lib.hid K1a
              have d3 := HC.out _ _ _ S3.out
              have HXs := Lib.hid hxs
              have HGone := Lib.hid hgone
              clear K1a hone hgone hy hq hxk hx hf HR Hn2 S3 hxs
              go_upto_region 25 with (go_at_call 13; refine K1.out.mono ?_; rintro e W4 ⟨rfl, S4⟩; clear K1)
              obtain ⟨W5, HW5⟩ : ∃ W5, Hid (W4.alloc (.cells #[.int .u64 (s1 : Int), .int .u64 (c1 : Int), .int .i64 m1, .int .u8 (r1 : Int), .int .u64 (t1 : Int), .int .u64 (q1 : Int), .int .u64 (m2 : Int)] 48) = W5) := ⟨_, Lib.hid rfl⟩
              have S5 := Lib.hid (S4.out.below (W' := W5) (by rw [← HW5.out]; exact (Below.refl _ _).alloc (Nat.le_refl _) _))
              obtain ⟨xh, HXh⟩ : ∃ xh, Hid (W4.heap.size = xh) := ⟨_, Lib.hid rfl⟩
              rw [HW5.out, HXh.out]
              clear d3 S4 HW5 HXh
              have K2 : Hid (Calls Try.prog 13 #[.pointer (some a), .int .u64 (x : Int)] W5 fun e W' => e = .returned (.tuple #[.agg cs0, .bool false]) ∧ Hid (SSt w W' a (g.free x q) i [] [(some ⟨gT, 0, none⟩, c, l)])) := Lib.hid (S5.out.free_no (by omega) x HXs.out HGone.out)
              have d5 := HC.out _ _ _ S5.out
              clear S5
              go_upto_region 26 with (go_at_call 13; refine K2.out.mono ?_; rintro e W6 ⟨rfl, S6⟩; clear K2)
              have S7 := Lib.hid (S6.out.keep cs0)
              obtain ⟨W7, HW7⟩ : ∃ W7, Hid (W6.alloc (.cells cs0 48) = W7) := ⟨_, Lib.hid rfl⟩
              obtain ⟨x1, HX1⟩ : ∃ x1, Hid (W6.heap.size = x1) := ⟨_, Lib.hid rfl⟩
              rw [HW7.out, HX1.out] at S7
              rw [show W6.alloc (.cells #[.int .u64 0, .int .u64 0, .int .i64 0, .int .u8 0, .int .u64 0, .int .u64 0, .int .u64 0] 48) = W7 from HW7.out, HX1.out]
              clear d5 S6 HW7 HX1
              have K3 : Hid (Calls Try.prog 15 #[.pointer (some a), .int .u64 (x : Int)] W7 fun e W' => e = .returned (.tuple #[.agg cs0, .bool false]) ∧ Hid (SSt w W' a (g.free x q) i [(x1, cs0)] [(some ⟨gT, 0, none⟩, c, l)])) := by
                have h1 := S7.out.get (by omega) x HXs.out
                rw [HGone.out] at h1
                exact Lib.hid h1
              have d7 := HC.out _ _ _ S7.out
              clear S7
              go_upto_region 27 with (go_at_call 15; refine K3.out.mono ?_; rintro e W8 ⟨rfl, S8⟩; clear K3)
              have S9 := Lib.hid (S8.out.keep cs0)
              obtain ⟨W9, HW9⟩ : ∃ W9, Hid (W8.alloc (.cells cs0 48) = W9) := ⟨_, Lib.hid rfl⟩
              obtain ⟨x2, HX2⟩ : ∃ x2, Hid (W8.heap.size = x2) := ⟨_, Lib.hid rfl⟩
              rw [HW9.out, HX2.out] at S9
              rw [show W8.alloc (.cells #[.int .u64 0, .int .u64 0, .int .i64 0, .int .u8 0, .int .u64 0, .int .u64 0, .int .u64 0] 48) = W9 from HW9.out, HX2.out]
              clear d7 S8 HW9 HX2
              have by1 := S9.out.boxed (r := x1) (cs := cs0) (by simp)
              have by2 := S9.out.boxed (r := x2) (cs := cs0) (by simp)
              have p0 : W9.cell? ⟨x1, 0, none⟩ = some (.int .u64 0) := by1.cell 0
              have p1 : W9.cell? ⟨x1, 1, none⟩ = some (.int .u64 0) := by1.cell 1
              have p2 : W9.cell? ⟨x1, 2, none⟩ = some (.int .i64 0) := by1.cell 2
              have p3 : W9.cell? ⟨x1, 3, none⟩ = some (.int .u8 0) := by1.cell 3
              have p4 : W9.cell? ⟨x1, 4, none⟩ = some (.int .u64 0) := by1.cell 4
              have p5 : W9.cell? ⟨x1, 5, none⟩ = some (.int .u64 0) := by1.cell 5
              have p6 : W9.cell? ⟨x1, 6, none⟩ = some (.int .u64 0) := by1.cell 6
              have q0 : W9.cell? ⟨x2, 0, none⟩ = some (.int .u64 0) := by2.cell 0
              have q1 : W9.cell? ⟨x2, 1, none⟩ = some (.int .u64 0) := by2.cell 1
              have q2 : W9.cell? ⟨x2, 2, none⟩ = some (.int .i64 0) := by2.cell 2
              have q3 : W9.cell? ⟨x2, 3, none⟩ = some (.int .u8 0) := by2.cell 3
              have q4 : W9.cell? ⟨x2, 4, none⟩ = some (.int .u64 0) := by2.cell 4
              have q5 : W9.cell? ⟨x2, 5, none⟩ = some (.int .u64 0) := by2.cell 5
              have q6 : W9.cell? ⟨x2, 6, none⟩ = some (.int .u64 0) := by2.cell 6
              have hze := zero_eql
              have KC0 := S9.out.count
              rw [Hn1.out] at KC0
              have KC := Lib.hid KC0
              have HAw := Lib.hid awake10
              clear KC0 by1 by2 S9
              go_wp2_with (first
                | (go_at_call 17; refine KC.out.mono ?_; rintro e WA ⟨rfl, SA⟩)
                | (go_at_call 10; refine (HAw.out _).mono ?_; rintro e WB ⟨rfl, bB⟩))
              go_ret
              exact ⟨rfl, (SA.out.below bB).lo⟩
          · have hjz : (j : Int) < (l.length : Int) := by omega
            obtain ⟨_, hf⟩ := own_form (HS.out.rowed List.mem_cons_self)
            obtain ⟨gT, rfl⟩ := hf (by omega)
            obtain ⟨x, hx⟩ : ∃ x, l[j]? = some x := ⟨_, List.getElem?_eq_getElem (by omega)⟩
            have hc : wr.cell? ⟨gT, j, none⟩ = some (.int .u64 (x : Int)) := by
              rw [(HS.out.rowed List.mem_cons_self).cellAt j (by omega), List.getElem?_map, hx]
              rfl
            have htk : l.take (j + 1) = l.take j ++ [x] := by rw [List.take_add_one, hx]; rfl
            have Htk := Lib.hid htk
            have hwj : IntKind.i64.wrap ((j : Int) + 1) = ((j + 1 : Nat) : Int) := by rw [IntKind.wrap_i64]; omega
            clear htk hx hf
            cases t
            · by_cases hxh : x = h
              · have hxz : ((x : Int) == (h : Int)) = true := by rw [beq_iff_eq]; omega
                have HH : Hid (true = decide (h ∈ l.take (j + 1))) := Lib.hid (by rw [Htk.out]; simp [hxh])
                clear hxh
                go_wp2_with fail
                go_roundg (l.length - (j + 1))
                case measure => omega
                case rel => exact ⟨j + 1, true, by omega, rfl, by go_num, HH, rfl⟩
              · have hxz : ((x : Int) == (h : Int)) = false := by rw [beq_eq_false_iff_ne]; omega
                have HH : Hid (false = decide (h ∈ l.take (j + 1))) := Lib.hid (by
                  have e := Ht.out
                  have e2 : h ∉ l.take j := by simpa using e
                  rw [Htk.out, eq_comm, decide_eq_false_iff_not, List.mem_append]
                  rintro (e3 | e3)
                  · exact e2 e3
                  · exact hxh (List.mem_singleton.1 e3).symm)
                clear hxh
                go_wp2_with fail
                go_roundg (l.length - (j + 1))
                case measure => omega
                case rel => exact ⟨j + 1, false, by omega, rfl, by go_num, HH, rfl⟩
            · have HH : Hid (true = decide (h ∈ l.take (j + 1))) := Lib.hid (by
                have e2 : h ∈ l.take j := by simpa using Ht.out
                rw [Htk.out, eq_comm, decide_eq_true_iff, List.mem_append]
                exact .inl e2)
              go_wp2_with fail
              go_roundg (l.length - (j + 1))
              case measure => omega
              case rel => exact ⟨j + 1, true, by omega, rfl, by go_num, HH, rfl⟩
      · have hiz : (i : Int) < (m : Int) := by omega
        have hi20 : i < 20 := by omega
        obtain ⟨ad, pk, rfl, hpf, HO⟩ := pk_cells HR.out (show i < len0 by omega)
        obtain ⟨o0, o1, o2, o3, o4⟩ := HO wr HS.out.lo
        have HPF := Lib.hid hpf
        clear HO hpf
        obtain ⟨ps, pc, pl, pp, pa⟩ := pk
        simp only at o0 o1 o2 o3 o4
        obtain ⟨W5, HW5⟩ : ∃ W5, Hid (wr.alloc (.cells #[.int .u64 (ps : Int), .int .u64 (pc : Int), .int .i64 pl, .int .u8 (pp : Int), .int .u64 (pa : Int)] 40) = W5) := ⟨_, Lib.hid rfl⟩
        obtain ⟨ob, HOB⟩ : ∃ ob, Hid (wr.heap.size = ob) := ⟨_, Lib.hid rfl⟩
        have HS5 := Lib.hid (HS.out.below (W' := W5) (by rw [← HW5.out]; exact (Below.refl _ _).alloc (Nat.le_refl _) _))
        have bx : Box W5 ob 40 #[.int .u64 (ps : Int), .int .u64 (pc : Int), .int .i64 pl, .int .u8 (pp : Int), .int .u64 (pa : Int)] := by rw [← HW5.out, ← HOB.out]; exact Box.new _ _ _
        clear HS
        go_upto_region 8 with fail
        rw [HW5.out, HOB.out]
        have c0 := bx.cell 0
        have c1 := bx.cell 1
        have c2 := bx.cell 2
        have c3 := bx.cell 3
        have c4 := bx.cell 4
        clear o0 o1 o2 o3 o4 bx HW5 HOB
        have hwi : IntKind.i64.wrap ((i : Int) + 1) = ((i + 1 : Nat) : Int) := by rw [IntKind.wrap_i64]; omega
        have hlen : g.l.length = l.length := by rw [← HG.out.2, List.length_map]
        by_cases hm : (⟨ps, pc, pl, pp, pa⟩ : Pk).may
        · have hnf : ¬ g.a.full := fun hf => by
            unfold Gh.full at hf
            rw [← HS5.out.ok.cnt, HG.out.1] at hf
            omega
          obtain ⟨hd, Hh⟩ : ∃ h, Hid (g.a.handle = h) := ⟨_, Lib.hid rfl⟩
          have KP : Hid (Calls Try.prog 11 #[.pointer (some a), .agg #[.int .u64 (ps : Int), .int .u64 (pc : Int), .int .i64 pl, .int .u8 (pp : Int), .int .u64 (pa : Int)], .int .u64 3] W5 fun e W' => e = .returned (.tuple #[.int .u64 (hd : Int), .int .i64 0]) ∧ Hid (SSt w W' a (g.put ⟨ps, pc, pl, pp, pa⟩ 3) (i + 1) [] [(p, c, l)])) := by
            rw [← Hh.out]
            exact Lib.hid (HS5.out.put (by omega) ⟨ps, pc, pl, pp, pa⟩ hm HPF.out 3 (by decide) hnf)
          have HK2 : Hid ((g.put ⟨ps, pc, pl, pp, pa⟩ 3).a.room = 20 ∧ (g.put ⟨ps, pc, pl, pp, pa⟩ 3).l.map Prod.fst = l ++ [hd]) := Lib.hid ⟨sg_room.trans HG.out.1, by rw [sg_keys, HG.out.2, Hh.out]⟩
          clear hm hnf HS5 Hh
          go_upto_region 10 with (go_at_call 11; refine KP.out.mono ?_; rintro e W6 ⟨rfl, S6⟩; clear KP c0 c1 c2 c3 c4)
          obtain ⟨i0, hi0, hz0, hz1, hz2⟩ := info_parts info_u64
          have hml : l.length + 1 ≤ maxLen := by unfold maxLen; omega
          have S7 := Lib.hid (S6.out.below (W' := W6.alloc (.cells #[.int .u64 (hd : Int)] 32)) ((Below.refl _ _).alloc (Nat.le_refl _) _))
          have hsl := lit_one (e := 32) W6 (.int .u64 (hd : Int))
          have hbz : w.heap.size ≤ (W6.alloc (.cells #[.int .u64 (hd : Int)] 32)).heap.size := S7.out.lo.size
          have r5 := S7.out.rowed List.mem_cons_self
          go_wp2_with (first | (at_builtin; (refine wpList_append_any _ rfl (.tmp 50) (.tmp 52) 38 rfl w.heap.size 32 i0 (.int .u64 0) 1 8 Try.underlying38 hi0 hz0 hz1 hz2 rfl (by decide) (.slice p l.length c) l.length _ rfl r5 0 _ 1 [.int .u64 (hd : Int)] rfl hsl (by intro u hu; simp at hu; subst hu; rfl) hml (by omega) hbz ?_; intro p5 c5 w5 own5 gr5 loc5)))
          have HE : Hid (SSt w w5 a (g.put ⟨ps, pc, pl, pp, pa⟩ 3) (i + 1) [] [(p5, c5, l ++ [hd])]) := by
            have el : (l ++ [hd]).length = l.length + 1 := by simp
            refine Lib.hid (S7.out.grow ?_ gr5 ?_)
            · rw [el, List.map_append]; exact own5
            · rw [el]; exact loc5
          clear own5 gr5 loc5 r5 hsl S6 S7 hi0 hz0 hz1 hz2
          go_roundg (m - (i + 1))
          case measure => omega
          case rel => exact ⟨i + 1, _, p5, c5, l ++ [hd], by omega, by simp, by go_num, by simp; omega, HK2, HE⟩
        · have KP : Hid (Calls Try.prog 11 #[.pointer (some a), .agg #[.int .u64 (ps : Int), .int .u64 (pc : Int), .int .i64 pl, .int .u8 (pp : Int), .int .u64 (pa : Int)], .int .u64 3] W5 fun e W' => e = .returned (.tuple #[.int .u64 0, .int .i64 2]) ∧ Hid (SSt w W' a g i [] [(p, c, l)])) :=
            Lib.hid (HS5.out.put_arg ⟨ps, pc, pl, pp, pa⟩ hm 3)
          clear hm HS5
          go_wp2_with (go_at_call 11; refine KP.out.mono ?_; rintro e W6 ⟨rfl, S6⟩; clear KP c0 c1 c2 c3 c4)
          have HE := Lib.hid S6.out.more
          clear S6
          go_roundg (m - (i + 1))
          case measure => omega
          case rel => exact ⟨i + 1, _, p, c, l, by omega, rfl, by go_num, by omega, HG, HE⟩

end Go.Proofs.Ytmaofmbnlfggiab
