/-
  The law's own trees: Of puts the first sixty keys into a tree, and into the document's own.
-/
import Derived.Test.YtfedjeojanpnpabTreeTellsFacts
import Derived.Test.YtfedjeojanpnpabTreeAwake
import Derived.Test.YtfedjeojanpnpabWalkTakeW
namespace Go.Proofs.Ytfedjeojanpnpab
open Go.RowKit
set_option linter.unusedVariables false

/-- Keys lie where a slice says. -/
structure KeysAt (w : World) (A : Option Addr) (n cap : Nat) (ks : List Ky) : Prop where
  len : ks.length = n
  le : n ≤ cap
  cap : cap ≤ 9223372036854775807
  fits : ∀ k, k ∈ ks → k.Fits
  at_ : ∀ j k, ks[j]? = some k → ∃ ad, A = some ad ∧ ∀ W, Below w.heap.size w W → W.cell? (ad.add (j * 2)) = some (.int .u64 (k.at_ : Int)) ∧ W.cell? ⟨(ad.add (j * 2)).block, (ad.add (j * 2)).off + 1, none⟩ = some (.int .u64 (k.seq : Int))
def kyOf : List Value → Ky
  | [.int _ a, .int _ s] => ⟨a.toNat, s.toNat⟩
  | _ => ⟨0, 0⟩
theorem keys_of {w : World} {A : Option Addr} {len cap : Nat} {rows : List (List Value)} (h : RowOf [some .u64, some .u64] w A len cap rows) : KeysAt w A len cap (rows.map kyOf) := by
  have hf := row_fit h
  obtain ⟨h1, _, h3⟩ := h
  have key : ∀ j (hj : j < rows.length), ∃ (a : Addr) (x y : Nat), A = some a ∧ rows[j] = [.int .u64 (x : Int), .int .u64 (y : Int)] ∧ x < 18446744073709551616 ∧ y < 18446744073709551616 ∧ w.cell? (a.add (j * 2)) = some (.int .u64 (x : Int)) ∧ w.cell? ⟨(a.add (j * 2)).block, (a.add (j * 2)).off + 1, none⟩ = some (.int .u64 (y : Int)) := by
    intro j hj
    obtain ⟨hf, a, rfl, hc⟩ := h3 j (by omega)
    obtain ⟨v0, v1, e⟩ : ∃ v0 v1, rows[j] = [v0, v1] := by
      have := hf.length
      match hr : rows[j], this with
      | [v0, v1], _ => exact ⟨v0, v1, rfl⟩
    rw [e] at hf hc
    obtain ⟨⟨n0, rfl, w0⟩, ⟨n1, rfl, w1⟩, _⟩ := hf
    obtain ⟨y, rfl, hy⟩ := nat_u64 w0
    obtain ⟨z, rfl, hz⟩ := nat_u64 w1
    have c0 := hc 0 _ rfl
    have c1 := hc 1 _ rfl
    simp only [List.length_cons, List.length_nil, Nat.zero_add, Nat.add_zero, Nat.reduceAdd] at c0 c1
    rw [add_at] at c1
    exact ⟨a, y, z, rfl, e, hy, hz, c0, c1⟩
  refine ⟨by rw [List.length_map]; exact h1, hf.1, hf.2, ?_, ?_⟩
  · intro k hk
    obtain ⟨r, hr, rfl⟩ := List.mem_map.1 hk
    obtain ⟨j, hj, rfl⟩ := List.getElem_of_mem hr
    obtain ⟨a, x, y, _, e, hx, hy, _⟩ := key j hj
    rw [e]
    exact ⟨hx, hy⟩
  · intro j k hk
    rw [List.getElem?_map] at hk
    obtain ⟨r, hr, rfl⟩ := Option.map_eq_some_iff.1 hk
    obtain ⟨hj, rfl⟩ := List.getElem?_eq_some_iff.1 hr
    obtain ⟨a, x, y, rfl, e, _, _, c0, c1⟩ := key j hj
    refine ⟨a, rfl, fun W b => ?_⟩
    rw [e]
    exact ⟨(b.cell (World.block_lt_of_cell? w _ c0)).trans c0, (b.cell (World.block_lt_of_cell? w _ c1)).trans c1⟩
theorem KeysAt.later {w w' : World} {A : Option Addr} {n cap : Nat} {ks : List Ky} (h : KeysAt w A n cap ks) (b : Below w.heap.size w w') : KeysAt w' A n cap ks :=
  ⟨h.len, h.le, h.cap, h.fits, fun j k hk => by
    obtain ⟨ad, e, f⟩ := h.at_ j k hk
    exact ⟨ad, e, fun W b' => f W (below_tr b b')⟩⟩
theorem KeysAt.cut {w : World} {A : Option Addr} {n cap m : Nat} {ks : List Ky} (h : KeysAt w A n cap ks) (hm : m ≤ n) : KeysAt w A m cap (ks.take m) :=
  ⟨by rw [List.length_take, h.len]; omega, Nat.le_trans hm h.le, h.cap, fun k hk => h.fits k (List.mem_of_mem_take hk), fun j k hk => h.at_ j k (by
    rw [List.getElem?_take] at hk
    split at hk
    · exact hk
    · cases hk)⟩
theorem KeysAt.nil (w : World) : KeysAt w none 0 0 [] := ⟨rfl, Nat.le_refl _, by decide, fun k hk => (by cases hk), fun j k hk => (by simp at hk)⟩

/-- The first j keys are put, each with its place. -/
def ofUp (ks : List Ky) : Nat → List En
  | 0 => []
  | j + 1 => match ks[j]? with
    | some k => putL 60 (ofUp ks j) k (j : Int)
    | none => ofUp ks j
def ofL (ks : List Ky) : List En := ofUp ks (min ks.length 60)

section
variable {K : TreeK} {w W W' : World} {a : Addr} {q room : Nat} {N N' : Nat → Prop} {g g' : Tg} {p p' : Option Addr} {n c n' c' : Nat} {l l' : List En}
theorem Tl6.put0 (h : Tl6 K w W a q room N g p n c l) (b : Below W.heap.size W W') (r : W'.ownsRow w.heap.size 52 3 (.slice p' n' c') n' (l'.flatMap enC)) (o : .slice p n c = Value.slice p' n' c' ∨ W'.ownsRow W.heap.size 52 3 (.slice p' n' c') n' (l'.flatMap enC)) (hl : l'.length = n') (ri : Rises l') (hs : n' ≤ room) :
    Tl6 K w ((W'.setCell ⟨q, 0, none⟩ (.slice p' n' c')).setCell ⟨q, 1, none⟩ (.int .i64 (room : Int))) a q room N g p' n' c' l' := by
  have h2 := h.below b
  have bx := (h2.box.set 0 (.slice p' n' c')).set 1 (.int .i64 (room : Int))
  refine ⟨(h2.own.set6 h.nq h.lq).set6 h.nq h.lq, bx, ⟨?_, ?_⟩, hl, ri, hs, h.nq, h.lq, h.room_⟩
  · have hne := h2.box.not_row r (by decide)
    exact own_set (own_set r hne) hne
  · rcases o with o | o
    · rw [← o]
      exact h.row.off
    · exact OffV.fresh (fun k hk => K.lt h.own.at_ k hk) o
theorem Tl6.r_put0 (h : Tl6 K w W a q room N g p n c l) (k : Ky) (v : Int) : Calls Try.prog 36 #[.agg #[.slice p n c, .int .i64 (room : Int)], kyV k, .int .i64 v] W fun e W' => ∃ p' n' c', e = .returned (.tuple #[.agg #[.slice p' n' c', .int .i64 (room : Int)], .int .i64 (putE room l k : Nat)]) ∧ Below W.heap.size W W' ∧ Tl6 K w ((W'.setCell ⟨q, 0, none⟩ (.slice p' n' c')).setCell ⟨q, 1, none⟩ (.int .i64 (room : Int))) a q room N g p' n' c' (putL room l k v) := by
  refine (ref_put p c n w.heap.size room l k v W h.len h.n6 (by have := h.own.ok.small; have := h.room_; omega) h.ri h.own.lo.size h.row.row).mono ?_
  rintro e W' ⟨p', n', c', rfl, hl, r, b, o⟩
  exact ⟨p', n', c', rfl, b, h.put0 b r o hl (h.ri.putL k v) (by rw [← hl]; exact putL_room k v (by rw [h.len]; exact h.sm))⟩
theorem Tl6.r_drop0 (h : Tl6 K w W a q room N g p n c l) (k : Ky) : Calls Try.prog 22 #[.agg #[.slice p n c, .int .i64 (room : Int)], kyV k] W fun e W' => ∃ p' n' c', e = .returned (.tuple #[.agg #[.slice p' n' c', .int .i64 (room : Int)], .int .i64 ((getL k l).getD 0), .bool (getL k l).isSome]) ∧ Below W.heap.size W W' ∧ Tl6 K w ((W'.setCell ⟨q, 0, none⟩ (.slice p' n' c')).setCell ⟨q, 1, none⟩ (.int .i64 (room : Int))) a q room N g p' n' c' (delL k l) := by
  refine (ref_drop p c n w.heap.size room l k W h.len h.n6 h.ri h.own.lo.size h.row.row).mono ?_
  rintro e W' ⟨p', n', c', rfl, hl, r, b, o⟩
  exact ⟨p', n', c', rfl, b, h.put0 b r o hl (h.ri.delL k) (by rw [← hl]; exact delL_room k (by rw [h.len]; exact h.sm))⟩
end

/-- Ahead of a round of Of. -/
structure OfSt (K : TreeK) (w : World) (ks : List Ky) (rb j : Nat) (wx : World) (a : Addr) (q : Nat) (N : Nat → Prop) (g : Tg) (p : Option Addr) (n c : Nat) : Prop where
  tl : Tl6 K w wx a q 60 N g p n c g.l
  gl : g.l = ofUp ks j
  res : Box wx rb 41 #[.slice none 0 0, .int .i64 0]
  nrb : ¬ N rb
  qrb : rb < q
section
variable {K : TreeK} {w : World} {ks : List Ky} {rb j : Nat} {wx wy : World} {a : Addr} {q : Nat} {N N' : Nat → Prop} {g g' : Tg} {p : Option Addr} {n c : Nat}
theorem OfSt.below (h : OfSt K w ks rb j wx a q N g p n c) (b : Below wx.heap.size wx wy) : OfSt K w ks rb j wy a q N g p n c :=
  ⟨h.tl.below b, h.gl, h.res.below b h.res.lt, h.nrb, h.qrb⟩
end

/-- What Of answers. -/
def OfC (K : TreeK) (w : World) (ks : List Ky) (e : Ending) (w' : World) : Prop :=
  ∃ a N g p n c, e = .returned (.tuple #[.pointer (some a), .agg #[.slice p n c, .int .i64 60]]) ∧ OwnT K w w' a N g ∧ g.room = 60 ∧ g.l = ofL ks ∧ MineT w w' N 52 3 (.slice p n c) n (g.l.flatMap enC) ∧ g.l.length = n

set_option maxRecDepth 100000 in
set_option maxHeartbeats 2000000 in
theorem law_of (K : TreeK) {A : Option Addr} {len cap : Nat} {ks : List Ky} {w : World} (hk : KeysAt w A len cap ks) :
    Calls Try.prog 14 #[.slice A len cap] w (OfC K w ks) := by
  have hlc := hk.le
  have hcap := hk.cap
  obtain ⟨m, Hm⟩ : ∃ m, Hid (min len 60 = m) := ⟨_, Lib.hid rfl⟩
  have hm1 : m ≤ len := by have := Hm.out; omega
  have hm2 : m ≤ 60 := by have := Hm.out; omega
  obtain ⟨W, HW⟩ : ∃ W, Hid (w.alloc (.cells #[.slice none 0 0, .int .i64 0] 41) = W) := ⟨_, Lib.hid rfl⟩
  have b1 : Below w.heap.size w W := by rw [← HW.out]; exact (Below.refl _ w).alloc (Nat.le_refl _) _
  have bR : Box W w.heap.size 41 #[.slice none 0 0, .int .i64 0] := by rw [← HW.out]; exact Box.new _ _ _
  have HN := Lib.hid (OwnT.new_ K w 60 (by omega) (by omega) W b1)
  have HK := Lib.hid hk
  have HB := Lib.hid bR
  clear hk b1 bR
  go_enter Try.func14, Try.ntmps14
  go_upto_region 1 with fail
  rw [HW.out]
  go_upto_region 3 with (go_at_call 8; refine HN.out.mono ?_; rintro e w1 ⟨a, N, rfl, o1, b1, hn1⟩)
  have HS : Hid (OfSt K w ks w.heap.size 0 (w1.alloc (.cells #[.slice none 0 0, .int .i64 60] 41)) a w1.heap.size N ⟨60, .leaf⟩ none 0 0) := by
    have bl := (Below.refl w1.heap.size w1).alloc (Nat.le_refl _) (.cells #[.slice none 0 0, .int .i64 60] 41)
    have hr := HB.out.below b1 HB.out.lt
    refine Lib.hid ⟨⟨o1.below bl, Box.new _ _ _, ⟨World.ownsRow_nil _ _ _ _, fun k _ h => (by cases h)⟩, rfl, List.Pairwise.nil, by omega, fun h => ?_, o1.lo.size, rfl⟩, rfl, hr.below bl hr.lt, fun h => ?_, hr.lt⟩
    · have := K.lt o1.at_ _ h
      omega
    · have h1 := hn1 _ h
      have h2 := HB.out.lt
      omega
  obtain ⟨W1, HW1⟩ : ∃ W1, Hid (w1.alloc (.cells #[.slice none 0 0, .int .i64 60] 41) = W1) := ⟨_, Lib.hid rfl⟩
  rw [HW1.out] at HS ⊢
  obtain ⟨q, HQ⟩ : ∃ q, Hid (w1.heap.size = q) := ⟨_, Lib.hid rfl⟩
  rw [HQ.out] at HS ⊢
  obtain ⟨rb, HRB⟩ : ∃ rb, Hid (w.heap.size = rb) := ⟨_, Lib.hid rfl⟩
  rw [HRB.out] at HS ⊢
  clear o1 b1 hn1 HB HN HW HW1 HQ
  go_cut [18, 19, 20] (fun s l i wx => s = .slice A m cap ∧ l = .int .i64 (m : Int) ∧ i = .int .i64 0 ∧ wx = W1)
  case first =>
    by_cases h60 : 60 < len
    · have h60z : (60 : Int) < (len : Int) := by omega
      obtain rfl : m = 60 := by have := Hm.out; omega
      go_wp2_with fail
      go_meet
      exact ⟨rfl, rfl, rfl, rfl⟩
    · have h60z : ¬ (60 : Int) < (len : Int) := by omega
      obtain rfl : m = len := by have := Hm.out; omega
      go_wp2_with fail
      go_meet
      exact ⟨rfl, rfl, rfl, rfl⟩
  case rest =>
    obtain ⟨rfl, rfl, rfl, rfl⟩ := hcut
    go_wp2_with fail
    go_loopg [20] m (fun k i wx => ∃ (j : Nat) (N : Nat → Prop) (g : Tg) (p : Option Addr) (n c : Nat), m - j = k ∧ j ≤ m ∧ i = .int .i64 (j : Int) ∧ Hid (OfSt K w ks rb j wx a q N g p n c))
    case atStart => exact ⟨0, N, _, none, 0, 0, rfl, by omega, rfl, HS⟩
    case round =>
      clear HS
      obtain ⟨j, N, g, p, n, c, rfl, hj, rfl, HS⟩ := hrel
      by_cases h0 : j = m
      · have h0z : ¬ (j : Int) < (m : Int) := by omega
        subst h0
        have hq := HS.out.tl.box
        have q0 := hq.cell 0
        have q1 := hq.cell 1
        have z0 := HS.out.res.cell 0
        have z1 := HS.out.res.cell 1
        have f0 := HS.out.res.frozen 0
        have f1 := HS.out.res.frozen 1
        have bz := (HS.out.res.set 0 (.slice p n c)).set 1 (.int .i64 60)
        have y0 := bz.cell 0
        have y1 := bz.cell 1
        simp at y0 y1
        clear bz hq
        go_wp2_with fail
        go_region
        go_wp2_with fail
        refine bodyPost_ret (v := .tuple #[.pointer (some a), .agg #[.slice p n c, .int .i64 60]]) ?_ rfl ?_
        · simp [results, Try.f14, go_sem, y0, y1]
        · have hs := HS.out
          have hrl : w.heap.size ≤ rb := by rw [HRB.out]; exact Nat.le_refl _
          have hnr := hs.res.not_row hs.tl.row.row (by decide)
          have bd : Below ((wr.setCell ⟨rb, 0, none⟩ (.slice p n c)).setCell ⟨rb, 1, none⟩ (.int .i64 60)).heap.size ((wr.setCell ⟨rb, 0, none⟩ (.slice p n c)).setCell ⟨rb, 1, none⟩ (.int .i64 60)) ((wr.setCell ⟨rb, 0, none⟩ (.slice p n c)).setCell ⟨rb, 1, none⟩ (.int .i64 60)).drew := (Below.refl _ _).drew
          refine ⟨a, N, g, p, n, c, rfl, ((hs.tl.own.set6 hs.nrb hrl).set6 hs.nrb hrl).below bd, hs.tl.room_, ?_, ?_, hs.tl.len⟩
          · rw [hs.gl]
            unfold ofL
            rw [HK.out.len, Hm.out]
          · exact MineT.below ⟨own_set (own_set hs.tl.row.row hnr) hnr, hs.tl.row.off⟩ bd
      · have hjl : j < m := by omega
        have hjz : (j : Int) < (m : Int) := by omega
        obtain ⟨k, hk⟩ : ∃ k, ks[j]? = some k := ⟨_, List.getElem?_eq_getElem (by rw [HK.out.len]; omega)⟩
        have hkf := HK.out.fits k (List.mem_of_getElem? hk)
        obtain ⟨ad, rfl, hc⟩ := HK.out.at_ j k hk
        obtain ⟨c0, c1⟩ := hc wr HS.out.tl.own.lo
        have bl := (Below.refl wr.heap.size wr).alloc (Nat.le_refl _) (.cells #[.int .u64 (k.at_ : Int), .int .u64 (k.seq : Int)] 27)
        have bK := Box.new wr 27 #[.int .u64 (k.at_ : Int), .int .u64 (k.seq : Int)]
        have HS1 := Lib.hid (HS.out.below bl)
        have nK : ¬ N wr.heap.size := fun h => by have := K.lt HS.out.tl.own.at_ _ h; omega
        obtain ⟨W2, HW2⟩ : ∃ W2, Hid (wr.alloc (.cells #[.int .u64 (k.at_ : Int), .int .u64 (k.seq : Int)] 27) = W2) := ⟨_, Lib.hid rfl⟩
        rw [HW2.out] at HS1 bK
        obtain ⟨kb, HKB⟩ : ∃ kb, Hid (wr.heap.size = kb) := ⟨_, Lib.hid rfl⟩
        rw [HKB.out] at bK nK
        have k0 := bK.cell 0
        have k1 := bK.cell 1
        have HP := Lib.hid (HS1.out.tl.own.put k (j : Int) hkf (i64_nat (by omega)))
        have HKk := Lib.hid (And.intro hk (And.intro bK nK))
        unfold kyV at HP
        clear hk hkf hc bl bK nK HS h0
        go_upto_region 6 with fail
        rw [HW2.out, HKB.out]
        clear c0 c1 HW2
        go_wp2_with (first
          | (go_at_call 9; refine HP.out.mono ?_; rintro e W3 ⟨rfl, N3, g3, e1, e2, o3, s3⟩; clear k0 k1; obtain ⟨hk, bK, nK⟩ := HKk.out; obtain ⟨nK3, bK3⟩ := step_box nK bK s3; have tl3 := HS1.out.tl.step o3 e1 s3; have k0 := bK3.cell 0; have k1 := bK3.cell 1; have q0 := tl3.box.cell 0; have q1 := tl3.box.cell 1; have HR := Lib.hid (tl3.r_put0 k (j : Int)); unfold kyV at HR; obtain ⟨nR3, bR3⟩ := step_box HS1.out.nrb HS1.out.res s3; have H3 := Lib.hid (And.intro e1 (And.intro e2 (And.intro tl3 (And.intro nR3 bR3)))); clear hk bK nK nK3 bK3 tl3 nR3 bR3 e1 e2 o3 s3 HP)
          | (go_at_call 36; refine HR.out.mono ?_; rintro e W4 ⟨p4, n4, c4, rfl, b4, tl4⟩; clear k0 k1 q0 q1; have bq := H3.out.2.2.1.box.below b4 H3.out.2.2.1.box.lt; have q0 := bq.cell 0; have q1 := bq.cell 1; have f0 := bq.frozen 0; have f1 := bq.frozen 1; have HT4 := Lib.hid (And.intro b4 tl4); clear bq b4 tl4 HR))
        go_roundg (m - (j + 1))
        case measure => omega
        case rel =>
          obtain ⟨b4, tl4⟩ := HT4.out
          obtain ⟨e1, e2, tl3, nR3, bR3⟩ := H3.out
          have hg := HS1.out
          have hgl : g3.l = putL 60 g.l k (j : Int) := by rw [e2, hg.tl.room_]
          have hne : rb ≠ q := by have := hg.qrb; omega
          have bR4 := ((bR3.below b4 bR3.lt).other (c := q) (i := 0) hne (.slice p4 n4 c4)).other (c := q) (i := 1) hne (.int .i64 60)
          refine ⟨j + 1, N3, g3, p4, n4, c4, rfl, by omega, by go_num, Lib.hid ⟨?_, ?_, bR4, nR3, hg.qrb⟩⟩
          · rw [hgl]
            exact tl4
          · rw [hgl, hg.gl]
            show _ = (match ks[j]? with
              | some k => putL 60 (ofUp ks j) k (j : Int)
              | none => ofUp ks j)
            rw [HKk.out.1]

end Go.Proofs.Ytfedjeojanpnpab
