/-
  WalkTake's walk.
-/
import Derived.Test.YtfedjeojanpnpabWalkTakeRow
import Derived.Test.YtfedjeojanpnpabBytes
namespace Go.Proofs.Ytfedjeojanpnpab
open Go.RowKit
set_option linter.unusedVariables false
set_option linter.unusedSimpArgs false

theorem wpList_append_any' {P : Program} (w : World) {ops : Array Oper} {rest : List Oper} {o : Oper} {a : Act} {Q : Exit → Act → World → Prop} (hgd : o.guard = none) (s x : Operand) (t : TypeId)
    (ho : o.op = .call { callee := .builtin .append, args := #[s, x], argTypes := #[t, t] })
    (base : Nat) (e : TypeId) (i : TypeInfo) (z : Value) (size bytes : Nat) (ht : P.underlying t = some (.slice e)) (hi : P.info? e = some i) (hz : i.zero = some z)
    (hsize : i.size = size) (hby : i.bytes = bytes) (hzs : z.cells.size = size) (hsz : 0 < size)
    (v : Value) (n : Nat) (xs : List Value) (hs : a.eval s = v) (hown : w.ownsRow base e size v n xs)
    (b0 : Nat) (v2 : Value) (m : Nat) (news : List Value) (hx : a.eval x = v2) (hsrc : w.ownsRow b0 e size v2 m news) (h1 : ∀ u ∈ news, u.oneCell' = true)
    (N : Nat) (hN : n + m = N) (h63 : N ≤ 1000000) (hb : bytes ≤ 1000) (hbase : base ≤ w.heap.size)
    (h : ∀ p' c' w', w'.ownsRow base e size (.slice p' N c') N (xs ++ news) → w.grownBy w' v.ownBlock → ((Value.slice p' N c').ownBlock = v.ownBlock ∨ (Value.slice p' N c').ownBlock = some w.heap.size) → wpList P ops Q rest (a.put o.dst (.slice p' N c')) w') : wpList P ops Q (o :: rest) a w := by
  subst hN
  refine wpList_append_any w hgd s x t ho base e i z size bytes ht hi hz hsize hby hzs hsz v n xs hs hown b0 v2 m news hx hsrc h1 (by unfold maxLen; omega) ?_ hbase h
  exact Nat.le_trans (Nat.mul_le_mul h63 hb) (by decide)
theorem step_append_anyW {P : Program} {w : World} {ops : Array Oper} {o : Oper} {a : Act} {K : Act → World → Prop} {Q : Exit → Act → World → Prop} {E : Prop} (hw : Region.wanted o (yielded ops a.tmps) = true) (s x : Operand) (t : TypeId)
    (ho : o.op = .call { callee := .builtin .append, args := #[s, x], argTypes := #[t, t] })
    (base : Nat) (e : TypeId) (i : TypeInfo) (z : Value) (size bytes : Nat) (ht : P.underlying t = some (.slice e)) (hi : P.info? e = some i) (hz : i.zero = some z)
    (hsize : i.size = size) (hby : i.bytes = bytes) (hzs : z.cells.size = size) (hsz : 0 < size)
    (v : Value) (n : Nat) (xs : List Value) (hs : a.eval s = v) (hown : w.ownsRow base e size v n xs)
    (b0 : Nat) (v2 : Value) (m : Nat) (news : List Value) (hx : a.eval x = v2) (hsrc : w.ownsRow b0 e size v2 m news) (h1 : ∀ u ∈ news, u.oneCell' = true)
    (N : Nat) (hN : n + m = N) (h63 : N ≤ maxLen) (hbytes : N * bytes ≤ 140737488355328) (hbase : base ≤ w.heap.size)
    (h : ∀ p' c' w', w'.ownsRow base e size (.slice p' N c') N (xs ++ news) → w.grownBy w' v.ownBlock → ((Value.slice p' N c').ownBlock = v.ownBlock ∨ (Value.slice p' N c').ownBlock = some w.heap.size) → K (a.put o.dst (.slice p' N c')) w') :
    if Region.wanted o (yielded ops a.tmps) = true then Oper.wp P o a w K Q else E := by
  subst hN
  rw [if_pos hw]
  rcases hsrc.2 with ⟨rfl, rfl⟩ | ⟨g, cap, cur, rfl, _⟩
  · have hn : news = [] := List.length_eq_zero_iff.1 (by rw [hsrc.1, Nat.zero_mul])
    subst hn
    obtain ⟨p, c, rfl⟩ := owns_slice hown
    have hrun := run_append_owned_none (P := P) (w := w) base t o.type e i size ht hi _ n xs hown
    unfold Oper.wp
    simp [execOp, ho, resolve, invoke, builtin, hs, hx, hrun, Result.andThen]
    refine h p c w ?_ (World.grownBy.refl w _) (.inl rfl)
    rw [Nat.add_zero, List.append_nil]
    exact hown
  · obtain ⟨v', w', hrun, a1, a2, _, a3⟩ := run_append_own_at (P := P) w base t o.type e i z size bytes ht hi hz hsize hby hzs hsz v n xs hown ⟨g, 0, none⟩ m cap news hsrc.1 (hsrc.cells rfl) h1 h63 hbytes hbase
    obtain ⟨p', c', rfl⟩ := owns_slice a1
    unfold Oper.wp
    simp [execOp, ho, resolve, invoke, builtin, hs, hx, hrun, Result.andThen]
    exact h p' c' w' a1 a2 a3
/-- append behind '||': the operation is wanted. -/
theorem wpList_append_w {P : Program} (w : World) {ops : Array Oper} {rest : List Oper} {o : Oper} {a : Act} {Q : Exit → Act → World → Prop} (hw : Region.wanted o (yielded ops a.tmps) = true) (s x : Operand) (t : TypeId)
    (ho : o.op = .call { callee := .builtin .append, args := #[s, x], argTypes := #[t, t] })
    (base : Nat) (e : TypeId) (i : TypeInfo) (z : Value) (size bytes : Nat) (ht : P.underlying t = some (.slice e)) (hi : P.info? e = some i) (hz : i.zero = some z)
    (hsize : i.size = size) (hby : i.bytes = bytes) (hzs : z.cells.size = size) (hsz : 0 < size)
    (v : Value) (n : Nat) (xs : List Value) (hs : a.eval s = v) (hown : w.ownsRow base e size v n xs)
    (b0 : Nat) (v2 : Value) (m : Nat) (news : List Value) (hx : a.eval x = v2) (hsrc : w.ownsRow b0 e size v2 m news) (h1 : ∀ u ∈ news, u.oneCell' = true)
    (N : Nat) (hN : n + m = N) (h63 : N ≤ 1000000) (hb : bytes ≤ 1000) (hbase : base ≤ w.heap.size)
    (h : ∀ p' c' w', w'.ownsRow base e size (.slice p' N c') N (xs ++ news) → w.grownBy w' v.ownBlock → ((Value.slice p' N c').ownBlock = v.ownBlock ∨ (Value.slice p' N c').ownBlock = some w.heap.size) → wpList P ops Q rest (a.put o.dst (.slice p' N c')) w') : wpList P ops Q (o :: rest) a w := by
  refine wpList_step fun K hK => ?_
  have hbytes : N * bytes ≤ 140737488355328 := Nat.le_trans (Nat.mul_le_mul h63 hb) (by decide)
  refine step_append_anyW hw s x t ho base e i z size bytes ht hi hz hsize hby hzs hsz v n xs hs hown b0 v2 m news hx hsrc h1 N hN (by unfold maxLen; omega) hbytes hbase fun p' c' w' k1 k2 k3 => hK _ _ (h p' c' w' k1 k2 k3)
/-- The bytes of the law's own row. -/
def ByteRow (cs : Array Value) (m : Nat) : Prop := ∀ j, j < m + 1 → ∃ x : Nat, x < 256 ∧ (j = m → x = 60) ∧ cs[j]? = some (.int .u8 (x : Int))
theorem byteRow {W : World} {base m c : Nat} {p : Option Addr} {bs : List Nat} (h : W.ownsRow base 5 1 (.slice p (m + 1) c) (m + 1) ((bs.map b8V) ++ [.int .u8 60])) (hb : ∀ x, x ∈ bs → x < 256) :
    ∃ g cs, p = some ⟨g, 0, none⟩ ∧ base ≤ g ∧ Box W g 5 cs ∧ m + 1 ≤ c ∧ c ≤ 9223372036854775807 ∧ ByteRow cs m := by
  rcases h.2 with ⟨e', _⟩ | ⟨g, cap, cur, e', h2, h3, h4, h5, h6, h7⟩
  · cases e'
  · cases e'
    have hl := h.1
    rw [List.length_append, List.length_map] at hl
    simp only [List.length_cons, List.length_nil] at hl
    have hbl : bs.length = m := by omega
    refine ⟨g, cur, rfl, h2, h3, h4, h5, fun j hj => ?_⟩
    have hc : cur[j]? = ((bs.map b8V) ++ [Value.int .u8 60])[j]? := by
      rw [← h7, List.getElem?_take, if_pos (by omega), Array.getElem?_toList]
    rw [hc]
    by_cases hjm : j = m
    · subst hjm
      refine ⟨60, by decide, fun _ => rfl, ?_⟩
      rw [List.getElem?_append_right (by rw [List.length_map]; omega), List.length_map, hbl, Nat.sub_self]
      rfl
    · have hj2 : j < bs.length := by omega
      refine ⟨(bs[j] : Nat), hb _ (List.getElem_mem hj2), fun h => absurd h hjm, ?_⟩
      rw [List.getElem?_append_left (by rw [List.length_map]; omega), List.getElem?_map, List.getElem?_eq_getElem hj2]
      rfl

set_option maxHeartbeats 8000000 in
set_option maxRecDepth 100000 in
theorem walkTake_core (K : TreeK) {A B : Option Addr} {len cap blen bcap : Nat} {ks : List Ky} {bs : List Nat} (t : Nat) (ht : t < 18446744073709551616) (w : World) (hks : KeysAt w A len cap ks) (hbs : BytesAt w B blen bcap bs)
    (HA : Hid (∀ w : World, Calls Try.prog 23 #[] w fun e w' => e = .returned (.bool true) ∧ Below w.heap.size w w')) :
    Calls Try.prog 6 #[.slice A len cap, .int .u64 (t : Int), .slice B blen bcap] w fun e w' => e = .returned (.bool true) ∧ Below w.heap.size w w' := by
  have hlb := hbs.le
  have hcb := hbs.capLe
  have HBs := Lib.hid hbs
  have R0 : Hid (Calls Try.prog 14 #[.slice A len cap] w fun e W' => ∃ a p c, e = .returned (.tuple #[.pointer (some a), .agg #[.slice p (ofL ks).length c, .int .i64 60]]) ∧ Hid (St K w W' a (ofL ks) [] [])) := by
    refine Lib.hid ((law_of K hks).mono ?_)
    rintro e W' h
    obtain ⟨a, p, c, rfl, s⟩ := st_of (Below.refl _ _) h
    exact ⟨a, p, c, rfl, Lib.hid (s.forget (fun b hb => hb) (fun r hr => (by cases hr)))⟩
  obtain ⟨L, HL⟩ : ∃ L, Hid (ofL ks = L) := ⟨_, Lib.hid rfl⟩
  rw [HL.out] at R0
  clear hks hbs HL
  go_enter Try.func6, Try.ntmps6
  go_upto_region 2 with (go_at_call 14; refine R0.out.mono ?_; rintro e W1 ⟨a, p, c, rfl, s⟩; have s2 := Lib.hid (s.out.below ((Below.refl _ _).alloc (Nat.le_refl _) (.cells #[.slice p L.length c, .int .i64 60] 41))))
  obtain ⟨W2, HW2⟩ : ∃ W2, Hid (W1.alloc (.cells #[.slice p L.length c, .int .i64 60] 41) = W2) := ⟨_, Lib.hid rfl⟩
  rw [HW2.out] at s2 ⊢
  clear s R0 HW2
  obtain ⟨nw, HNW⟩ : ∃ nw, Hid (L.length = nw) := ⟨_, Lib.hid rfl⟩
  have hnw : nw ≤ 60 := by rw [← HNW.out]; exact s2.out.len
  have HRi := Lib.hid s2.out.rises
  have RA := Lib.hid s2.out.all
  rw [HNW.out] at RA ⊢
  go_upto_region 3 with (go_at_call 11; refine RA.out.mono ?_; rintro e W3 ⟨pw, cw, rfl, s3⟩)
  have RU := Lib.hid (s3.upto t ht 60)
  have hU : (uptoL t L).take (60 : Int).toNat = uptoL t L := List.take_of_length_le (by have := List.length_filter_le (fun e : En => decide (e.key.at_ ≤ t)) L; unfold uptoL; rw [HNW.out] at this; have : (60 : Int).toNat = 60 := rfl; omega)
  rw [hU] at RU
  obtain ⟨U, HU⟩ : ∃ U, Hid (uptoL t L = U) := ⟨_, Lib.hid rfl⟩
  rw [HU.out] at RU
  obtain ⟨nu, HNU⟩ : ∃ nu, Hid (U.length = nu) := ⟨_, Lib.hid rfl⟩
  rw [HNU.out] at RU
  clear RA s2 hU
  go_upto_region 4 with (go_at_call 19; refine RU.out.mono ?_; rintro e W4 ⟨pu, cu, rfl, s4⟩)
  have S4 := Lib.hid s4
  clear s3 s4 RU
  obtain ⟨m, Hm⟩ : ∃ m, Hid (min blen 30 = m) := ⟨_, Lib.hid rfl⟩
  have hm1 : m ≤ blen := by have := Hm.out; omega
  have hm2 : m ≤ 30 := by have := Hm.out; omega
  obtain ⟨i0, hi, hz0, hz1, hz2⟩ := info_parts (P := Try.prog) (e := 5) (z := .int .u8 0) (size := 1) (bytes := 1) (by kernel_rfl)
  have HI := Lib.hid (And.intro hi (And.intro hz0 (And.intro hz1 hz2)))
  clear hi hz0 hz1 hz2
  have HB4 := Lib.hid (HBs.out.later S4.out.lo)
  go_upto_region 5 with fail
  go_cut [36, 37, 38] (fun v36 v37 v38 wx => ∃ (g c : Nat) (cs : Array Value), v36 = .slice (some ⟨g, 0, none⟩) (m + 1) c ∧ m + 1 ≤ c ∧ c ≤ 9223372036854775807 ∧ v37 = .int .i64 ((m : Int) + 1) ∧ v38 = .int .i64 0 ∧ Hid (ByteRow cs m) ∧ Hid (St K w wx a L [(g, 5, cs)] [(.slice pu nu cu, U), (.slice pw nw cw, L)]))
  case first =>
    by_cases h30 : 30 < blen
    · have h30z : (30 : Int) < (blen : Int) := by omega
      obtain rfl : m = 30 := by have := Hm.out; omega
      go_wp2_with (first
      | (at_builtin; refine wpList_append_bytes _ rfl (.tmp 28) (.tmp 33) 23 rfl W4.heap.size 5 i0 (.int .u8 0) Try.underlying23 HI.out.1 HI.out.2.1 HI.out.2.2.1 HI.out.2.2.2 rfl _ 0 [] rfl (lit_empty (e := 5) W4 W4.heap.size (Nat.le_refl _)) (HB4.out.later ((Below.refl _ W4).alloc (Nat.le_refl _) _)) 30 hm1 rfl 30 rfl (by omega) (by simp) ?_; intro p5 c5 w5 own5 gr5 lc5; have b5 := Lib.hid (((Below.refl _ W4).alloc (Nat.le_refl _) (.cells #[] 5)).grown gr5 (by simp) (fun k e => by cases e; exact Nat.le_refl _)); have own5 := Lib.hid own5; clear gr5 lc5)
      | (at_builtin; refine wpList_append_any' _ rfl (.tmp 34) (.tmp 35) 23 rfl W4.heap.size 5 i0 (.int .u8 0) 1 1 Try.underlying23 HI.out.1 HI.out.2.1 HI.out.2.2.1 HI.out.2.2.2 rfl (by decide) _ 30 _ rfl (own5.out.alloc (.cells #[.int .u8 60] 5)) 0 _ 1 [.int .u8 60] rfl (lit_one (e := 5) w5 (.int .u8 60)) (by simp [Value.oneCell']) 31 rfl (by omega) (by decide) (by have := b5.out.size; simp; omega) ?_; intro p6 c6 w6 own6 gr6 lc6; have b6 := Lib.hid ((b5.out.alloc b5.out.size (.cells #[.int .u8 60] 5)).grown gr6 (by have := b5.out.size; simp; omega) (fun k e => (own5.out.lt k e).1)); have own6 := Lib.hid own6; clear gr6 lc6))
      obtain ⟨g, cs, rfl, hg, hbx, hc1, hc2, hB⟩ := byteRow own6.out (fun x hx => HBs.out.lt x (List.mem_of_mem_take hx))
      go_meet
      exact ⟨g, c6, cs, rfl, hc1, hc2, by simp, rfl, Lib.hid hB, Lib.hid (S4.out.boxed b6.out hbx hg)⟩
    · have h30z : ¬ (30 : Int) < (blen : Int) := by omega
      obtain rfl : m = blen := by have := Hm.out; omega
      go_wp2_with (first
      | (at_builtin; refine wpList_append_bytes _ rfl (.tmp 28) (.tmp 33) 23 rfl W4.heap.size 5 i0 (.int .u8 0) Try.underlying23 HI.out.1 HI.out.2.1 HI.out.2.2.1 HI.out.2.2.2 rfl _ 0 [] rfl (lit_empty (e := 5) W4 W4.heap.size (Nat.le_refl _)) (HB4.out.later ((Below.refl _ W4).alloc (Nat.le_refl _) _)) m hm1 rfl m (Nat.zero_add m) (by omega) (by simp) ?_; intro p5 c5 w5 own5 gr5 lc5; have b5 := Lib.hid (((Below.refl _ W4).alloc (Nat.le_refl _) (.cells #[] 5)).grown gr5 (by simp) (fun k e => by cases e; exact Nat.le_refl _)); have own5 := Lib.hid own5; clear gr5 lc5)
      | (at_builtin; refine wpList_append_any' _ rfl (.tmp 34) (.tmp 35) 23 rfl W4.heap.size 5 i0 (.int .u8 0) 1 1 Try.underlying23 HI.out.1 HI.out.2.1 HI.out.2.2.1 HI.out.2.2.2 rfl (by decide) _ m _ rfl (own5.out.alloc (.cells #[.int .u8 60] 5)) 0 _ 1 [.int .u8 60] rfl (lit_one (e := 5) w5 (.int .u8 60)) (by simp [Value.oneCell']) (m + 1) rfl (by omega) (by decide) (by have := b5.out.size; simp; omega) ?_; intro p6 c6 w6 own6 gr6 lc6; have b6 := Lib.hid ((b5.out.alloc b5.out.size (.cells #[.int .u8 60] 5)).grown gr6 (by have := b5.out.size; simp; omega) (fun k e => (own5.out.lt k e).1)); have own6 := Lib.hid own6; clear gr6 lc6))
      obtain ⟨g, cs, rfl, hg, hbx, hc1, hc2, hB⟩ := byteRow own6.out (fun x hx => HBs.out.lt x (List.mem_of_mem_take hx))
      go_meet
      exact ⟨g, c6, cs, rfl, hc1, hc2, by simp, rfl, Lib.hid hB, Lib.hid (S4.out.boxed b6.out hbx hg)⟩
  case rest =>
    obtain ⟨g, cb, cs, rfl, hc1, hc2, rfl, rfl, HBy, S5⟩ := hcut
    clear HBs HB4 HI S4 hlb hcb hm1 Hm
    have hc3 : m + 1 ≤ 31 := by omega
    have HS0 := Lib.hid S5.out.nilrow
    have HT0 : Hid (Taken t L [] L ∧ Apart [(g, 5, cs)] [(.slice pu nu cu, U), (.slice pw nw cw, L)] (.slice none 0 0)) := Lib.hid ⟨Taken.start t L, Apart.none _ _⟩
    obtain ⟨inf, hi1, hi2, hi3, hi4⟩ := info_parts (P := Try.prog) (e := 52) (z := .agg #[.int .u64 0, .int .u64 0, .int .i64 0]) (size := 3) (bytes := 24) (by kernel_rfl)
    have HI := Lib.hid (And.intro hi1 (And.intro hi2 (And.intro hi3 hi4)))
    clear S5 hi1 hi2 hi3 hi4
    have hloop0 : Hid ((0 : Nat) = m + 1 → ([] : List En) = U ∧ ∀ e, e ∈ L → ¬ e.key.at_ ≤ t) := Lib.hid (fun h => by omega)
    go_upto_block 0 with fail
    go_wp2_with fail
    go_loopg [11, 38] (m + 1) (fun s v11 v38 wx => ∃ (j n c : Nat) (l G : List En) (p : Option Addr), j + s = m + 1 ∧ v11 = .slice p n c ∧ v38 = .int .i64 (j : Int) ∧ n ≤ 60 ∧ Hid (G.length = n) ∧ Hid (St K w wx a l [(g, 5, cs)] [(.slice p n c, G), (.slice pu nu cu, U), (.slice pw nw cw, L)]) ∧ Hid (Taken t L G l ∧ Apart [(g, 5, cs)] [(.slice pu nu cu, U), (.slice pw nw cw, L)] (.slice p n c)) ∧ Hid (j = m + 1 → G = U ∧ ∀ e, e ∈ l → ¬ e.key.at_ ≤ t))
    case atStart => exact ⟨0, 0, 0, L, [], none, by omega, rfl, rfl, by omega, Lib.hid rfl, HS0, HT0, hloop0⟩
    case round =>
      obtain ⟨j, n, c, l, G, p, hjs, rfl, rfl, hn, HG, HS, HT, HF⟩ := hrel
      clear HS0 HT0 hloop0
      by_cases hj : j = m + 1
      · subst hj
        have hjz : ¬ ((m + 1 : Nat) : Int) < (m : Int) + 1 := by omega
        obtain ⟨nl, HNL⟩ : ∃ nl, Hid (l.length = nl) := ⟨_, Lib.hid rfl⟩
        have hall := congrArg List.length HT.out.1.all
        rw [List.length_append, HG.out, HNL.out, HNW.out] at hall
        have RAl := Lib.hid HS.out.all
        rw [HNL.out] at RAl
        go_upto_region 14 with (go_at_call 11; refine RAl.out.mono ?_; rintro e V ⟨pl, cl, rfl, sl⟩)
        have S14 := Lib.hid sl
        clear sl RAl HS
        have KS := Lib.hid (S14.out.same (r1 := (.slice p n c, G)) (r2 := (.slice pu nu cu, U)) (by simp) (by simp))
        have hGU : decide (G = U) = true := decide_eq_true (HF.out (by trivial)).1
        simp only [hGU] at KS
        have hsub : IntKind.i64.wrap ((nw : Int) - (n : Int)) = (nl : Int) := by rw [IntKind.wrap_i64]; omega
        have Hall := Lib.hid hall
        clear hGU hall
        go_wp2_with fail
        refine KS.out.mono ?_
        rintro e V2 ⟨rfl, s15⟩
        have S15 := Lib.hid s15
        clear s15 KS S14
        have A0 : Hid ((V2.alloc (.cells #[] 52)).ownsRow w.heap.size 52 3 (.slice p n c) n (G.flatMap enC)) := Lib.hid (by
          have h := S15.out.row (r := (.slice p n c, G)) (by simp)
          simp only [HG.out] at h
          exact h.alloc _)
        have A1 : Hid (∀ (p8 : Option Addr) (c8 : Nat) (w8 : World), w8.ownsRow V2.heap.size 52 3 (.slice p8 n c8) n ([] ++ G.flatMap enC) → (V2.alloc (.cells #[] 52)).grownBy w8 (Value.slice (some ⟨V2.heap.size, 0, none⟩) 0 0).ownBlock → Below V2.heap.size V2 w8 ∧ w8.ownsRow w.heap.size 52 3 (.slice pl nl cl) nl (l.flatMap enC)) := Lib.hid fun p8 c8 w8 o8 g8 => by
          have b8 : Below V2.heap.size V2 w8 := ((Below.refl _ V2).alloc (Nat.le_refl _) (.cells #[] 52)).grown g8 (by simp) (fun k e => by cases e; exact Nat.le_refl _)
          have h := (S15.out.below b8).row (r := (.slice pl nl cl, l)) (by simp)
          simp only [HNL.out] at h
          exact ⟨b8, h⟩
        have A2 : Hid (∀ (p8 : Option Addr) (c8 : Nat) (w8 : World) (p9 : Option Addr) (c9 : Nat) (w9 : World), w8.ownsRow V2.heap.size 52 3 (.slice p8 n c8) n ([] ++ G.flatMap enC) → Below V2.heap.size V2 w8 → w9.ownsRow V2.heap.size 52 3 (.slice p9 nw c9) nw (([] ++ G.flatMap enC) ++ l.flatMap enC) → w8.grownBy w9 (Value.slice p8 n c8).ownBlock → Calls Try.prog 12 #[.slice p9 nw c9, .slice pw nw cw] w9 fun e w' => e = .returned (.bool true) ∧ Hid (St K w w' a l [] [(.slice pl nl cl, l)])) := Lib.hid fun p8 c8 w8 p9 c9 w9 o8 b8 o9 g9 => by
          have b9 : Below V2.heap.size V2 w9 := b8.grown g9 b8.size (fun k e => (o8.lt k e).1)
          rw [List.nil_append, ← List.flatMap_append, HT.out.1.all] at o9
          have s9 := S15.out.fresh b9 o9 HNW.out (by omega)
          refine (s9.same (r1 := (.slice p9 nw c9, L)) (r2 := (.slice pw nw cw, L)) (by simp) (by simp)).mono ?_
          rintro e w' ⟨rfl, s⟩
          exact ⟨by simp, Lib.hid (s.forget (by simp) (by simp))⟩
        have hV2 := S15.out.lo.size
        have hnl60 : n + nl ≤ 60 := by have := Hall.out; omega
        have hnlw : n + nl = nw := Hall.out
        go_wp2_with (first
          | (at_builtin; refine wpList_append_w _ (by rfl) (.tmp 73) (.tmp 74) 35 rfl V2.heap.size 52 inf (.agg #[.int .u64 0, .int .u64 0, .int .i64 0]) 3 24 Try.underlying35 HI.out.1 HI.out.2.1 HI.out.2.2.1 HI.out.2.2.2 rfl (by decide) _ 0 [] rfl (lit_empty3 (e := 52) V2 V2.heap.size (Nat.le_refl _)) w.heap.size (.slice p n c) n (G.flatMap enC) rfl A0.out (one_cells G) n (Nat.zero_add n) (by omega) (by decide) (by simp) ?_; intro p8 c8 w8 own8 gr8 lc8; have B8 := Lib.hid (A1.out p8 c8 w8 own8 gr8); have O8 := Lib.hid own8; have hs8 := B8.out.1.size; clear own8 gr8 lc8)
          | (at_builtin; refine wpList_append_w _ (by rfl) (.tmp 75) (.tmp 76) 35 rfl V2.heap.size 52 inf (.agg #[.int .u64 0, .int .u64 0, .int .i64 0]) 3 24 Try.underlying35 HI.out.1 HI.out.2.1 HI.out.2.2.1 HI.out.2.2.2 rfl (by decide) (.slice p8 n c8) n _ rfl O8.out w.heap.size (.slice pl nl cl) nl (l.flatMap enC) rfl B8.out.2 (one_cells l) nw hnlw (by omega) (by decide) hs8 ?_; intro p9 c9 w9 own9 gr9 lc9; have K9 := Lib.hid (A2.out p8 c8 w8 p9 c9 w9 O8.out B8.out.1 own9 gr9); clear own9 gr9 lc9)
          | (go_at_call 12; refine K9.out.mono ?_; rintro e V3 ⟨rfl, s16⟩; clear K9))
        go_loopg [84] nl (fun s v84 wx => ∃ i : Nat, i + s = nl ∧ v84 = .int .i64 (i : Int) ∧ Hid (St K w wx a l [] [(.slice pl nl cl, l)]))
        case atStart => exact ⟨0, by omega, rfl, s16⟩
        case round =>
          obtain ⟨i, his, rfl, HSi⟩ := hrel
          clear s16
          by_cases hi : i = nl
          · have hiz : ¬ (i : Int) < (nl : Int) := by omega
            go_wp2_with fail
            refine (HA.out _).mono ?_
            rintro e w99 ⟨rfl, b99⟩
            have HB := Lib.hid (below_tr HSi.out.lo b99)
            clear b99
            go_wp2_with fail
            go_ret
            exact ⟨rfl, HB.out⟩
          · have hiz : (i : Int) < (nl : Int) := by omega
            have hil : i < l.length := by rw [HNL.out]; omega
            obtain ⟨gl, hgl, _, x0, x1, x2⟩ := en_cells (p := pl) (c := cl) (l := l) (n := nl) (i := i) (HSi.out.row (r := (.slice pl nl cl, l)) (by simp)) hil
            subst hgl
            have hnot := (HF.out (by trivial)).2 _ (List.getElem_mem hil)
            obtain ⟨z, HZ⟩ : ∃ z, Hid (l[i]'hil = z) := ⟨_, Lib.hid rfl⟩
            rw [HZ.out] at x0 x1 x2 hnot
            have hnz : ¬ (z.key.at_ : Int) ≤ (t : Int) := by omega
            have s8 := Lib.hid ((HSi.out.alloc #[.int .u64 (z.key.at_ : Int), .int .u64 (z.key.seq : Int), .int .i64 z.val] 52).forget (bx' := []) (by simp) (fun r hr => hr))
            have hwr : IntKind.i64.wrap ((i : Int) + 1) = ((i + 1 : Nat) : Int) := by rw [IntKind.wrap_i64]; omega
            clear hnot
            go_wp2_with fail
            go_roundg (nl - (i + 1))
            case measure => omega
            case rel => exact ⟨i + 1, by omega, by simp, s8⟩
      · have hjz : (j : Int) < (m : Int) + 1 := by omega
        have hjm : j < m + 1 := by omega
        obtain ⟨x, hx, h60, hcs⟩ := HBy.out j hjm
        have bx := HS.out.box (b := (g, 5, cs)) (by simp)
        have c0 := bx.cell j
        simp only [hcs] at c0
        have hxw : IntKind.i64.wrap (x : Int) = (x : Int) := by rw [IntKind.wrap_i64]; omega
        have RT := HS.out.take t ht (x : Int)
        rw [Int.toNat_natCast] at RT
        have hst := HT.out.1.step HS.out.rises x
        have hx2 : ((uptoL t l).take x).length ≤ x := by rw [List.length_take]; omega
        have hl60 := HS.out.len
        have HLast : Hid (j = m → G ++ (uptoL t l).take x = U ∧ ∀ e, e ∈ l.drop ((uptoL t l).take x).length → ¬ e.key.at_ ≤ t) := Lib.hid (fun h => by
          have h6 := h60 h
          subst h6
          have h7 := hst.last hl60 HT.out.1.upto
          rw [HU.out] at h7
          exact h7)
        have hall := congrArg List.length hst.all
        rw [List.length_append, List.length_append, HG.out, HNW.out] at hall
        obtain ⟨X, HX⟩ : ∃ X, Hid ((uptoL t l).take x = X) := ⟨_, Lib.hid rfl⟩
        rw [HX.out] at RT hst hx2 HLast hall
        obtain ⟨nx, HNX⟩ : ∃ nx, Hid (X.length = nx) := ⟨_, Lib.hid rfl⟩
        rw [HNX.out] at RT hst hx2 HLast hall
        have hxn : ¬ (x : Int) < (nx : Int) := by omega
        have hnn : n + nx ≤ 60 := by omega
        obtain ⟨l', HL'⟩ : ∃ l', Hid (l.drop nx = l') := ⟨_, Lib.hid rfl⟩
        rw [HL'.out] at RT hst HLast
        replace RT := Lib.hid RT
        have Hst := Lib.hid hst
        have hwr : IntKind.i64.wrap ((j : Int) + 1) = ((j + 1 : Nat) : Int) := by rw [IntKind.wrap_i64]; omega
        clear bx hcs hst hall h60 HX HL' hl60
        go_upto_region 9 with (go_at_call 21; refine RT.out.mono ?_; rintro e V ⟨px, cx, rfl, sV⟩)
        have HV := Lib.hid sV
        have hrG := HV.out.row (r := (.slice p n c, G)) (by simp)
        have hrX := HV.out.row (r := (.slice px nx cx, X)) (by simp)
        simp only [HG.out] at hrG
        simp only [HNX.out] at hrX
        have HR := Lib.hid (And.intro hrG hrX)
        have HGrow : Hid (∀ (p6 : Option Addr) (c6 : Nat) (w6 : World), w6.ownsRow w.heap.size 52 3 (.slice p6 (n + nx) c6) (n + nx) (G.flatMap enC ++ X.flatMap enC) → V.grownBy w6 (Value.slice p n c).ownBlock → ((Value.slice p6 (n + nx) c6).ownBlock = (Value.slice p n c).ownBlock ∨ (Value.slice p6 (n + nx) c6).ownBlock = some V.heap.size) → St K w w6 a l' [(g, 5, cs)] ((.slice p6 (n + nx) c6, G ++ X) :: [(.slice pu nu cu, U), (.slice pw nw cw, L)]) ∧ Apart [(g, 5, cs)] [(.slice pu nu cu, U), (.slice pw nw cw, L)] (.slice p6 (n + nx) c6)) := Lib.hid fun p6 c6 w6 o6 g6 l6 => HV.out.grow (v := .slice p n c) (G := G) (X := X) (rs' := [(.slice pu nu cu, U), (.slice pw nw cw, L)]) (by simp) (by intro r hr; simp at hr ⊢; rcases hr with rfl | rfl <;> simp) HT.out.2 o6 g6 l6 (by rw [HG.out, HNX.out]) (by omega)
        clear c0 sV hrG hrX RT
        go_wp2_with (at_builtin; refine wpList_append_any' _ rfl (.tmp 52) (.tmp 53) 35 rfl w.heap.size 52 inf (.agg #[.int .u64 0, .int .u64 0, .int .i64 0]) 3 24 Try.underlying35 HI.out.1 HI.out.2.1 HI.out.2.2.1 HI.out.2.2.2 rfl (by decide) (.slice p n c) n (G.flatMap enC) rfl HR.out.1 w.heap.size (.slice px nx cx) nx (X.flatMap enC) rfl HR.out.2 (one_cells X) (n + nx) rfl (by omega) (by decide) HV.out.lo.size ?_; intro p6 c6 w6 own6 gr6 lc6; have HGr := Lib.hid (HGrow.out p6 c6 w6 own6 gr6 lc6); clear own6 gr6 lc6)
        go_roundg (m + 1 - (j + 1))
        case measure => omega
        case rel => exact ⟨j + 1, n + nx, c6, l', G ++ X, p6, by omega, rfl, by simp, hnn, Lib.hid (by rw [List.length_append, HG.out, HNX.out]), Lib.hid HGr.out.1, Lib.hid ⟨Hst.out, HGr.out.2⟩, Lib.hid (fun h => HLast.out (by omega))⟩

end Go.Proofs.Ytfedjeojanpnpab
