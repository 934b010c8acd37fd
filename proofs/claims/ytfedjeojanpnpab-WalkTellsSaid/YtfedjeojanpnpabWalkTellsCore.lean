/-
  WalkTells' walk.
-/
import Derived.Test.YtfedjeojanpnpabWalkRef
import Derived.Test.YtfedjeojanpnpabWalkTakeFacts
import Derived.Test.YtfedjeojanpnpabWalkThroughSt
namespace Go.Proofs.Ytfedjeojanpnpab
open Go.RowKit
set_option linter.unusedVariables false
set_option linter.unusedSimpArgs false

abbrev tkB (b : Nat) (k : Ky) : Nat × TypeId × Array Value := (b, 27, #[.int .u64 (k.at_ : Int), .int .u64 (k.seq : Int)])
abbrev trB (b : Nat) (p : Option Addr) (n c : Nat) : Nat × TypeId × Array Value := (b, 41, #[.slice p n c, .int .i64 60])
section
variable {K : TreeK} {w W W' : World} {a : Addr} {l L : List En} {bx : List (Nat × TypeId × Array Value)} {rs : List (Value × List En)} {p : Option Addr} {n c : Nat}
theorem St.n6 (h : St K w W a l bx rs) {v : Value} (hr : (v, L) ∈ rs) : L.length ≤ 200 := h.rlen hr
theorem St.rowN (h : St K w W a l bx rs) (hr : (.slice p n c, L) ∈ rs) (hl : L.length = n) : W.ownsRow w.heap.size 52 3 (.slice p n c) n (L.flatMap enC) := by
  have := h.row hr
  simp only [hl] at this
  exact this
theorem St.refFrom (h : St K w W a l bx rs) (hr : (.slice p n c, L) ∈ rs) (hl : L.length = n) (h6 : n ≤ 60) (k : Ky) (m : Int) {X : List En} (hX : (fromL k L).take m.toNat = X) {nx : Nat} (hx : X.length = nx) (hx2 : nx ≤ 200) :
    Calls Try.prog 18 #[.agg #[.slice p n c, .int .i64 60], kyV k, .int .i64 m] W fun e W' => ∃ p' c', e = .returned (.slice p' nx c') ∧ Hid (St K w W' a l bx ((.slice p' nx c', X) :: rs)) := by
  refine (ref_from p c n w.heap.size 60 L k m W hl h6 (h.rowN hr hl)).mono ?_
  rintro e W' ⟨p', n', c', rfl, h1, h2, h3⟩
  rw [hX] at h1 h2
  obtain rfl : nx = n' := hx.symm.trans h1
  exact ⟨p', c', rfl, Lib.hid (h.fresh h3.out h2.out h1 hx2)⟩
theorem St.refUpto (h : St K w W a l bx rs) (hr : (.slice p n c, L) ∈ rs) (hl : L.length = n) (h6 : n ≤ 60) (t : Nat) (m : Int) {X : List En} (hX : (uptoL t L).take m.toNat = X) {nx : Nat} (hx : X.length = nx) (hx2 : nx ≤ 200) :
    Calls Try.prog 20 #[.agg #[.slice p n c, .int .i64 60], .int .u64 (t : Int), .int .i64 m] W fun e W' => ∃ p' c', e = .returned (.slice p' nx c') ∧ Hid (St K w W' a l bx ((.slice p' nx c', X) :: rs)) := by
  refine (ref_upto p c n w.heap.size 60 L t m W hl h6 (h.rowN hr hl)).mono ?_
  rintro e W' ⟨p', n', c', rfl, h1, h2, h3⟩
  rw [hX] at h1 h2
  obtain rfl : nx = n' := hx.symm.trans h1
  exact ⟨p', c', rfl, Lib.hid (h.fresh h3.out h2.out h1 hx2)⟩
theorem St.refSweep (h : St K w W a l bx rs) (hr : (.slice p n c, L) ∈ rs) (hl : L.length = n) (h6 : n ≤ 60) (k : Ky) (m : Int) {X : List En} (hX : (roundL k L).take m.toNat = X) {nx : Nat} (hx : X.length = nx) (hx2 : nx ≤ 200) {kn : Ky} (hk : lastK X k = kn) :
    Calls Try.prog 16 #[.agg #[.slice p n c, .int .i64 60], kyV k, .int .i64 m] W fun e W' => ∃ p' c', e = .returned (.tuple #[.slice p' nx c', kyV kn]) ∧ Hid (St K w W' a l bx ((.slice p' nx c', X) :: rs)) := by
  refine (ref_sweep p c n w.heap.size 60 L k m W hl h6 (h.rowN hr hl)).mono ?_
  rintro e W' ⟨p', n', c', rfl, h1, h2, h3⟩
  rw [hX] at h1 h2
  obtain rfl : nx = n' := hx.symm.trans h1
  rw [hX, hk]
  exact ⟨p', c', rfl, Lib.hid (h.fresh h3.out h2.out h1 hx2)⟩
theorem St.wFrom (h : St K w W a l bx rs) (k : Ky) (hk : k.Fits) (m : Int) {X : List En} (hX : (fromL k l).take m.toNat = X) {nx : Nat} (hx : X.length = nx) :
    Calls Try.prog 17 #[.pointer (some a), kyV k, .int .i64 m] W fun e W' => ∃ p' c', e = .returned (.slice p' nx c') ∧ Hid (St K w W' a l bx ((.slice p' nx c', X) :: rs)) := by
  refine (h.from_ k hk m).mono ?_
  rintro e W' ⟨p', c', rfl, s⟩
  rw [hX, hx] at s ⊢
  exact ⟨p', c', rfl, Lib.hid s⟩
theorem St.wUpto (h : St K w W a l bx rs) (t : Nat) (ht : t < 18446744073709551616) (m : Int) {X : List En} (hX : (uptoL t l).take m.toNat = X) {nx : Nat} (hx : X.length = nx) :
    Calls Try.prog 19 #[.pointer (some a), .int .u64 (t : Int), .int .i64 m] W fun e W' => ∃ p' c', e = .returned (.slice p' nx c') ∧ Hid (St K w W' a l bx ((.slice p' nx c', X) :: rs)) := by
  refine (h.upto t ht m).mono ?_
  rintro e W' ⟨p', c', rfl, s⟩
  rw [hX, hx] at s ⊢
  exact ⟨p', c', rfl, Lib.hid s⟩
theorem St.wAll (h : St K w W a l bx rs) {nx : Nat} (hx : l.length = nx) :
    Calls Try.prog 11 #[.pointer (some a)] W fun e W' => ∃ p' c', e = .returned (.slice p' nx c') ∧ Hid (St K w W' a l bx ((.slice p' nx c', l) :: rs)) := by
  refine h.all.mono ?_
  rintro e W' ⟨p', c', rfl, s⟩
  rw [hx] at s ⊢
  exact ⟨p', c', rfl, Lib.hid s⟩
/-- Two rows alike: the call tells it, and what is beside is forgotten. -/
theorem St.alike (h : St K w W a l bx rs) {v1 v2 : Value} {X : List En} (h1 : (v1, X) ∈ rs) (h2 : (v2, X) ∈ rs) {rs' : List (Value × List En)} (hrs : ∀ r, r ∈ rs' → r ∈ rs) : Calls Try.prog 12 #[v1, v2] W fun e W' => e = .returned (.bool true) ∧ Hid (St K w W' a l bx rs') := by
  refine (h.same h1 h2).mono ?_
  rintro e W' ⟨rfl, s⟩
  exact ⟨by simp, Lib.hid (s.forget (fun b hb => hb) hrs)⟩
theorem St.rdrop (h : St K w W a l bx rs) (hr : (.slice p n c, L) ∈ rs) (hl : L.length = n) (h6 : n ≤ 60) (hi : Rises L) (k : Ky) {L' : List En} (hL : delL k L = L') {n' : Nat} (hn : L'.length = n') :
    Calls Try.prog 22 #[.agg #[.slice p n c, .int .i64 60], kyV k] W fun e W' => ∃ p' c' x y, e = .returned (.tuple #[.agg #[.slice p' n' c', .int .i64 60], .int .i64 x, .bool y]) ∧ Hid (St K w W' a l bx ((.slice p' n' c', L') :: rs)) := by
  obtain ⟨N, g, o, h1, h2, h3, h4⟩ := h
  have hm := (h4 _ hr).2
  have hrow : W.ownsRow w.heap.size 52 3 (.slice p n c) n (L.flatMap enC) := by have := hm.row; simp only [hl] at this; exact this
  refine (ref_drop p c n w.heap.size 60 L k W hl (by omega) hi o.lo.size hrow).mono ?_
  rintro e W' ⟨p', m, c', rfl, hm', r, b, o'⟩
  rw [hL] at hm' r o'
  obtain rfl : n' = m := hn.symm.trans hm'
  refine ⟨p', c', _, _, rfl, Lib.hid ⟨N, g, o.below b, h1, h2, fun q hq => ⟨(h3 q hq).1, (h3 q hq).2.1, (h3 q hq).2.2.below b (h3 q hq).2.2.lt⟩, fun x hx => ?_⟩⟩
  rcases List.mem_cons.1 hx with rfl | hx
  · have hle : (delL k L).length ≤ L.length := List.length_filter_le _ _
    rw [hL] at hle
    refine ⟨by show L'.length ≤ 200; omega, ?_, ?_⟩
    · show W'.ownsRow w.heap.size 52 3 (.slice p' n' c') L'.length (L'.flatMap enC)
      rw [hm']; exact r
    · rcases o' with o' | o'
      · rw [← o']; exact hm.off
      · exact OffV.fresh (fun k hk => K.lt o.at_ k hk) o'
  · exact ⟨(h4 x hx).1, (h4 x hx).2.below b⟩
theorem St.setT {q : Nat} {x0 y0 : Value} (h : St K w W a l ((q, 41, #[x0, y0]) :: bx) rs) (hd : ∀ b, b ∈ bx → b.1 ≠ q) (x y : Value) : St K w ((W.setCell ⟨q, 0, none⟩ x).setCell ⟨q, 1, none⟩ y) a l ((q, 41, #[x, y]) :: bx) rs := by
  obtain ⟨N, g, o, h1, h2, h3, h4⟩ := h
  obtain ⟨nq, lq, bq⟩ := h3 _ List.mem_cons_self
  refine ⟨N, g, (o.set6 nq lq).set6 nq lq, h1, h2, fun b hb => ?_, fun r hr => ?_⟩
  · rcases List.mem_cons.1 hb with rfl | hb'
    · exact ⟨nq, lq, (bq.set 0 x).set 1 y⟩
    · obtain ⟨k1, k2, k3⟩ := h3 b (List.mem_cons_of_mem _ hb')
      exact ⟨k1, k2, (k3.other (hd b hb') x).other (hd b hb') y⟩
  · obtain ⟨k1, k2⟩ := h4 r hr
    have bq' : Box W q 41 #[x0, y0] := bq
    have hne := bq'.not_row k2.row (by decide)
    exact ⟨k1, own_set (own_set k2.row hne) hne, k2.off⟩
end
/-- A tree's row that the document keeps falls as its head goes. -/
theorem drop_head {L G : List En} (hi : Rises L) (hG : ∃ r, G ++ r = L) {j : Nat} (hj : j < G.length) : delL (G[j]).key (L.drop j) = L.drop (j + 1) := by
  obtain ⟨r, rfl⟩ := hG
  have h1 : (G ++ r).drop j = G[j] :: (G ++ r).drop (j + 1) := by
    rw [List.drop_eq_getElem_cons (by rw [List.length_append]; omega), List.getElem_append_left hj]
  have h2 : Rises ((G ++ r).drop j) := List.Pairwise.sublist (List.drop_sublist _ _) hi
  rw [h1] at h2 ⊢
  exact del_head h2

def tkS (rb kb b2 b4 : Nat) (p : Option Addr) (n c : Nat) (k kn : Ky) (wy : World) : Prop :=
  wy.cell? ⟨rb, 0, none⟩ = some (.slice p n c) ∧ wy.cell? ⟨rb, 1, none⟩ = some (.int .i64 60) ∧ wy.cell? ⟨kb, 0, none⟩ = some (.int .u64 (k.at_ : Int)) ∧ wy.cell? ⟨kb, 1, none⟩ = some (.int .u64 (k.seq : Int)) ∧ wy.cell? ⟨b2, 0, none⟩ = some (.int .u64 (kn.at_ : Int)) ∧ wy.cell? ⟨b2, 1, none⟩ = some (.int .u64 (kn.seq : Int)) ∧ wy.cell? ⟨b4, 0, none⟩ = some (.int .u64 (kn.at_ : Int)) ∧ wy.cell? ⟨b4, 1, none⟩ = some (.int .u64 (kn.seq : Int))
abbrev tlB (rb kb b2 b4 : Nat) (p : Option Addr) (n c : Nat) (k kn : Ky) : List (Nat × TypeId × Array Value) := [tkB b4 kn, tkB b2 kn, trB rb p n c, tkB kb k]
theorem tkS_of {K : TreeK} {w W : World} {a : Addr} {l : List En} {rs : List (Value × List En)} {rb kb b2 b4 : Nat} {p : Option Addr} {n c : Nat} {k kn : Ky} (s : Hid (St K w W a l (tlB rb kb b2 b4 p n c k kn) rs)) : tkS rb kb b2 b4 p n c k kn W := by
  have h1 : Box W rb 41 #[.slice p n c, .int .i64 60] := s.out.box (b := trB rb p n c) (by simp [tlB])
  have h2 : Box W kb 27 #[.int .u64 (k.at_ : Int), .int .u64 (k.seq : Int)] := s.out.box (b := tkB kb k) (by simp [tlB])
  have h3 : Box W b2 27 #[.int .u64 (kn.at_ : Int), .int .u64 (kn.seq : Int)] := s.out.box (b := tkB b2 kn) (by simp [tlB])
  have h4 : Box W b4 27 #[.int .u64 (kn.at_ : Int), .int .u64 (kn.seq : Int)] := s.out.box (b := tkB b4 kn) (by simp [tlB])
  exact ⟨h1.cell 0, h1.cell 1, h2.cell 0, h2.cell 1, h3.cell 0, h3.cell 1, h4.cell 0, h4.cell 1⟩

theorem tr_of {K : TreeK} {w W : World} {a : Addr} {l : List En} {rs : List (Value × List En)} {rb n c : Nat} {p : Option Addr} (s : Hid (St K w W a l [trB rb p n c] rs)) : W.cell? ⟨rb, 0, none⟩ = some (.slice p n c) ∧ W.cell? ⟨rb, 1, none⟩ = some (.int .i64 60) := by
  have h1 : Box W rb 41 #[.slice p n c, .int .i64 60] := s.out.box (b := trB rb p n c) (by simp)
  exact ⟨h1.cell 0, h1.cell 1⟩
theorem St.wSweep {K : TreeK} {w W : World} {a : Addr} {l : List En} {bx : List (Nat × TypeId × Array Value)} {rs : List (Value × List En)} (h : St K w W a l bx rs) (k : Ky) (hk : k.Fits) (m : Int) {X : List En} (hX : (roundL k l).take m.toNat = X) {nx : Nat} (hx : X.length = nx) {kn : Ky} (hkn : lastK X k = kn) :
    Calls Try.prog 15 #[.pointer (some a), kyV k, .int .i64 m] W fun e W' => ∃ p' c', e = .returned (.tuple #[.slice p' nx c', kyV kn]) ∧ Hid (St K w W' a l bx ((.slice p' nx c', X) :: rs)) := by
  refine (h.sweep k hk m).mono ?_
  rintro e W' ⟨p', c', rfl, s⟩
  rw [hX, hx] at s
  rw [hX, hx, hkn]
  exact ⟨p', c', rfl, Lib.hid s⟩

set_option maxHeartbeats 8000000 in
set_option maxRecDepth 100000 in
theorem walkTells_core (K : TreeK) {A : Option Addr} {len cap : Nat} {ks : List Ky} (k : Ky) (hk : k.Fits) (t : Nat) (ht : t < 18446744073709551616) (m : Int) (w : World) (hks : KeysAt w A len cap ks)
    (HA : Hid (∀ w : World, Calls Try.prog 23 #[] w fun e w' => e = .returned (.bool true) ∧ Below w.heap.size w w')) :
    Calls Try.prog 4 #[.slice A len cap, kyV k, .int .u64 (t : Int), .int .i64 m] w fun e w' => e = .returned (.bool true) ∧ Below w.heap.size w w' := by
  unfold kyV
  obtain ⟨W, HW⟩ : ∃ W, Hid (w.alloc (.cells #[.int .u64 (k.at_ : Int), .int .u64 (k.seq : Int)] 27) = W) := ⟨_, Lib.hid rfl⟩
  have b1 : Below w.heap.size w W := by rw [← HW.out]; exact (Below.refl _ w).alloc (Nat.le_refl _) _
  have bK : Box W w.heap.size 27 #[.int .u64 (k.at_ : Int), .int .u64 (k.seq : Int)] := by rw [← HW.out]; exact Box.new _ _ _
  have R0 := Lib.hid (law_of K (hks.later b1))
  have HB := Lib.hid (And.intro b1 bK)
  clear b1 bK hks
  go_enter Try.func4, Try.ntmps4
  go_upto_region 1 with fail
  rw [HW.out]
  go_upto_region 2 with (go_at_call 14; refine R0.out.mono ?_; rintro e W1 hO; obtain ⟨b1, bK⟩ := HB.out; obtain ⟨a, p, c, rfl, s1⟩ := st_of' (bx := [tkB w.heap.size k]) b1 (fun b hb => by rw [List.mem_singleton.1 hb]; exact ⟨Nat.le_refl _, bK⟩) hO; clear hO R0 HB b1 bK)
  obtain ⟨L, HL⟩ : ∃ L, Hid (ofL ks = L) := ⟨_, Lib.hid rfl⟩
  rw [HL.out] at s1 ⊢
  obtain ⟨kb, HH⟩ : ∃ kb, Hid (w.heap.size = kb) := ⟨_, Lib.hid rfl⟩
  rw [HH.out] at s1 ⊢
  have hkb : kb < W1.heap.size := (s1.box (b := tkB kb k) (by simp)).lt
  have s2 := s1.alloc #[.slice p L.length c, .int .i64 60] 41
  obtain ⟨rb, HRB⟩ : ∃ rb, Hid (W1.heap.size = rb) := ⟨_, Lib.hid rfl⟩
  obtain ⟨W2, HW2⟩ : ∃ W2, Hid (W1.alloc (.cells #[.slice p L.length c, .int .i64 60] 41) = W2) := ⟨_, Lib.hid rfl⟩
  rw [HW2.out, HRB.out] at s2
  rw [HW2.out, HRB.out]
  rw [HRB.out] at hkb
  obtain ⟨nl, HNL⟩ : ∃ nl, Hid (L.length = nl) := ⟨_, Lib.hid rfl⟩
  rw [HNL.out] at s2 ⊢
  have hnl : nl ≤ 60 := by rw [← HNL.out]; exact s2.len
  have HRi := Lib.hid s2.rises
  have S2 : Hid (St K w W2 a L [trB rb p nl c, tkB kb k] [(.slice p nl c, L)]) := Lib.hid s2
  clear s1 s2 HL HW HW2 HRB
  obtain ⟨X1, HX1⟩ : ∃ X, Hid ((roundL k L).take m.toNat = X) := ⟨_, Lib.hid rfl⟩
  obtain ⟨n1, HN1⟩ : ∃ n, Hid (X1.length = n) := ⟨_, Lib.hid rfl⟩
  obtain ⟨kn, HKN⟩ : ∃ kn, Hid (lastK X1 k = kn) := ⟨_, Lib.hid rfl⟩
  have hn1 : n1 ≤ 200 := by rw [← HN1.out, ← HX1.out, List.length_take, round_len]; have := HNL.out; omega
  have KW := Lib.hid (S2.out.wSweep k hk m HX1.out HN1.out HKN.out)
  unfold kyV at KW
  have hb : Box W2 kb 27 #[.int .u64 (k.at_ : Int), .int .u64 (k.seq : Int)] := S2.out.box (b := tkB kb k) (by simp)
  have k0 := hb.cell 0
  have k1 := hb.cell 1
  clear hb
  go_upto_region 3 with (go_at_call 15; refine KW.out.mono ?_; rintro e V ⟨pa, ca, rfl, sV⟩; have sE := Lib.hid (sV.out.alloc #[.int .u64 (kn.at_ : Int), .int .u64 (kn.seq : Int)] 27); have hrb : rb < V.heap.size := (sV.out.box (b := trB rb p nl c) (by simp)).lt; clear k0 k1 sV)
  obtain ⟨b2, HB2⟩ : ∃ b, Hid (V.heap.size = b) := ⟨_, Lib.hid rfl⟩
  obtain ⟨W3, HW3⟩ : ∃ W3, Hid (V.alloc (.cells #[.int .u64 (kn.at_ : Int), .int .u64 (kn.seq : Int)] 27) = W3) := ⟨_, Lib.hid rfl⟩
  rw [HW3.out, HB2.out] at sE
  rw [HW3.out, HB2.out]
  rw [HB2.out] at hrb
  clear KW S2 HW3 HB2
  have KR := Lib.hid (sE.out.refSweep (p := p) (n := nl) (c := c) (L := L) (by simp) HNL.out hnl k m HX1.out HN1.out hn1 HKN.out)
  unfold kyV at KR
  have hb : Box W3 kb 27 #[.int .u64 (k.at_ : Int), .int .u64 (k.seq : Int)] := sE.out.box (b := tkB kb k) (by simp)
  have hr : Box W3 rb 41 #[.slice p nl c, .int .i64 60] := sE.out.box (b := trB rb p nl c) (by simp)
  have k0 := hb.cell 0
  have k1 := hb.cell 1
  have r0 := hr.cell 0
  have r1 := hr.cell 1
  clear hb hr
  go_upto_region 4 with (go_at_call 16; refine KR.out.mono ?_; rintro e V2 ⟨pc, cc, rfl, sV2⟩; have sF := Lib.hid (sV2.out.alloc #[.int .u64 (kn.at_ : Int), .int .u64 (kn.seq : Int)] 27); have hb2 : b2 < V2.heap.size := (sV2.out.box (b := tkB b2 kn) (by simp)).lt; clear k0 k1 r0 r1 sV2)
  obtain ⟨b4, HB4⟩ : ∃ b, Hid (V2.heap.size = b) := ⟨_, Lib.hid rfl⟩
  obtain ⟨W4, HW4⟩ : ∃ W4, Hid (V2.alloc (.cells #[.int .u64 (kn.at_ : Int), .int .u64 (kn.seq : Int)] 27) = W4) := ⟨_, Lib.hid rfl⟩
  rw [HW4.out, HB4.out] at sF
  rw [HW4.out, HB4.out]
  rw [HB4.out] at hb2
  have S4 : Hid (St K w W4 a L (tlB rb kb b2 b4 p nl c k kn) [(.slice pc n1 cc, X1), (.slice pa n1 ca, X1), (.slice p nl c, L)]) := Lib.hid sF.out
  clear KR sE sF HW4 HB4
  obtain ⟨XU, HXU⟩ : ∃ X, Hid ((uptoL t L).take m.toNat = X) := ⟨_, Lib.hid rfl⟩
  obtain ⟨nu, HNU⟩ : ∃ n, Hid (XU.length = n) := ⟨_, Lib.hid rfl⟩
  have hnu : nu ≤ nl := by rw [← HNU.out, ← HXU.out, List.length_take, ← HNL.out]; have := List.length_filter_le (fun e : En => decide (e.key.at_ ≤ t)) L; unfold uptoL; omega
  go_upto_region 5 with fail
  go_cut [82] (fun v82 wx => v82 = .bool false ∧ Hid (St K w wx a L (tlB rb kb b2 b4 p nl c k kn) [(.slice p nl c, L)]))
  case first =>
    obtain ⟨XF, HXF⟩ : ∃ X, Hid ((fromL k L).take m.toNat = X) := ⟨_, Lib.hid rfl⟩
    obtain ⟨nf, HNF⟩ : ∃ n, Hid (XF.length = n) := ⟨_, Lib.hid rfl⟩
    have hnf : nf ≤ 200 := by rw [← HNF.out, ← HXF.out, List.length_take]; have := List.length_filter_le (fun e : En => !decide (e.key.lt k)) L; unfold fromL; have := HNL.out; omega
    have SS1 : Hid (∀ W v1 v2, Hid (St K w W a L (tlB rb kb b2 b4 p nl c k kn) [(v2, X1), (v1, X1), (.slice p nl c, L)]) → Calls Try.prog 12 #[v1, v2] W fun e W' => e = .returned (.bool true) ∧ Hid (St K w W' a L (tlB rb kb b2 b4 p nl c k kn) [(.slice p nl c, L)])) := Lib.hid fun W v1 v2 s => s.out.alike (X := X1) (by simp) (by simp) (by simp)
    have KF0 : Hid (∀ W, Hid (St K w W a L (tlB rb kb b2 b4 p nl c k kn) [(.slice p nl c, L)]) → Calls Try.prog 17 #[.pointer (some a), kyV k, .int .i64 m] W fun e W' => ∃ p' c', e = .returned (.slice p' nf c') ∧ Hid (St K w W' a L (tlB rb kb b2 b4 p nl c k kn) [(.slice p' nf c', XF), (.slice p nl c, L)])) := Lib.hid fun W s => s.out.wFrom k hk m HXF.out HNF.out
    have RF0 : Hid (∀ W, Hid (St K w W a L (tlB rb kb b2 b4 p nl c k kn) [(.slice p nl c, L)]) → Calls Try.prog 18 #[.agg #[.slice p nl c, .int .i64 60], kyV k, .int .i64 m] W fun e W' => ∃ p' c', e = .returned (.slice p' nf c') ∧ Hid (St K w W' a L (tlB rb kb b2 b4 p nl c k kn) [(.slice p' nf c', XF), (.slice p nl c, L)])) := Lib.hid fun W s => s.out.refFrom (p := p) (n := nl) (c := c) (L := L) (by simp) HNL.out hnl k m HXF.out HNF.out hnf
    have KF1 : Hid (∀ W v, Hid (St K w W a L (tlB rb kb b2 b4 p nl c k kn) [(v, XF), (.slice p nl c, L)]) → Calls Try.prog 17 #[.pointer (some a), kyV k, .int .i64 m] W fun e W' => ∃ p' c', e = .returned (.slice p' nf c') ∧ Hid (St K w W' a L (tlB rb kb b2 b4 p nl c k kn) [(.slice p' nf c', XF), (v, XF), (.slice p nl c, L)])) := Lib.hid fun W v s => s.out.wFrom k hk m HXF.out HNF.out
    have RF1 : Hid (∀ W v, Hid (St K w W a L (tlB rb kb b2 b4 p nl c k kn) [(v, XF), (.slice p nl c, L)]) → Calls Try.prog 18 #[.agg #[.slice p nl c, .int .i64 60], kyV k, .int .i64 m] W fun e W' => ∃ p' c', e = .returned (.slice p' nf c') ∧ Hid (St K w W' a L (tlB rb kb b2 b4 p nl c k kn) [(.slice p' nf c', XF), (v, XF), (.slice p nl c, L)])) := Lib.hid fun W v s => s.out.refFrom (p := p) (n := nl) (c := c) (L := L) (by simp) HNL.out hnl k m HXF.out HNF.out hnf
    have SF : Hid (∀ W v1 v2, Hid (St K w W a L (tlB rb kb b2 b4 p nl c k kn) [(v2, XF), (v1, XF), (.slice p nl c, L)]) → Calls Try.prog 12 #[v1, v2] W fun e W' => e = .returned (.bool true) ∧ Hid (St K w W' a L (tlB rb kb b2 b4 p nl c k kn) [(.slice p nl c, L)])) := Lib.hid fun W v1 v2 s => s.out.alike (X := XF) (by simp) (by simp) (by simp)
    have TF : Hid (∀ W v1 v2, Hid (St K w W a L (tlB rb kb b2 b4 p nl c k kn) [(v1, XF), (v2, XF), (.slice p nl c, L)]) → Calls Try.prog 12 #[v1, v2] W fun e W' => e = .returned (.bool true) ∧ Hid (St K w W' a L (tlB rb kb b2 b4 p nl c k kn) [(.slice p nl c, L)])) := Lib.hid fun W v1 v2 s => s.out.alike (X := XF) (by simp) (by simp) (by simp)
    have KU0 : Hid (∀ W, Hid (St K w W a L (tlB rb kb b2 b4 p nl c k kn) [(.slice p nl c, L)]) → Calls Try.prog 19 #[.pointer (some a), .int .u64 (t : Int), .int .i64 m] W fun e W' => ∃ p' c', e = .returned (.slice p' nu c') ∧ Hid (St K w W' a L (tlB rb kb b2 b4 p nl c k kn) [(.slice p' nu c', XU), (.slice p nl c, L)])) := Lib.hid fun W s => s.out.wUpto t ht m HXU.out HNU.out
    have RU0 : Hid (∀ W, Hid (St K w W a L (tlB rb kb b2 b4 p nl c k kn) [(.slice p nl c, L)]) → Calls Try.prog 20 #[.agg #[.slice p nl c, .int .i64 60], .int .u64 (t : Int), .int .i64 m] W fun e W' => ∃ p' c', e = .returned (.slice p' nu c') ∧ Hid (St K w W' a L (tlB rb kb b2 b4 p nl c k kn) [(.slice p' nu c', XU), (.slice p nl c, L)])) := Lib.hid fun W s => s.out.refUpto (p := p) (n := nl) (c := c) (L := L) (by simp) HNL.out hnl t m HXU.out HNU.out (by omega)
    have KU1 : Hid (∀ W v, Hid (St K w W a L (tlB rb kb b2 b4 p nl c k kn) [(v, XU), (.slice p nl c, L)]) → Calls Try.prog 19 #[.pointer (some a), .int .u64 (t : Int), .int .i64 m] W fun e W' => ∃ p' c', e = .returned (.slice p' nu c') ∧ Hid (St K w W' a L (tlB rb kb b2 b4 p nl c k kn) [(.slice p' nu c', XU), (v, XU), (.slice p nl c, L)])) := Lib.hid fun W v s => s.out.wUpto t ht m HXU.out HNU.out
    have RU1 : Hid (∀ W v, Hid (St K w W a L (tlB rb kb b2 b4 p nl c k kn) [(v, XU), (.slice p nl c, L)]) → Calls Try.prog 20 #[.agg #[.slice p nl c, .int .i64 60], .int .u64 (t : Int), .int .i64 m] W fun e W' => ∃ p' c', e = .returned (.slice p' nu c') ∧ Hid (St K w W' a L (tlB rb kb b2 b4 p nl c k kn) [(.slice p' nu c', XU), (v, XU), (.slice p nl c, L)])) := Lib.hid fun W v s => s.out.refUpto (p := p) (n := nl) (c := c) (L := L) (by simp) HNL.out hnl t m HXU.out HNU.out (by omega)
    have SU : Hid (∀ W v1 v2, Hid (St K w W a L (tlB rb kb b2 b4 p nl c k kn) [(v2, XU), (v1, XU), (.slice p nl c, L)]) → Calls Try.prog 12 #[v1, v2] W fun e W' => e = .returned (.bool true) ∧ Hid (St K w W' a L (tlB rb kb b2 b4 p nl c k kn) [(.slice p nl c, L)])) := Lib.hid fun W v1 v2 s => s.out.alike (X := XU) (by simp) (by simp) (by simp)
    have TU : Hid (∀ W v1 v2, Hid (St K w W a L (tlB rb kb b2 b4 p nl c k kn) [(v1, XU), (v2, XU), (.slice p nl c, L)]) → Calls Try.prog 12 #[v1, v2] W fun e W' => e = .returned (.bool true) ∧ Hid (St K w W' a L (tlB rb kb b2 b4 p nl c k kn) [(.slice p nl c, L)])) := Lib.hid fun W v1 v2 s => s.out.alike (X := XU) (by simp) (by simp) (by simp)
    have KA : Hid (∀ W, Hid (St K w W a L (tlB rb kb b2 b4 p nl c k kn) [(.slice p nl c, L)]) → Calls Try.prog 11 #[.pointer (some a)] W fun e W' => ∃ p' c', e = .returned (.slice p' nl c') ∧ Hid (St K w W' a L (tlB rb kb b2 b4 p nl c k kn) [(.slice p' nl c', L), (.slice p nl c, L)])) := Lib.hid fun W s => s.out.wAll HNL.out
    have SA : Hid (∀ W v1, Hid (St K w W a L (tlB rb kb b2 b4 p nl c k kn) [(v1, L), (.slice p nl c, L)]) → Calls Try.prog 12 #[v1, .slice p nl c] W fun e W' => e = .returned (.bool true) ∧ Hid (St K w W' a L (tlB rb kb b2 b4 p nl c k kn) [(.slice p nl c, L)])) := Lib.hid fun W v1 s => s.out.alike (X := L) (by simp) (by simp) (by simp)
    unfold kyV at KF0 KF1 RF0 RF1
    have S5 : Hid (St K w W4.drew a L (tlB rb kb b2 b4 p nl c k kn) [(.slice pc n1 cc, X1), (.slice pa n1 ca, X1), (.slice p nl c, L)]) := Lib.hid (S4.out.below (Below.refl _ _).drew)
    clear S4
    go_region_held3 (fun wy => wy.cell? ⟨rb, 0, none⟩ = some (.slice p nl c) ∧ wy.cell? ⟨rb, 1, none⟩ = some (.int .i64 60) ∧ wy.cell? ⟨kb, 0, none⟩ = some (.int .u64 (k.at_ : Int)) ∧ wy.cell? ⟨kb, 1, none⟩ = some (.int .u64 (k.seq : Int)) ∧ wy.cell? ⟨b2, 0, none⟩ = some (.int .u64 (kn.at_ : Int)) ∧ wy.cell? ⟨b2, 1, none⟩ = some (.int .u64 (kn.seq : Int)) ∧ wy.cell? ⟨b4, 0, none⟩ = some (.int .u64 (kn.at_ : Int)) ∧ wy.cell? ⟨b4, 1, none⟩ = some (.int .u64 (kn.seq : Int)))
      (first | exact tkS_of (by assumption))
      (first
        | (go_at_call 17; refine Calls.mono (KF0.out _ (by assumption)) ?_; rintro e V5 ⟨p5, c5, rfl, s5⟩)
        | (go_at_call 17; refine Calls.mono (KF1.out _ _ (by assumption)) ?_; rintro e V5 ⟨p5, c5, rfl, s5⟩)
        | (go_at_call 18; refine Calls.mono (RF0.out _ (by assumption)) ?_; rintro e V6 ⟨p6, c6, rfl, s6⟩)
        | (go_at_call 18; refine Calls.mono (RF1.out _ _ (by assumption)) ?_; rintro e V6 ⟨p6, c6, rfl, s6⟩)
        | (go_at_call 19; refine Calls.mono (KU0.out _ (by assumption)) ?_; rintro e V7 ⟨p7, c7, rfl, s7⟩)
        | (go_at_call 19; refine Calls.mono (KU1.out _ _ (by assumption)) ?_; rintro e V7 ⟨p7, c7, rfl, s7⟩)
        | (go_at_call 20; refine Calls.mono (RU0.out _ (by assumption)) ?_; rintro e V8 ⟨p8, c8, rfl, s8⟩)
        | (go_at_call 20; refine Calls.mono (RU1.out _ _ (by assumption)) ?_; rintro e V8 ⟨p8, c8, rfl, s8⟩)
        | (go_at_call 11; refine Calls.mono (KA.out _ (by assumption)) ?_; rintro e V9 ⟨p9, c9, rfl, s9⟩)
        | (go_at_call 12; refine Calls.mono (SS1.out _ _ _ (by assumption)) ?_; rintro e Va ⟨rfl, sa⟩)
        | (go_at_call 12; refine Calls.mono (SF.out _ _ _ (by assumption)) ?_; rintro e Va ⟨rfl, sa⟩)
        | (go_at_call 12; refine Calls.mono (TF.out _ _ _ (by assumption)) ?_; rintro e Va ⟨rfl, sa⟩)
        | (go_at_call 12; refine Calls.mono (SU.out _ _ _ (by assumption)) ?_; rintro e Va ⟨rfl, sa⟩)
        | (go_at_call 12; refine Calls.mono (TU.out _ _ _ (by assumption)) ?_; rintro e Va ⟨rfl, sa⟩)
        | (go_at_call 12; refine Calls.mono (SA.out _ _ (by assumption)) ?_; rintro e Va ⟨rfl, sa⟩))
    all_goals go_wp2_with fail
    all_goals go_meet
    all_goals exact ⟨rfl, by assumption⟩
  case rest =>
    obtain ⟨rfl, S6⟩ := hcut
    clear S4
    have S7 := Lib.hid (S6.out.forget (bx' := [trB rb p nl c]) (rs' := [(.slice p nl c, L)]) (by simp [tlB]) (by simp))
    have hr : Box wc rb 41 #[.slice p nl c, .int .i64 60] := S7.out.box (b := trB rb p nl c) (by simp)
    have r0 := hr.cell 0
    have r1 := hr.cell 1
    have KG := Lib.hid (S7.out.refUpto (p := p) (n := nl) (c := c) (L := L) (by simp) HNL.out hnl t m HXU.out HNU.out (by omega))
    clear hr S6
    go_upto_region 8 with (go_at_call 20; refine KG.out.mono ?_; rintro e V8 ⟨pg, cg, rfl, s8⟩; clear r0 r1)
    have KT0 := s8.out.take t ht m
    rw [HXU.out, HNU.out] at KT0
    obtain ⟨LD, HLD⟩ : ∃ LD, Hid (L.drop nu = LD) := ⟨_, Lib.hid rfl⟩
    rw [HLD.out] at KT0
    have KT := Lib.hid KT0
    have KTS : Hid (∀ W v1, Hid (St K w W a LD [trB rb p nl c] [(v1, XU), (.slice pg nu cg, XU), (.slice p nl c, L)]) → Calls Try.prog 12 #[v1, .slice pg nu cg] W fun e W' => e = .returned (.bool true) ∧ Hid (St K w W' a LD [trB rb p nl c] [(.slice pg nu cg, XU), (.slice p nl c, L)])) := Lib.hid fun W v1 s => s.out.alike (X := XU) (by simp) (by simp) (by simp)
    clear KT0 KG S7
    go_wp2_with (first
      | (go_at_call 21; refine KT.out.mono ?_; rintro e V9 ⟨pt, ct, rfl, s9⟩; have S9 := Lib.hid s9; clear s9)
      | (go_at_call 12; refine Calls.mono (KTS.out _ _ S9) ?_; rintro e Va ⟨rfl, sa⟩; clear S9))
    have hpre : ∃ r, XU ++ r = L := by rw [← HXU.out]; exact (List.take_prefix _ _).trans (upto_pre HRi.out)
    have HPre := Lib.hid hpre
    have SA0 : Hid (St K w Va a LD [trB rb p nl c] [(.slice p nl c, L.drop 0), (.slice pg nu cg, XU)]) := Lib.hid (by rw [List.drop_zero]; exact sa.out.forget (by simp) (by simp))
    clear hpre sa
    go_loopg [97] nu (fun s v97 wx => ∃ (j nj cj : Nat) (pj : Option Addr), j + s = nu ∧ nj + j = nl ∧ v97 = .int .i64 (j : Int) ∧ Hid (St K w wx a LD [trB rb pj nj cj] [(.slice pj nj cj, L.drop j), (.slice pg nu cg, XU)]))
    case atStart => exact ⟨0, nl, c, p, by omega, by omega, rfl, SA0⟩
    case round =>
      obtain ⟨j, nj, cj, pj, hjs, hjn, rfl, SJ⟩ := hrel
      clear SA0
      have hr : Box wr rb 41 #[.slice pj nj cj, .int .i64 60] := SJ.out.box (b := trB rb pj nj cj) (by simp)
      have HLj : Hid ((L.drop j).length = nj) := Lib.hid (by rw [List.length_drop, HNL.out]; omega)
      by_cases hje : j = nu
      · have hjz : ¬ (j : Int) < (nu : Int) := by omega
        have SE : Hid (St K w wr a LD [trB rb pj nj cj] [(.slice pj nj cj, LD)]) := Lib.hid (by
          have h9 := SJ.out
          rw [hje, HLD.out] at h9
          exact h9.forget (by simp) (by simp))
        have HLDl : Hid (LD.length = nj) := Lib.hid (by rw [← HLD.out, ← hje]; exact HLj.out)
        clear SJ
        go_upto_region 15 with fail
        have SE2 : Hid (St K w wr.drew a LD [trB rb pj nj cj] [(.slice pj nj cj, LD)]) := Lib.hid (SE.out.below (Below.refl _ _).drew)
        have KAl : Hid (∀ W, Hid (St K w W a LD [trB rb pj nj cj] [(.slice pj nj cj, LD)]) → Calls Try.prog 11 #[.pointer (some a)] W fun e W' => ∃ p' c', e = .returned (.slice p' nj c') ∧ Hid (St K w W' a LD [trB rb pj nj cj] [(.slice p' nj c', LD), (.slice pj nj cj, LD)])) := Lib.hid fun W s => s.out.wAll HLDl.out
        have KSl : Hid (∀ W v1, Hid (St K w W a LD [trB rb pj nj cj] [(v1, LD), (.slice pj nj cj, LD)]) → Calls Try.prog 12 #[v1, .slice pj nj cj] W fun e W' => e = .returned (.bool true) ∧ Hid (St K w W' a LD [trB rb pj nj cj] [])) := Lib.hid fun W v1 s => s.out.alike (X := LD) (by simp) (by simp) (by simp)
        have KAw : Hid (∀ W, Hid (St K w W a LD [trB rb pj nj cj] []) → Calls Try.prog 23 #[] W fun e W' => e = .returned (.bool true) ∧ Hid (St K w W' a LD [trB rb pj nj cj] [])) := Lib.hid fun W s => by
          refine (HA.out W).mono ?_
          rintro e W' ⟨rfl, b⟩
          exact ⟨rfl, Lib.hid (s.out.below b)⟩
        clear hr SE
        go_region_held3 (fun wy => wy.cell? ⟨rb, 0, none⟩ = some (.slice pj nj cj) ∧ wy.cell? ⟨rb, 1, none⟩ = some (.int .i64 60))
          (first | exact tr_of (by assumption))
          (first
            | (go_at_call 11; refine Calls.mono (KAl.out _ (by assumption)) ?_; rintro e Vb ⟨pb, cb, rfl, sb⟩)
            | (go_at_call 12; refine Calls.mono (KSl.out _ _ (by assumption)) ?_; rintro e Vc ⟨rfl, sc⟩)
            | (go_at_call 23; refine Calls.mono (KAw.out _ (by assumption)) ?_; rintro e Vd ⟨rfl, sd⟩))
        all_goals go_wp2_with fail
        all_goals go_ret
        all_goals exact ⟨rfl, (by assumption : Hid (St K w _ a LD [trB rb pj nj cj] [])).out.lo⟩
      · have hjz : (j : Int) < (nu : Int) := by omega
        have hjX : j < XU.length := by rw [HNU.out]; omega
        obtain ⟨gg, hgg, _, x0, x1, x2⟩ := en_cells (p := pg) (c := cg) (l := XU) (n := nu) (i := j) (SJ.out.row (r := (.slice pg nu cg, XU)) (by simp)) hjX
        subst hgg
        have hdh := drop_head HRi.out HPre.out hjX
        have hrj : Rises (L.drop j) := List.Pairwise.sublist (List.drop_sublist _ _) HRi.out
        obtain ⟨z, HZ⟩ : ∃ z, Hid (XU[j]'hjX = z) := ⟨_, Lib.hid rfl⟩
        rw [HZ.out] at x0 x1 x2 hdh
        have hwj : IntKind.i64.wrap ((j : Int) + 1) = ((j + 1 : Nat) : Int) := by rw [IntKind.wrap_i64]; omega
        have sB := SJ.out.below ((Below.refl _ _).alloc (Nat.le_refl _) (.cells #[.int .u64 (z.key.at_ : Int), .int .u64 (z.key.seq : Int), .int .i64 z.val] 52))
        obtain ⟨eb, HEB⟩ : ∃ eb, Hid (wr.heap.size = eb) := ⟨_, Lib.hid rfl⟩
        obtain ⟨W8, HW8⟩ : ∃ W8, Hid (wr.alloc (.cells #[.int .u64 (z.key.at_ : Int), .int .u64 (z.key.seq : Int), .int .i64 z.val] 52) = W8) := ⟨_, Lib.hid rfl⟩
        rw [HW8.out] at sB
        have be : Box W8 eb 52 #[.int .u64 (z.key.at_ : Int), .int .u64 (z.key.seq : Int), .int .i64 z.val] := by rw [← HW8.out, ← HEB.out]; exact Box.new _ _ _
        have KD := Lib.hid (sB.rdrop (p := pj) (n := nj) (c := cj) (L := L.drop j) (by simp) HLj.out (by omega) hrj z.key hdh (n' := nj - 1) (by rw [List.length_drop, HNL.out]; omega))
        unfold kyV at KD
        have hr8 : Box W8 rb 41 #[.slice pj nj cj, .int .i64 60] := sB.box (b := trB rb pj nj cj) (by simp)
        clear hdh hrj sB hr SJ
        go_upto_region 13 with fail
        rw [HW8.out, HEB.out]
        have e0 := be.cell 0
        have e1 := be.cell 1
        have r0 := hr8.cell 0
        have r1 := hr8.cell 1
        clear x0 x1 x2 be hr8 HW8 HEB
        go_wp2_with (go_at_call 22; refine KD.out.mono ?_; rintro e Ve ⟨pe, ce, x, y, rfl, se⟩; have hq : Box Ve rb 41 #[.slice pj nj cj, .int .i64 60] := se.out.box (b := trB rb pj nj cj) (by simp); have q0 := hq.cell 0; have q1 := hq.cell 1; have f0 := hq.frozen 0; have f1 := hq.frozen 1; have SK := Lib.hid ((se.out.setT (by simp) (.slice pe (nj - 1) ce) (.int .i64 60)).forget (bx' := [trB rb pe (nj - 1) ce]) (rs' := [(.slice pe (nj - 1) ce, L.drop (j + 1)), (.slice (some ⟨gg, 0, none⟩) nu cg, XU)]) (by simp) (by simp)); clear e0 e1 r0 r1 KD hq se)
        go_roundg (nu - (j + 1))
        case measure => omega
        case rel => exact ⟨j + 1, nj - 1, ce, pe, by omega, by omega, by go_num, SK⟩

end Go.Proofs.Ytfedjeojanpnpab
