/-
  What the program's own Take answers, and takes.
-/
import Derived.Test.YtfedjeojanpnpabWalkCalls
import Derived.LoopN
namespace Go.Proofs.Ytfedjeojanpnpab
open Go.RowKit Go.Shelf
set_option linter.unusedVariables false

theorem upto_pre {t : Nat} : ∀ {l : List En}, Rises l → uptoL t l <+: l
  | [], _ => List.prefix_refl _
  | a :: l, h => by
    have h1 := List.pairwise_cons.1 h
    unfold uptoL
    by_cases c : a.key.at_ ≤ t
    · rw [List.filter_cons_of_pos (by simpa using c)]
      exact (List.prefix_cons_inj a).2 (upto_pre h1.2)
    · rw [List.filter_cons_of_neg (by simpa using c), List.filter_eq_nil_iff.2]
      · exact List.nil_prefix
      · intro e he
        have := h1.1 e he
        unfold Ky.lt at this
        simp
        omega
theorem del_head {e : En} {l : List En} (h : Rises (e :: l)) : delL e.key (e :: l) = l := by
  have h1 := List.pairwise_cons.1 h
  unfold delL
  rw [List.filter_cons_of_neg (by simp), List.filter_eq_self]
  intro x hx
  have := h1.1 x hx
  simp
  intro e2
  rw [e2] at this
  exact Ky.lt_irrefl _ this
theorem Rises.drop {l : List En} (h : Rises l) (i : Nat) : Rises (l.drop i) := List.Pairwise.sublist (List.drop_sublist i l) h

/-- What Take leaves. -/
def TakeC (K : TreeK) (w : World) (a : Addr) (N : Nat → Prop) (g : Tg) (X : List En) (e : Ending) (w' : World) : Prop :=
  ∃ p c N' g', e = .returned (.slice p X.length c) ∧ w'.ownsRow w.heap.size 52 3 (.slice p X.length c) X.length (X.flatMap enC) ∧ OffV N' (.slice p X.length c) ∧ K.At N' w' a g' ∧ g'.Ok ∧ g'.room = g.room ∧ g'.l = g.l.drop X.length ∧ SteppedT w w' N N'
theorem SteppedT.refl (w : World) (N : Nat → Prop) : SteppedT w w N N := ⟨Turned.refl N w, fun k h => .inl h⟩
theorem SteppedT.trans {W W1 W2 : World} {O O1 O2 : Nat → Prop} (h : SteppedT W W1 O O1) (k : SteppedT W1 W2 O1 O2) : SteppedT W W2 O O2 := by
  have := Stp.trans ⟨h.turned, h.own⟩ ⟨k.turned, k.own⟩
  exact ⟨this.turned, this.own⟩
theorem SteppedT.below {W W' : World} (O : Nat → Prop) (b : Below W.heap.size W W') : SteppedT W W' O O := ⟨Turned.below b, fun k h => .inl h⟩

/-- Ahead of a round: i are taken. -/
structure TkAt (K : TreeK) (w : World) (a : Addr) (N : Nat → Prop) (g : Tg) (X : List En) (p : Option Addr) (c i : Nat) (wx : World) (N' : Nat → Prop) (g' : Tg) : Prop where
  row : wx.ownsRow w.heap.size 52 3 (.slice p X.length c) X.length (X.flatMap enC)
  off : OffV N' (.slice p X.length c)
  at_ : K.At N' wx a g'
  ok : g'.Ok
  room : g'.room = g.room
  l : g'.l = g.l.drop i
  stp : SteppedT w wx N N'
theorem TkAt.below {K : TreeK} {w : World} {a : Addr} {N : Nat → Prop} {g : Tg} {X : List En} {p : Option Addr} {c i : Nat} {wx wy : World} {N' : Nat → Prop} {g' : Tg} (h : TkAt K w a N g X p c i wx N' g') (b : Below wx.heap.size wx wy) : TkAt K w a N g X p c i wy N' g' :=
  ⟨owns_below h.row b, h.off, K.below h.at_ b, h.ok, h.room, h.l, h.stp.trans (SteppedT.below N' b)⟩

set_option maxRecDepth 100000 in
set_option maxHeartbeats 1000000 in
theorem walk_take (K : TreeK) {N : Nat → Prop} {w : World} {a : Addr} {g : Tg} (h : K.At N w a g) (ok : g.Ok) (t : Nat) (ht : t < 18446744073709551616) (n : Int) :
    Calls Try.prog 21 #[.pointer (some a), .int .u64 (t : Int), .int .i64 n] w (TakeC K w a N g ((uptoL t g.l).take n.toNat)) := by
  have hl : g.l.length ≤ 65536 := Nat.le_trans ok.room ok.small
  have HU := walk_upto (reads_of K h ok) hl t ht n
  have hpre : (uptoL t g.l).take n.toNat <+: g.l := (List.take_prefix _ _).trans (upto_pre ok.rises)
  obtain ⟨X, HX⟩ : ∃ X, Hid ((uptoL t g.l).take n.toNat = X) := ⟨_, Lib.hid rfl⟩
  rw [HX.out] at HU hpre ⊢
  replace HU := Lib.hid HU
  obtain ⟨m, HM⟩ : ∃ m, Hid (X.length = m) := ⟨_, Lib.hid rfl⟩
  have hm : m ≤ 65536 := by rw [← HM.out]; exact Nat.le_trans hpre.length_le hl
  have HP := Lib.hid hpre
  have HT := Lib.hid (And.intro h ok)
  clear h ok hl hpre HX
  go_enter Try.func21, Try.ntmps21
  go_upto_region 2 with (go_at_call 19; refine HU.out.mono ?_; rintro e w1 hA; obtain ⟨p, c, rfl, r, b⟩ := hA)
  have HK : Hid (TkAt K w a N g X p c 0 w1 N g) := by
    obtain ⟨h, ok⟩ := HT.out
    exact Lib.hid ⟨r, OffV.fresh (fun k hk => K.lt h k hk) r, K.below h b, ok, rfl, by rw [List.drop_zero], SteppedT.below N b⟩
  clear r b HT HU
  rw [HM.out]
  go_upto_block 0 with fail
  go_wp2_with fail
  go_loopg [16] m (fun k v16 wx => ∃ (i : Nat) (N' : Nat → Prop) (g' : Tg), i + k = m ∧ v16 = .int .i64 (i : Int) ∧ Hid (TkAt K w a N g X p c i wx N' g'))
  case atStart => exact ⟨0, N, g, by omega, rfl, HK⟩
  case round =>
    obtain ⟨i, N', g', hi, rfl, HK'⟩ := hrel
    clear HK
    by_cases hz : (i : Int) < (m : Int)
    · have hiX : i < X.length := by rw [HM.out]; omega
      obtain ⟨B, hB, hBl, e0, e1, e2⟩ := en_cells HK'.out.row hiX
      subst hB
      obtain ⟨y, HY⟩ : ∃ y, Hid (X[i]'hiX = y) := ⟨_, Lib.hid rfl⟩
      rw [HY.out] at e0 e1 e2
      have hdr : g.l.drop i = y :: g.l.drop (i + 1) := by
        obtain ⟨q, hq⟩ := HP.out
        have h1 : g.l[i]? = some y := by rw [← hq, List.getElem?_append_left hiX, List.getElem?_eq_getElem hiX, HY.out]
        obtain ⟨h2, h3⟩ := List.getElem?_eq_some_iff.1 h1
        rw [List.drop_eq_getElem_cons h2, h3]
      have hfy : y.Fits := HK'.out.ok.fits y (by rw [HK'.out.l, hdr]; exact List.mem_cons_self)
      have bl := (Below.refl wr.heap.size wr).alloc (Nat.le_refl _) (.cells #[.int .u64 (y.key.at_ : Int), .int .u64 (y.key.seq : Int), .int .i64 y.val] 52)
      have HK2 := Lib.hid (HK'.out.below bl)
      have HD := Lib.hid (K.drop y.key HK2.out.at_ HK2.out.ok hfy.1)
      have hdel : delL y.key (g.l.drop i) = g.l.drop (i + 1) := by
        have hri := HK'.out.ok.rises
        rw [HK'.out.l, hdr] at hri
        rw [hdr]
        exact del_head hri
      have HDL := Lib.hid hdel
      have hlt : i < m := by omega
      have hwr : IntKind.i64.wrap ((i : Int) + 1) = ((i + 1 : Nat) : Int) := by rw [IntKind.wrap_i64]; omega
      clear hdr hfy bl hdel HK' HY hBl
      unfold kyV at HD
      go_wp2_with (go_at_call 10; refine HD.out.mono ?_; rintro e w4 ⟨rfl, HTT⟩; unfold outI; have HTT := Lib.hid HTT)
      go_roundg (gk - 1)
      case rel =>
        obtain ⟨g2, h1, h2, h3, N2, h4, h5, h6⟩ := HTT.out
        have k2 := HK2.out
        have hs : SteppedT (wr.alloc (.cells #[.int .u64 (y.key.at_ : Int), .int .u64 (y.key.seq : Int), .int .i64 y.val] 52)) w4 N' N2 := ⟨h5, h6⟩
        exact ⟨i + 1, N2, g2, by omega, by simp, Lib.hid ⟨own_turnedV k2.row k2.off h5, k2.off.went k2.row h6, h4, h3, h1.trans k2.room, by rw [h2, k2.l, HDL.out], k2.stp.trans hs⟩⟩
      case measure => omega
    · have hiz : i = m := by omega
      subst hiz
      go_wp2_with fail
      go_ret
      have hk := HK'.out
      exact ⟨p, c, N', g', by rw [HM.out]; rfl, hk.row, hk.off, hk.at_, hk.ok, hk.room, by rw [HM.out]; exact hk.l, hk.stp⟩

theorem walk_take_none {p : Option Addr} {M : Nat → Prop} {w : World} (h : Reads (.pointer p) [] M w) (t : Nat) (ht : t < 18446744073709551616) (n : Int) :
    Calls Try.prog 21 #[.pointer p, .int .u64 (t : Int), .int .i64 n] w fun e w' => (∃ q c, e = .returned (.slice q 0 c)) ∧ Below w.heap.size w w' := by
  have HU := walk_upto h (by simp) t ht n
  rw [show (uptoL t ([] : List En)).take n.toNat = [] by simp [uptoL]] at HU
  replace HU := Lib.hid HU
  clear h
  go_enter Try.func21, Try.ntmps21
  go_wp2_with (go_at_call 19; refine HU.out.mono ?_; rintro e w1 hA; obtain ⟨q, c, rfl, r, b⟩ := hA; dsimp only [List.length])
  refine wp_loop_rounds 1 ?_
  rw [rounds_succ]
  go_wp2_with fail
  go_ret
  exact ⟨⟨q, c, rfl⟩, b⟩

end Go.Proofs.Ytfedjeojanpnpab
