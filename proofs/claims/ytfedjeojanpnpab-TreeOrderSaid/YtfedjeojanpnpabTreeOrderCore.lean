/-
  TreeOrder's walk.
-/
import Derived.Test.YtfedjeojanpnpabTreeOrderTwo
namespace Go.Proofs.Ytfedjeojanpnpab
open Go.RowKit Go.Maps Go.WideMaps
set_option linter.unusedVariables false
set_option linter.unusedSimpArgs false

theorem lit_key (w : World) (k : Ky) : (w.alloc (.cells #[.int .u64 (k.at_ : Int), .int .u64 (k.seq : Int)] 27)).ownsRow 0 27 2 (.slice (some ⟨w.heap.size, 0, none⟩) 1 1) 1 (kyC k) :=
  ⟨rfl, .inr ⟨w.heap.size, 1, _, rfl, Nat.zero_le _, World.alloc_heap_new w _, Nat.le_refl _, by decide, rfl, rfl⟩⟩
theorem ky_one (k : Ky) : ∀ u ∈ kyC k, u.oneCell' = true := by
  intro u hu
  simp only [kyC, List.mem_cons, List.not_mem_nil, or_false] at hu
  rcases hu with rfl | rfl <;> rfl
theorem ky_ones (l : List Ky) : ∀ u ∈ l.flatMap kyC, u.oneCell' = true := by
  intro u hu
  obtain ⟨e, _, he⟩ := List.mem_flatMap.1 hu
  exact ky_one e u he
/-- The keys so far, and the map of their numbers. -/
structure Ord1 (w W : World) (mb m : Nat) (D : DataW Unit) (p : Option Addr) (n c : Nat) (H : List Ky) : Prop where
  row : W.ownsRow w.heap.size 27 2 (.slice p n c) n (H.flatMap kyC)
  len : H.length = n
  map : MapAt W mb m D
  mlo : w.heap.size ≤ mb
  lo : Below w.heap.size w W
section
variable {w W W' : World} {mb m : Nat} {D : DataW Unit} {p : Option Addr} {n c : Nat} {H : List Ky}
theorem Ord1.below (h : Ord1 w W mb m D p n c H) (b : Below W.heap.size W W') : Ord1 w W' mb m D p n c H :=
  ⟨owns_below h.row b, h.len, map_below h.map b, h.mlo, below_tr h.lo b⟩
theorem Ord1.app {p' : Option Addr} {n' c' : Nat} {k : Ky} (h : Ord1 w W mb m D p n c H) (r : W'.ownsRow w.heap.size 27 2 (.slice p' n' c') n' (H.flatMap kyC ++ kyC k)) (g : W.grownBy W' (Value.slice p n c).ownBlock) (hn : n' = n + 1) : Ord1 w W' mb m D p' n' c' (H ++ [k]) :=
  ⟨by rw [List.flatMap_append, show ([k] : List Ky).flatMap kyC = kyC k by simp]; exact r, by rw [List.length_append, h.len, hn]; rfl, h.map.kept g (fun e => own_not_map h.row h.map e.symm), h.mlo, h.lo.trans ⟨g.os, g.tape, g.output, g.size, fun k hk => g.block k (Nat.lt_of_lt_of_le hk h.lo.size) (fun e => by
    have := (h.row.lt k e.symm).1
    omega)⟩⟩
theorem Ord1.put {m' : Nat} {D' : DataW Unit} (h : Ord1 w W mb m D p n c H) (o : MapAt W' mb m' D') (g : W.grownBy W' (some mb)) : Ord1 w W' mb m' D' p n c H :=
  ⟨h.row.kept g (.inr (own_not_map h.row h.map)), h.len, o, h.mlo, h.lo.grown g h.lo.size (fun i e => by cases e; exact h.mlo)⟩
end

theorem lit_emptyS {e : TypeId} (sz : Nat) (w : World) (base : Nat) (hb : base ≤ w.heap.size) : (w.alloc (.cells #[] e)).ownsRow base e sz (.slice (some ⟨w.heap.size, 0, none⟩) 0 0) 0 [] :=
  ⟨by simp, .inr ⟨w.heap.size, 0, #[], rfl, hb, World.alloc_heap_new w _, Nat.le_refl _, by decide, by simp, by simp⟩⟩
/-- These are the keys, in some order. -/
def PermK (H : List Ky) (n : Nat) (f : Nat → Ky) : Prop := ∃ σ τ : Nat → Nat, ∀ j, j < n → σ j < n ∧ τ j < n ∧ τ (σ j) = j ∧ σ (τ j) = j ∧ H[σ j]? = some (f j)
theorem perm_start {H : List Ky} {n : Nat} (hl : H.length = n) : PermK H n (fun j => (H[j]?).getD ⟨0, 0⟩) :=
  ⟨id, id, fun j hj => ⟨hj, hj, rfl, rfl, by show H[j]? = some ((H[j]?).getD ⟨0, 0⟩); rw [List.getElem?_eq_getElem (by omega)]; rfl⟩⟩
def swp (i k j : Nat) : Nat := if j = k then i else if j = i then k else j
theorem swp_swp (i k j : Nat) : swp i k (swp i k j) = j := by
  unfold swp
  split <;> split <;> first | omega | (split <;> omega) | skip
theorem swp_lt {i k j n : Nat} (hi : i < n) (hk : k < n) (hj : j < n) : swp i k j < n := by
  unfold swp
  split
  · exact hi
  · split
    · exact hk
    · exact hj
theorem perm_swap {H : List Ky} {n i k : Nat} {f : Nat → Ky} (h : PermK H n f) (hi : i < n) (hk : k < n) : PermK H n (fun j => if j = k then f i else if j = i then f k else f j) := by
  obtain ⟨σ, τ, h⟩ := h
  refine ⟨fun j => σ (swp i k j), fun x => swp i k (τ x), fun j hj => ?_⟩
  have h1 := h (swp i k j) (swp_lt hi hk hj)
  have h2 := h j hj
  refine ⟨h1.1, swp_lt hi hk h2.2.1, ?_, ?_, ?_⟩
  · show swp i k (τ (σ (swp i k j))) = j
    rw [h1.2.2.1, swp_swp]
  · show σ (swp i k (swp i k (τ j))) = j
    rw [swp_swp]; exact h2.2.2.2.1
  · show H[σ (swp i k j)]? = _
    rw [h1.2.2.2.2]
    congr 1
    unfold swp
    by_cases c1 : j = k
    · simp [c1]
    · by_cases c2 : j = i
      · subst c2
        simp [c1]
      · simp [c1, c2]
/-- The keys, their map, and the turned row. -/
structure Ord2 (w W : World) (mb m : Nat) (D : DataW Unit) (p : Option Addr) (n c : Nat) (H : List Ky) (pt : Option Addr) (ct : Nat) (f : Nat → Ky) : Prop where
  one : Ord1 w W mb m D p n c H
  row : 0 < n → ∃ g, pt = some ⟨g, 0, none⟩ ∧ w.heap.size ≤ g ∧ KeyRow W g n ct f ∧ (Value.slice p n c).ownBlock ≠ some g
section
variable {w W W' : World} {mb m : Nat} {D : DataW Unit} {p : Option Addr} {n c : Nat} {H : List Ky} {pt : Option Addr} {ct : Nat} {f : Nat → Ky}
theorem Ord2.below (h : Ord2 w W mb m D p n c H pt ct f) (b : Below W.heap.size W W') : Ord2 w W' mb m D p n c H pt ct f :=
  ⟨h.one.below b, fun h0 => by
    obtain ⟨g, e, h1, h2, h3⟩ := h.row h0
    exact ⟨g, e, h1, h2.below b h2.lt, h3⟩⟩
theorem Ord2.swap {g i k : Nat} (h : Ord2 w W mb m D p n c H (some ⟨g, 0, none⟩) ct f) (hi : i < n) (hk : k < n) :
    Ord2 w ((((W.setCell ⟨g, i * 2, none⟩ (.int .u64 ((f k).at_ : Int))).setCell ⟨g, i * 2 + 1, none⟩ (.int .u64 ((f k).seq : Int))).setCell ⟨g, k * 2, none⟩ (.int .u64 ((f i).at_ : Int))).setCell ⟨g, k * 2 + 1, none⟩ (.int .u64 ((f i).seq : Int))) mb m D p n c H (some ⟨g, 0, none⟩) ct (fun j => if j = k then f i else if j = i then f k else f j) := by
  obtain ⟨g', e, h1, h2, h3⟩ := h.row (by omega)
  cases e
  have hgm : g ≠ mb := by
    obtain ⟨cs, b, _⟩ := h2.row
    exact box_not_map b h.one.map
  have st : ∀ {V : World} (i : Nat) (u : Value), Ord1 w V mb m D p n c H → Ord1 w (V.setCell ⟨g, i, none⟩ u) mb m D p n c H := fun i u o =>
    ⟨own_set o.row h3, o.len, o.map.kept (grownBy_set _ g i u) (fun e => hgm (Option.some.inj e).symm), o.mlo, o.lo.setCell h1 _⟩
  exact ⟨st _ _ (st _ _ (st _ _ (st _ _ h.one))), fun _ => ⟨g, rfl, h1, (h2.set2 hi (f k)).set2 hk (f i), h3⟩⟩
end

set_option maxHeartbeats 8000000 in
set_option maxRecDepth 100000 in
theorem treeOrder_core (K : TreeK) {A O B : Option Addr} {len cap olen ocap blen bcap : Nat} {ks others : List Ky} {os : List Nat} (w : World) (hks : KeysAt w A len cap ks) (hos : BytesAt w O olen ocap os) (hot : KeysAt w B blen bcap others)
    (HA : Hid Awake) :
    Calls Try.prog 3 #[.slice A len cap, .slice O olen ocap, .slice B blen bcap] w fun e w' => e = .returned (.bool true) ∧ Below w.heap.size w w' := by
  have hlc := hks.le
  have hcap := hks.cap
  have hlo := hos.le
  have hco := hos.capLe
  have hlb := hot.le
  have hcb := hot.cap
  have HKs := Lib.hid hks
  have HOs := Lib.hid hos
  have HOt := Lib.hid hot
  clear hks hos hot
  obtain ⟨m1, Hm1⟩ : ∃ m, Hid (min len 50 = m) := ⟨_, Lib.hid rfl⟩
  have hm1 : m1 ≤ len := by have := Hm1.out; omega
  have hm2 : m1 ≤ 50 := by have := Hm1.out; omega
  have hmm := @run_makeMap Try.prog
  go_enter Try.func3, Try.ntmps3
  go_upto_region 2 with fail
  clear hmm
  have hmp := World.ownsMap_made w Try.prog 27 (plainElem (H := Unit) Try.prog 3)
  have HS0 : Hid (Ord1 w (w.alloc (.map #[] 0)) w.heap.size 0 (.map []) none 0 0 []) := Lib.hid ⟨⟨rfl, .inl ⟨rfl, rfl⟩⟩, rfl, hmp, Nat.le_refl _, (Below.refl _ w).alloc (Nat.le_refl _) _⟩
  have HR0 := Lib.hid readsO_start
  obtain ⟨mb, HMB⟩ : ∃ mb, Hid (w.heap.size = mb) := ⟨_, Lib.hid rfl⟩
  obtain ⟨W0, HW0⟩ : ∃ W0, Hid (w.alloc (.map #[] 0) = W0) := ⟨_, Lib.hid rfl⟩
  rw [HMB.out, HW0.out] at HS0
  rw [HW0.out, HMB.out]
  clear HW0 hmp
  obtain ⟨i0, hi1, hi2, hi3, hi4⟩ := info_parts (P := Try.prog) (e := 27) (z := .agg #[.int .u64 0, .int .u64 0]) (size := 2) (bytes := 16) (by kernel_rfl)
  have HI := Lib.hid (And.intro hi1 (And.intro hi2 (And.intro hi3 hi4)))
  clear hi1 hi2 hi3 hi4
  go_upto_region 3 with fail
  go_cut [30, 31, 32] (fun v30 v31 v32 wx => v30 = .slice A m1 cap ∧ v31 = .int .i64 (m1 : Int) ∧ v32 = .int .i64 0 ∧ wx = W0)
  case first =>
    by_cases h50 : 50 < len
    · have h50z : (50 : Int) < (len : Int) := by omega
      obtain rfl : m1 = 50 := by have := Hm1.out; omega
      go_wp2_with fail
      go_meet
      exact ⟨rfl, rfl, rfl, rfl⟩
    · have h50z : ¬ (50 : Int) < (len : Int) := by omega
      obtain rfl : m1 = len := by have := Hm1.out; omega
      go_wp2_with fail
      go_meet
      exact ⟨rfl, rfl, rfl, rfl⟩
  case rest =>
    obtain ⟨rfl, rfl, rfl, rfl⟩ := hcut
    clear Hm1
    go_wp2_with fail
    go_loopg [8, 32] m1 (fun s v8 v32 wx => ∃ (i m n c : Nat) (p : Option Addr) (H : List Ky) (D : DataW Unit), i + s = m1 ∧ v8 = .slice p n c ∧ v32 = .int .i64 (i : Int) ∧ n ≤ i ∧ m ≤ n ∧ Hid (Ord1 w wx mb m D p n c H) ∧ Hid (ReadsO D H))
    case atStart => exact ⟨0, 0, 0, 0, none, [], _, by omega, rfl, rfl, Nat.le_refl _, Nat.le_refl _, HS0, HR0⟩
    case round =>
      obtain ⟨i, m, n, c, p, H, D, his, rfl, rfl, hni, hmn, HS, HR⟩ := hrel
      clear HS0 HR0
      by_cases hin : i = m1
      · have hiz : ¬ (i : Int) < (m1 : Int) := by omega
        have hn50 : n ≤ 50 := by omega
        have HCp : Hid (∀ (p9 : Option Addr) (c9 : Nat) (w9 : World), w9.ownsRow wr.heap.size 27 2 (.slice p9 n c9) n ([] ++ H.flatMap kyC) → (wr.alloc (.cells #[] 27)).grownBy w9 (Value.slice (some ⟨wr.heap.size, 0, none⟩) 0 0).ownBlock → Ord2 w w9 mb m D p n c H p9 c9 (fun j => (H[j]?).getD ⟨0, 0⟩) ∧ n ≤ c9 ∧ c9 ≤ 9223372036854775807) := Lib.hid fun p9 c9 w9 o9 g9 => by
          have b9 : Below wr.heap.size wr w9 := ((Below.refl _ wr).alloc (Nat.le_refl _) (.cells #[] 27)).grown g9 (by simp) (fun k e => by cases e; exact Nat.le_refl _)
          rw [List.nil_append] at o9
          have hcc : n ≤ c9 ∧ c9 ≤ 9223372036854775807 := by
            rcases o9.2 with ⟨e, e2⟩ | ⟨g, cap, cur, e, _, _, h2, h3, _⟩
            · cases e; exact ⟨by omega, by decide⟩
            · cases e; exact ⟨h2, h3⟩
          refine ⟨⟨HS.out.below b9, fun h0 => ?_⟩, hcc⟩
          obtain ⟨g, e, h1, h2⟩ := kyRow_of o9 HS.out.len h0
          refine ⟨g, e, Nat.le_trans HS.out.lo.size h1, h2, fun e2 => ?_⟩
          have := (HS.out.row.lt _ e2).2
          omega
        go_upto_region 11 with (at_builtin; refine wpList_append_any' _ rfl (.tmp 49) (.tmp 50) 22 rfl wr.heap.size 27 i0 (.agg #[.int .u64 0, .int .u64 0]) 2 16 Try.underlying22 HI.out.1 HI.out.2.1 HI.out.2.2.1 HI.out.2.2.2 rfl (by decide) _ 0 [] rfl (lit_emptyS (e := 27) 2 wr wr.heap.size (Nat.le_refl _)) w.heap.size (.slice p n c) n (H.flatMap kyC) rfl (HS.out.row.alloc _) (ky_ones H) n (Nat.zero_add n) (by omega) (by decide) (by simp) ?_; intro p9 c9 w9 own9 gr9 lc9; have HT0 := Lib.hid (HCp.out p9 c9 w9 own9 gr9); clear own9 gr9 lc9)
        obtain ⟨m2, Hm2⟩ : ∃ m2, Hid (min olen n = m2) := ⟨_, Lib.hid rfl⟩
        have hm21 : m2 ≤ olen := by have := Hm2.out; omega
        have hm22 : m2 ≤ n := by have := Hm2.out; omega
        obtain ⟨hcc1, hcc2⟩ := HT0.out.2
        clear HCp HS
        go_cut [58, 59, 60] (fun v58 v59 v60 wx => v58 = .slice O m2 ocap ∧ v59 = .int .i64 (m2 : Int) ∧ v60 = .int .i64 0 ∧ wx = w9)
        case first =>
          by_cases hon : n < olen
          · have honz : (n : Int) < (olen : Int) := by omega
            obtain rfl : m2 = n := by have := Hm2.out; omega
            go_wp2_with fail
            go_meet
            exact ⟨rfl, rfl, rfl, rfl⟩
          · have honz : ¬ (n : Int) < (olen : Int) := by omega
            obtain rfl : m2 = olen := by have := Hm2.out; omega
            go_wp2_with fail
            go_meet
            exact ⟨rfl, rfl, rfl, rfl⟩
        case rest =>
          obtain ⟨rfl, rfl, rfl, rfl⟩ := hcut
          clear Hm2
          have HP0 : Hid (PermK H n (fun j => (H[j]?).getD ⟨0, 0⟩)) := Lib.hid (perm_start HT0.out.1.one.len)
          have HT00 := Lib.hid HT0.out.1
          clear HT0
          go_wp2_with fail
          go_loopg [60] m2 (fun s v60 wx => ∃ (i : Nat) (f : Nat → Ky), i + s = m2 ∧ v60 = .int .i64 (i : Int) ∧ Hid (Ord2 w wx mb m D p n c H p9 c9 f) ∧ Hid (PermK H n f))
          case atStart => exact ⟨0, _, by omega, rfl, HT00, HP0⟩
          case round =>
            obtain ⟨i, f, hi2, rfl, HT, HP⟩ := hrel
            clear HT00 HP0
            by_cases hie : i = m2
            · have hiz2 : ¬ (i : Int) < (m2 : Int) := by omega
              go_upto_region 17 with fail
              obtain ⟨σ, τ, hσ⟩ := HP.out
              have Hσ := Lib.hid hσ
              have hle := HT.out.one.len
              have HLen := Lib.hid hle
              have HTd := HT
              obtain ⟨Wb, HWb⟩ : ∃ Wb, Hid (wr = Wb) := ⟨_, Lib.hid rfl⟩
              rw [HWb.out] at HT
              rw [HWb.out]
              have K1 := Lib.hid (TwoT.start K Wb)
              have hlo2 := HT.out.one.lo.size
              clear hσ hle HTd HP HWb
              go_upto_region 18 with (go_at_call 8; refine K1.out.mono ?_; rintro e W1 ⟨ta, rfl, K2⟩)
              clear K1
              go_upto_region 19 with (go_at_call 8; refine K2.out.mono ?_; rintro e W2 ⟨tb, rfl, HTT⟩)
              clear K2
              obtain ⟨E0, HE0⟩ : ∃ E0 : Nat → En, Hid (E0 = fun q => ⟨(H[q]?).getD ⟨0, 0⟩, ((q + 1 : Nat) : Int)⟩) := ⟨_, Lib.hid rfl⟩
              have HG : Hid (∀ j (h : j < H.length), E0 j = ⟨H[j], ((j + 1 : Nat) : Int)⟩) := Lib.hid (fun j h => by rw [HE0.out]; simp [List.getElem?_eq_getElem h])
              have HApt0 : Hid (Apt E0 n) := Lib.hid (by
                rw [HE0.out]
                exact apt_keys (σ := id) (τ := id) HLen.out HR.out.nodup (fun j hj => ⟨hj, hj, rfl, rfl, by show H[j]? = some ((H[j]?).getD ⟨0, 0⟩); rw [List.getElem?_eq_getElem (by rw [HLen.out]; exact hj)]; rfl⟩))
              go_wp2_with fail
              go_loopg [95] n (fun s v95 wx => ∃ j : Nat, j + s = n ∧ v95 = .int .i64 (j : Int) ∧ Hid (TwoT K Wb wx ta tb (canon E0 j) []))
              case atStart => exact ⟨0, by omega, rfl, HTT⟩
              case round =>
                obtain ⟨j, hjn, rfl, HJ⟩ := hrel
                clear HTT
                by_cases hje : j = n
                · have hjz : ¬ (j : Int) < (n : Int) := by omega
                  have HAa : Hid (TwoT K Wb wr ta tb (canon E0 n) []) := Lib.hid (by rw [← hje]; exact HJ.out)
                  obtain ⟨E1, HE1⟩ : ∃ E1 : Nat → En, Hid (E1 = fun q => ⟨f q, ((σ q + 1 : Nat) : Int)⟩) := ⟨_, Lib.hid rfl⟩
                  have HApt1 : Hid (Apt E1 n) := Lib.hid (by rw [HE1.out]; exact apt_keys HLen.out HR.out.nodup Hσ.out)
                  have HCan : Hid (canon E0 n = canon E1 n) := Lib.hid (by
                    rw [HE0.out, HE1.out]
                    exact canon_same HLen.out HR.out.nodup (fun j hj => by rw [List.getElem?_eq_getElem (by rw [HLen.out]; exact hj)]; rfl) Hσ.out)
                  have HE1k : Hid (∀ q, (E1 q).key = f q ∧ (E1 q).val = ((σ q + 1 : Nat) : Int)) := Lib.hid (fun q => by rw [HE1.out]; exact ⟨rfl, rfl⟩)
                  clear HJ hje HE0 HG HE1
                  go_wp2_with fail
                  go_loopg [109] n (fun s v109 wx => ∃ j : Nat, j + s = n ∧ v109 = .int .i64 (j : Int) ∧ Hid (TwoT K Wb wx ta tb (canon E0 n) (canon E1 j)))
                  case atStart => exact ⟨0, by omega, rfl, HAa⟩
                  case round =>
                    obtain ⟨j2, hj2n, rfl, HJ⟩ := hrel
                    clear HAa
                    by_cases hj2e : j2 = n
                    · have hj2z : ¬ (j2 : Int) < (n : Int) := by omega
                      have HFin : Hid (TwoT K Wb wr ta tb (canon E0 n) (canon E0 n)) := Lib.hid (by rw [HCan.out, ← HCan.out]; have h9 := HJ.out; rw [hj2e, ← HCan.out] at h9; exact h9)
                      go_upto_region 38 with fail
                      obtain ⟨L, HL⟩ : ∃ L, Hid (canon E0 n = L) := ⟨_, Lib.hid rfl⟩
                      have HLl : Hid (L.length = n) := Lib.hid (by rw [← HL.out, canon_len])
                      rw [HL.out] at HFin
                      have HA1 : Hid (∀ W, Below wr.heap.size wr W → Calls Try.prog 11 #[.pointer (some ta)] W fun e W' => ∃ p c, e = .returned (.slice p n c) ∧ Hid (W'.ownsRow W.heap.size 52 3 (.slice p n c) n (L.flatMap enC) ∧ Below W.heap.size W W')) := Lib.hid (fun W b => by
                        refine ((HFin.out.below b).all).mono ?_
                        rintro e W' ⟨p, c, rfl, r, b'⟩
                        rw [HLl.out] at r ⊢
                        exact ⟨p, c, rfl, Lib.hid ⟨r, b'⟩⟩)
                      have HA2 : Hid (∀ W, Below wr.heap.size wr W → Calls Try.prog 11 #[.pointer (some tb)] W fun e W' => ∃ p c, e = .returned (.slice p n c) ∧ Hid (W'.ownsRow W.heap.size 52 3 (.slice p n c) n (L.flatMap enC) ∧ Below W.heap.size W W')) := Lib.hid (fun W b => by
                        refine ((HFin.out.below b).swap.all).mono ?_
                        rintro e W' ⟨p, c, rfl, r, b'⟩
                        rw [HLl.out] at r ⊢
                        exact ⟨p, c, rfl, Lib.hid ⟨r, b'⟩⟩)
                      have HSm : Hid (∀ (W : World) (p q : Option Addr) (c d b1 b2 : Nat), W.ownsRow b1 52 3 (.slice p n c) n (L.flatMap enC) → W.ownsRow b2 52 3 (.slice q n d) n (L.flatMap enC) → Calls Try.prog 12 #[.slice p n c, .slice q n d] W fun e W' => e = .returned (.bool true) ∧ Below W.heap.size W W') := Lib.hid (fun W p q c d b1 b2 r1 r2 => by
                        have h9 := law_same p q c d b1 b2 L L W (by rw [HLl.out]; omega) (by rw [HLl.out]; omega) (by rw [HLl.out]; exact r1) (by rw [HLl.out]; exact r2)
                        rw [HLl.out] at h9
                        refine h9.mono ?_
                        rintro e W' ⟨rfl, b⟩
                        exact ⟨by simp, b⟩)
                      have HLo : Hid (Below w.heap.size w wr) := Lib.hid (below_tr HT.out.one.lo HFin.out.lo)
                      clear HFin HJ
                      go_wp2_with fail
                      refine (HA1.out wr (Below.refl _ _)).mono ?_
                      rintro e W3 ⟨p3, c3, rfl, H3⟩
                      go_wp2_with fail
                      refine (HA1.out W3 H3.out.2).mono ?_
                      rintro e W4 ⟨p4, c4, rfl, H4⟩
                      have HB4 := Lib.hid (below_tr H3.out.2 H4.out.2)
                      go_wp2_with fail
                      refine (HA2.out W4 HB4.out).mono ?_
                      rintro e W5 ⟨p5, c5, rfl, H5⟩
                      have HR4 := Lib.hid (owns_below H4.out.1 H5.out.2)
                      have HB5 := Lib.hid (below_tr HLo.out (below_tr HB4.out H5.out.2))
                      go_wp2_with fail
                      refine (HSm.out W5 p4 p5 c4 c5 _ _ HR4.out H5.out.1).mono ?_
                      rintro e W6 ⟨rfl, b6⟩
                      have HB6 := Lib.hid (below_tr HB5.out b6)
                      clear b6
                      go_wp2_with fail
                      refine (HA.out W6).mono ?_
                      rintro e W7 ⟨rfl, b7⟩
                      have HB7 := Lib.hid (below_tr HB6.out b7)
                      clear b7
                      go_wp2_with fail
                      go_ret
                      exact ⟨rfl, HB7.out⟩
                    · have hj2z : (j2 : Int) < (n : Int) := by omega
                      have hn0 : 0 < n := by omega
                      have hj2l : j2 < n := by omega
                      obtain ⟨g, hp9, hg1, hg2, hg3⟩ := HT.out.row hn0
                      subst hp9
                      obtain ⟨r0, r1⟩ := (hg2.below HJ.out.lo hg2.lt).cells hj2l
                      have hs := Hσ.out j2 hj2l
                      obtain ⟨hsl, hse⟩ := List.getElem?_eq_some_iff.1 hs.2.2.2.2
                      have HLk0 := Lib.hid (fun (W : World) (hm : MapAt W mb m D) => readsO_at HR.out hsl hm)
                      have hFx0 := HR.out.fits _ (List.getElem_mem hsl)
                      rw [hse] at HLk0 hFx0
                      obtain ⟨x, HX⟩ : ∃ x, Hid (f j2 = x) := ⟨_, Lib.hid rfl⟩
                      obtain ⟨sv, HSv⟩ : ∃ sv, Hid (σ j2 + 1 = sv) := ⟨_, Lib.hid rfl⟩
                      rw [HX.out] at r0 r1 HLk0 hFx0
                      rw [HSv.out] at HLk0
                      have hsv : sv ≤ 50 := by have := HSv.out; have := hs.1; omega
                      have HFx := Lib.hid hFx0
                      have hE1j := HE1k.out j2
                      rw [HX.out, HSv.out] at hE1j
                      have HE1j := Lib.hid hE1j
                      obtain ⟨W5, HW5⟩ : ∃ W5, Hid (wr.alloc (.cells #[.int .u64 (x.at_ : Int), .int .u64 (x.seq : Int)] 27) = W5) := ⟨_, Lib.hid rfl⟩
                      obtain ⟨bb, HBB⟩ : ∃ bb, Hid (wr.heap.size = bb) := ⟨_, Lib.hid rfl⟩
                      have HB5 : Hid (TwoB K Wb W5 ta tb (canon E0 n) (canon E1 j2) bb #[.int .u64 (x.at_ : Int), .int .u64 (x.seq : Int)]) := Lib.hid (HJ.out.boxed (by rw [← HW5.out]; exact (Below.refl _ _).alloc (Nat.le_refl _) _) (by rw [← HW5.out, ← HBB.out]; exact Box.new _ _ _) (Nat.le_of_eq HBB.out))
                      have HMW : Hid (∀ W, Below Wb.heap.size Wb W → MapAt W mb m D) := Lib.hid fun W b => map_below HT.out.one.map b
                      have HOW : Hid (∀ W, Below Wb.heap.size Wb W → Below w.heap.size w W) := Lib.hid fun W b => below_tr HT.out.one.lo b
                      have hwj : IntKind.i64.wrap ((j2 : Int) + 1) = ((j2 + 1 : Nat) : Int) := by rw [IntKind.wrap_i64]; omega
                      clear hs hsl hse hFx0 hE1j hg2 HJ
                      go_upto_region 28 with fail
                      rw [HW5.out, HBB.out]
                      clear r0 r1 HW5 HBB
                      by_cases hjb : j2 < blen
                      · have hjbz : (j2 : Int) < (blen : Int) := by omega
                        obtain ⟨y, hy⟩ : ∃ y, others[j2]? = some y := ⟨_, List.getElem?_eq_getElem (by rw [HOt.out.len]; exact hjb)⟩
                        have hyf := HOt.out.fits y (List.mem_of_getElem? hy)
                        obtain ⟨ad, had, hc⟩ := HOt.out.at_ j2 y hy
                        subst had
                        have HOc := Lib.hid hc
                        obtain ⟨v, hv1, hv2, hlook⟩ := readsO_any HR.out hyf
                        have HLook := Lib.hid (fun (W : World) (hm : MapAt W mb m D) => hlook hm)
                        have HV := Lib.hid hv2
                        have HYF := Lib.hid hyf
                        have o := HOc.out W5 (HOW.out _ HB5.out.two.lo)
                        obtain ⟨o0, o1⟩ := o
                        have hly := HLook.out W5 (HMW.out _ HB5.out.two.lo)
                        clear hy hc hlook hv2 hyf
                        by_cases hv0 : v = 0
                        · subst hv0
                          have hyH : y ∉ H := HV.out.1 rfl
                          have HYk : Hid (∀ q, q < n → (E1 q).key ≠ y) := Lib.hid (fun q hq e => by
                            rw [(HE1k.out q).1] at e
                            have h9 := (Hσ.out q hq).2.2.2.2
                            rw [e] at h9
                            exact hyH (List.mem_of_getElem? h9))
                          have hyX : ∀ e, e ∈ canon E1 j2 → e.key ≠ y := fun e he => by
                            obtain ⟨q, h1, rfl⟩ := (canon_mem E1 j2 e).1 he
                            exact HYk.out q (by omega)
                          have hxy : x ≠ y := by have h9 := HYk.out j2 hj2l; rw [HE1j.out.1] at h9; exact h9
                          have KY := Lib.hid (HB5.out.swap.put y (-1) HYF.out ⟨by decide, by decide⟩ hyX (by rw [canon_len]; omega))
                          unfold kyV at KY
                          have hnX : Hid (∀ e, e ∈ insL y (-1) (canon E1 j2) → e.key ≠ x) := Lib.hid (fun e he => by
                            rcases insL_mem.1 he with rfl | he
                            · exact fun e => hxy e.symm
                            · have h9 := canon_new HApt1.out hj2l e he
                              rw [HE1j.out.1] at h9
                              exact h9)
                          have hlX : Hid ((insL y (-1) (canon E1 j2)).length < 60) := Lib.hid (by rw [insL_length, canon_len]; omega)
                          have HXY := Lib.hid (And.intro hxy hyX)
                          clear hyX hxy hv1
                          go_upto_region 31 with (go_at_call 9; refine KY.out.mono ?_; rintro e W6 ⟨rfl, HB6⟩; clear o0 o1 hly KY)
                          have HB6' := Lib.hid HB6.out.swap
                          clear HB6 HB5
                          have hbx := HB6'.out.box
                          have c0 := hbx.cell 0
                          have c1 := hbx.cell 1
                          have hl0 := HLk0.out W6 (HMW.out _ HB6'.out.two.lo)
                          have hl1 := HLk0.out W6.drew (HMW.out _ (HB6'.out.two.below (Below.refl _ _).drew).lo)
                          have KP := Lib.hid ((HB6'.out.two.below (Below.refl _ _).drew).swap.put x (sv : Int) HFx.out ⟨by omega, by omega⟩ hnX.out hlX.out rfl)
                          unfold kyV at KP
                          clear hbx
                          go_cut [140] (fun v140 wx => v140 = .bool false ∧ Hid (TwoT K Wb wx ta tb (canon E0 n) (insL x (sv : Int) (insL y (-1) (canon E1 j2)))))
                          case first =>
                            go_region_with (go_at_call 9; refine KP.out.mono ?_; rintro e W6 ⟨rfl, HJ6⟩)
                            all_goals go_wp2_with fail
                            all_goals go_meet
                            all_goals exact ⟨rfl, Lib.hid HJ6.out.swap⟩
                          case rest =>
                            obtain ⟨rfl, HJ7⟩ := hcut
                            clear c0 c1 hl0 hl1 KP
                            have r1 := (canon_rises HApt1.out j2 (by omega)).ins (k := y) (v := -1) HXY.out.2
                            have r2 := r1.ins (k := x) (v := (sv : Int)) hnX.out
                            have hget : getL y (insL x (sv : Int) (insL y (-1) (canon E1 j2))) = some (-1) := getL_of (e := ⟨y, -1⟩) r2 (insL_mem.2 (.inr (insL_mem.2 (.inl rfl))))
                            have hdel : delL y (insL x (sv : Int) (insL y (-1) (canon E1 j2))) = canon E1 (j2 + 1) := by
                              have h9 := canon_del HApt1.out hj2l HYk.out
                              rw [HE1j.out.1, HE1j.out.2] at h9
                              exact h9
                            have KD := Lib.hid (HJ7.out.swap.drop y HYF.out hget hdel)
                            unfold kyV at KD
                            obtain ⟨o0, o1⟩ := HOc.out wc (HOW.out _ HJ7.out.lo)
                            have hly := HLook.out wc (HMW.out _ HJ7.out.lo)
                            clear r1 r2 hget hdel HJ7
                            go_wp2_with (go_at_call 10; refine KD.out.mono ?_; rintro e W8 ⟨rfl, HJ8⟩; clear o0 o1 hly KD)
                            go_roundg (n - (j2 + 1))
                            case measure => omega
                            case rel => exact ⟨j2 + 1, by omega, by go_num, Lib.hid HJ8.out.swap⟩
                        · have hvz : (v : Int) ≠ 0 := by omega
                          have hvz2 : ((v : Int) == 0) = false := by rw [beq_eq_false_iff_ne]; exact hvz
                          have hnX : Hid (∀ e, e ∈ canon E1 j2 → e.key ≠ x) := Lib.hid (by have h9 := canon_new HApt1.out hj2l; rw [HE1j.out.1] at h9; exact h9)
                          have hlX : Hid ((canon E1 j2).length < 60) := Lib.hid (by rw [canon_len]; omega)
                          go_upto_region 31 with fail
                          clear o0 o1 hly
                          have hbx := HB5.out.box
                          have c0 := hbx.cell 0
                          have c1 := hbx.cell 1
                          have hl0 := HLk0.out W5 (HMW.out _ HB5.out.two.lo)
                          have hl1 := HLk0.out W5.drew (HMW.out _ (HB5.out.two.below (Below.refl _ _).drew).lo)
                          have KP := Lib.hid ((HB5.out.two.below (Below.refl _ _).drew).swap.put x (sv : Int) HFx.out ⟨by omega, by omega⟩ hnX.out hlX.out rfl)
                          unfold kyV at KP
                          clear hbx
                          go_cut [140] (fun v140 wx => v140 = .bool false ∧ Hid (TwoT K Wb wx ta tb (canon E0 n) (insL x (sv : Int) (canon E1 j2))))
                          case first =>
                            go_region_with (go_at_call 9; refine KP.out.mono ?_; rintro e W6 ⟨rfl, HJ6⟩)
                            all_goals go_wp2_with fail
                            all_goals go_meet
                            all_goals exact ⟨rfl, Lib.hid HJ6.out.swap⟩
                          case rest =>
                            obtain ⟨rfl, HJ7⟩ := hcut
                            clear c0 c1 hl0 hl1 KP
                            have HJ8 : Hid (TwoT K Wb wc ta tb (canon E0 n) (canon E1 (j2 + 1))) := Lib.hid (by
                              have h9 := HJ7.out
                              have h8 : insL x (sv : Int) (canon E1 j2) = canon E1 (j2 + 1) := by rw [canon, HE1j.out.1, HE1j.out.2]
                              rw [h8] at h9
                              exact h9)
                            clear HJ7
                            obtain ⟨o0, o1⟩ := HOc.out wc (HOW.out _ HJ8.out.lo)
                            have hly := HLook.out wc (HMW.out _ HJ8.out.lo)
                            go_wp2_with fail
                            go_roundg (n - (j2 + 1))
                            case measure => omega
                            case rel => exact ⟨j2 + 1, by omega, by go_num, HJ8⟩
                      · have hjbz : ¬ (j2 : Int) < (blen : Int) := by omega
                        have hnX : Hid (∀ e, e ∈ canon E1 j2 → e.key ≠ x) := Lib.hid (by have h9 := canon_new HApt1.out hj2l; rw [HE1j.out.1] at h9; exact h9)
                        have hlX : Hid ((canon E1 j2).length < 60) := Lib.hid (by rw [canon_len]; omega)
                        go_upto_region 31 with fail
                        have hbx := HB5.out.box
                        have c0 := hbx.cell 0
                        have c1 := hbx.cell 1
                        have hl0 := HLk0.out W5 (HMW.out _ HB5.out.two.lo)
                        have hl1 := HLk0.out W5.drew (HMW.out _ (HB5.out.two.below (Below.refl _ _).drew).lo)
                        have KP := Lib.hid ((HB5.out.two.below (Below.refl _ _).drew).swap.put x (sv : Int) HFx.out ⟨by omega, by omega⟩ hnX.out hlX.out rfl)
                        unfold kyV at KP
                        clear hbx
                        go_cut [140] (fun v140 wx => v140 = .bool false ∧ Hid (TwoT K Wb wx ta tb (canon E0 n) (insL x (sv : Int) (canon E1 j2))))
                        case first =>
                          go_region_with (go_at_call 9; refine KP.out.mono ?_; rintro e W6 ⟨rfl, HJ6⟩)
                          all_goals go_wp2_with fail
                          all_goals go_meet
                          all_goals exact ⟨rfl, Lib.hid HJ6.out.swap⟩
                        case rest =>
                          obtain ⟨rfl, HJ7⟩ := hcut
                          clear c0 c1 hl0 hl1 KP
                          have HJ8 : Hid (TwoT K Wb wc ta tb (canon E0 n) (canon E1 (j2 + 1))) := Lib.hid (by
                            have h9 := HJ7.out
                            have h8 : insL x (sv : Int) (canon E1 j2) = canon E1 (j2 + 1) := by rw [canon, HE1j.out.1, HE1j.out.2]
                            rw [h8] at h9
                            exact h9)
                          clear HJ7

                          go_wp2_with fail
                          go_roundg (n - (j2 + 1))
                          case measure => omega
                          case rel => exact ⟨j2 + 1, by omega, by go_num, HJ8⟩
                · have hjz : (j : Int) < (n : Int) := by omega
                  have hjl : j < H.length := by rw [HLen.out]; omega
                  have hEj := HG.out j hjl
                  have hn0 : 0 < n := by omega
                  have hrow := owns_below HT.out.one.row HJ.out.lo
                  obtain ⟨kg, hkg, _, hkr⟩ := kyRow_of hrow HLen.out hn0
                  subst hkg
                  obtain ⟨r0, r1⟩ := hkr.cells (j := j) (by omega)
                  simp only [List.getElem?_eq_getElem hjl, Option.getD_some] at r0 r1
                  have HLk := Lib.hid (fun (W : World) (hm : MapAt W mb m D) => readsO_at HR.out hjl hm)
                  have hFj := HR.out.fits _ (List.getElem_mem hjl)
                  obtain ⟨x, HX⟩ : ∃ x, Hid (H[j] = x) := ⟨_, Lib.hid rfl⟩
                  rw [HX.out] at r0 r1 HLk hFj hEj
                  have HPt := Lib.hid (fun (W : World) (hT : TwoT K Wb W ta tb (canon E0 j) []) => hT.put x ((j + 1 : Nat) : Int) hFj ⟨by omega, by omega⟩ (by have := canon_new HApt0.out (j := j) (by omega); rw [hEj] at this; exact this) (by rw [canon_len]; omega) (l' := canon E0 (j + 1)) (by rw [canon, hEj]))
                  have HFj := Lib.hid hFj
                  have HMb := Lib.hid (map_below HT.out.one.map HJ.out.lo)
                  obtain ⟨W5, HW5⟩ : ∃ W5, Hid (wr.alloc (.cells #[.int .u64 (x.at_ : Int), .int .u64 (x.seq : Int)] 27) = W5) := ⟨_, Lib.hid rfl⟩
                  have b5 : Below wr.heap.size wr W5 := by rw [← HW5.out]; exact (Below.refl _ _).alloc (Nat.le_refl _) _
                  have HJ5 := Lib.hid (HJ.out.below b5)
                  have HM5 := Lib.hid (map_below HMb.out b5)
                  have bx : Box W5 wr.heap.size 27 #[.int .u64 (x.at_ : Int), .int .u64 (x.seq : Int)] := by rw [← HW5.out]; exact Box.new _ _ _
                  clear hEj hrow hkr hFj b5
                  go_upto_region 22 with fail
                  rw [HW5.out]
                  have c0 := bx.cell 0
                  have c1 := bx.cell 1
                  have hl0 := HLk.out W5 HM5.out
                  have hl1 := HLk.out W5.drew (map_below HM5.out (Below.refl _ _).drew)
                  have KP := Lib.hid (HPt.out W5.drew (HJ5.out.below (Below.refl _ _).drew))
                  unfold kyV at KP
                  clear r0 r1 bx HW5
                  go_region_with (go_at_call 9; refine KP.out.mono ?_; rintro e W6 ⟨rfl, HJ6⟩)
                  all_goals go_wp2_with fail
                  all_goals go_roundg (n - (j + 1))
                  all_goals first | exact ⟨j + 1, by omega, by go_num, HJ6⟩ | omega
            · have hiz2 : (i : Int) < (m2 : Int) := by omega
              have hn0 : 0 < n := by omega
              obtain ⟨g, hp9, hg1, hg2, hg3⟩ := HT.out.row hn0
              subst hp9
              obtain ⟨x, hx⟩ : ∃ x, os[i]? = some x := ⟨_, List.getElem?_eq_getElem (by rw [HOs.out.len]; omega)⟩
              have hx256 := HOs.out.lt x (List.mem_of_getElem? hx)
              obtain ⟨ad, had, hc⟩ := HOs.out.at_ i x hx
              subst had
              have o0 := hc wr HT.out.one.lo
              unfold b8V at o0
              obtain ⟨q, Hq⟩ : ∃ q, Hid (x % n = q) := ⟨_, Lib.hid rfl⟩
              have hqn : q < n := by rw [← Hq.out]; exact Nat.mod_lt _ hn0
              have hr3 : Int.tmod (x : Int) (n : Int) = (q : Int) := by rw [← Hq.out]; rfl
              have hr4 : (x : Int) % (n : Int) = (q : Int) := by rw [← Hq.out]; rfl
              have hnz : (n : Int) ≠ 0 := by omega
              have hxw : IntKind.i64.wrap (x : Int) = (x : Int) := by rw [IntKind.wrap_i64]; omega
              have hwi : IntKind.i64.wrap ((i : Int) + 1) = ((i + 1 : Nat) : Int) := by rw [IntKind.wrap_i64]; omega
              have hin2 : i < n := by omega
              have hsw := Lib.hid (HT.out.swap hin2 hqn)
              have hpm := Lib.hid (perm_swap HP.out hin2 hqn)
              clear hc hx
              go_upto_region 15 with fail
              clear o0 hr3 hr4 hnz hxw
              obtain ⟨a0, a1⟩ := hg2.cells hin2
              obtain ⟨b0, b1⟩ := hg2.cells hqn
              have f0 := hg2.frozen (i * 2)
              have f1 := hg2.frozen (i * 2 + 1)
              have f2 := hg2.frozen (q * 2)
              have f3 := hg2.frozen (q * 2 + 1)
              have hinz : (i : Int) < (n : Int) := by omega
              have hqnz : (q : Int) < (n : Int) := by omega
              have hg4 := hg2.set2 hin2 (f q)
              obtain ⟨d0, d1⟩ := hg4.cells hqn
              have hfq : (if q = i then f q else f q) = f q := by split <;> rfl
              simp only [hfq] at d0 d1
              have f4 := hg4.frozen (q * 2)
              have f5 := hg4.frozen (q * 2 + 1)
              clear hg2 hg4 hfq
              go_region
              clear a0 a1 b0 b1 d0 d1 f0 f1 f2 f3 f4 f5
              go_wp2_with fail
              go_roundg (m2 - (i + 1))
              case measure => omega
              case rel => exact ⟨i + 1, _, by omega, by go_num, Lib.hid (hsw.out.below (Below.refl _ _).drew), hpm⟩
      · have hiz : (i : Int) < (m1 : Int) := by omega
        obtain ⟨x, hx⟩ : ∃ x, ks[i]? = some x := ⟨_, List.getElem?_eq_getElem (by rw [HKs.out.len]; omega)⟩
        have hxf := HKs.out.fits x (List.mem_of_getElem? hx)
        obtain ⟨ad, had, hc⟩ := HKs.out.at_ i x hx
        subst had
        obtain ⟨o0, o1⟩ := hc wr HS.out.lo
        obtain ⟨v, hv1, hv2, hlook⟩ := readsO_any HR.out hxf
        have HLook := Lib.hid (fun (W : World) (hm : MapAt W mb m D) => hlook hm)
        have HV := Lib.hid hv2
        have HXF := Lib.hid hxf
        have HNB : Hid ((Value.slice p n c).ownBlock ≠ some wr.heap.size) := Lib.hid (fun e => by
          have := (HS.out.row.lt _ e).2
          omega)
        obtain ⟨W5, HW5⟩ : ∃ W5, Hid (wr.alloc (.cells #[.int .u64 (x.at_ : Int), .int .u64 (x.seq : Int)] 27) = W5) := ⟨_, Lib.hid rfl⟩
        have HS5 := Lib.hid (HS.out.below (W' := W5) (by rw [← HW5.out]; exact (Below.refl _ _).alloc (Nat.le_refl _) _))
        have bx : Box W5 wr.heap.size 27 #[.int .u64 (x.at_ : Int), .int .u64 (x.seq : Int)] := by rw [← HW5.out]; exact Box.new _ _ _
        clear hx hc hlook hv2 hxf HS
        go_upto_region 6 with fail
        rw [HW5.out]
        have hr5 := HLook.out W5 HS5.out.map
        have c0 := bx.cell 0
        have c1 := bx.cell 1
        have HBx := Lib.hid bx
        have hwi : IntKind.i64.wrap ((i : Int) + 1) = ((i + 1 : Nat) : Int) := by rw [IntKind.wrap_i64]; omega
        clear o0 o1 HW5 bx
        by_cases hv0 : v = 0
        · subst hv0
          have hnew : x ∉ H := HV.out.1 rfl
          have HPut := Lib.hid (readsO_put HR.out HXF.out hnew HS5.out.len)
          have HKey := Lib.hid (ky_key HXF.out)
          have hn50 : n ≤ 50 := by omega
          have HApp : Hid (∀ (p9 : Option Addr) (c9 : Nat) (w9 : World), w9.ownsRow w.heap.size 27 2 (.slice p9 (n + 1) c9) (n + 1) (H.flatMap kyC ++ kyC x) → (W5.alloc (.cells #[.int .u64 (x.at_ : Int), .int .u64 (x.seq : Int)] 27)).grownBy w9 (Value.slice p n c).ownBlock → Ord1 w w9 mb m D p9 (n + 1) c9 (H ++ [x]) ∧ Box w9 wr.heap.size 27 #[.int .u64 (x.at_ : Int), .int .u64 (x.seq : Int)]) := Lib.hid fun p9 c9 w9 o9 g9 => by
            have b0 := HBx.out.alloc (.cells #[.int .u64 (x.at_ : Int), .int .u64 (x.seq : Int)] 27)
            have s0 := HS5.out.below ((Below.refl _ _).alloc (Nat.le_refl _) (.cells #[.int .u64 (x.at_ : Int), .int .u64 (x.seq : Int)] 27))
            refine ⟨s0.app o9 g9 rfl, b0.grown g9 (fun e => HNB.out e.symm)⟩
          clear hnew hv1
          have hwf : (Lit.int .i64 ((n : Int) + 1)).wf = true := by
            simp [Lit.wf, IntKind.min, IntKind.max, IntKind.signed, IntKind.bits]
            omega
          have HWf := Lib.hid (plainElem_int (H := Unit) Try.underlying3 hwf)
          clear hwf
          go_wp2_with (first
            | (at_builtin; refine wpList_append_any' _ rfl (.tmp 40) (.tmp 42) 22 rfl w.heap.size 27 i0 (.agg #[.int .u64 0, .int .u64 0]) 2 16 Try.underlying22 HI.out.1 HI.out.2.1 HI.out.2.2.1 HI.out.2.2.2 rfl (by decide) (.slice p n c) n (H.flatMap kyC) rfl (HS5.out.row.alloc _) 0 _ 1 (kyC x) rfl (lit_key W5 x) (ky_one x) (n + 1) rfl (by omega) (by decide) (by have := HS5.out.lo.size; simp; omega) ?_; intro p9 c9 w9 own9 gr9 lc9; have HA9 := Lib.hid (HApp.out p9 c9 w9 own9 gr9); have d0 := HA9.out.2.cell 0; have d1 := HA9.out.2.cell 1; clear own9 gr9 lc9 c0 c1 hr5)
            | (at_mapUpdate; refine wpList_mapUpdate_own _ rfl _ _ _ 24 rfl 27 3 lawK Try.underlying24 _ mb m D rfl HA9.out.1.map (by unfold maxLen; omega) _ _ _ rfl rfl HKey.out (.lit (.int .i64 ((n : Int) + 1))) [] HWf.out ?_; intro w4 own4 gr4; have HS4 := Lib.hid (HA9.out.1.put own4 gr4); clear own4 gr4 d0 d1))
          go_roundg (m1 - (i + 1))
          case measure => omega
          case rel => exact ⟨i + 1, m + 1, n + 1, c9, p9, H ++ [x], _, by omega, rfl, by go_num, by omega, by omega, HS4, HPut⟩
        · have hvz : (v : Int) ≠ 0 := by omega
          have hvz2 : ((v : Int) == 0) = false := by rw [beq_eq_false_iff_ne]; exact hvz
          go_wp2_with fail
          go_roundg (m1 - (i + 1))
          case measure => omega
          case rel => exact ⟨i + 1, m, n, c, p, H, D, by omega, rfl, by go_num, by omega, hmn, HS5, HR⟩

end Go.Proofs.Ytfedjeojanpnpab
