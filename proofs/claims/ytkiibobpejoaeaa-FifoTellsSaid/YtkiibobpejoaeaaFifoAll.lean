/-
  The program's own queue: appendHandles and All.
-/
import Derived.Test.YtkiibobpejoaeaaFifoPush
namespace Go.Proofs.Ytkiibobpejoaeaa
open Go.RowKit
set_option linter.unusedVariables false
set_option maxRecDepth 100000
set_option linter.unusedSimpArgs false

def hV (e : En) : Value := .int .u64 e.val
/-- A row that grew: it lies where it lay, or in a new block. -/
def Grew (W : World) (v v' : Value) : Prop := v'.ownBlock = v.ownBlock ∨ ∃ k, v'.ownBlock = some k ∧ W.heap.size ≤ k
theorem Grew.step {W W' : World} {v v' v'' : Value} (h : Grew W v v') (hw : W.heap.size ≤ W'.heap.size) (k : v''.ownBlock = v'.ownBlock ∨ v''.ownBlock = some W'.heap.size) : Grew W v v'' := by
  rcases k with e | e
  · rcases h with h | ⟨j, h1, h2⟩
    · exact .inl (e.trans h)
    · exact .inr ⟨j, e.trans h1, h2⟩
  · exact .inr ⟨_, e, hw⟩
theorem Grew.mono {W W' : World} {v v' : Value} (hw : W.heap.size ≤ W'.heap.size) (h : Grew W' v v') : Grew W v v' := h.imp id fun ⟨k, h1, h2⟩ => ⟨k, h1, Nat.le_trans hw h2⟩
theorem Grew.turned {W W' w5 : World} {v v' : Value} (h : Grew W v v') (T : Turned (fun k => v.ownBlock = some k) W W') (g : W'.grownBy w5 v'.ownBlock) : Turned (fun k => v.ownBlock = some k) W w5 := T.grown g fun k hk hlt => by
  rcases h with e | ⟨j, e, hj⟩
  · exact e ▸ hk
  · rw [e] at hk
    obtain rfl := Option.some.inj hk
    omega
set_option maxHeartbeats 4000000 in
set_option maxRecDepth 100000 in
/-- Handles of a row come behind what is there. -/
theorem f_app {w0 W : World} {vr : Value} {r : List En} {p : Option Addr} {n c : Nat} {hs : List Value} (hR : RowAt w0 vr r) (lo : Below w0.heap.size w0 W) (own : W.ownsRow w0.heap.size 32 1 (.slice p n c) n hs) (hsz : n + r.length ≤ 131072) :
    Calls Try.prog 61 #[.slice p n c, vr] W fun e w' => ∃ p' c', e = .returned (.slice p' (n + r.length) c') ∧ w'.ownsRow w0.heap.size 32 1 (.slice p' (n + r.length) c') (n + r.length) (hs ++ r.map hV) ∧ Turned (fun k => (Value.slice p n c).ownBlock = some k) W w' ∧ Grew W (.slice p n c) (.slice p' (n + r.length) c') := by
  have HR := Lib.hid hR
  have HLo := Lib.hid lo
  have HOw := Lib.hid own
  obtain ⟨pr, cr, rfl, _, hcr, _⟩ := hR
  clear own lo
  go_enter Try.func61, Try.ntmps61
  go_wp2_with fail
  go_loopg [0, 9] r.length (fun k v0 v9 wx => ∃ (i : Nat) (p' : Option Addr) (c' : Nat), i + k = r.length ∧ v0 = .slice p' (n + i) c' ∧ v9 = .int .i64 (i : Int) ∧ Hid (wx.ownsRow w0.heap.size 32 1 (.slice p' (n + i) c') (n + i) (hs ++ (r.take i).map hV)) ∧ Hid (Turned (fun k => (Value.slice p n c).ownBlock = some k) W wx) ∧ Hid (Grew W (.slice p n c) (.slice p' (n + i) c')) ∧ Hid (Below w0.heap.size w0 wx))
  case atStart => exact ⟨0, p, c, by omega, rfl, rfl, by rw [List.take_zero, List.map_nil, List.append_nil]; exact HOw, Lib.hid (Turned.refl _ _), Lib.hid (.inl rfl), HLo⟩
  case round =>
  obtain ⟨i, p', c', hik, rfl, rfl, HO, HT, HG, HB⟩ := hrel
  by_cases hin : i = r.length
  · have hiz : ¬ (i : Int) < (r.length : Int) := by omega
    have HE : Hid (wr.ownsRow w0.heap.size 32 1 (.slice p' (n + r.length) c') (n + r.length) (hs ++ r.map hV) ∧ Grew W (.slice p n c) (.slice p' (n + r.length) c')) := by
      have h1 := HO.out
      have h2 := HG.out
      rw [hin, List.take_length] at h1
      rw [hin] at h2
      exact Lib.hid ⟨h1, h2⟩
    clear HO HG
    go_wp2_with fail
    go_ret
    exact ⟨p', c', rfl, HE.out.1, HT.out, HE.out.2⟩
  · have hiz : (i : Int) < (r.length : Int) := by omega
    have hi0 : (0 : Int) ≤ (i : Int) := by omega
    obtain ⟨x, hx⟩ : ∃ x, r[i]? = some x := ⟨_, List.getElem?_eq_getElem (by omega)⟩
    obtain ⟨p2, c2, e2, _, _, h4⟩ := HR.out.below HB.out
    cases e2
    obtain ⟨gg, o, rfl, x0, x1, x2⟩ := h4 i x hx
    have b5 := (Below.refl _ wr).alloc (Nat.le_refl _) (.cells (pks x) 116)
    have y5 := Box.new wr 116 (pks x)
    obtain ⟨eb, HEb⟩ : ∃ eb, Hid (wr.heap.size = eb) := ⟨_, Lib.hid rfl⟩
    obtain ⟨W5, HW5⟩ : ∃ W5, Hid (wr.alloc (.cells (pks x) 116) = W5) := ⟨_, Lib.hid rfl⟩
    rw [HW5.out] at b5 y5
    rw [HEb.out] at y5
    unfold pks at HW5
    have HB5 := Lib.hid b5
    have d0 : W5.cell? ⟨eb, 0, none⟩ = some (.int .u64 x.val) := y5.cell 0
    have htk : (r.take (i + 1)).map hV = (r.take i).map hV ++ [hV x] := by rw [List.take_add_one, hx]; simp
    have HTk := Lib.hid htk
    clear h4 hx b5 y5 htk
    go_upto_region 4 with fail
    rw [HW5.out, HEb.out]
    clear x0 x1 x2 HW5 HEb
    obtain ⟨i0, hi0', hz0, hz1, hz2⟩ := info_parts (P := Try.prog) (e := 32) (z := .int .u64 0) (size := 1) (bytes := 8) (by kernel_rfl)
    have b6 := (Below.refl _ W5).alloc (Nat.le_refl _) (.cells #[.int .u64 x.val] 32)
    have b56 := below_tr HB5.out b6
    have r5 := owns_below HO.out b56
    have hml : n + i + 1 ≤ maxLen := by unfold maxLen; omega
    have hsl := lit_one (e := 32) W5 (.int .u64 x.val)
    have hbz : w0.heap.size ≤ (W5.alloc (.cells #[.int .u64 x.val] 32)).heap.size := Nat.le_trans HB.out.size b56.size
    have HB6 := Lib.hid b56
    clear b6 b56
    go_wp2_with (first | (at_builtin; (refine wpList_append_any _ rfl (.tmp 13) (.tmp 16) 38 rfl w0.heap.size 32 i0 (.int .u64 0) 1 8 Try.underlying38 hi0' hz0 hz1 hz2 rfl (by decide) (.slice p' (n + i) c') (n + i) _ rfl r5 0 _ 1 [.int .u64 x.val] rfl hsl (by intro u hu; simp at hu; subst hu; rfl) hml (by omega) hbz ?_; intro p5 c5 w5 own5 gr5 loc5)))
    have HE1 : Hid (w5.ownsRow w0.heap.size 32 1 (.slice p5 (n + (i + 1)) c5) (n + (i + 1)) (hs ++ (r.take (i + 1)).map hV)) := by
      rw [HTk.out, ← List.append_assoc]
      exact Lib.hid own5
    have T5 := HG.out.turned (HT.out.trans (Turned.below HB6.out)) gr5
    have HE2 := Lib.hid T5
    have HE3 : Hid (Grew W (.slice p n c) (.slice p5 (n + (i + 1)) c5)) := Lib.hid (HG.out.step (Nat.le_trans HT.out.size HB6.out.size) loc5)
    have HE4 : Hid (Below w0.heap.size w0 w5) := Lib.hid (below_grown (below_tr HB.out HB6.out) r5 (Nat.le_refl _) gr5)
    have hwi : IntKind.i64.wrap ((i : Int) + 1) = ((i + 1 : Nat) : Int) := by rw [IntKind.wrap_i64]; omega
    clear own5 gr5 loc5 r5 hsl T5 HO HT HG HB6 hi0' hz0 hz1 hz2 d0 hbz
    go_roundg (r.length - (i + 1))
    case measure => omega
    case rel => exact ⟨i + 1, p5, c5, by omega, rfl, by first | rfl | exact congrArg (Value.int .i64) (by omega), HE1, HE2, HE3, HE4⟩

end Go.Proofs.Ytkiibobpejoaeaa
