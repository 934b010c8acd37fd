/-
  The program's own tree: Put.
-/
import Derived.Test.YtkiibobpejoaeaaTreeOwnD
import Derived.Test.YtkiibobpejoaeaaTreeFind
import Derived.Deep.AppendLies
import Derived.Deep.RegionLaw
namespace Go.Proofs.Ytkiibobpejoaeaa
open Go.RowKit
set_option linter.unusedVariables false

theorem ins_mid {k : Ky} {v : Int} : ∀ {L R : List En}, (∀ x, x ∈ L → x.key.lt k) → (∀ x, x ∈ R → k.lt x.key) → insL k v (L ++ R) = L ++ ⟨k, v⟩ :: R
  | [], [], _, _ => rfl
  | [], a :: R, _, h => by
    rw [List.nil_append, insL, if_pos (h a (by simp))]
    rfl
  | a :: L, R, h, h' => by
    rw [List.cons_append, insL, if_neg (Ky.lt_asymm (h a (by simp))), ins_mid (fun x hx => h x (by simp [hx])) h']
    rfl
theorem get_mid {k : Ky} {L R : List En} (h : ∀ x, x ∈ L → x.key.lt k) (h' : ∀ x, x ∈ R → k.lt x.key) : getL k (L ++ R) = none := by
  unfold getL
  rw [Option.map_eq_none_iff, List.find?_eq_none]
  intro x hx he
  have he' : x.key = k := by simpa using he
  rcases List.mem_append.1 hx with hx | hx
  · have := h x hx
    rw [he'] at this
    exact Ky.lt_irrefl k this
  · have := h' x hx
    rw [he'] at this
    exact Ky.lt_irrefl k this

/-- The cells of nodes, one behind the other. -/
theorem RowG.owns {w : World} {B c n : Nat} {G : Gr} (h : RowG w B c n G) (hnc : n ≤ c) (hc : c ≤ maxLen) : w.ownsRow 0 143 7 (.slice (some ⟨B, 0, none⟩) n c) n ((List.range n).flatMap (ndC G)) := by
  obtain ⟨cs, h1, h2, h3⟩ := h
  have hlen : ((List.range n).flatMap (ndC G)).length = n * 7 := by
    rw [List.length_flatMap]
    have : (List.range n).map (fun a => (ndC G a).length) = List.replicate n 7 := by
      apply List.ext_getElem
      · simp
      · intro i h1 h2
        simp [ndC]
    rw [this]
    simp
  refine ⟨hlen, .inr ⟨B, c, cs, rfl, Nat.zero_le _, h1, hnc, hc, h2, ?_⟩⟩
  apply List.ext_getElem?
  intro i
  by_cases hi : i < n * 7
  · obtain ⟨p, j, rfl, hj⟩ : ∃ p j, i = p * 7 + j ∧ j < 7 := ⟨i / 7, i % 7, by omega, by omega⟩
    rw [List.getElem?_take, if_pos hi, Array.getElem?_toList, h3 p (by omega) j hj, flat_get (ndC G) 7 (fun _ => rfl) _ p j hj, List.getElem?_range (by omega)]
    rfl
  · rw [List.getElem?_take, if_neg hi, List.getElem?_eq_none (by rw [hlen]; omega)]
/-- A node more. -/
theorem rowG_more {w : World} {B c n : Nat} {G G' : Gr} (h : w.ownsRow 0 143 7 (.slice (some ⟨B, 0, none⟩) (n + 1) c) (n + 1) ((List.range n).flatMap (ndC G) ++ ndC G' n)) (hG : ∀ p, p < n → ndC G' p = ndC G p) : RowG w B c (n + 1) G' ∧ n + 1 ≤ c ∧ c ≤ maxLen := by
  rcases h.2 with ⟨e, _⟩ | ⟨g, cap, cur, e, h2, h3, h4, h5, h6, h7⟩
  · cases e
  · cases e
    refine ⟨⟨cur, h3, h6, fun p hp j hj => ?_⟩, h4, h5⟩
    have hlen : ((List.range n).flatMap (ndC G)).length = n * 7 := by
      have := h.1
      rw [List.length_append] at this
      simp [ndC] at this ⊢
      omega
    have e1 : cur[p * 7 + j]? = (cur.toList.take ((n + 1) * 7))[p * 7 + j]? := by
      rw [List.getElem?_take, if_pos (by omega), Array.getElem?_toList]
    rw [e1, h7]
    by_cases hpn : p < n
    · rw [List.getElem?_append_left (by rw [hlen]; omega), flat_get (ndC G) 7 (fun _ => rfl) _ p j hj, List.getElem?_range hpn, hG p hpn]
      rfl
    · obtain rfl : p = n := by omega
      rw [List.getElem?_append_right (by rw [hlen]; omega), hlen, show p * 7 + j - p * 7 = j by omega]
/-- Each place but none's is some node's. -/
def Full (n : Nat) (t : T) : Prop := ∀ x, x ≠ 0 → x < n → t.occ x = 1
/-- The tree at a holds g. -/
def AtT (N : Nat → Prop) (w : World) (a : Addr) (g : Tg) : Prop :=
  ∃ b B c n G t, a = ⟨b, 0, none⟩ ∧ N = Own2 b B ∧ LieT w b B c g.room n G [] t ∧ t.rb = g.t ∧ Full n t ∧ t.toL.length + 1 = n
theorem at_same {N w a g w'} (h : AtT N w a g) (ok : g.Ok) (b : Below w.heap.size w w') : TurnT AtT N w a g.room g.l w' := by
  refine ⟨g, rfl, rfl, ok, N, ?_, Turned.below b, fun k hk => .inl hk⟩
  obtain ⟨b', B, c, n, G, t, rfl, rfl, L, e, f, s⟩ := h
  exact ⟨b', B, c, n, G, t, rfl, rfl, L.below b, e, f, s⟩

end Go.Proofs.Ytkiibobpejoaeaa
