/-
  The program's own tree (package tree) keeps what a law of layer 6 asks of a tree.
-/
import Derived.Test.YtkiibobpejoaeaaTreePutW
import Derived.Test.YtkiibobpejoaeaaTreeDrop
import Derived.Test.YtkiibobpejoaeaaTreeNew
import Derived.Test.YtkiibobpejoaeaaTreeAll
namespace Go.Proofs.Ytkiibobpejoaeaa
open Go.RowKit
set_option linter.unusedVariables false

theorem at_open {N : Nat → Prop} {w : World} {a : Addr} {g : Tg} (h : AtT N w a g) : ∃ b B c n G t, a = ⟨b, 0, none⟩ ∧ LieT w b B c g.room n G [] t ∧ t.rb = g.t ∧ t.toL = g.l ∧ t.toL.length + 1 = n := by
  obtain ⟨b, B, c, n, G, t, h1, h2, h3, h4, h5, h6⟩ := h
  exact ⟨b, B, c, n, G, t, h1, h3, h4, by show t.rb.toL = _; rw [h4]; rfl, h6⟩

def treeK : TreeK where
  At := AtT
  lt := fun h k hk => by
    obtain ⟨b, B, c, n, G, t, rfl, rfl, L, _⟩ := h
    exact L.raw.lt k hk
  kept := fun h k hs => by
    obtain ⟨b, B, c, n, G, t, rfl, rfl, L, e, f, s⟩ := h
    exact ⟨b, B, c, n, G, t, rfl, rfl, ⟨L.raw.same k, L.sits, L.lt⟩, e, f, s⟩
  new := tree_new
  new_no := raw_new_no
  put := fun k v h ok hk hv => tree_put k v h ok hk hv
  drop := fun k h ok _ => tree_drop k h ok
  get := fun k h ok _ => tree_get k h ok
  first := fun h ok => by
    obtain ⟨b, B, c, n, G, t, rfl, L, e, el, s⟩ := at_open h
    rw [← el]
    exact raw_first L
  len := fun h ok => by
    obtain ⟨b, B, c, n, G, t, rfl, L, e, el, s⟩ := at_open h
    rw [← el, show t.toL.length = n - 1 by omega]
    exact (raw_len L.raw).mono fun _ _ h => ⟨h.1, h.2 ▸ Below.refl _ _⟩
  room := fun h ok => by
    obtain ⟨b, B, c, n, G, t, rfl, L, e, el, s⟩ := at_open h
    exact (raw_room L.raw).mono fun _ _ h => ⟨h.1, h.2 ▸ Below.refl _ _⟩
  all := fun h ok => by
    obtain ⟨b, B, c, n, G, t, rfl, L, e, el, s⟩ := at_open h
    rw [← el]
    exact raw_all L s

end Go.Proofs.Ytkiibobpejoaeaa
