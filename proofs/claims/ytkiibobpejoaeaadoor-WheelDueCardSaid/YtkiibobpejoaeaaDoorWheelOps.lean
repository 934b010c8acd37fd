/-
  Calls of layer 9 that lie where a slice says.
-/
import Derived.Test.YtkiibobpejoaeaaDoorMem
namespace Go.Proofs.YtkiibobpejoaeaaDoor
open Go.RowKit
set_option linter.unusedVariables false

structure OpW where
  kind : Nat
  v : Nat
  at_ : Nat
def OpW.Fits (o : OpW) : Prop := o.kind < 256 ∧ o.v < 18446744073709551616 ∧ o.at_ < 18446744073709551616
structure OpsW (w : World) (A : Option Addr) (n cap : Nat) (os : List OpW) : Prop where
  len : os.length = n
  le : n ≤ cap
  capLe : cap ≤ 9223372036854775807
  fits : ∀ o, o ∈ os → o.Fits
  at_ : ∀ j o, os[j]? = some o → ∃ ad, A = some ad ∧ ∀ W, Below w.heap.size w W → W.cell? (ad.add (j * 3)) = some (.int .u8 (o.kind : Int)) ∧ W.cell? ⟨(ad.add (j * 3)).block, (ad.add (j * 3)).off + 1, none⟩ = some (.int .u64 (o.v : Int)) ∧ W.cell? ⟨(ad.add (j * 3)).block, (ad.add (j * 3)).off + 2, none⟩ = some (.int .u64 (o.at_ : Int))
def opOf : List Value → OpW
  | [.int _ a, .int _ b, .int _ c] => ⟨a.toNat, b.toNat, c.toNat⟩
  | _ => ⟨0, 0, 0⟩
theorem ops_of {w : World} {A : Option Addr} {len cap : Nat} {rows : List (List Value)} (h : RowOf [some .u8, some .u64, some .u64] w A len cap rows) : OpsW w A len cap (rows.map opOf) := by
  have hf := row_fit h
  obtain ⟨h1, _, h3⟩ := h
  have key : ∀ j (hj : j < rows.length), ∃ (a : Addr) (x y z : Nat), A = some a ∧ rows[j] = [.int .u8 (x : Int), .int .u64 (y : Int), .int .u64 (z : Int)] ∧ x < 256 ∧ y < 18446744073709551616 ∧ z < 18446744073709551616 ∧ w.cell? (a.add (j * 3)) = some (.int .u8 (x : Int)) ∧ w.cell? ⟨(a.add (j * 3)).block, (a.add (j * 3)).off + 1, none⟩ = some (.int .u64 (y : Int)) ∧ w.cell? ⟨(a.add (j * 3)).block, (a.add (j * 3)).off + 2, none⟩ = some (.int .u64 (z : Int)) := by
    intro j hj
    obtain ⟨hf, a, rfl, hc⟩ := h3 j (by omega)
    obtain ⟨v0, v1, v2, e⟩ : ∃ v0 v1 v2, rows[j] = [v0, v1, v2] := by
      have := hf.length
      match hr : rows[j], this with
      | [v0, v1, v2], _ => exact ⟨v0, v1, v2, rfl⟩
    rw [e] at hf hc
    obtain ⟨⟨n0, rfl, w0⟩, ⟨n1, rfl, w1⟩, ⟨n2, rfl, w2⟩, _⟩ := hf
    obtain ⟨x, rfl, hx⟩ := nat_u8 w0
    obtain ⟨y, rfl, hy⟩ := nat_u64 w1
    obtain ⟨z, rfl, hz⟩ := nat_u64 w2
    have c0 := hc 0 _ rfl
    have c1 := hc 1 _ rfl
    have c2 := hc 2 _ rfl
    simp only [List.length_cons, List.length_nil, Nat.zero_add, Nat.add_zero, Nat.reduceAdd] at c0 c1 c2
    rw [add_at] at c1 c2
    exact ⟨a, x, y, z, rfl, e, hx, hy, hz, c0, c1, c2⟩
  refine ⟨by rw [List.length_map]; exact h1, hf.1, hf.2, ?_, ?_⟩
  · intro k hk
    obtain ⟨r, hr, rfl⟩ := List.mem_map.1 hk
    obtain ⟨j, hj, rfl⟩ := List.getElem_of_mem hr
    obtain ⟨a, x, y, z, _, e, hx, hy, hz, _⟩ := key j hj
    rw [e]
    exact ⟨hx, hy, hz⟩
  · intro j k hk
    rw [List.getElem?_map] at hk
    obtain ⟨r, hr, rfl⟩ := Option.map_eq_some_iff.1 hk
    obtain ⟨hj, rfl⟩ := List.getElem?_eq_some_iff.1 hr
    obtain ⟨a, x, y, z, rfl, e, _, _, _, c0, c1, c2⟩ := key j hj
    refine ⟨a, rfl, fun W b => ?_⟩
    rw [e]
    exact ⟨(b.cell (World.block_lt_of_cell? w _ c0)).trans c0, (b.cell (World.block_lt_of_cell? w _ c1)).trans c1, (b.cell (World.block_lt_of_cell? w _ c2)).trans c2⟩

end Go.Proofs.YtkiibobpejoaeaaDoor
