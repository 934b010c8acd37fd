/-
  Bytes that lie where a slice says; some of them appended to a row of the call's own.
-/
import Derived.Test.YtmokkbhfhbgkmaaMem
namespace Go.Proofs.Ytmokkbhfhbgkmaa
open Go.RowKit
set_option linter.unusedVariables false

def b8V (n : Nat) : Value := .int .u8 (n : Int)
structure BytesAt (w : World) (A : Option Addr) (n cap : Nat) (bs : List Nat) : Prop where
  len : bs.length = n
  le : n ≤ cap
  capLe : cap ≤ 9223372036854775807
  lt : ∀ x, x ∈ bs → x < 256
  nil : A = none → n = 0 ∧ cap = 0
  at_ : ∀ j x, bs[j]? = some x → ∃ ad, A = some ad ∧ ∀ W, Below w.heap.size w W → W.cell? (ad.add j) = some (b8V x)
def byteOf : List Value → Nat
  | [.int _ a] => a.toNat
  | _ => 0
theorem bytes_of {w : World} {A : Option Addr} {len cap : Nat} {rows : List (List Value)} (h : RowOf [some .u8] w A len cap rows) : BytesAt w A len cap (rows.map byteOf) := by
  have hf := row_fit h
  obtain ⟨h1, h2, h3⟩ := h
  have key : ∀ j (hj : j < rows.length), ∃ (a : Addr) (x : Nat), A = some a ∧ rows[j] = [.int .u8 (x : Int)] ∧ x < 256 ∧ w.cell? (a.add j) = some (.int .u8 (x : Int)) := by
    intro j hj
    obtain ⟨hf, a, rfl, hc⟩ := h3 j (by omega)
    obtain ⟨v, e⟩ : ∃ v, rows[j] = [v] := by
      have := hf.length
      match hr : rows[j], this with
      | [v], _ => exact ⟨v, rfl⟩
    rw [e] at hf hc
    obtain ⟨⟨n0, rfl, w0⟩, _⟩ := hf
    obtain ⟨x, rfl, hx⟩ := nat_u8 w0
    have c0 := hc 0 _ rfl
    exact ⟨a, x, rfl, e, hx, by simpa using c0⟩
  refine ⟨by rw [List.length_map]; exact h1, hf.1, hf.2, fun x hx => ?_, fun e => ?_, fun j x hj => ?_⟩
  · obtain ⟨r, hr, rfl⟩ := List.mem_map.1 hx
    obtain ⟨j, hj, rfl⟩ := List.getElem_of_mem hr
    obtain ⟨a, x, _, e, hx, _⟩ := key j hj
    rw [e]
    exact hx
  · rcases h2 with ⟨_, a, b⟩ | ⟨a, e', _⟩
    · exact ⟨a, b⟩
    · rw [e] at e'; cases e'
  · rw [List.getElem?_map] at hj
    obtain ⟨r, hr, rfl⟩ := Option.map_eq_some_iff.1 hj
    obtain ⟨hj2, rfl⟩ := List.getElem?_eq_some_iff.1 hr
    obtain ⟨a, x, rfl, e, _, c0⟩ := key j hj2
    refine ⟨a, rfl, fun W b => ?_⟩
    rw [e]
    exact (b.cell (World.block_lt_of_cell? w _ c0)).trans c0
theorem BytesAt.later {w w' : World} {A : Option Addr} {n cap : Nat} {bs : List Nat} (h : BytesAt w A n cap bs) (b : Below w.heap.size w w') : BytesAt w' A n cap bs :=
  ⟨h.len, h.le, h.capLe, h.lt, h.nil, fun j x hx => by
    obtain ⟨ad, e, f⟩ := h.at_ j x hx
    exact ⟨ad, e, fun W b' => f W (below_tr b b')⟩⟩
/-- append of the first m bytes. -/
theorem wpList_append_bytes {P : Program} (w : World) {ops : Array Oper} {rest : List Oper} {o : Oper} {a : Act} {Q : Exit → Act → World → Prop} (hgd : o.guard = none) (s x : Operand) (t : TypeId)
    (ho : o.op = .call { callee := .builtin .append, args := #[s, x], argTypes := #[t, t] })
    (base : Nat) (e : TypeId) (i : TypeInfo) (z : Value) (ht : P.underlying t = some (.slice e)) (hi : P.info? e = some i) (hz : i.zero = some z)
    (hsize : i.size = 1) (hby : i.bytes = 1) (hzs : z.cells.size = 1)
    (v : Value) (n : Nat) (xs : List Value) (hs : a.eval s = v) (hown : w.ownsRow base e 1 v n xs)
    {B : Option Addr} {bl cap : Nat} {bs : List Nat} (hB : BytesAt w B bl cap bs) (m : Nat) (hm : m ≤ bl) (hx : a.eval x = .slice B m cap) (N : Nat) (hN : n + m = N)
    (h63 : N ≤ 1000000) (hbase : base ≤ w.heap.size)
    (h : ∀ p' c' w', w'.ownsRow base e 1 (.slice p' N c') N (xs ++ (bs.take m).map b8V) → w.grownBy w' v.ownBlock → ((Value.slice p' N c').ownBlock = v.ownBlock ∨ (Value.slice p' N c').ownBlock = some w.heap.size) → wpList P ops Q rest (a.put o.dst (.slice p' N c')) w') : wpList P ops Q (o :: rest) a w := by
  subst hN
  cases B with
  | none =>
    obtain ⟨rfl, rfl⟩ := hB.nil rfl
    obtain rfl : m = 0 := by omega
    obtain ⟨p, c, rfl⟩ := owns_slice hown
    refine wpList_append_own_none hgd s x t ho base e i 1 ht hi _ n xs hs hown hx (h p c w ?_ (World.grownBy.refl w _) (.inl rfl))
    simpa using hown
  | some ad =>
    have hl : ((bs.take m).map b8V).length = m := by rw [List.length_map, List.length_take, hB.len]; omega
    refine wpList_append_own_at w hgd s x t ho base e i z 1 1 ht hi hz hsize hby hzs (by decide) v n xs hs hown ad m cap ((bs.take m).map b8V) hx (by rw [hl, Nat.mul_one]) (fun j u hj => ?_) (fun u hu => ?_) (by unfold maxLen; omega) (by omega) hbase fun v' w' a b _ l => ?_
    · rw [List.getElem?_map] at hj
      obtain ⟨x, hx', rfl⟩ := Option.map_eq_some_iff.1 hj
      have hx2 : bs[j]? = some x := by
        rw [List.getElem?_take] at hx'
        split at hx'
        · exact hx'
        · cases hx'
      obtain ⟨ad', e', f⟩ := hB.at_ j x hx2
      cases e'
      exact f w (Below.refl _ w)
    · obtain ⟨x, _, rfl⟩ := List.mem_map.1 hu
      rfl
    · obtain ⟨p', c', rfl⟩ := owns_slice a
      exact h p' c' w' a b l

theorem wpList_append_any' {P : Program} (w : World) {ops : Array Oper} {rest : List Oper} {o : Oper} {a : Act} {Q : Exit → Act → World → Prop} (hgd : o.guard = none) (s x : Operand) (t : TypeId)
    (ho : o.op = .call { callee := .builtin .append, args := #[s, x], argTypes := #[t, t] })
    (base : Nat) (e : TypeId) (i : TypeInfo) (z : Value) (size bytes : Nat) (ht : P.underlying t = some (.slice e)) (hi : P.info? e = some i) (hz : i.zero = some z)
    (hsize : i.size = size) (hby : i.bytes = bytes) (hzs : z.cells.size = size) (hsz : 0 < size)
    (v : Value) (n : Nat) (xs : List Value) (hs : a.eval s = v) (hown : w.ownsRow base e size v n xs)
    (b0 : Nat) (v2 : Value) (m : Nat) (news : List Value) (hx : a.eval x = v2) (hsrc : w.ownsRow b0 e size v2 m news) (h1 : ∀ u ∈ news, u.oneCell' = true)
    (N : Nat) (hN : n + m = N) (h63 : N ≤ 1000000) (hb : bytes ≤ 1000) (hbase : base ≤ w.heap.size)
    (h : ∀ p' c' w', w'.ownsRow base e size (.slice p' N c') N (xs ++ news) → w.grownBy w' v.ownBlock → ((Value.slice p' N c').ownBlock = v.ownBlock ∨ (Value.slice p' N c').ownBlock = some w.heap.size) → wpList P ops Q rest (a.put o.dst (.slice p' N c')) w') : wpList P ops Q (o :: rest) a w := by
  subst hN
  refine wpList_append_any w hgd s x t ho base e i z size bytes ht hi hz hsize hby hzs hsz v n xs hs hown b0 v2 m news hx hsrc h1 (by unfold maxLen; omega) ?_ hbase h
  exact Nat.le_trans (Nat.mul_le_mul h63 hb) (by decide)

end Go.Proofs.Ytmokkbhfhbgkmaa
