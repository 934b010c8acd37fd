/-
  What the walk is told of an argument, whatever plain type it has: integers and bools, structs and arrays of them, and slices of these.
-/
import Derived.Test.YtmokkbhfhbgkmaaRows
import Derived.WalkKit
import Derived.ProofKit
import Derived.OpenShut
import Derived.Below
import Derived.Carry
import Derived.Deep.Slices
import Derived.Deep.Fields
import Derived.ChangeOld
import Derived.ChangeArms
namespace Go.Proofs.Ytmokkbhfhbgkmaa
open Go.ChangeShapes Go.WideShapes Go.ChangeAt Go.RowKit

/-- The fields' cells, one field behind the other: what each one's are, if they lie so. -/
def tile (P : Program) (g : TypeId → Option (List (Option IntKind))) : Nat → List Field → Option (List (Option IntKind))
  | _, [] => some []
  | off, f :: fs => if f.offset = off then (g f.type).bind fun l => if l.length = P.cellsOf f.type then (tile P g (off + l.length) fs).map (l ++ ·) else none else none

/-- The cells of a plain type: an integer's kind, or none for a bool. -/
def flat (P : Program) : Nat → TypeId → Option (List (Option IntKind))
  | 0, _ => none
  | n + 1, t => match P.underlying t with
    | some .bool => some [none]
    | some (.int k) => some [some k]
    | some (.struct fs) => tile P (flat P n) 0 fs.toList
    | some (.array m e) => (flat P n e).bind fun l => if l.length = P.cellsOf e then some (List.replicate m l).flatten else none
    | _ => none

/-- Cells that fit their kinds. -/
def Fits : List (Option IntKind) → List Value → Prop
  | [], [] => True
  | none :: ks, v :: vs => (∃ b, v = .bool b) ∧ Fits ks vs
  | some k :: ks, v :: vs => (∃ n, v = .int k n ∧ (Lit.int k n).wf = true) ∧ Fits ks vs
  | _, _ => False

theorem Fits.length : ∀ {ks : List (Option IntKind)} {vs : List Value}, Fits ks vs → vs.length = ks.length
  | [], [], _ => rfl
  | none :: ks, v :: vs, h => by rw [List.length_cons, List.length_cons, Fits.length h.2]
  | some k :: ks, v :: vs, h => by rw [List.length_cons, List.length_cons, Fits.length h.2]
theorem Fits.append : ∀ {k1 k2 : List (Option IntKind)} {v1 v2 : List Value}, Fits k1 v1 → Fits k2 v2 → Fits (k1 ++ k2) (v1 ++ v2)
  | [], _, [], _, _, h => h
  | none :: _, _, _ :: _, _, h, h' => ⟨h.1, Fits.append h.2 h'⟩
  | some _ :: _, _, _ :: _, _, h, h' => ⟨h.1, Fits.append h.2 h'⟩

section
variable {H : Type} {enc : TypeId × Value → H} {P : Program} {w : World} {base : Nat} {spare : Nat → Bool} {held : Bool}

theorem fits_tile {g : TypeId → Option (List (Option IntKind))} {cs : List Value} {Q : TypeId → List Value → Prop} (hQ : ∀ t l vs, g t = some l → l.length = P.cellsOf t → Q t vs → Fits l vs) :
    ∀ (fs : List Field) (off : Nat) (ks : List (Option IntKind)), tile P g off fs = some ks → (∀ f ∈ fs, Q f.type ((cs.drop f.offset).take (P.cellsOf f.type))) → Fits ks ((cs.drop off).take ks.length)
  | [], off, ks, h, _ => by
    simp [tile] at h
    subst h
    simp [Fits]
  | f :: fs, off, ks, h, hf => by
    unfold tile at h
    split at h
    · rename_i ho
      obtain ⟨l, hl, h⟩ := Option.bind_eq_some_iff.1 h
      split at h
      · rename_i hc
        obtain ⟨r, hr, rfl⟩ := Option.map_eq_some_iff.1 h
        have h1 := hQ f.type l _ hl hc (hf f (List.mem_cons_self ..))
        rw [ho, ← hc] at h1
        have h2 := fits_tile hQ fs (off + l.length) r hr (fun x hx => hf x (List.mem_cons_of_mem _ hx))
        have e : (cs.drop off).take (l ++ r).length = (cs.drop off).take l.length ++ (cs.drop (off + l.length)).take r.length := by
          rw [List.length_append, List.take_add, List.drop_drop]
        rw [e]
        exact h1.append h2
      · cases h
    · cases h

theorem fits_rep {l : List (Option IntKind)} {cs : List Value} : ∀ (m : Nat), (∀ i, i < m → Fits l ((cs.drop (i * l.length)).take l.length)) → Fits (List.replicate m l).flatten (cs.take (m * l.length))
  | 0, _ => by simp [Fits]
  | m + 1, h => by
    have h1 := fits_rep m (fun i hi => h i (by omega))
    have h2 := h m (by omega)
    rw [List.replicate_succ', List.flatten_append, Nat.succ_mul, List.take_add]
    simpa using h1.append h2

theorem flat_fits : ∀ (n fuel : Nat) (t : TypeId) (cs : List Value) (x : DataW H × List MemPlace) (ks : List (Option IntKind)), DataW.trod enc P w base spare held fuel t cs = some x → flat P n t = some ks → ks.length = P.cellsOf t → Fits ks cs
  | 0, _, _, _, _, _, _, hf, _ => by simp [flat] at hf
  | n + 1, fuel, t, cs, x, ks, h, hf, hlen => by
    unfold flat at hf
    split at hf
    · rename_i hu
      obtain ⟨b, rfl, _⟩ := DataW.trod_bool hu h
      cases hf
      exact ⟨⟨b, rfl⟩, trivial⟩
    · rename_i k hu
      obtain ⟨m, rfl, _, hw⟩ := DataW.trod_int hu h
      cases hf
      exact ⟨⟨m, rfl, hw⟩, trivial⟩
    · rename_i fs hu
      obtain ⟨xs, m, _, _, hcl, _, hfd⟩ := DataW.trod_struct hu h
      have hg := fits_tile (P := P) (g := flat P n) (cs := cs) (Q := fun t vs => ∃ x, DataW.trod enc P w base spare held m t vs = some x)
        (fun t l vs hl hlc ⟨x, hx⟩ => flat_fits n m t vs x l hx hl hlc) fs.toList 0 ks hf ?_
      · rw [List.drop_zero, hlen, ← hcl, List.take_length] at hg
        exact hg
      · intro f hm
        obtain ⟨j, hj, hjf⟩ := List.getElem_of_mem hm
        have hj' : fs[j]? = some f := by
          rw [← Array.getElem?_toList, List.getElem?_eq_getElem hj, hjf]
        have hjx : j < xs.length := by rw [Array.length_toList] at hj; omega
        exact ⟨xs[j], (hfd j f hj').trans (List.getElem?_eq_getElem hjx)⟩
    · rename_i m e hu
      obtain ⟨l, hl, hf⟩ := Option.bind_eq_some_iff.1 hf
      split at hf
      · rename_i hc
        cases hf
        obtain ⟨xs, k, _, _, hcl, hxl, hfd⟩ := DataW.trod_array hu h
        have hg := fits_rep (l := l) (cs := cs) m (fun i hi => by
          have h1 := hfd i hi
          rw [List.getElem?_eq_getElem (by omega), ← hc] at h1
          exact flat_fits n k e _ _ l h1 hl hc)
        have hm : (List.replicate m l).flatten.length = m * l.length := by simp
        rw [← hm, hlen, ← hcl, List.take_length] at hg
        exact hg
      · cases hf
    · cases hf

/-- A slice of plain things: nil; or its elements' cells, each fitting. -/
def RowOf (ks : List (Option IntKind)) (w : World) (A : Option Addr) (len cap : Nat) (rows : List (List Value)) : Prop :=
  rows.length = len ∧ ((A = none ∧ len = 0 ∧ cap = 0) ∨ ∃ a, A = some a ∧ len ≤ cap ∧ cap ≤ maxLen) ∧
    ∀ i (h : i < rows.length), Fits ks rows[i] ∧ ∃ a, A = some a ∧ ∀ j u, rows[i][j]? = some u → w.cell? (a.add (i * ks.length + j)) = some u

theorem open_rows {t e : TypeId} {ks : List (Option IntKind)} {n : Nat} {A : Option Addr} {len cap : Nat} {d : DataW H} {p : List MemPlace} (ht : P.underlying t = some (.slice e)) (hk : flat P n e = some ks) (hc : ks.length = P.cellsOf e)
    (h : DataW.Trod enc P w base (fun _ => true) held t (.slice A len cap) d p) : ∃ rows, RowOf ks w A len cap rows := by
  obtain ⟨fuel, hf⟩ := h
  rcases Go.Deep.open_slice ht hf with ⟨h1, _⟩ | ⟨a, len', cap', m, k, D, Pl, h1, _, h3, h4, h5, _, h7⟩
  · cases h1
    exact ⟨[], rfl, .inl ⟨rfl, rfl, rfl⟩, fun i h => absurd h (by simp)⟩
  · cases h1
    rw [if_pos rfl] at h5
    subst h5
    have h8 : ∀ i, i < len → ∃ cs, Fits ks cs ∧ ∀ j u, cs[j]? = some u → w.cell? (a.add (i * ks.length + j)) = some u := by
      intro i hi
      obtain ⟨cs, hcs, hts⟩ := h7 i (by omega)
      have hfit := flat_fits n k e cs _ ks hts hk hc
      refine ⟨cs, hfit, fun j u hu => ?_⟩
      obtain ⟨_, hcl, hat⟩ := World.cells?_some hcs
      have hj : j < cs.length := (List.getElem?_eq_some_iff.1 hu).1
      rw [← Go.Deep.add_add, hc, hat j (by omega), hu]
    refine ⟨(List.range len).pmap (fun i hi => Classical.choose (h8 i hi)) (fun i hi => List.mem_range.1 hi), by simp, .inr ⟨a, rfl, h3, h4⟩, fun i hi => ?_⟩
    simp only [List.length_pmap, List.length_range] at hi
    rw [List.getElem_pmap]
    have h9 := Classical.choose_spec (h8 ((List.range len)[i]'(by simpa using hi)) (List.mem_range.1 (List.getElem_mem _)))
    refine ⟨h9.1, a, rfl, fun j u hu => ?_⟩
    have h10 := h9.2 j u hu
    rwa [List.getElem_range] at h10

end
end Go.Proofs.Ytmokkbhfhbgkmaa
