/-
  The program's own wheel: what is due is sorted, by slots and turns (the library's sort, by its contract).
-/
import Derived.Test.YtkiibobpejoaeaaDoorWheelShelf
import Derived.Test.YtkiibobpejoaeaaDoorWheelCmp
import Derived.Shelf.SlSortCmp.NoneTotal
namespace Go.Proofs.YtkiibobpejoaeaaDoor
open Go.RowKit
set_option linter.unusedVariables false
set_option linter.unusedSimpArgs false

instance (x y : Tw) : Decidable (lexT x y) := by unfold lexT; infer_instance
theorem cmpT_lt {x y : Tw} : cmpT x y < 0 ↔ lexT x y := by
  unfold cmpT orN cmpN lexT
  by_cases h1 : x.slot < y.slot
  · rw [if_pos h1]; simp; omega
  · rw [if_neg h1]
    by_cases h2 : y.slot < x.slot
    · rw [if_pos h2]; simp; omega
    · rw [if_neg h2, if_pos rfl]
      by_cases h3 : x.turn < y.turn
      · rw [if_pos h3]; simp; omega
      · rw [if_neg h3]
        by_cases h4 : y.turn < x.turn
        · rw [if_pos h4]; simp; omega
        · rw [if_neg h4]; simp; omega
theorem ltOf_T (x y : Tw) : ltOf cmpT x y = decide (lexT x y) := by
  unfold ltOf
  by_cases h : lexT x y
  · simp [h, cmpT_lt.2 h]
  · simp [h]
    have := mt cmpT_lt.1 h
    omega
theorem swoT : Go.Sort.SWO (ltOf cmpT) where
  irrefl x := by rw [ltOf_T, decide_eq_false_iff_not]; unfold lexT; omega
  trans x y z h1 h2 := by rw [ltOf_T, decide_eq_true_eq] at *; unfold lexT at *; omega
  ntrans x y z h1 h2 := by rw [ltOf_T, decide_eq_false_iff_not] at *; unfold lexT at *; omega
theorem flatK_get {l : List Tw} {t : Nat} (ht : t < l.length * 3) : (flatT l)[t]? = some (Go.Sort.flatK Tw.cells 3 l.toArray)[t]! := by
  have hi : t / 3 < l.length := by omega
  obtain ⟨x, hx⟩ : ∃ x, l[t / 3]? = some x := ⟨_, List.getElem?_eq_getElem hi⟩
  obtain ⟨x0, x1, x2⟩ := flatT_get hx
  have hb : l.toArray[t / 3]! = x := by
    rw [getElem!_pos l.toArray _ (by simpa using hi)]
    have := (List.getElem?_eq_some_iff.1 hx).2
    simpa using this
  rw [Go.Sort.get_flatK _ _ _ _ (by simpa using ht), hb]
  have h3 : t % 3 = 0 ∨ t % 3 = 1 ∨ t % 3 = 2 := by omega
  rcases h3 with h | h | h
  · rw [h]; have e : t = t / 3 * 3 := by omega
    rw [e]; exact x0
  · rw [h]; have e : t = t / 3 * 3 + 1 := by omega
    rw [e]; exact x1
  · rw [h]; have e : t = t / 3 * 3 + 2 := by omega
    rw [e]; exact x2
theorem sort_world {w : World} {g m : Nat} {cur : Array Value} {l' : List Tw} (os : Array Obj) (hb : w.heap[g]? = some (.cells cur 67 (0, 0))) (hfit : l'.length * 3 ≤ cur.size) :
    ∃ cur', (sortWorldK Tw.cells 3 w g 0 m l'.toArray os).heap[g]? = some (.cells cur' 67 (0, 0)) ∧ cur'.size = cur.size ∧ cur'.toList.take (l'.length * 3) = flatT l' ∧ Turned (fun k => k = g) w (sortWorldK Tw.cells 3 w g 0 m l'.toArray os) := by
  obtain ⟨hg, hk⟩ := Array.getElem?_eq_some_iff.1 hb
  have hs : (Go.Sort.putRowK Tw.cells 3 (Go.Sort.ahead w m) g 0 l'.toArray).heap.size = w.heap.size := by
    unfold Go.Sort.putRowK
    rw [Go.Sort.size_putRow]
    rfl
  have hlow : ∀ k, k < w.heap.size → (sortWorldK Tw.cells 3 w g 0 m l'.toArray os).heap[k]? = (Go.Sort.putRowK Tw.cells 3 (Go.Sort.ahead w m) g 0 l'.toArray).heap[k]? := fun k h => by
    show ((Go.Sort.putRowK Tw.cells 3 (Go.Sort.ahead w m) g 0 l'.toArray).heap ++ os)[k]? = _
    rw [Array.getElem?_append_left (by rw [hs]; exact h)]
  refine ⟨Go.Sort.putCells id 0 (Go.Sort.flatK Tw.cells 3 l'.toArray) cur, ?_, by simp [Go.Sort.putCells], ?_, ⟨rfl, rfl, rfl, ?_, fun k h hn => ?_⟩⟩
  · rw [hlow g hg]
    show (w.heap.modify g _)[g]? = _
    rw [Array.getElem?_eq_getElem (by rw [Array.size_modify]; exact hg), Array.getElem_modify_self, hk]
    rfl
  · apply List.ext_getElem?
    intro t
    by_cases ht : t < l'.length * 3
    · rw [List.getElem?_take, if_pos ht, Array.getElem?_toList, flatK_get ht]
      unfold Go.Sort.putCells
      rw [Array.getElem?_mapIdx, Array.getElem?_eq_getElem (by omega)]
      simp [ht]
    · rw [List.getElem?_take, if_neg ht, List.getElem?_eq_none (by rw [flatT_len]; omega)]
  · show w.heap.size ≤ ((Go.Sort.putRowK Tw.cells 3 (Go.Sort.ahead w m) g 0 l'.toArray).heap ++ os).size
    rw [Array.size_append, hs]
    omega
  · rw [hlow k h]
    show (w.heap.modify g _)[k]? = _
    rw [Array.getElem?_modify, if_neg (fun e => hn e.symm)]
def SortP (w : World) (base : Nat) (v : Value) (l : List Tw) (e : Ending) (w' : World) : Prop :=
  ∃ l', e = .returned (.tuple #[]) ∧ l'.Perm l ∧ l'.Pairwise (fun a b => ¬ lexT b a) ∧ w'.ownsRow base 67 3 v l.length (flatT l') ∧ Turned (fun k => v.ownBlock = some k) w w'
theorem w_sort {w : World} {base c : Nat} {q : Option Addr} {l : List Tw} (h : w.ownsRow base 67 3 (.slice q l.length c) l.length (flatT l)) (hl : l.length ≤ 65536) :
    Calls Tryd.prog 32 #[.slice q l.length c, .func (.func 33) #[] #[]] w (SortP w base (.slice q l.length c) l) := by
  by_cases h0 : l.length = 0
  · have hn : l = [] := List.length_eq_zero_iff.1 h0
    subst hn
    refine (AnyF.slices_SortFunc_none (P := Tryd.prog) (ρ := sortThing_ren) { sortThing with } q c (.func (.func 33) #[] #[]) w).mono ?_
    rintro e w' ⟨rfl, rfl⟩
    exact ⟨[], rfl, .refl _, .nil, h, Turned.refl _ _⟩
  · rcases h.2 with ⟨_, e⟩ | ⟨g, cap, cur, e, h2, h3, h4, h5, h6, h7⟩
    · exact absurd e h0
    · cases e
      have hb : Box w g _ cur := h3
      have hH : Go.Sort.HoldsK Tw.cells 3 w g 0 l.toArray := by
        intro t ht
        have ht3 : t < l.length * 3 := by simpa using ht
        refine ⟨?_, hb.frozen _⟩
        rw [Nat.zero_add, hb.cell]
        have e1 : cur[t]? = (flatT l)[t]? := by rw [← h7, List.getElem?_take, if_pos ht3, Array.getElem?_toList]
        rw [e1, flatK_get ht3]
        rfl
      have hc := AnyQ.slices_SortFunc (P := Tryd.prog) (ρ := sortThing_ren) sortThing 3 Tryd.isAgg67 Tryd.sizeOf67 Tw.cells (fun _ => rfl) (fun x v hv => by simp [Tw.cells] at hv; rcases hv with rfl | rfl | rfl <;> rfl) cmpT swoT 33 #[] g 0 c l.toArray w (enters_of Tryd.func33 (by kernel_rfl) rfl) (fun _ _ _ _ x y => w_less x y _) hH hb.lt (by simp; omega)
      have hsz : l.toArray.size = l.length := by simp
      rw [hsz] at hc
      refine hc.mono ?_
      rintro e w' ⟨rfl, d', n, os, hp, hs, rfl⟩
      obtain ⟨hp1, _, hp3⟩ := hp
      have hdl : d'.toList.length = l.length := by simpa using hp1
      have hpl : d'.toList.Perm l := by
        have e1 : d'.extract 0 l.length = d' := by rw [← hdl]; simp
        have e2 : l.toArray.extract 0 l.length = l.toArray := by rw [← hsz]; simp
        rw [e1, e2] at hp3
        exact hp3
      have ed : d' = d'.toList.toArray := by simp
      obtain ⟨cur', k1, k2, k3, k4⟩ := sort_world (w := w) (g := g) (m := n) (l' := d'.toList) os h3 (by rw [hdl]; omega)
      rw [← ed] at k1 k4
      rw [hdl] at k3
      refine ⟨d'.toList, rfl, hpl, ?_, ⟨by rw [flatT_len, hdl], .inr ⟨g, c, cur', rfl, h2, k1, h4, h5, by rw [k2]; exact h6, k3⟩⟩, ⟨k4.os, k4.tape, k4.output, k4.size, fun k hk hn => k4.block k hk (fun e => hn (by rw [e]; rfl))⟩⟩
      refine List.pairwise_iff_getElem.2 fun i j hi hj hij => ?_
      have h8 := hs i j (Nat.zero_le _) hij (by rw [← hdl]; exact hj)
      rw [ltOf_T] at h8
      have ei : d'[i]! = d'.toList[i] := by rw [getElem!_pos d' i (by simpa using hi)]; simp
      have ej : d'[j]! = d'.toList[j] := by rw [getElem!_pos d' j (by simpa using hj)]; simp
      rw [ei, ej] at h8
      simpa using h8

end Go.Proofs.YtkiibobpejoaeaaDoor
