/-
  Each node is in one list at most: what a walk over all lists has met, and how many there are.
-/
import Derived.Test.YthdgpnkkeeebkaaChainOwn
import Derived.Test.YthdgpnkkeeebkaaChainApartFacts
namespace Go.Proofs.Ythdgpnkkeeebkaa
open Go.RowKit
set_option linter.unusedVariables false

/-- Behind the first k lists, and the nodes t of the next one: how often a node was met. -/
def met (g : Ch) (k : Nat) (t : List Nat) (n : Nat) : Nat := if (∃ i, g.at n = some i ∧ i < k) ∨ n ∈ t then 1 else 0
theorem met_start (g : Ch) (n : Nat) : met g 0 [] n = 0 := by
  unfold met
  rw [if_neg]
  rintro (⟨i, _, h⟩ | h)
  · omega
  · simp at h
theorem met_not {g : Ch} (ok : g.Ok) {k j : Nat} {l : List Nat} (hl : g.ls[k]? = some l) (hj : j < l.length) : met g k (l.take j) l[j] = 0 := by
  unfold met
  rw [if_neg]
  have ha : g.at l[j] = some k := ok.at_of hl (List.getElem_mem _)
  rintro (⟨i, h1, h2⟩ | h)
  · rw [ha] at h1
    have := Option.some.inj h1
    omega
  · have hn := ok.nodup k l hl
    obtain ⟨i, hi, e⟩ := List.getElem_of_mem h
    rw [List.getElem_take] at e
    rw [List.length_take] at hi
    have := (List.getElem_inj hn).1 e
    omega
theorem met_next {g : Ch} {k j : Nat} {l : List Nat} (hj : j < l.length) (n : Nat) : upd (met g k (l.take j)) l[j] 1 n = met g k (l.take (j + 1)) n := by
  have e : l.take (j + 1) = l.take j ++ [l[j]] := List.take_succ_eq_append_getElem hj
  by_cases c : n = l[j]
  · have hm : l[j] ∈ l.take (j + 1) := by rw [e]; exact List.mem_append_right _ (List.mem_singleton.2 rfl)
    rw [c, upd_at]
    unfold met
    rw [if_pos (.inr hm)]
  · have hm : n ∈ l.take (j + 1) ↔ n ∈ l.take j := by rw [e, List.mem_append, List.mem_singleton]; exact ⟨fun h => h.resolve_right c, .inl⟩
    rw [upd_ne c]
    unfold met
    simp only [hm]
theorem met_list {g : Ch} (ok : g.Ok) {k : Nat} {l : List Nat} (hl : g.ls[k]? = some l) (n : Nat) : met g k (l.take l.length) n = met g (k + 1) [] n := by
  unfold met
  rw [List.take_length]
  have e : ((∃ i, g.at n = some i ∧ i < k) ∨ n ∈ l) ↔ ((∃ i, g.at n = some i ∧ i < k + 1) ∨ n ∈ ([] : List Nat)) := by
    constructor
    · rintro (⟨i, h1, h2⟩ | h)
      · exact .inl ⟨i, h1, by omega⟩
      · exact .inl ⟨k, ok.at_of hl h, by omega⟩
    · rintro (⟨i, h1, h2⟩ | h)
      · by_cases c : i = k
        · subst c
          obtain ⟨m, hm, hx⟩ := Ch.at_mem h1
          rw [hl] at hm
          rw [Option.some.inj hm]
          exact .inr hx
        · exact .inl ⟨i, h1, by omega⟩
      · simp at h
  by_cases c : (∃ i, g.at n = some i ∧ i < k) ∨ n ∈ l
  · rw [if_pos c, if_pos (e.1 c)]
  · rw [if_neg c, if_neg (fun h => c (e.2 h))]

/-- How many nodes the first k lists have. -/
def sumLen (g : Ch) (k : Nat) : Nat := (g.ls.take k).flatten.length
theorem sumLen_next {g : Ch} {k : Nat} {l : List Nat} (h : g.ls[k]? = some l) : sumLen g (k + 1) = sumLen g k + l.length := by
  unfold sumLen
  rw [List.take_add_one, h]
  simp
/-- How many of the first n nodes are in a list. -/
def cntIn (g : Ch) (n : Nat) : Nat := ((List.range n).filter fun x => (g.at x).isSome).length
theorem cntIn_next (g : Ch) (n : Nat) : cntIn g (n + 1) = cntIn g n + (if (g.at n).isSome then 1 else 0) := by
  unfold cntIn
  rw [List.range_succ, List.filter_append, List.length_append]
  congr 1
  cases h : (g.at n).isSome <;> simp [h]
theorem flat_nodup : ∀ {ls : List (List Nat)}, (∀ l, l ∈ ls → l.Nodup) → (∀ (i j : Nat) (l m : List Nat) (x : Nat), ls[i]? = some l → ls[j]? = some m → x ∈ l → x ∈ m → i = j) → ls.flatten.Nodup
  | [], _, _ => by simp
  | l :: ls, h1, h2 => by
    rw [List.flatten_cons, List.nodup_append]
    refine ⟨h1 l (by simp), flat_nodup (fun m hm => h1 m (by simp [hm])) (fun i j m k x hi hj hx hy => ?_), fun a ha b hb e => ?_⟩
    · have := h2 (i + 1) (j + 1) m k x (by simpa using hi) (by simpa using hj) hx hy
      omega
    · subst e
      obtain ⟨m, hm, hx⟩ := List.mem_flatten.1 hb
      obtain ⟨i, hi⟩ := List.mem_iff_getElem?.1 hm
      have := h2 0 (i + 1) l m a rfl (by simpa using hi) ha hx
      omega
theorem all_in {g : Ch} (ok : g.Ok) : sumLen g g.ls.length = cntIn g g.nodes := by
  unfold sumLen cntIn
  rw [List.take_length]
  refine List.Perm.length_eq ((List.perm_ext_iff_of_nodup (flat_nodup (fun l hl => ?_) ok.apart) (List.nodup_range.filter _)).2 fun x => ?_)
  · obtain ⟨i, hi⟩ := List.mem_iff_getElem?.1 hl
    exact ok.nodup i l hi
  · rw [List.mem_flatten, List.mem_filter, List.mem_range]
    constructor
    · rintro ⟨l, hl, hx⟩
      obtain ⟨i, hi⟩ := List.mem_iff_getElem?.1 hl
      exact ⟨ok.lt i l hi x hx, by rw [ok.at_of hi hx]; rfl⟩
    · rintro ⟨_, h⟩
      obtain ⟨i, hi⟩ := Option.isSome_iff_exists.1 h
      obtain ⟨l, hl, hx⟩ := Ch.at_mem hi
      exact ⟨l, List.mem_of_getElem? hl, hx⟩
theorem cntIn_le (g : Ch) (n : Nat) : cntIn g n ≤ n := by
  unfold cntIn
  have := List.length_filter_le (fun x => (g.at x).isSome) (List.range n)
  rw [List.length_range] at this
  exact this

/-- The chains, and an array of twenty numbers of the call's own. -/
structure On (K : ChainK) (w W : World) (a : Addr) (N : Nat → Prop) (q : Nat) (g : Ch) (f : Nat → Nat) : Prop where
  own : OwnC K w W a N g
  row : RowN W q 51 20 f
  nq : ¬ N q
  hq : w.heap.size ≤ q
section
variable {K : ChainK} {w W W' : World} {a : Addr} {N N' : Nat → Prop} {q : Nat} {g : Ch} {f f' : Nat → Nat}
theorem On.below (h : On K w W a N q g f) (b : Below W.heap.size W W') : On K w W' a N q g f :=
  ⟨h.own.below b, h.row.same (b.block q h.row.lt), h.nq, h.hq⟩
theorem On.step (h : On K w W a N q g f) (o : OwnC K w W' a N' g) (s : Stepped W W' N N') : On K w W' a N' q g f := by
  obtain ⟨cs, h1, h2⟩ := h.row
  exact ⟨o, ⟨cs, (not_own h.nq h1 s).2, h2⟩, (not_own h.nq h1 s).1, h.hq⟩
theorem On.set (h : On K w W a N q g f) (i v : Nat) {u : Int} (e : u = (v : Int)) : On K w (W.setCell ⟨q, i, none⟩ (.int .i64 u)) a N q g (upd f i v) :=
  ⟨h.own.set h.nq h.hq, e ▸ h.row.set i v, h.nq, h.hq⟩
theorem On.congr (h : On K w W a N q g f) (e : ∀ i, f i = f' i) : On K w W a N q g f' := ⟨h.own, h.row.congr fun i _ => e i, h.nq, h.hq⟩
theorem On.mine {t : TypeId} {v u : Value} {m i : Nat} {xs : List Value} (h : On K w W a N q g f) (r : Mine w W N t v m xs) (ht : t ≠ 51) : Mine w (W.setCell ⟨q, i, none⟩ u) N t v m xs := by
  obtain ⟨cs, h1, _⟩ := h.row
  exact ⟨h1.row r.row ht, r.off⟩
end

end Go.Proofs.Ythdgpnkkeeebkaa
