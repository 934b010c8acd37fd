/-
  Trees whose nodes stand at places: a node comes in, leaves, moves to another place; how they are balanced; their keys in order.
-/
import Derived.Test.YtlpniacffahnkaaTreePure
namespace Go.Proofs.Ytlpniacffahnkaa
set_option linter.unusedVariables false
set_option linter.unusedSimpArgs false

section
variable {G : Gr} {z : List Fr} {t : T}
theorem Sits.above_off (h : Sits G z t) {y : Nat} (hy : y ≠ 0) (ho : occZ z y = 0) : y ≠ above z := by
  cases z with
  | nil => exact hy
  | cons f z =>
    intro e
    have e' : f.p = y := e.symm
    simp [occZ, e'] at ho
theorem Sits.t_off (h : Sits G z t) {y : Nat} (hy : t.occ y ≠ 0) : y ≠ 0 ∧ occZ z y = 0 := by
  refine ⟨?_, ?_⟩
  · rintro rfl
    have := h.no0
    omega
  · have := h.once y
    omega
theorem Sits.above_t (h : Sits G z t) : t.occ (above z) = 0 := by
  by_cases c : t.occ (above z) = 0
  · exact c
  · obtain ⟨h1, h2⟩ := h.t_off c
    exact absurd rfl (h.above_off h1 h2)
theorem hang_dn1 (h : Sits G z t) (q : Nat) : (G.hang (above z) (side z) q).dn 0 1 = 0 := by
  refine (if_neg ?_).trans h.dn1
  rintro ⟨e1, e2⟩
  have hh := h.hole
  cases z with
  | nil => cases e2
  | cons f z => exact hh.2.1 e1.symm
/-- A node comes in where nothing was. -/
theorem Sits.attach (h : Sits G z .leaf) {q : Nat} (hq : q ≠ 0) (ho : occZ z q = 0) (e : En) (u : Nat) :
    Sits ((G.setAll q e true u 0 0).hang (above z) (side z) q) z (.node q true .leaf e .leaf) := by
  have hz := h.oz
  have hd := hang_dn1 h q
  have hab := h.above_off hq ho
  obtain ⟨h1, h2, h3, h4, h5, h6, h7, h8⟩ := h
  have H1 : Hole (G.setAll q e true u 0 0) z 0 := h1.frame (fun x hx => Agree.setAll (by rintro rfl; omega)) (if_neg (Ne.symm hq))
  refine ⟨H1.hang hz.1 hz.2 ho, ⟨hq, if_pos rfl, if_pos rfl, if_pos rfl, if_pos rfl, ?_, ?_, trivial, trivial⟩, fun x => ?_, ?_, ?_, ?_, ?_, ?_⟩
  · exact (if_neg (fun k => hab k.1)).trans (by simp [Gr.setAll, T.pl])
  · exact (if_neg (fun k => hab k.1)).trans (by simp [Gr.setAll, T.pl])
  · have := h3 x
    simp only [T.occ] at this ⊢
    by_cases c : q = x
    · subst c
      simp
      omega
    · simp [c]
      omega
  · simp [T.occ, hq]
    exact hz.2
  · exact (if_neg (Ne.symm hq)).trans h5
  · exact (if_neg (Ne.symm hq)).trans h6
  · exact (if_neg (Ne.symm hq)).trans h7
  · show (if 0 = above z ∧ 1 = side z then q else if 0 = q then _ else G.dn 0 1) = 0
    have hd' : (if 0 = above z ∧ 1 = side z then q else G.dn 0 1) = 0 := hd
    by_cases c : 0 = above z ∧ 1 = side z
    · rw [if_pos c] at hd' ⊢
      exact hd'
    · rw [if_neg c, if_neg (Ne.symm hq)]
      exact h8
/-- A node leaves that has nothing at one side. -/
theorem Sits.detach {s o p : Nat} {c : Bool} {e : En} {b : T} (hs : s + o = 1) (h : Sits G z (T.mk s p c e .leaf b)) : Sits (G.hang (above z) (side z) b.pl) z b := by
  have hz := h.oz
  have hd := hang_dn1 h b.pl
  have ht := fun y => h.t_off (y := y)
  have hab := fun y (h0 : y ≠ 0) (h1 : occZ z y = 0) => h.above_off h0 h1
  obtain ⟨h1, h2, h3, h4, h5, h6, h7, h8⟩ := h
  obtain ⟨k1, k2, k3, k4, k5, k6, k7, k8, k9⟩ := (rep_mk hs).1 h2
  simp only [T.mk_occ, T.occ] at h3 h4 ht
  have hb : occZ z b.pl = 0 := by
    by_cases hl : b = .leaf
    · rw [hl]
      exact hz.2
    · exact (ht b.pl (by have := T.occ_pl hl; omega)).2
  refine ⟨h1.hang hz.1 hz.2 hb, Rep.move k9 (fun x => by have := h3 x; omega) ?_, fun x => by have := h3 x; omega, by omega, h5, h6, h7, hd⟩
  by_cases ha : b.occ (above z) = 0
  · exact ha
  · obtain ⟨q1, q2⟩ := ht (above z) (by omega)
    exact absurd rfl (hab _ q1 q2)
/-- A node moves to another place. -/
theorem Sits.relay {p q : Nat} {c : Bool} {l : T} {e : En} {r : T} (h : Sits G z (.node p c l e r)) (hq : q ≠ 0) (ho : occZ z q + (T.node p c l e r).occ q = 0) :
    Sits ((((G.hang (above z) (side z) q).setAll q e c (above z) l.pl r.pl).hang q 0 l.pl).hang q 1 r.pl) z (.node q c l e r) := by
  have hz := h.oz
  have hd := hang_dn1 h q
  have ht := fun y => h.t_off (y := y)
  have hab := fun y (h0 : y ≠ 0) (h1 : occZ z y = 0) => h.above_off h0 h1
  obtain ⟨h1, h2, h3, h4, h5, h6, h7, h8⟩ := h
  obtain ⟨k1, k2, k3, k4, k5, k6, k7, k8, k9⟩ := h2
  simp only [T.occ] at h3 h4 ht ho
  have pq : p ≠ q := by
    rintro rfl
    simp at ho
  simp [pq] at ho
  have lne : ∀ {b : T} {y : Nat}, y ≠ 0 → b.occ y = 0 → y ≠ b.pl := by
    rintro b y hy hb rfl
    by_cases hl : b = .leaf
    · rw [hl] at hy
      exact hy rfl
    · exact T.occ_pl hl hb
  have hqa := hab q hq ho.1
  have H1 := h1.hang (q' := q) hz.1 hz.2 ho.1
  have A0 : ∀ y, y ≠ above z → y ≠ q → Agree G ((G.hang (above z) (side z) q).setAll q e c (above z) l.pl r.pl) y := fun y e1 e2 => (Agree.hang e1 e2).trans (Agree.setAll e2)
  have al : ∀ y, l.occ y + r.occ y ≠ 0 → y ≠ 0 ∧ y ≠ above z ∧ y ≠ q := by
    intro y hy
    obtain ⟨q1, q2⟩ := ht y (by omega)
    refine ⟨q1, hab y q1 q2, ?_⟩
    rintro rfl
    omega
  have L1 : Rep (((G.hang (above z) (side z) q).setAll q e c (above z) l.pl r.pl).hang q 0 l.pl) l q := by
    refine Rep.move (u := p) (k8.frame fun y hy => ?_) (fun y => by have := h3 y; omega) (by omega)
    obtain ⟨_, q2, q3⟩ := al y (by omega)
    exact A0 y q2 q3
  have R1 : Rep ((((G.hang (above z) (side z) q).setAll q e c (above z) l.pl r.pl).hang q 0 l.pl).hang q 1 r.pl) r q := by
    refine Rep.move (u := p) (k9.frame fun y hy => ?_) (fun y => by have := h3 y; omega) (by omega)
    obtain ⟨q1, q2, q3⟩ := al y (by omega)
    exact (A0 y q2 q3).trans (Agree.hang q3 (lne q1 (by have := h3 y; omega)))
  refine ⟨?_, ⟨hq, ?_, ?_, ?_, ?_, ?_, ?_, L1.frame fun y hy => ?_, R1⟩, fun y => ?_, ?_, ?_, ?_, ?_, ?_⟩
  · refine H1.frame (fun y hy => ((Agree.setAll ?_).trans (Agree.hang ?_ ?_)).trans (Agree.hang ?_ ?_)) ?_
    · rintro rfl; omega
    · rintro rfl; omega
    · refine lne ?_ ?_
      · rintro rfl; omega
      · have := h3 y; omega
    · rintro rfl; omega
    · refine lne ?_ ?_
      · rintro rfl; omega
      · have := h3 y; omega
    · show (if 0 = q ∧ 0 = 1 then r.pl else if 0 = q ∧ 0 = 0 then l.pl else if 0 = q then _ else _) = _
      simp [Ne.symm hq]
  · simp [Gr.hang, Gr.setAll]
  · simp [Gr.hang, Gr.setAll]
  · simp [Gr.hang, Gr.setAll]
  · simp [Gr.hang, Gr.setAll]
    rw [if_neg (lne hq (by omega)), if_neg (lne hq (by omega))]
  · simp [Gr.hang, Gr.setAll]
  · simp [Gr.hang, Gr.setAll]
  · obtain ⟨q1, q2, q3⟩ := al y (by omega)
    exact Agree.hang q3 (lne q1 (by have := h3 y; omega))
  · simp only [T.occ]
    have := h3 y
    by_cases c : q = y
    · subst c
      simp
      omega
    · simp [c]
      omega
  · simp [T.occ, hq]
    omega
  · simp [Gr.hang, Gr.setAll, Ne.symm hq, h5]
  · simp [Gr.hang, Gr.setAll, Ne.symm hq, h6]
  · simp [Gr.hang, Gr.setAll, Ne.symm hq, h7]
  · have hd' : (if 0 = above z ∧ 1 = side z then q else G.dn 0 1) = 0 := hd
    simp [Gr.hang, Gr.setAll, Ne.symm hq]
    exact hd'
end

/-- A way down through a tree that is in order, but for what hangs at its end. -/
def Good : List Fr → Nat → Prop
  | [], _ => True
  | f :: z, n => (f.c = true → pr z = false) ∧ f.sib.Bal f.c n ∧ Good z (if f.c then n else n + 1)
theorem good_plug : ∀ {z : List Fr} {t : T} {n : Nat}, Good z n → t.Bal (pr z) n → ∃ m, (plug z t).Bal true m
  | [], t, n, _, h => ⟨n, h⟩
  | f :: z, t, n, ⟨h1, h2, h3⟩, h => good_plug (z := z) h3 (T.mk_bal.2 ⟨h1, n, rfl, h, h2⟩)
/-- The other way about: where a node stands in a tree that is in order. -/
theorem good_of : ∀ {z : List Fr} {t : T} {m : Nat}, (plug z t).Bal true m → ∃ n, Good z n ∧ t.Bal (pr z) n
  | [], t, n, h => ⟨n, trivial, h⟩
  | f :: z, t, m, h => by
    obtain ⟨n, h1, h2⟩ := good_of (z := z) (t := f.fill t) h
    obtain ⟨k1, n', rfl, k2, k3⟩ := T.mk_bal.1 h2
    exact ⟨n', ⟨k1, k3, h1⟩, k2⟩
theorem good_root : ∀ {z : List Fr} {n : Nat}, Good z n → z ≠ [] → ∀ t : T, (plug z t).isRed = false
  | [], _, _, h, _ => absurd rfl h
  | [f], n, ⟨h1, _, _⟩, _, t => by
    rw [plug, plug, Fr.fill, T.mk_red]
    cases hc : f.c with
    | false => rfl
    | true => exact absurd (h1 hc) (by decide)
  | f :: g :: z, n, ⟨_, _, h3⟩, _, t => good_root (z := g :: z) h3 (by simp) (f.fill t)

/-- What stands ahead of the end of a way, and behind it. -/
def lefts : List Fr → List En
  | [] => []
  | f :: z => lefts z ++ (if f.s = 0 then [] else f.sib.toL ++ [f.e])
def rights : List Fr → List En
  | [] => []
  | f :: z => (if f.s = 0 then f.e :: f.sib.toL else []) ++ rights z
theorem plug_lr : ∀ (z : List Fr) (t : T), (plug z t).toL = lefts z ++ t.toL ++ rights z
  | [], t => by simp [plug, lefts, rights]
  | f :: z, t => by
    rw [plug, plug_lr z, Fr.fill, T.mk_toL, lefts, rights]
    split <;> simp
/-- Each node stands at the end of a way. -/
theorem way_to : ∀ (t : T) (z : List Fr) (x : Nat), t.occ x ≠ 0 → ∃ y c l e r, plug z t = plug y (.node x c l e r) ∧ ∃ y', y = y' ++ z
  | .leaf, _, _, h => absurd rfl h
  | .node p c l e r, z, x, h => by
    by_cases hp : p = x
    · subst hp
      exact ⟨z, c, l, e, r, rfl, [], rfl⟩
    · by_cases hl : l.occ x = 0
      · obtain ⟨y, c', l', e', r', h1, y', h2⟩ := way_to r (⟨1, p, c, e, l⟩ :: z) x (by simp [T.occ, hp] at h; omega)
        exact ⟨y, c', l', e', r', h1, y' ++ [⟨1, p, c, e, l⟩], by simp [h2]⟩
      · obtain ⟨y, c', l', e', r', h1, y', h2⟩ := way_to l (⟨0, p, c, e, r⟩ :: z) x hl
        exact ⟨y, c', l', e', r', h1, y' ++ [⟨0, p, c, e, r⟩], by simp [h2]⟩
theorem Sits.inn {G : Gr} : ∀ {y : List Fr} {t : T}, (∀ f, f ∈ y → f.s < 2) → Sits G [] (plug y t) → Sits G y t
  | [], _, _, h => h
  | f :: y, t, hs, h => by
    have := Sits.inn (y := y) (t := f.fill t) (fun g hg => hs g (by simp [hg])) h
    exact this.down (s := f.s) (o := 1 - f.s) (by have := hs f (by simp); omega)
theorem way_sides : ∀ (t : T) (z : List Fr) (x : Nat), (∀ f, f ∈ z → f.s < 2) → t.occ x ≠ 0 → ∃ y c l e r, plug z t = plug y (.node x c l e r) ∧ ∀ f, f ∈ y → f.s < 2
  | .leaf, _, _, _, h => absurd rfl h
  | .node p c l e r, z, x, hz, h => by
    by_cases hp : p = x
    · subst hp
      exact ⟨z, c, l, e, r, rfl, hz⟩
    · by_cases hl : l.occ x = 0
      · exact way_sides r (⟨1, p, c, e, l⟩ :: z) x (by
          intro f hf
          rcases List.mem_cons.1 hf with rfl | hf
          · show (1 : Nat) < 2; omega
          · exact hz f hf) (by simp [T.occ, hp] at h; omega)
      · exact way_sides l (⟨0, p, c, e, r⟩ :: z) x (by
          intro f hf
          rcases List.mem_cons.1 hf with rfl | hf
          · show (0 : Nat) < 2; omega
          · exact hz f hf) hl
/-- Each place of a tree: a way to it. -/
theorem Sits.at_ {G : Gr} {t : T} (h : Sits G [] t) {x : Nat} (hx : t.occ x ≠ 0) : ∃ y c l e r, t = plug y (.node x c l e r) ∧ Sits G y (.node x c l e r) := by
  obtain ⟨y, c, l, e, r, h1, h2⟩ := way_sides t [] x (by simp) hx
  have h1' : t = plug y (.node x c l e r) := h1
  refine ⟨y, c, l, e, r, h1', Sits.inn h2 ?_⟩
  rw [← h1']
  exact h

end Go.Proofs.Ytlpniacffahnkaa
