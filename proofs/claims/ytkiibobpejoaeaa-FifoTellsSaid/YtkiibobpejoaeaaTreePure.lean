/-
  Trees whose nodes stand at places: what stands at each place (Gr), trees with places (T), ways down to one (Fr), and that a graph's links are a tree's (Sits).
-/
import Derived.Test.YtkiibobpejoaeaaTreeK
namespace Go.Proofs.Ytkiibobpejoaeaa
set_option linter.unusedVariables false
set_option linter.unusedSimpArgs false

/-- What stands at each place. -/
structure Gr where
  key : Nat → Ky
  val : Nat → Int
  red : Nat → Bool
  up : Nat → Nat
  dn : Nat → Nat → Nat
def Gr.hang (G : Gr) (u s p : Nat) : Gr := { G with dn := fun q t => if q = u ∧ t = s then p else G.dn q t, up := fun q => if q = p then u else G.up q }
def Gr.setRed (G : Gr) (p : Nat) (c : Bool) : Gr := { G with red := fun q => if q = p then c else G.red q }
def Gr.setEn (G : Gr) (p : Nat) (e : En) : Gr := { G with key := fun q => if q = p then e.key else G.key q, val := fun q => if q = p then e.val else G.val q }
/-- All that stands at one place. -/
def Gr.setAll (G : Gr) (p : Nat) (e : En) (c : Bool) (u d0 d1 : Nat) : Gr where
  key := fun q => if q = p then e.key else G.key q
  val := fun q => if q = p then e.val else G.val q
  red := fun q => if q = p then c else G.red q
  up := fun q => if q = p then u else G.up q
  dn := fun q t => if q = p then (if t = 0 then d0 else d1) else G.dn q t
def Gr.sideOf (G : Gr) (p : Nat) : Nat := if G.dn (G.up p) 1 = p then 1 else 0

structure Agree (G G' : Gr) (x : Nat) : Prop where
  key : G'.key x = G.key x
  val : G'.val x = G.val x
  red : G'.red x = G.red x
  up : G'.up x = G.up x
  d0 : G'.dn x 0 = G.dn x 0
  d1 : G'.dn x 1 = G.dn x 1
theorem Agree.refl (G : Gr) (x : Nat) : Agree G G x := ⟨rfl, rfl, rfl, rfl, rfl, rfl⟩
theorem Agree.trans {G G' G'' : Gr} {x : Nat} (h : Agree G G' x) (k : Agree G' G'' x) : Agree G G'' x :=
  ⟨k.key.trans h.key, k.val.trans h.val, k.red.trans h.red, k.up.trans h.up, k.d0.trans h.d0, k.d1.trans h.d1⟩
theorem Agree.hang {G : Gr} {u s p x : Nat} (h1 : x ≠ u) (h2 : x ≠ p) : Agree G (G.hang u s p) x :=
  ⟨rfl, rfl, rfl, if_neg h2, if_neg (fun h => h1 h.1), if_neg (fun h => h1 h.1)⟩
theorem Agree.setRed {G : Gr} {p x : Nat} {c : Bool} (h : x ≠ p) : Agree G (G.setRed p c) x := ⟨rfl, rfl, if_neg h, rfl, rfl, rfl⟩
theorem Agree.setEn {G : Gr} {p x : Nat} {e : En} (h : x ≠ p) : Agree G (G.setEn p e) x := ⟨if_neg h, if_neg h, rfl, rfl, rfl, rfl⟩
theorem Agree.setAll {G : Gr} {p x u d0 d1 : Nat} {e : En} {c : Bool} (h : x ≠ p) : Agree G (G.setAll p e c u d0 d1) x := ⟨if_neg h, if_neg h, if_neg h, if_neg h, if_neg h, if_neg h⟩

inductive T where
  | leaf : T
  | node (p : Nat) (c : Bool) (l : T) (e : En) (r : T) : T
namespace T
def pl : T → Nat
  | leaf => 0
  | node p _ _ _ _ => p
def rb : T → RB
  | leaf => .leaf
  | node _ c l e r => .node c l.rb e r.rb
def occ : T → Nat → Nat
  | leaf, _ => 0
  | node p _ l _ r, x => (if p = x then 1 else 0) + l.occ x + r.occ x
def isRed : T → Bool
  | leaf => false
  | node _ c _ _ _ => c
def black : T → T
  | leaf => leaf
  | node p _ l e r => node p false l e r
def toL (t : T) : List En := t.rb.toL
def Bal (t : T) (p : Bool) (n : Nat) : Prop := t.rb.Bal p n
/-- A node whose one side is a, the other one b. -/
def mk (s p : Nat) (c : Bool) (e : En) (a b : T) : T := if s = 0 then node p c a e b else node p c b e a
section
variable {s p : Nat} {c : Bool} {e : En} {a b : T}
theorem mk_pl : (mk s p c e a b).pl = p := by unfold mk; split <;> rfl
theorem mk_occ (x : Nat) : (mk s p c e a b).occ x = (if p = x then 1 else 0) + a.occ x + b.occ x := by
  unfold mk
  split <;> simp only [occ] <;> omega
theorem mk_red : (mk s p c e a b).isRed = c := by unfold mk; split <;> rfl
theorem mk_black : (mk s p c e a b).black = mk s p false e a b := by unfold mk; split <;> rfl
theorem mk_ne : mk s p c e a b ≠ leaf := by unfold mk; split <;> intro h <;> cases h
theorem mk_swap {o : Nat} (h : s + o = 1) : mk o p c e b a = mk s p c e a b := by
  unfold mk
  by_cases c0 : s = 0
  · rw [if_pos c0, if_neg (by omega)]
  · rw [if_neg c0, if_pos (by omega)]
theorem mk_node (p : Nat) (c : Bool) (l : T) (e : En) (r : T) : node p c l e r = mk 0 p c e l r := rfl
theorem mk_bal {q : Bool} {n : Nat} : (mk s p c e a b).Bal q n ↔ (c = true → q = false) ∧ ∃ m, n = (if c then m else m + 1) ∧ a.Bal c m ∧ b.Bal c m := by
  unfold mk
  split
  · exact Iff.rfl
  · constructor
    · rintro ⟨h, m, h1, h2, h3⟩
      exact ⟨h, m, h1, h3, h2⟩
    · rintro ⟨h, m, h1, h2, h3⟩
      exact ⟨h, m, h1, h3, h2⟩
theorem mk_toL : (mk s p c e a b).toL = if s = 0 then a.toL ++ e :: b.toL else b.toL ++ e :: a.toL := by
  unfold mk
  split <;> rfl
end
theorem bal_leaf {q : Bool} {n : Nat} : leaf.Bal q n ↔ n = 0 := Iff.rfl
theorem Bal.weak {t : T} {q : Bool} {n : Nat} (h : t.Bal q n) : t.Bal false n := by
  cases t with
  | leaf => exact h
  | node p c l e r => exact ⟨fun _ => rfl, h.2⟩
theorem Bal.strong {t : T} {q : Bool} {n : Nat} (h : t.Bal q n) (hr : t.isRed = false) (q' : Bool) : t.Bal q' n := by
  cases t with
  | leaf => exact h
  | node p c l e r => exact ⟨fun k => (by rw [T.isRed] at hr; rw [hr] at k; cases k), h.2⟩
theorem Bal.top {t : T} {n : Nat} (h : t.Bal true n) : t.isRed = false := by
  cases t with
  | leaf => rfl
  | node p c l e r =>
    cases c with
    | false => rfl
    | true => exact absurd (h.1 rfl) (by decide)
/-- A tree of some black ones is a node. -/
theorem Bal.open {t : T} {q : Bool} {n : Nat} (h : t.Bal q (n + 1)) (s : Nat) : ∃ p c e a b, t = mk s p c e a b := by
  cases t with
  | leaf => exact absurd (bal_leaf.1 h) (by omega)
  | node p c l e r =>
    by_cases h0 : s = 0
    · exact ⟨p, c, e, l, r, by unfold mk; rw [if_pos h0]⟩
    · exact ⟨p, c, e, r, l, by unfold mk; rw [if_neg h0]⟩
theorem open_red {t : T} (h : t.isRed = true) (s : Nat) : ∃ p e a b, t = mk s p true e a b := by
  cases t with
  | leaf => cases h
  | node p c l e r =>
    rw [T.isRed] at h
    subst h
    by_cases h0 : s = 0
    · exact ⟨p, e, l, r, by unfold mk; rw [if_pos h0]⟩
    · exact ⟨p, e, r, l, by unfold mk; rw [if_neg h0]⟩
theorem occ_pl {t : T} (h : t ≠ leaf) : t.occ t.pl ≠ 0 := by
  cases t with
  | leaf => exact absurd rfl h
  | node p c l e r =>
    simp [occ, pl]
theorem black_toL (t : T) : t.black.toL = t.toL := by cases t <;> rfl
theorem black_occ (t : T) (x : Nat) : t.black.occ x = t.occ x := by cases t <;> rfl
theorem black_pl (t : T) : t.black.pl = t.pl := by cases t <;> rfl
theorem black_same {t : T} (h : t.isRed = false) : t.black = t := by
  cases t with
  | leaf => rfl
  | node p c l e r => rw [isRed] at h; rw [h]; rfl
/-- A turn. -/
theorem turn_toL {s p q : Nat} {c d : Bool} {e f : En} {a b x : T} : (mk s q d f (mk s p c e a b) x).toL = (mk s p c e a (mk s q d f b x)).toL := by
  simp only [mk_toL]
  split <;> simp
theorem turn_occ {s p q : Nat} {c d : Bool} {e f : En} {a b x : T} (y : Nat) : (mk s q d f (mk s p c e a b) x).occ y = (mk s p c e a (mk s q d f b x)).occ y := by
  simp only [mk_occ]
  omega
end T

/-- The graph's links below a place are a tree's. -/
def Rep (G : Gr) : T → Nat → Prop
  | .leaf, _ => True
  | .node p c l e r, u => p ≠ 0 ∧ G.key p = e.key ∧ G.val p = e.val ∧ G.red p = c ∧ G.up p = u ∧ G.dn p 0 = l.pl ∧ G.dn p 1 = r.pl ∧ Rep G l p ∧ Rep G r p
theorem rep_mk {G : Gr} {s o p : Nat} {c : Bool} {e : En} {a b : T} {u : Nat} (hs : s + o = 1) : Rep G (T.mk s p c e a b) u ↔ p ≠ 0 ∧ G.key p = e.key ∧ G.val p = e.val ∧ G.red p = c ∧ G.up p = u ∧ G.dn p s = a.pl ∧ G.dn p o = b.pl ∧ Rep G a p ∧ Rep G b p := by
  by_cases h0 : s = 0
  · obtain rfl : o = 1 := by omega
    subst h0
    exact Iff.rfl
  · obtain rfl : s = 1 := by omega
    obtain rfl : o = 0 := by omega
    constructor
    · rintro ⟨h1, h2, h3, h4, h5, h6, h7, h8, h9⟩
      exact ⟨h1, h2, h3, h4, h5, h7, h6, h9, h8⟩
    · rintro ⟨h1, h2, h3, h4, h5, h6, h7, h8, h9⟩
      exact ⟨h1, h2, h3, h4, h5, h7, h6, h9, h8⟩
theorem Rep.frame {G G' : Gr} : ∀ {t : T} {u : Nat}, Rep G t u → (∀ x, t.occ x ≠ 0 → Agree G G' x) → Rep G' t u
  | .leaf, _, _, _ => trivial
  | .node p c l e r, u, ⟨h1, h2, h3, h4, h5, h6, h7, h8, h9⟩, k => by
    have a := k p (by simp [T.occ])
    exact ⟨h1, a.key.trans h2, a.val.trans h3, a.red.trans h4, a.up.trans h5, a.d0.trans h6, a.d1.trans h7, h8.frame (fun x hx => k x (by simp only [T.occ]; omega)), h9.frame (fun x hx => k x (by simp only [T.occ]; omega))⟩
/-- Its root hangs below another one now. -/
theorem Rep.move {G : Gr} {t : T} {u v s : Nat} (h : Rep G t u) (ho : ∀ x, t.occ x ≤ 1) (hv : t.occ v = 0) : Rep (G.hang v s t.pl) t v := by
  cases t with
  | leaf => trivial
  | node p c l e r =>
    obtain ⟨h1, h2, h3, h4, h5, h6, h7, h8, h9⟩ := h
    simp only [T.occ] at ho hv
    have hp := ho p
    have hne : p ≠ v := by
      rintro rfl
      simp at hv
    refine ⟨h1, h2, h3, h4, if_pos rfl, ?_, ?_, h8.frame fun x hx => ?_, h9.frame fun x hx => ?_⟩
    · exact (if_neg (fun k => hne k.1)).trans h6
    · exact (if_neg (fun k => hne k.1)).trans h7
    · refine Agree.hang ?_ ?_
      · rintro rfl; omega
      · rintro rfl; simp [T.pl] at hp; omega
    · refine Agree.hang ?_ ?_
      · rintro rfl; omega
      · rintro rfl; simp [T.pl] at hp; omega

/-- A step on the way down: the side that the way goes, and what is at the other one. -/
structure Fr where
  s : Nat
  p : Nat
  c : Bool
  e : En
  sib : T
def Fr.fill (f : Fr) (t : T) : T := T.mk f.s f.p f.c f.e t f.sib
def plug : List Fr → T → T
  | [], t => t
  | f :: z, t => plug z (f.fill t)
def above : List Fr → Nat
  | [] => 0
  | f :: _ => f.p
def side : List Fr → Nat
  | [] => 0
  | f :: _ => f.s
def pr : List Fr → Bool
  | [] => true
  | f :: _ => f.c
def occZ : List Fr → Nat → Nat
  | [], _ => 0
  | f :: z, x => (if f.p = x then 1 else 0) + f.sib.occ x + occZ z x
def Hole (G : Gr) : List Fr → Nat → Prop
  | [], q => G.dn 0 0 = q
  | f :: z, q => f.s < 2 ∧ f.p ≠ 0 ∧ G.key f.p = f.e.key ∧ G.val f.p = f.e.val ∧ G.red f.p = f.c ∧ G.up f.p = above z ∧ G.dn f.p f.s = q ∧ G.dn f.p (1 - f.s) = f.sib.pl ∧ Rep G f.sib f.p ∧ Hole G z f.p
theorem plug_occ : ∀ (z : List Fr) (t : T) (x : Nat), (plug z t).occ x = occZ z x + t.occ x
  | [], t, x => by simp [plug, occZ]
  | f :: z, t, x => by
    rw [plug, plug_occ z, Fr.fill, T.mk_occ, occZ]
    omega
theorem plug_toL : ∀ (z : List Fr) {t t' : T}, t.toL = t'.toL → (plug z t).toL = (plug z t').toL
  | [], t, t', h => h
  | f :: z, t, t', h => plug_toL z (by rw [Fr.fill, Fr.fill, T.mk_toL, T.mk_toL, h])
theorem agree_dn {G G' : Gr} {x s : Nat} (h : Agree G G' x) (hs : s < 2) : G'.dn x s = G.dn x s := by
  by_cases h0 : s = 0
  · rw [h0]; exact h.d0
  · obtain rfl : s = 1 := by omega
    exact h.d1
theorem Hole.frame {G G' : Gr} : ∀ {z : List Fr} {q : Nat}, Hole G z q → (∀ x, occZ z x ≠ 0 → Agree G G' x) → G'.dn 0 0 = G.dn 0 0 → Hole G' z q
  | [], q, h, _, k => k.trans h
  | f :: z, q, ⟨h0, h1, h2, h3, h4, h5, h6, h7, h8, h9⟩, k, k0 => by
    have a := k f.p (by simp [occZ])
    exact ⟨h0, h1, a.key.trans h2, a.val.trans h3, a.red.trans h4, a.up.trans h5, (agree_dn a h0).trans h6, (agree_dn a (by omega)).trans h7, h8.frame (fun x hx => k x (by simp only [occZ]; omega)), h9.frame (fun x hx => k x (by simp only [occZ]; omega)) k0⟩
theorem Hole.hang {G : Gr} {z : List Fr} {q q' : Nat} (h : Hole G z q) (ho : ∀ x, occZ z x ≤ 1) (h0 : occZ z 0 = 0) (hq : occZ z q' = 0) : Hole (G.hang (above z) (side z) q') z q' := by
  cases z with
  | nil =>
    show (if (0 : Nat) = 0 ∧ (0 : Nat) = 0 then q' else G.dn 0 0) = q'
    simp
  | cons f z =>
    obtain ⟨k0, k1, k2, k3, k4, k5, k6, k7, k8, k9⟩ := h
    simp only [occZ] at ho h0 hq
    have hp := ho f.p
    simp at hp
    have hne : f.p ≠ q' := by
      intro e
      simp [e] at hq
    have hag : ∀ x, x ≠ f.p → x ≠ q' → Agree G (G.hang (above (f :: z)) (side (f :: z)) q') x := fun x h1 h2 => Agree.hang h1 h2
    refine ⟨k0, k1, k2, k3, k4, (if_neg hne).trans k5, if_pos ⟨rfl, rfl⟩, ?_, k8.frame fun x hx => hag x ?_ ?_, k9.frame (fun x hx => hag x ?_ ?_) ?_⟩
    · refine (if_neg ?_).trans k7
      rintro ⟨_, e⟩
      simp only [side] at e
      omega
    · intro e
      rw [e] at hx
      omega
    · intro e
      rw [e] at hx
      omega
    · intro e
      rw [e] at hx
      omega
    · intro e
      rw [e] at hx
      omega
    · refine if_neg ?_
      rintro ⟨e, _⟩
      exact k1 (by simpa [above] using e.symm)

/-- The graph's links are a tree's, of which t is at the end of a way. -/
structure Sits (G : Gr) (z : List Fr) (t : T) : Prop where
  hole : Hole G z t.pl
  rep : Rep G t (above z)
  once : ∀ x, occZ z x + t.occ x ≤ 1
  no0 : occZ z 0 + t.occ 0 = 0
  red0 : G.red 0 = false
  key0 : G.key 0 = ⟨0, 0⟩
  val0 : G.val 0 = 0
  dn1 : G.dn 0 1 = 0
section
variable {G : Gr} {z : List Fr} {t : T}
theorem Sits.down {s o p : Nat} {c : Bool} {e : En} {a b : T} (h : Sits G z (T.mk s p c e a b)) (hs : s + o = 1) : Sits G (⟨s, p, c, e, b⟩ :: z) a := by
  obtain ⟨h1, h2, h3, h4, h5, h6, h7, h8⟩ := h
  rw [T.mk_pl] at h1
  obtain ⟨k1, k2, k3, k4, k5, k6, k7, k8, k9⟩ := (rep_mk hs).1 h2
  refine ⟨⟨by show s < 2; omega, k1, k2, k3, k4, k5, k6, ?_, k9, h1⟩, k8, fun x => ?_, ?_, h5, h6, h7, h8⟩
  · show G.dn p (1 - s) = _
    rw [show 1 - s = o by omega]
    exact k7
  · have := h3 x
    rw [T.mk_occ] at this
    simp only [occZ]
    omega
  · rw [T.mk_occ] at h4
    simp only [occZ]
    omega
theorem Sits.up_ {f : Fr} (h : Sits G (f :: z) t) : Sits G z (f.fill t) := by
  obtain ⟨h1, h2, h3, h4, h5, h6, h7, h8⟩ := h
  obtain ⟨k0, k1, k2, k3, k4, k5, k6, k7, k8, k9⟩ := h1
  refine ⟨?_, (rep_mk (o := 1 - f.s) (by omega)).2 ⟨k1, k2, k3, k4, k5, k6, k7, h2, k8⟩, fun x => ?_, ?_, h5, h6, h7, h8⟩
  · rw [Fr.fill, T.mk_pl]
    exact k9
  · have := h3 x
    rw [Fr.fill, T.mk_occ]
    simp only [occZ] at this
    omega
  · rw [Fr.fill, T.mk_occ]
    simp only [occZ] at h4
    omega
theorem Sits.out : ∀ {y : List Fr} {t : T}, Sits G y t → Sits G [] (plug y t)
  | [], _, h => h
  | f :: y, t, h => Sits.out (y := y) (t := f.fill t) h.up_
theorem Sits.side_lt (h : Sits G z t) : side z < 2 := by
  cases z with
  | nil => decide
  | cons f z => exact h.hole.1
theorem Sits.oz (h : Sits G z t) : (∀ x, occZ z x ≤ 1) ∧ occZ z 0 = 0 := ⟨fun x => by have := h.once x; omega, by have := h.no0; omega⟩
theorem Sits.dn_above (h : Sits G z t) : G.dn (above z) (side z) = t.pl := by
  have := h.hole
  cases z with
  | nil => exact this
  | cons f z => exact this.2.2.2.2.2.2.1
theorem Sits.sideOf (h : Sits G z t) (ht : t ≠ .leaf) : G.sideOf t.pl = side z := by
  have hu : G.up t.pl = above z := by
    have := h.rep
    cases t with
    | leaf => exact absurd rfl ht
    | node p c l e r => exact this.2.2.2.2.1
  have hp : t.pl ≠ 0 := by
    have := h.rep
    cases t with
    | leaf => exact absurd rfl ht
    | node p c l e r => exact this.1
  unfold Gr.sideOf
  rw [hu]
  have hh := h.hole
  cases z with
  | nil =>
    rw [if_neg]
    · rfl
    · show ¬ G.dn 0 1 = _
      rw [h.dn1]
      exact fun e => hp e.symm
  | cons f z =>
    obtain ⟨k0, k1, k2, k3, k4, k5, k6, k7, k8, k9⟩ := hh
    show (if G.dn f.p 1 = t.pl then 1 else 0) = f.s
    by_cases h1 : f.s = 1
    · rw [h1] at k6
      rw [if_pos k6, h1]
    · have h0 : f.s = 0 := by omega
      rw [h0] at k7
      rw [if_neg, h0]
      rw [k7]
      intro e
      by_cases hl : f.sib = .leaf
      · rw [hl] at e
        exact hp e.symm
      · have o1 := T.occ_pl hl
        have o2 := T.occ_pl ht
        have o3 := h.once t.pl
        simp only [occZ] at o3
        rw [e] at o1
        omega
/-- A node's colour. -/
theorem Sits.paint {s o p : Nat} {c c' : Bool} {e : En} {a b : T} (hs : s + o = 1) (h : Sits G z (T.mk s p c e a b)) : Sits (G.setRed p c') z (T.mk s p c' e a b) := by
  obtain ⟨h1, h2, h3, h4, h5, h6, h7, h8⟩ := h
  obtain ⟨k1, k2, k3, k4, k5, k6, k7, k8, k9⟩ := (rep_mk hs).1 h2
  simp only [T.mk_occ] at h3 h4
  have hp := h3 p
  simp at hp
  rw [T.mk_pl] at h1
  refine ⟨?_, (rep_mk hs).2 ⟨k1, k2, k3, if_pos rfl, k5, k6, k7, k8.frame fun x hx => Agree.setRed ?_, k9.frame fun x hx => Agree.setRed ?_⟩, fun x => ?_, ?_, ?_, h6, h7, h8⟩
  · rw [T.mk_pl]
    refine h1.frame (fun x hx => Agree.setRed ?_) rfl
    rintro rfl
    omega
  · rintro rfl; omega
  · rintro rfl; omega
  · rw [T.mk_occ]; exact h3 x
  · rw [T.mk_occ]; exact h4
  · exact (if_neg (Ne.symm k1)).trans h5
/-- A node's key and number. -/
theorem Sits.entry {s o p : Nat} {c : Bool} {e e' : En} {a b : T} (hs : s + o = 1) (h : Sits G z (T.mk s p c e a b)) : Sits (G.setEn p e') z (T.mk s p c e' a b) := by
  obtain ⟨h1, h2, h3, h4, h5, h6, h7, h8⟩ := h
  obtain ⟨k1, k2, k3, k4, k5, k6, k7, k8, k9⟩ := (rep_mk hs).1 h2
  simp only [T.mk_occ] at h3 h4
  have hp := h3 p
  simp at hp
  rw [T.mk_pl] at h1
  refine ⟨?_, (rep_mk hs).2 ⟨k1, if_pos rfl, if_pos rfl, k4, k5, k6, k7, k8.frame fun x hx => Agree.setEn ?_, k9.frame fun x hx => Agree.setEn ?_⟩, fun x => ?_, ?_, h5, ?_, ?_, h8⟩
  · rw [T.mk_pl]
    refine h1.frame (fun x hx => Agree.setEn ?_) rfl
    rintro rfl
    omega
  · rintro rfl; omega
  · rintro rfl; omega
  · rw [T.mk_occ]; exact h3 x
  · rw [T.mk_occ]; exact h4
  · exact (if_neg (Ne.symm k1)).trans h6
  · exact (if_neg (Ne.symm k1)).trans h7
/-- A node goes down to a side, the one at the other side rises. -/
theorem Sits.turn {s o p q : Nat} {c d : Bool} {e f : En} {a b x : T} (hs : s + o = 1) (h : Sits G z (T.mk s p c e a (T.mk s q d f b x))) :
    Sits (((G.hang (above z) (side z) q).hang p o b.pl).hang q s p) z (T.mk s q d f (T.mk s p c e a b) x) := by
  have hz := h.oz
  have hsl := h.side_lt
  obtain ⟨h1, h2, h3, h4, h5, h6, h7, h8⟩ := h
  obtain ⟨k1, k2, k3, k4, k5, k6, k7, k8, k9⟩ := (rep_mk hs).1 h2
  obtain ⟨m1, m2, m3, m4, m5, m6, m7, m8, m9⟩ := (rep_mk hs).1 k9
  simp only [T.mk_occ] at h3 h4
  rw [T.mk_pl] at h1 k7
  have hp := h3 p
  have hq := h3 q
  simp at hp hq
  have pq : p ≠ q := by
    rintro rfl
    simp at hp
    omega
  simp [Ne.symm pq] at hp
  simp [pq] at hq
  -- where the way ends
  have ha : above z ≠ p ∧ above z ≠ q ∧ (∀ y, y ≠ 0 → a.occ y + b.occ y + x.occ y ≠ 0 → y ≠ above z) := by
    cases z with
    | nil => exact ⟨Ne.symm k1, Ne.symm m1, fun y hy _ => hy⟩
    | cons g z =>
      simp only [occZ] at hp hq h3
      refine ⟨?_, ?_, ?_⟩
      · intro e
        have e' : g.p = p := e
        simp [e'] at hp
        omega
      · intro e
        have e' : g.p = q := e
        simp [e'] at hq
        omega
      · intro y _ hy e
        have e' : g.p = y := e.symm
        have := h3 y
        simp [e'] at this
        omega
  have hb : ∀ y, b.pl = y → y ≠ 0 → b.occ y ≠ 0 := by
    rintro y rfl hy
    refine T.occ_pl ?_
    intro e
    rw [e] at hy
    exact hy rfl
  have H1 := h1.hang (q' := q) hz.1 hz.2 (by omega)
  have bne : ∀ y, y ≠ 0 → b.occ y = 0 → y ≠ b.pl := fun y hy k e => hb y e.symm hy k
  have nz : ∀ y, a.occ y + b.occ y + x.occ y ≠ 0 → y ≠ 0 := by
    rintro y hy rfl
    have : (if p = 0 then 1 else 0) + (if q = 0 then 1 else 0) ≥ 0 := Nat.zero_le _
    omega
  -- what no part of the turn touches
  have AG : ∀ y, y ≠ above z → y ≠ p → y ≠ q → y ≠ b.pl → Agree G (((G.hang (above z) (side z) q).hang p o b.pl).hang q s p) y := fun y e1 e2 e3 e4 => ((Agree.hang e1 e3).trans (Agree.hang e2 e4)).trans (Agree.hang e3 e2)
  have R2 : Rep ((G.hang (above z) (side z) q).hang p o b.pl) b p := by
    refine Rep.move (u := q) (m8.frame fun y hy => Agree.hang ?_ ?_) (fun y => ?_) ?_
    · exact ha.2.2 y (nz y (by omega)) (by omega)
    · rintro rfl; omega
    · have := h3 y; omega
    · omega
  refine ⟨?_, (rep_mk hs).2 ⟨m1, m2, m3, m4, ?_, ?_, ?_, (rep_mk hs).2 ⟨k1, k2, k3, k4, ?_, ?_, ?_, k8.frame fun y hy => ?_, R2.frame fun y hy => ?_⟩, m9.frame fun y hy => ?_⟩, fun y => ?_, ?_, h5, h6, h7, ?_⟩
  · rw [T.mk_pl]
    refine H1.frame (fun y hy => (Agree.hang ?_ ?_).trans (Agree.hang ?_ ?_)) ?_
    · rintro rfl; omega
    · refine bne y ?_ ?_
      · rintro rfl; omega
      · have := h3 y; omega
    · rintro rfl; omega
    · rintro rfl; omega
    · show (if 0 = q ∧ 0 = s then p else if 0 = p ∧ 0 = o then b.pl else _) = _
      rw [if_neg (fun k => m1 k.1.symm), if_neg (fun k => k1 k.1.symm)]
  · show (if q = p then q else if q = b.pl then p else if q = q then above z else G.up q) = above z
    rw [if_neg (Ne.symm pq), if_neg (bne q m1 (by omega)), if_pos rfl]
  · show (if q = q ∧ s = s then p else _) = _
    rw [if_pos ⟨rfl, rfl⟩, T.mk_pl]
  · show (if q = q ∧ o = s then p else if q = p ∧ o = o then b.pl else if q = above z ∧ o = side z then q else G.dn q o) = x.pl
    rw [if_neg (fun k => by omega), if_neg (fun k => pq k.1.symm), if_neg (fun k => ha.2.1 k.1.symm)]
    exact m7
  · show (if p = p then q else _) = q
    rw [if_pos rfl]
  · show (if p = q ∧ s = s then p else if p = p ∧ s = o then b.pl else if p = above z ∧ s = side z then q else G.dn p s) = a.pl
    rw [if_neg (fun k => pq k.1), if_neg (fun k => by omega), if_neg (fun k => ha.1 k.1.symm)]
    exact k6
  · show (if p = q ∧ o = s then p else if p = p ∧ o = o then b.pl else _) = b.pl
    rw [if_neg (fun k => pq k.1), if_pos ⟨rfl, rfl⟩]
  · have y0 := nz y (by omega)
    refine AG y (ha.2.2 y y0 (by omega)) ?_ ?_ (bne y y0 (by have := h3 y; omega))
    · rintro rfl; omega
    · rintro rfl; omega
  · refine Agree.hang ?_ ?_
    · rintro rfl; omega
    · rintro rfl; omega
  · have y0 := nz y (by omega)
    refine AG y (ha.2.2 y y0 (by omega)) ?_ ?_ (bne y y0 (by have := h3 y; omega))
    · rintro rfl; omega
    · rintro rfl; omega
  · rw [T.mk_occ, T.mk_occ]
    have := h3 y
    omega
  · rw [T.mk_occ, T.mk_occ]
    omega
  · show (if 0 = q ∧ 1 = s then p else if 0 = p ∧ 1 = o then b.pl else if 0 = above z ∧ 1 = side z then q else G.dn 0 1) = 0
    rw [if_neg (fun k => m1 k.1.symm), if_neg (fun k => k1 k.1.symm), if_neg, h8]
    rintro ⟨e1, e2⟩
    cases z with
    | nil => cases e2
    | cons g z => exact h1.2.1 e1.symm
end

end Go.Proofs.Ytkiibobpejoaeaa

/- Trees whose nodes stand at places: a node comes in, leaves, moves to another place; how they are balanced; their keys in order. -/
namespace Go.Proofs.Ytkiibobpejoaeaa
set_option linter.unusedVariables false
set_option linter.unusedSimpArgs false

section
variable {G : Gr} {z : List Fr} {t : T}
theorem Sits.above_off (h : Sits G z t) {y : Nat} (hy : y ≠ 0) (ho : occZ z y = 0) : y ≠ above z := by
  cases z with
  | nil => exact hy
  | cons f z =>
    intro e
    have e' : f.p = y := e.symm
    simp [occZ, e'] at ho
theorem Sits.t_off (h : Sits G z t) {y : Nat} (hy : t.occ y ≠ 0) : y ≠ 0 ∧ occZ z y = 0 := by
  refine ⟨?_, ?_⟩
  · rintro rfl
    have := h.no0
    omega
  · have := h.once y
    omega
theorem Sits.above_t (h : Sits G z t) : t.occ (above z) = 0 := by
  by_cases c : t.occ (above z) = 0
  · exact c
  · obtain ⟨h1, h2⟩ := h.t_off c
    exact absurd rfl (h.above_off h1 h2)
theorem hang_dn1 (h : Sits G z t) (q : Nat) : (G.hang (above z) (side z) q).dn 0 1 = 0 := by
  refine (if_neg ?_).trans h.dn1
  rintro ⟨e1, e2⟩
  have hh := h.hole
  cases z with
  | nil => cases e2
  | cons f z => exact hh.2.1 e1.symm
/-- A node comes in where nothing was. -/
theorem Sits.attach (h : Sits G z .leaf) {q : Nat} (hq : q ≠ 0) (ho : occZ z q = 0) (e : En) (u : Nat) :
    Sits ((G.setAll q e true u 0 0).hang (above z) (side z) q) z (.node q true .leaf e .leaf) := by
  have hz := h.oz
  have hd := hang_dn1 h q
  have hab := h.above_off hq ho
  obtain ⟨h1, h2, h3, h4, h5, h6, h7, h8⟩ := h
  have H1 : Hole (G.setAll q e true u 0 0) z 0 := h1.frame (fun x hx => Agree.setAll (by rintro rfl; omega)) (if_neg (Ne.symm hq))
  refine ⟨H1.hang hz.1 hz.2 ho, ⟨hq, if_pos rfl, if_pos rfl, if_pos rfl, if_pos rfl, ?_, ?_, trivial, trivial⟩, fun x => ?_, ?_, ?_, ?_, ?_, ?_⟩
  · exact (if_neg (fun k => hab k.1)).trans (by simp [Gr.setAll, T.pl])
  · exact (if_neg (fun k => hab k.1)).trans (by simp [Gr.setAll, T.pl])
  · have := h3 x
    simp only [T.occ] at this ⊢
    by_cases c : q = x
    · subst c
      simp
      omega
    · simp [c]
      omega
  · simp [T.occ, hq]
    exact hz.2
  · exact (if_neg (Ne.symm hq)).trans h5
  · exact (if_neg (Ne.symm hq)).trans h6
  · exact (if_neg (Ne.symm hq)).trans h7
  · show (if 0 = above z ∧ 1 = side z then q else if 0 = q then _ else G.dn 0 1) = 0
    have hd' : (if 0 = above z ∧ 1 = side z then q else G.dn 0 1) = 0 := hd
    by_cases c : 0 = above z ∧ 1 = side z
    · rw [if_pos c] at hd' ⊢
      exact hd'
    · rw [if_neg c, if_neg (Ne.symm hq)]
      exact h8
/-- A node leaves that has nothing at one side. -/
theorem Sits.detach {s o p : Nat} {c : Bool} {e : En} {b : T} (hs : s + o = 1) (h : Sits G z (T.mk s p c e .leaf b)) : Sits (G.hang (above z) (side z) b.pl) z b := by
  have hz := h.oz
  have hd := hang_dn1 h b.pl
  have ht := fun y => h.t_off (y := y)
  have hab := fun y (h0 : y ≠ 0) (h1 : occZ z y = 0) => h.above_off h0 h1
  obtain ⟨h1, h2, h3, h4, h5, h6, h7, h8⟩ := h
  obtain ⟨k1, k2, k3, k4, k5, k6, k7, k8, k9⟩ := (rep_mk hs).1 h2
  simp only [T.mk_occ, T.occ] at h3 h4 ht
  have hb : occZ z b.pl = 0 := by
    by_cases hl : b = .leaf
    · rw [hl]
      exact hz.2
    · exact (ht b.pl (by have := T.occ_pl hl; omega)).2
  refine ⟨h1.hang hz.1 hz.2 hb, Rep.move k9 (fun x => by have := h3 x; omega) ?_, fun x => by have := h3 x; omega, by omega, h5, h6, h7, hd⟩
  by_cases ha : b.occ (above z) = 0
  · exact ha
  · obtain ⟨q1, q2⟩ := ht (above z) (by omega)
    exact absurd rfl (hab _ q1 q2)
/-- A node moves to another place. -/
theorem Sits.relay {p q : Nat} {c : Bool} {l : T} {e : En} {r : T} (h : Sits G z (.node p c l e r)) (hq : q ≠ 0) (ho : occZ z q + (T.node p c l e r).occ q = 0) :
    Sits ((((G.hang (above z) (side z) q).setAll q e c (above z) l.pl r.pl).hang q 0 l.pl).hang q 1 r.pl) z (.node q c l e r) := by
  have hz := h.oz
  have hd := hang_dn1 h q
  have ht := fun y => h.t_off (y := y)
  have hab := fun y (h0 : y ≠ 0) (h1 : occZ z y = 0) => h.above_off h0 h1
  obtain ⟨h1, h2, h3, h4, h5, h6, h7, h8⟩ := h
  obtain ⟨k1, k2, k3, k4, k5, k6, k7, k8, k9⟩ := h2
  simp only [T.occ] at h3 h4 ht ho
  have pq : p ≠ q := by
    rintro rfl
    simp at ho
  simp [pq] at ho
  have lne : ∀ {b : T} {y : Nat}, y ≠ 0 → b.occ y = 0 → y ≠ b.pl := by
    rintro b y hy hb rfl
    by_cases hl : b = .leaf
    · rw [hl] at hy
      exact hy rfl
    · exact T.occ_pl hl hb
  have hqa := hab q hq ho.1
  have H1 := h1.hang (q' := q) hz.1 hz.2 ho.1
  have A0 : ∀ y, y ≠ above z → y ≠ q → Agree G ((G.hang (above z) (side z) q).setAll q e c (above z) l.pl r.pl) y := fun y e1 e2 => (Agree.hang e1 e2).trans (Agree.setAll e2)
  have al : ∀ y, l.occ y + r.occ y ≠ 0 → y ≠ 0 ∧ y ≠ above z ∧ y ≠ q := by
    intro y hy
    obtain ⟨q1, q2⟩ := ht y (by omega)
    refine ⟨q1, hab y q1 q2, ?_⟩
    rintro rfl
    omega
  have L1 : Rep (((G.hang (above z) (side z) q).setAll q e c (above z) l.pl r.pl).hang q 0 l.pl) l q := by
    refine Rep.move (u := p) (k8.frame fun y hy => ?_) (fun y => by have := h3 y; omega) (by omega)
    obtain ⟨_, q2, q3⟩ := al y (by omega)
    exact A0 y q2 q3
  have R1 : Rep ((((G.hang (above z) (side z) q).setAll q e c (above z) l.pl r.pl).hang q 0 l.pl).hang q 1 r.pl) r q := by
    refine Rep.move (u := p) (k9.frame fun y hy => ?_) (fun y => by have := h3 y; omega) (by omega)
    obtain ⟨q1, q2, q3⟩ := al y (by omega)
    exact (A0 y q2 q3).trans (Agree.hang q3 (lne q1 (by have := h3 y; omega)))
  refine ⟨?_, ⟨hq, ?_, ?_, ?_, ?_, ?_, ?_, L1.frame fun y hy => ?_, R1⟩, fun y => ?_, ?_, ?_, ?_, ?_, ?_⟩
  · refine H1.frame (fun y hy => ((Agree.setAll ?_).trans (Agree.hang ?_ ?_)).trans (Agree.hang ?_ ?_)) ?_
    · rintro rfl; omega
    · rintro rfl; omega
    · refine lne ?_ ?_
      · rintro rfl; omega
      · have := h3 y; omega
    · rintro rfl; omega
    · refine lne ?_ ?_
      · rintro rfl; omega
      · have := h3 y; omega
    · show (if 0 = q ∧ 0 = 1 then r.pl else if 0 = q ∧ 0 = 0 then l.pl else if 0 = q then _ else _) = _
      simp [Ne.symm hq]
  · simp [Gr.hang, Gr.setAll]
  · simp [Gr.hang, Gr.setAll]
  · simp [Gr.hang, Gr.setAll]
  · simp [Gr.hang, Gr.setAll]
    rw [if_neg (lne hq (by omega)), if_neg (lne hq (by omega))]
  · simp [Gr.hang, Gr.setAll]
  · simp [Gr.hang, Gr.setAll]
  · obtain ⟨q1, q2, q3⟩ := al y (by omega)
    exact Agree.hang q3 (lne q1 (by have := h3 y; omega))
  · simp only [T.occ]
    have := h3 y
    by_cases c : q = y
    · subst c
      simp
      omega
    · simp [c]
      omega
  · simp [T.occ, hq]
    omega
  · simp [Gr.hang, Gr.setAll, Ne.symm hq, h5]
  · simp [Gr.hang, Gr.setAll, Ne.symm hq, h6]
  · simp [Gr.hang, Gr.setAll, Ne.symm hq, h7]
  · have hd' : (if 0 = above z ∧ 1 = side z then q else G.dn 0 1) = 0 := hd
    simp [Gr.hang, Gr.setAll, Ne.symm hq]
    exact hd'
end

/-- A way down through a tree that is in order, but for what hangs at its end. -/
def Good : List Fr → Nat → Prop
  | [], _ => True
  | f :: z, n => (f.c = true → pr z = false) ∧ f.sib.Bal f.c n ∧ Good z (if f.c then n else n + 1)
theorem good_plug : ∀ {z : List Fr} {t : T} {n : Nat}, Good z n → t.Bal (pr z) n → ∃ m, (plug z t).Bal true m
  | [], t, n, _, h => ⟨n, h⟩
  | f :: z, t, n, ⟨h1, h2, h3⟩, h => good_plug (z := z) h3 (T.mk_bal.2 ⟨h1, n, rfl, h, h2⟩)
/-- The other way about: where a node stands in a tree that is in order. -/
theorem good_of : ∀ {z : List Fr} {t : T} {m : Nat}, (plug z t).Bal true m → ∃ n, Good z n ∧ t.Bal (pr z) n
  | [], t, n, h => ⟨n, trivial, h⟩
  | f :: z, t, m, h => by
    obtain ⟨n, h1, h2⟩ := good_of (z := z) (t := f.fill t) h
    obtain ⟨k1, n', rfl, k2, k3⟩ := T.mk_bal.1 h2
    exact ⟨n', ⟨k1, k3, h1⟩, k2⟩
theorem good_root : ∀ {z : List Fr} {n : Nat}, Good z n → z ≠ [] → ∀ t : T, (plug z t).isRed = false
  | [], _, _, h, _ => absurd rfl h
  | [f], n, ⟨h1, _, _⟩, _, t => by
    rw [plug, plug, Fr.fill, T.mk_red]
    cases hc : f.c with
    | false => rfl
    | true => exact absurd (h1 hc) (by decide)
  | f :: g :: z, n, ⟨_, _, h3⟩, _, t => good_root (z := g :: z) h3 (by simp) (f.fill t)

/-- What stands ahead of the end of a way, and behind it. -/
def lefts : List Fr → List En
  | [] => []
  | f :: z => lefts z ++ (if f.s = 0 then [] else f.sib.toL ++ [f.e])
def rights : List Fr → List En
  | [] => []
  | f :: z => (if f.s = 0 then f.e :: f.sib.toL else []) ++ rights z
theorem plug_lr : ∀ (z : List Fr) (t : T), (plug z t).toL = lefts z ++ t.toL ++ rights z
  | [], t => by simp [plug, lefts, rights]
  | f :: z, t => by
    rw [plug, plug_lr z, Fr.fill, T.mk_toL, lefts, rights]
    split <;> simp
/-- Each node stands at the end of a way. -/
theorem way_to : ∀ (t : T) (z : List Fr) (x : Nat), t.occ x ≠ 0 → ∃ y c l e r, plug z t = plug y (.node x c l e r) ∧ ∃ y', y = y' ++ z
  | .leaf, _, _, h => absurd rfl h
  | .node p c l e r, z, x, h => by
    by_cases hp : p = x
    · subst hp
      exact ⟨z, c, l, e, r, rfl, [], rfl⟩
    · by_cases hl : l.occ x = 0
      · obtain ⟨y, c', l', e', r', h1, y', h2⟩ := way_to r (⟨1, p, c, e, l⟩ :: z) x (by simp [T.occ, hp] at h; omega)
        exact ⟨y, c', l', e', r', h1, y' ++ [⟨1, p, c, e, l⟩], by simp [h2]⟩
      · obtain ⟨y, c', l', e', r', h1, y', h2⟩ := way_to l (⟨0, p, c, e, r⟩ :: z) x hl
        exact ⟨y, c', l', e', r', h1, y' ++ [⟨0, p, c, e, r⟩], by simp [h2]⟩
theorem Sits.inn {G : Gr} : ∀ {y : List Fr} {t : T}, (∀ f, f ∈ y → f.s < 2) → Sits G [] (plug y t) → Sits G y t
  | [], _, _, h => h
  | f :: y, t, hs, h => by
    have := Sits.inn (y := y) (t := f.fill t) (fun g hg => hs g (by simp [hg])) h
    exact this.down (s := f.s) (o := 1 - f.s) (by have := hs f (by simp); omega)
theorem way_sides : ∀ (t : T) (z : List Fr) (x : Nat), (∀ f, f ∈ z → f.s < 2) → t.occ x ≠ 0 → ∃ y c l e r, plug z t = plug y (.node x c l e r) ∧ ∀ f, f ∈ y → f.s < 2
  | .leaf, _, _, _, h => absurd rfl h
  | .node p c l e r, z, x, hz, h => by
    by_cases hp : p = x
    · subst hp
      exact ⟨z, c, l, e, r, rfl, hz⟩
    · by_cases hl : l.occ x = 0
      · exact way_sides r (⟨1, p, c, e, l⟩ :: z) x (by
          intro f hf
          rcases List.mem_cons.1 hf with rfl | hf
          · show (1 : Nat) < 2; omega
          · exact hz f hf) (by simp [T.occ, hp] at h; omega)
      · exact way_sides l (⟨0, p, c, e, r⟩ :: z) x (by
          intro f hf
          rcases List.mem_cons.1 hf with rfl | hf
          · show (0 : Nat) < 2; omega
          · exact hz f hf) hl
/-- Each place of a tree: a way to it. -/
theorem Sits.at_ {G : Gr} {t : T} (h : Sits G [] t) {x : Nat} (hx : t.occ x ≠ 0) : ∃ y c l e r, t = plug y (.node x c l e r) ∧ Sits G y (.node x c l e r) := by
  obtain ⟨y, c, l, e, r, h1, h2⟩ := way_sides t [] x (by simp) hx
  have h1' : t = plug y (.node x c l e r) := h1
  refine ⟨y, c, l, e, r, h1', Sits.inn h2 ?_⟩
  rw [← h1']
  exact h

end Go.Proofs.Ytkiibobpejoaeaa
