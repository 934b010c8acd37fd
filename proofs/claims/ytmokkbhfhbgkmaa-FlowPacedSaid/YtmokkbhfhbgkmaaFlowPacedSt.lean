/-
  FlowPaced: one flow between two packets, and what its steps leave of that (of no program).
-/
import Derived.Test.YtmokkbhfhbgkmaaFlowPacedFacts
namespace Go.Proofs.Ytmokkbhfhbgkmaa
open Go.RowKit
set_option linter.unusedVariables false

/-- A pace as the law has it: up to 65536 of credit, and its least rate the flow's own. -/
structure PacedBy (p : Pc) (R : Int) : Prop where
  q0 : 1 ≤ p.q
  q1 : p.q ≤ 65536
  f0 : 1 ≤ p.first
  f1 : p.first ≤ 65536
  low : p.low = R
  r0 : 1 ≤ R
  r1 : R ≤ 1099511627776
/-- Between two packets: m have left, of n bytes each, at t; now, and Next, are at most B. -/
structure PSt (p : Pc) (R : Int) (n t : Nat → Int) (m : Nat) (B : Int) (f : Fl) (now : Int) : Prop where
  by_ : f.by p = R
  burst : Burst R (max p.q p.first) n t m f.cr f.db f.nx now
  paid : f.cr ≤ 0 → f.db = 0
  lo : -65536 ≤ f.cr
  nowB : now ≤ B
  nxB : f.nx ≤ B

section
variable {p : Pc} {R : Int} {n t : Nat → Int} {m : Nat} {B : Int} {f : Fl} {now : Int}
theorem PSt.db (h : PSt p R n t m B f now) (hp : PacedBy p R) : 0 ≤ f.db ∧ f.db ≤ 131072 ∧ f.cr ≤ 65536 ∧ 0 ≤ now ∧ 0 ≤ f.nx := by
  have h1 := h.burst.d0
  have h2 := h.burst.room
  have h3 := h.lo
  have h4 := hp.q1
  have h5 := hp.f1
  have h6 := h.burst.x0
  have h7 := h.burst.now0
  omega
theorem PSt.later (h : PSt p R n t m B f now) {now' : Int} (h1 : now ≤ now') (h2 : now' ≤ B) : PSt p R n t m B f now' :=
  ⟨h.by_, h.burst.later h1, h.paid, h.lo, h2, h.nxB⟩
theorem PSt.upto (h : PSt p R n t m B f now) {B' : Int} (hb : B ≤ B') : PSt p R n t m B' f now :=
  ⟨h.by_, h.burst, h.paid, h.lo, Int.le_trans h.nowB hb, Int.le_trans h.nxB hb⟩
theorem PSt.rest (h : PSt p R n t m B f now) (x : Int) : PSt p R n t m B (f.rest x) now :=
  ⟨h.by_, h.burst, h.paid, h.lo, h.nowB, h.nxB⟩
theorem PSt.fill (h : PSt p R n t m B f now) (hp : PacedBy p R) (hc : f.cr ≤ 0) : PSt p R n t m B (f.fill p) now ∧ (f.fill p).cr = f.cr + p.q := by
  have h1 := hp.q1
  have h2 := hp.q0
  have h3 := h.lo
  have hd := h.paid hc
  have e : (f.fill p).cr = f.cr + p.q := half_in (by unfold Half; omega)
  refine ⟨⟨h.by_, ?_, fun _ => hd, by rw [e]; omega, h.nowB, h.nxB⟩, e⟩
  rw [e]
  exact h.burst.credit (by rw [hd]; omega)
/-- A rest from now on, and a waking behind it. -/
theorem PSt.wake (h : PSt p R n t m B f now) (hp : PacedBy p R) {now' : Int} (hn : now ≤ now') (hn' : now' ≤ B + 1000000000000000) (hB : B + 1000000000000000 < 18446744073709551616) : PSt p R n t m (B + 1000000000000000) ((f.rest now).wake now' p) now' := by
  have hr := (h.rest now).upto (show B ≤ B + 1000000000000000 by omega)
  have h0 := hr.later hn hn'
  have hd := h.db hp
  have q1 := hp.q1
  have q0 := hp.q0
  have hb := h.by_
  have r0 := hp.r0
  have r1 := hp.r1
  unfold Fl.wake
  split
  · exact h0
  · rename_i hlong
    split
    · rename_i hpos
      obtain ⟨hpos1, hpos2⟩ := hpos
      have hdb : 0 < f.db := hpos2
      have tw := time_worth (d := f.db) (r := R) (by omega) (by omega) (by omega) (by omega)
      have nB := h.nowB
      have ea : Num.add now (Num.time f.db R) = now + Num.time f.db R := by unfold Num.add Num.kept; rw [if_pos (by omega)]
      have hrm := h.burst.room
      have b1 := h.burst.behind
      have b2 := h.burst.t0
      have nxB := h.nxB
      have P := h0.burst.pay (at' := now) (T := Num.time f.db R) (by omega) tw.1 (fun hd => h.burst.behind hd) (fun i hi => (h.burst.t0 i hi).2) (max f.cr p.q) (by omega)
      refine ⟨h.by_, ?_, fun _ => rfl, ?_, hn', ?_⟩
      · show Burst R _ n t m (max f.cr p.q) 0 (max f.nx (Num.add now (Num.time f.db (f.by p)))) now'
        rw [hb, ea]
        exact P
      · show _ ≤ max f.cr p.q
        omega
      · show max f.nx (Num.add now (Num.time f.db (f.by p))) ≤ _
        rw [hb, ea]
        omega
    · rename_i hno
      have hdb : f.db = 0 := by
        have : ¬ (0 < f.db) := fun h1 => hno ⟨by show 0 < f.by p; omega, h1⟩
        omega
      refine ⟨h.by_, ?_, fun _ => rfl, ?_, hn', h0.nxB⟩
      · show Burst R _ n t m (max f.cr p.q) 0 f.nx now'
        have hb0 : Burst R (max p.q p.first) n t m f.cr f.db f.nx now' := h0.burst
        have hrm := hb0.room
        rw [hdb] at hb0 hrm
        exact hb0.credit (by omega)
      · show _ ≤ max f.cr p.q
        omega
/-- A packet leaves now, and is charged. -/
theorem PSt.charge (h : PSt p R n t m B f now) (hp : PacedBy p R) (hx : f.nx ≤ now) (hc : 0 < f.cr) (hn0 : 0 < n m) (hn1 : n m ≤ 65536) (hB : B + 1000000000000000 < 18446744073709551616) :
    PSt p R n (updI t m now) (m + 1) (B + 1000000000000000) (f.charge (n m) now p) now ∧ f.nx ≤ (f.charge (n m) now p).nx := by
  have hd := h.db hp
  have hb := h.by_
  have r0 := hp.r0
  have r1 := hp.r1
  have lo := hp.low
  have q1 := hp.q1
  have f1 := hp.f1
  have nB := h.nowB
  have xB := h.nxB
  have ecr : (f.spend (n m)).cr = f.cr - n m := half_in (by unfold Half; omega)
  have edb : Num.add f.db (n m) = f.db + n m := by unfold Num.add Num.kept; rw [if_pos (by omega)]
  have S := h.burst.send (by omega) hx hc hn0
  have hrm := S.room
  unfold Fl.charge
  rw [if_neg (by omega), if_neg (by omega)]
  split
  · rename_i hpos
    rw [ecr] at hpos
    refine ⟨⟨hb, ?_, fun h0 => ?_, ?_, by omega, ?_⟩, Int.le_refl _⟩
    · show Burst R _ n _ (m + 1) (f.spend (n m)).cr (Num.add f.db (n m)) f.nx now
      rw [ecr, edb]
      exact S
    · have : (f.spend (n m)).cr ≤ 0 := h0
      omega
    · show _ ≤ (f.spend (n m)).cr
      omega
    · show f.nx ≤ _
      omega
  · rename_i hneg
    rw [ecr] at hneg
    have tw := time_worth (d := f.db + n m) (r := R) (by omega) (by omega) (by omega) (by omega)
    have ea : Num.add now (Num.time (f.db + n m) R) = now + Num.time (f.db + n m) R := by unfold Num.add Num.kept; rw [if_pos (by omega)]
    have P := S.pay (at' := now) (T := Num.time (f.db + n m) R) (by omega) tw.1 (fun _ => hx) (fun i hi => (S.t0 i hi).2) (f.cr - n m) (by omega)
    have ex : (((f.spend (n m)).owe (n m)).pay now (f.by p)).nx = max f.nx (now + Num.time (f.db + n m) R) := by
      show max f.nx (Num.add now (Num.time (Num.add f.db (n m)) (f.by p))) = _
      rw [edb, hb, ea]
    refine ⟨⟨hb, ?_, fun _ => rfl, ?_, by omega, ?_⟩, ?_⟩
    · rw [ex]
      show Burst R _ n _ (m + 1) (f.spend (n m)).cr 0 _ now
      rw [ecr]
      exact P
    · show _ ≤ (f.spend (n m)).cr
      omega
    · rw [ex]
      omega
    · rw [ex]
      omega
theorem PSt.start (hp : PacedBy p R) (n t : Nat → Int) (hf : f.by p = R) (hc : f.cr = p.first) (hd : f.db = 0) (hx : f.nx = 0) : PSt p R n t 0 0 f 0 := by
  have f0 := hp.f0
  refine ⟨hf, ?_, fun _ => hd, by omega, by omega, by omega⟩
  rw [hd, hx, hc]
  exact Burst.start R n t (by omega)
/-- What the law asks in the end, of each two. -/
theorem PSt.told (h : PSt p R n t m B f now) (hp : PacedBy p R) (hm : m ≤ 30) (hn : ∀ i, i < m → 0 ≤ n i ∧ n i ≤ 65536) {i j : Nat} (hij : i ≤ j) (hj : j < m) :
    psum n (j + 1) - psum n i ≤ Num.add (Num.bytes (t j - t i) R) (max p.q p.first - 1 + pmax n m) := by
  have h1 := h.burst.told i j hij hj
  have h2 := h.burst.rise i j hij hj
  have r0 := hp.r0
  have e : Num.bytes (t j - t i) R = Num.kept ((t j - t i) * R / 1000000000) := by
    unfold Num.bytes Num.down Num.byc
    rw [if_neg (by omega), if_neg (by omega)]
  have h3 : 0 ≤ (t j - t i) * R / 1000000000 := Int.ediv_nonneg (Int.mul_nonneg (by omega) (by omega)) (by omega)
  have h4 := pmax_nn n m
  have q0 := hp.q0
  have h5 : psum n (j + 1) ≤ ((j + 1 : Nat) : Int) * 65536 := psum_le fun k hk => (hn k (by omega)).2
  have h6 : 0 ≤ psum n i := psum_nn fun k hk => (hn k (by omega)).1
  rw [e]
  unfold Num.add Num.kept
  split <;> split <;> omega
end

end Go.Proofs.Ytmokkbhfhbgkmaa
