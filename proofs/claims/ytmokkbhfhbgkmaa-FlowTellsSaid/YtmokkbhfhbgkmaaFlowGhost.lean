/-
  One flow, as numbers: what its steps make of it (of no program).
-/
import Derived.Test.YtmokkbhfhbgkmaaSpan
namespace Go.Proofs.Ytmokkbhfhbgkmaa
open Go.RowKit
set_option linter.unusedVariables false

/-- A flow's seven numbers. -/
structure Fl where
  so : Int
  ck : Int
  rate : Int
  cr : Int
  nx : Int
  db : Int
  ag : Int
deriving DecidableEq
/-- A pace's five numbers. -/
structure Pc where
  q : Int
  first : Int
  refill : Int
  most : Int
  low : Int
/-- The cells of both. -/
def Fl.c (f : Fl) : Array Value := #[.int .u64 f.so, .int .u64 f.ck, .int .u64 f.rate, .int .i64 f.cr, .int .u64 f.nx, .int .u64 f.db, .int .u64 f.ag]
def Pc.c (p : Pc) : Array Value := #[.int .i64 p.q, .int .i64 p.first, .int .u64 p.refill, .int .u64 p.most, .int .u64 p.low]
/-- A number that an int can be. -/
def Half (x : Int) : Prop := -9223372036854775808 ≤ x ∧ x < 9223372036854775808
structure Fl.Fits (f : Fl) : Prop where
  so : Num.Word f.so
  ck : Num.Word f.ck
  rate : Num.Word f.rate
  cr : Half f.cr
  nx : Num.Word f.nx
  db : Num.Word f.db
  ag : Num.Word f.ag
structure Pc.Fits (p : Pc) : Prop where
  q : Half p.q
  first : Half p.first
  refill : Num.Word p.refill
  most : Num.Word p.most
  low : Num.Word p.low
/-- A right pace. -/
def Pc.right (p : Pc) : Bool := decide ((1 ≤ p.q ∧ p.q ≤ 1048576) ∧ (1 ≤ p.first ∧ p.first ≤ 1048576) ∧ p.most ≤ 1099511627776 ∧ p.low ≤ 1099511627776)
theorem Pc.right_iff {p : Pc} : p.right = true ↔ (1 ≤ p.q ∧ p.q ≤ 1048576) ∧ (1 ≤ p.first ∧ p.first ≤ 1048576) ∧ p.most ≤ 1099511627776 ∧ p.low ≤ 1099511627776 := by
  unfold Pc.right; exact decide_eq_true_iff

def Fl.born (so ck : Int) (p : Pc) : Fl := ⟨so, ck, 0, p.first, 0, 0, 0⟩
def Fl.by (f : Fl) (p : Pc) : Int := Num.lesser f.rate p.most
def Fl.fill (f : Fl) (p : Pc) : Fl := { f with cr := wrap64 (f.cr + p.q) }
/-- It pays at an instant. -/
def Fl.pay (f : Fl) (at' r : Int) : Fl := { f with nx := max f.nx (Num.add at' (Num.time f.db r)), db := 0 }
def Fl.spend (f : Fl) (n : Int) : Fl := { f with cr := wrap64 (f.cr - n) }
def Fl.owe (f : Fl) (n : Int) : Fl := { f with db := Num.add f.db n }
def Fl.forgo (f : Fl) : Fl := { f with cr := min f.cr 0 }
def Fl.charge (f : Fl) (n now : Int) (p : Pc) : Fl :=
  if f.by p = 0 then f.spend n
  else if f.by p < p.low then (((f.spend n).owe n).pay now (f.by p)).forgo
  else if 0 < (f.spend n).cr then (f.spend n).owe n
  else ((f.spend n).owe n).pay now (f.by p)
def Fl.rest (f : Fl) (now : Int) : Fl := { f with ag := now }
def Fl.renew (f : Fl) (p : Pc) : Fl := { f with cr := max f.cr p.q }
def Fl.acquit (f : Fl) : Fl := { f with db := 0 }
def Fl.wake (f : Fl) (now : Int) (p : Pc) : Fl :=
  if now < Num.add f.ag p.refill then f
  else if 0 < f.by p ∧ 0 < f.db then (f.pay f.ag (f.by p)).renew p
  else (f.acquit).renew p

theorem half_wrap (x : Int) : Half (wrap64 x) := by unfold Half wrap64; omega
theorem half_in {x : Int} (h : Half x) : wrap64 x = x := by unfold Half at h; unfold wrap64; omega
theorem Fl.by_word {f : Fl} {p : Pc} (hf : f.Fits) (hp : p.Fits) : Num.Word (f.by p) := Num.lesser_word hf.rate hp.most
theorem Fl.Fits.fill {f : Fl} (h : f.Fits) (p : Pc) : (f.fill p).Fits := ⟨h.so, h.ck, h.rate, half_wrap _, h.nx, h.db, h.ag⟩
theorem Fl.Fits.spend {f : Fl} (h : f.Fits) (n : Int) : (f.spend n).Fits := ⟨h.so, h.ck, h.rate, half_wrap _, h.nx, h.db, h.ag⟩
theorem Fl.Fits.owe {f : Fl} (h : f.Fits) {n : Int} (hn : Num.Word n) : (f.owe n).Fits := ⟨h.so, h.ck, h.rate, h.cr, h.nx, Num.add_word h.db hn, h.ag⟩
theorem Fl.Fits.pay {f : Fl} (h : f.Fits) {at' r : Int} (ha : Num.Word at') (hr : Num.Word r) : (f.pay at' r).Fits := ⟨h.so, h.ck, h.rate, h.cr, Num.max_word h.nx (Num.add_word ha (Num.time_word h.db hr)), Num.zero_word, h.ag⟩
theorem Fl.Fits.forgo {f : Fl} (h : f.Fits) : f.forgo.Fits := ⟨h.so, h.ck, h.rate, by have := h.cr; unfold Half at *; show _ ≤ min f.cr 0 ∧ min f.cr 0 < _; omega, h.nx, h.db, h.ag⟩
theorem Fl.Fits.rest {f : Fl} (h : f.Fits) {n : Int} (hn : Num.Word n) : (f.rest n).Fits := ⟨h.so, h.ck, h.rate, h.cr, h.nx, h.db, hn⟩
theorem Fl.Fits.acquit {f : Fl} (h : f.Fits) : f.acquit.Fits := ⟨h.so, h.ck, h.rate, h.cr, h.nx, Num.zero_word, h.ag⟩
theorem Fl.Fits.renew {f : Fl} (h : f.Fits) {p : Pc} (hp : p.Fits) : (f.renew p).Fits := ⟨h.so, h.ck, h.rate, by have := h.cr; have := hp.q; unfold Half at *; show _ ≤ max f.cr p.q ∧ max f.cr p.q < _; omega, h.nx, h.db, h.ag⟩
theorem Fl.Fits.charge {f : Fl} (h : f.Fits) {p : Pc} (hp : p.Fits) {n now : Int} (hn : Num.Word n) (ht : Num.Word now) : (f.charge n now p).Fits := by
  have hb := Fl.by_word h hp
  unfold Fl.charge
  split
  · exact h.spend n
  · split
    · exact (((h.spend n).owe hn).pay ht hb).forgo
    · split
      · exact (h.spend n).owe hn
      · exact ((h.spend n).owe hn).pay ht hb
theorem Fl.Fits.wake {f : Fl} (h : f.Fits) {p : Pc} (hp : p.Fits) (now : Int) : (f.wake now p).Fits := by
  have hb := Fl.by_word h hp
  unfold Fl.wake
  split
  · exact h
  · split
    · exact (h.pay h.ag hb).renew hp
    · exact h.acquit.renew hp
theorem Fl.Fits.born {so ck : Int} {p : Pc} (hs : Num.Word so) (hc : Num.Word ck) (hp : p.Fits) : (Fl.born so ck p).Fits := ⟨hs, hc, Num.zero_word, hp.first, Num.zero_word, Num.zero_word, Num.zero_word⟩
theorem Fl.Fits.rated {f : Fl} (h : f.Fits) {r : Int} (hr : Num.Word r) : ({ f with rate := r } : Fl).Fits := ⟨h.so, h.ck, hr, h.cr, h.nx, h.db, h.ag⟩

end Go.Proofs.Ytmokkbhfhbgkmaa
