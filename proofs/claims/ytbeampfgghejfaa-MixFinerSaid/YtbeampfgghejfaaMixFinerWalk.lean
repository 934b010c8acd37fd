/-
  MixFiner's walk: for all numbers the law's text answers true.
-/
import Derived.Test.YtbeampfgghejfaaMixAwake
namespace Go.Proofs.Ytbeampfgghejfaa
open Go.RowKit
set_option linter.unusedVariables false

/-- 1 moved by n places, n at most 16, in the kind int. -/
theorem one_shl (n : Nat) (hn : n ≤ 16) : ∃ p : Nat, p = 2 ^ n ∧ (2 : Int) ^ n = (p : Int) ∧ p ≤ 65536 ∧ 1 ≤ p ∧ wrap64 ((2 : Int) ^ n) = (p : Int) := by
  have h1 : (2 : Nat) ^ n ≤ 2 ^ 16 := Nat.pow_le_pow_right (by omega) hn
  have h2 : (2 : Nat) ^ 16 = 65536 := by decide
  have h3 : (2 : Int) ^ n = ((2 ^ n : Nat) : Int) := by simp
  have h4 := Nat.two_pow_pos n
  refine ⟨2 ^ n, rfl, h3, by omega, h4, ?_⟩
  rw [h3]
  generalize (2 : Nat) ^ n = p at *
  unfold wrap64
  omega

theorem cast_div_pow {l c k : Nat} (h : l / 2 ^ c = k) : (l : Int) / 2 ^ c = (k : Int) := by
  rw [← h]
  simp

set_option maxHeartbeats 1000000 in
/-- Over the numbers that the text reckons, each by a name. -/
theorem mixFiner_core (x f m a d c b p q k l : Nat) (w : World) (hf : f < 256) (hm : m < 256) (hA : (f : Int) % 17 = (a : Int)) (ha : a ≤ 16) (hd : (17 : Int) - (a : Int) = (d : Int)) (hd1 : 1 ≤ d) (hd2 : d ≤ 17) (hc : (m : Int) % (d : Int) = (c : Int)) (hcd : c < d)
    (hb : (a : Int) + (c : Int) = (b : Int)) (hb1 : b ≤ 16) (hba : (b : Int) - (a : Int) = (c : Int)) (hp : (2 : Int) ^ a = (p : Int)) (hp1 : p ≤ 65536) (hq : (2 : Int) ^ b = (q : Int)) (hq1 : q ≤ 65536)
    (hk : (k : Int) < (p : Int)) (hl : (l : Int) < (q : Int)) (hh : (l : Int) / 2 ^ c = (k : Int))
    (R1 : Hid (∀ w, Calls Try.prog 12 #[.int .u64 (x : Int), .int .i64 (a : Int)] w fun e w' => e = .returned (.int .i64 (k : Int)) ∧ Below w.heap.size w w'))
    (R2 : Hid (∀ w, Calls Try.prog 12 #[.int .u64 (x : Int), .int .i64 (b : Int)] w fun e w' => e = .returned (.int .i64 (l : Int)) ∧ Below w.heap.size w w')) :
    Calls Try.prog 5 #[.int .u64 (x : Int), .int .u8 (f : Int), .int .u8 (m : Int)] w fun e w' => e = .returned (.bool true) ∧ Below w.heap.size w w' := by
  go_enter Try.func5, Try.ntmps5
  go_wp2_with fail
  refine (R1.out _).mono ?_
  rintro e w1 ⟨rfl, g1⟩
  go_wp2_with fail
  refine (R2.out _).mono ?_
  rintro e w2 ⟨rfl, g2⟩
  go_wp2_with fail
  refine (awake_walk _).mono ?_
  rintro e w3 ⟨rfl, g3⟩
  go_wp2_with fail
  go_ret
  exact ⟨rfl, below_trans (below_trans g1 g2) g3⟩

theorem mixFiner_nat (x f m : Nat) (w : World) (hx : x < 18446744073709551616) (hf : f < 256) (hm : m < 256) :
    Calls Try.prog 5 #[.int .u64 (x : Int), .int .u8 (f : Int), .int .u8 (m : Int)] w fun e w' => e = .returned (.bool true) ∧ Below w.heap.size w w' := by
  obtain ⟨a, hA⟩ : ∃ a : Nat, (f : Int) % 17 = (a : Int) := ⟨f % 17, by omega⟩
  have ha : a ≤ 16 := by omega
  obtain ⟨d, hd⟩ : ∃ d : Nat, (17 : Int) - (a : Int) = (d : Int) := ⟨17 - a, by omega⟩
  have hd1 : 1 ≤ d := by omega
  obtain ⟨c, hc, hcd⟩ : ∃ c : Nat, (m : Int) % (d : Int) = (c : Int) ∧ c < d := ⟨m % d, by simp, Nat.mod_lt _ hd1⟩
  obtain ⟨b, hb⟩ : ∃ b : Nat, (a : Int) + (c : Int) = (b : Int) := ⟨a + c, by omega⟩
  have hb1 : b ≤ 16 := by omega
  obtain ⟨p, ep, hp, hp1, hp2, hp3⟩ := one_shl a ha
  obtain ⟨q, eq, hq, hq1, hq2, hq3⟩ := one_shl b hb1
  have hk := Mx.high_lt (n := a) (Mx.mix_lt x) (by omega)
  have hl := Mx.high_lt (n := b) (Mx.mix_lt x) (by omega)
  rw [← ep] at hk
  rw [← eq] at hl
  have h := Mx.high_high (Mx.mix x) a b (by omega) (by omega)
  rw [show b - a = c by omega] at h
  exact mixFiner_core x f m a d c b p q _ _ w hf hm hA ha hd hd1 (by omega) hc hcd hb hb1 (by omega) hp hp1 hq hq1 (Int.ofNat_lt.2 hk) (Int.ofNat_lt.2 hl) (cast_div_pow h)
    (fun w => prog_bucket x a w hx ha) (fun w => prog_bucket x b w hx hb1)

theorem mixFiner_walk (a0 a1 a2 : Int) (w : World) (h0 : (Lit.int .u64 a0).wf = true) (h1 : (Lit.int .u8 a1).wf = true) (h2 : (Lit.int .u8 a2).wf = true) :
    Calls Try.prog 5 #[.int .u64 a0, .int .u8 a1, .int .u8 a2] w fun e w' => e = .returned (.bool true) ∧ Below w.heap.size w w' := by
  obtain ⟨x, rfl, hx⟩ := nat_of_u64 h0
  obtain ⟨f, rfl, hf⟩ := nat_of_u8 h1
  obtain ⟨m, rfl, hm⟩ := nat_of_u8 h2
  exact mixFiner_nat x f m w hx hf hm

end Go.Proofs.Ytbeampfgghejfaa
