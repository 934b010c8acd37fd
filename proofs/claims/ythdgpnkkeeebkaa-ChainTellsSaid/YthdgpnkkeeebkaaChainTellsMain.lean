/-
  ChainTells' walk, over whatever the program's chains are (ChainK): what is played.
-/
import Derived.Test.YthdgpnkkeeebkaaChainTellsPlayed
namespace Go.Proofs.Ythdgpnkkeeebkaa
open Go.RowKit
set_option linter.unusedVariables false

set_option maxHeartbeats 8000000 in
set_option maxRecDepth 100000 in
theorem chainTells_far (K : ChainK) (HA : Hid Awake) (lists nodes : Nat) (l1 : 1 ≤ lists) (l2 : lists ≤ 64) (n1 : 1 ≤ nodes) (n2 : nodes ≤ 65536) (A : Option Addr) (len cap : Nat) (hcap : len ≤ cap ∧ cap ≤ 9223372036854775807) (hfar : 64 < nodes ∨ 60 < len) (w : World) :
    Calls Try.prog 3 #[.int .i64 (lists : Int), .int .i64 (nodes : Int), .slice A len cap] w fun e w' => e = .returned (.bool true) ∧ Below w.heap.size w w' := by
  have R1 := Lib.hid (OwnC.new_ K w lists nodes l1 l2 n1 n2)
  have c1 : (lists : Int) ≤ 65 := by omega
  have c2 : (nodes : Int) ≤ 65537 := by omega
  have R2 := Lib.hid (fun W => ref_new lists nodes W l1 l2 n1 n2 (fun _ => False))
  have HF : Hid ((64 : Int) < (nodes : Int) ∨ (¬ (64 : Int) < (nodes : Int) ∧ (60 : Int) < (len : Int))) := Lib.hid (by omega)
  obtain ⟨hc1, hc2⟩ := hcap
  clear hfar l1 l2 n1
  go_enter Try.func3, Try.ntmps3
  go_wp2_with fail
  refine R1.out.mono ?_
  rintro e w1 ⟨a, N, rfl, O1⟩
  have HO1 := Lib.hid O1
  clear O1 R1
  go_wp2_with fail
  refine (R2.out _).mono ?_
  rintro e w2 ⟨s', M', vs', rfl, R, hM, b2⟩
  obtain ⟨P', C', rfl, HT⟩ := Tl.start (nodes := nodes) HO1.out b2 R (fun k hk => (hM k hk).elim False.elim id) (by simp [Ch.new] : (Ch.new lists nodes).ls.length = lists) rfl
  have hv : refV (Ch.new lists nodes) (.slice P' lists C') = .agg #[.int .i64 (nodes : Int), .slice P' lists C'] := rfl
  rw [hv]
  have B2 := Lib.hid (below_tr (below_tr HO1.out.lo b2) ((Below.refl _ w2).alloc (Nat.le_refl _) (.cells #[.int .i64 (nodes : Int), .slice P' lists C'] 29)))
  clear b2 R2 R hM HT hv HO1
  rcases HF.out with h | ⟨h, h'⟩
  · clear HF
    go_wp2_with fail
    refine (HA.out _).mono ?_
    rintro e w3 ⟨rfl, b3⟩
    go_wp2_with fail
    go_ret
    exact ⟨rfl, below_tr B2.out b3⟩
  · clear HF
    go_wp2_with fail
    refine (HA.out _).mono ?_
    rintro e w3 ⟨rfl, b3⟩
    go_wp2_with fail
    go_ret
    exact ⟨rfl, below_tr B2.out b3⟩

end Go.Proofs.Ythdgpnkkeeebkaa
