/-
  What a law of layer 5 asks of the program's own chains: chains in lists (Ch), in blocks of their own (N).
-/
import Derived.Test.YthdgpnkkeeebkaaMem
import Derived.Test.YthdgpnkkeeebkaaChainGhost
namespace Go.Proofs.Ythdgpnkkeeebkaa
open Go.RowKit
set_option linter.unusedVariables false

def I64 (n : Int) : Prop := -9223372036854775808 ≤ n ∧ n ≤ 9223372036854775807
theorem i64_nat {n : Nat} (h : n ≤ 65536) : I64 (n : Int) := ⟨by omega, by omega⟩
theorem i64_wf {n : Int} (h : (Lit.int .i64 n).wf = true) : I64 n := by
  simp [Lit.wf, IntKind.min, IntKind.max, IntKind.signed, IntKind.bits] at h
  exact ⟨by omega, by omega⟩
/-- A number, if there is one, and whether there is. -/
def outV (o : Option Nat) : Value := .tuple #[.int .i64 ((o.getD 0 : Nat) : Int), .bool o.isSome]

def NewC (At : (Nat → Prop) → World → Addr → Ch → Prop) (w : World) (lists nodes : Nat) (e : Ending) (w' : World) : Prop :=
  ∃ a N, e = .returned (.tuple #[.pointer (some a), .int .i64 0]) ∧ At N w' a (Ch.new lists nodes) ∧ (∀ k, N k → w.heap.size ≤ k) ∧ Below w.heap.size w w'
def PushC (At : (Nat → Prop) → World → Addr → Ch → Prop) (N : Nat → Prop) (w : World) (a : Addr) (g : Ch) (x : Nat) (e : Ending) (w' : World) : Prop := e = .returned (.int .i64 (x : Int)) ∧ WentG At N w a g w'
def PopC (At : (Nat → Prop) → World → Addr → Ch → Prop) (N : Nat → Prop) (w : World) (a : Addr) (g : Ch) (o : Option Nat) (e : Ending) (w' : World) : Prop := e = .returned (outV o) ∧ WentG At N w a g w'
def DropC (At : (Nat → Prop) → World → Addr → Ch → Prop) (N : Nat → Prop) (w : World) (a : Addr) (g : Ch) (b : Bool) (e : Ending) (w' : World) : Prop := e = .returned (.bool b) ∧ WentG At N w a g w'
/-- What is handed out is in memory of its own. -/
def ListC (w : World) (l : List Nat) (e : Ending) (w' : World) : Prop :=
  ∃ p c, e = .returned (.slice p l.length c) ∧ w'.ownsRow w.heap.size 3 1 (.slice p l.length c) l.length (l.map natV) ∧ Below w.heap.size w w'

structure ChainK where
  At : (Nat → Prop) → World → Addr → Ch → Prop
  lt : ∀ {N w a g}, At N w a g → ∀ k, N k → k < w.heap.size
  kept : ∀ {N w w' a g}, At N w a g → (∀ k, N k → w'.heap[k]? = w.heap[k]?) → w.heap.size ≤ w'.heap.size → At N w' a g
  new : ∀ (lists nodes : Nat) (w : World), 1 ≤ lists → lists ≤ 64 → 1 ≤ nodes → nodes ≤ 65536 → Calls Try.prog 9 #[.int .i64 (lists : Int), .int .i64 (nodes : Int)] w (NewC At w lists nodes)
  new_no : ∀ (lists nodes : Int) (w : World), (lists < 1 ∨ 64 < lists ∨ nodes < 1 ∨ 65536 < nodes) → Calls Try.prog 9 #[.int .i64 lists, .int .i64 nodes] w fun e w' => e = .returned (.tuple #[.pointer none, .int .i64 2]) ∧ Below w.heap.size w w'
  push : ∀ {N w a g} (i n : Int), At N w a g → g.Ok → I64 i → I64 n → Calls Try.prog 12 #[.pointer (some a), .int .i64 i, .int .i64 n] w (PushC At N w a (g.push i n) (g.pushE i n))
  pop : ∀ {N w a g} (i : Int), At N w a g → g.Ok → I64 i → Calls Try.prog 14 #[.pointer (some a), .int .i64 i] w (PopC At N w a (g.pop i) (g.list i).head?)
  drop : ∀ {N w a g} (n : Int), At N w a g → g.Ok → I64 n → Calls Try.prog 16 #[.pointer (some a), .int .i64 n] w (DropC At N w a (g.drop n) (g.inn n).isSome)
  first : ∀ {N w a g} (i : Int), At N w a g → g.Ok → I64 i → Calls Try.prog 20 #[.pointer (some a), .int .i64 i] w fun e w' => e = .returned (outV (g.list i).head?) ∧ Below w.heap.size w w'
  inn : ∀ {N w a g} (n : Int), At N w a g → g.Ok → I64 n → Calls Try.prog 23 #[.pointer (some a), .int .i64 n] w fun e w' => e = .returned (outV (g.inn n)) ∧ Below w.heap.size w w'
  len : ∀ {N w a g} (i : Int), At N w a g → g.Ok → I64 i → Calls Try.prog 22 #[.pointer (some a), .int .i64 i] w fun e w' => e = .returned (.int .i64 ((g.list i).length : Nat)) ∧ Below w.heap.size w w'
  list : ∀ {N w a g} (i : Int), At N w a g → g.Ok → I64 i → Calls Try.prog 18 #[.pointer (some a), .int .i64 i] w (ListC w (g.list i))

theorem ChainK.below (K : ChainK) {N w w' a g} (h : K.At N w a g) (b : Below w.heap.size w w') : K.At N w' a g :=
  K.kept h (fun k hk => b.block k (K.lt h k hk)) b.size

/-- Chains of the call's own, behind some of their calls. -/
structure OwnC (K : ChainK) (w W : World) (a : Addr) (N : Nat → Prop) (g : Ch) : Prop where
  at_ : K.At N W a g
  ok : g.Ok
  new : ∀ k, N k → w.heap.size ≤ k
  lo : Below w.heap.size w W
/-- A row of the call's own, none of the chains'. -/
structure Mine (w W : World) (N : Nat → Prop) (t : TypeId) (v : Value) (m : Nat) (xs : List Value) : Prop where
  row : W.ownsRow w.heap.size t 1 v m xs
  off : OffV N v
/-- What a step of the chains leaves of all else. -/
structure Stepped (W W' : World) (N N' : Nat → Prop) : Prop where
  turned : Turned N W W'
  own : ∀ k, N' k → N k ∨ W.heap.size ≤ k
section
variable {K : ChainK} {w W W' : World} {a : Addr} {N N' : Nat → Prop} {g g' : Ch}
theorem OwnC.below (h : OwnC K w W a N g) (b : Below W.heap.size W W') : OwnC K w W' a N g :=
  ⟨K.below h.at_ b, h.ok, h.new, below_tr h.lo b⟩
theorem OwnC.went (h : OwnC K w W a N g) (ok : g'.Ok) (t : WentG K.At N W a g' W') : ∃ N', OwnC K w W' a N' g' ∧ Stepped W W' N N' := by
  obtain ⟨N', h1, h2, h3⟩ := t
  refine ⟨N', ⟨h1, ok, fun k hk => ?_, below_turned h2 h.lo.size h.new h.lo⟩, ⟨h2, h3⟩⟩
  rcases h3 k hk with h4 | h4
  · exact h.new k h4
  · exact Nat.le_trans h.lo.size h4
theorem Mine.below {t : TypeId} {v : Value} {m : Nat} {xs : List Value} (h : Mine w W N t v m xs) (b : Below W.heap.size W W') : Mine w W' N t v m xs := ⟨owns_below h.row b, h.off⟩
theorem Mine.step {t : TypeId} {v : Value} {m : Nat} {xs : List Value} (h : Mine w W N t v m xs) (s : Stepped W W' N N') : Mine w W' N' t v m xs :=
  ⟨own_turnedV h.row h.off s.turned, h.off.went h.row s.own⟩
theorem Stepped.below (b : Below W.heap.size W W') : Stepped W W' N N := ⟨Turned.below b, fun _ hk => .inl hk⟩
theorem OwnC.new_ (K : ChainK) (w : World) (lists nodes : Nat) (h1 : 1 ≤ lists) (h2 : lists ≤ 64) (h3 : 1 ≤ nodes) (h4 : nodes ≤ 65536) : Calls Try.prog 9 #[.int .i64 (lists : Int), .int .i64 (nodes : Int)] w fun e W' => ∃ a N, e = .returned (.tuple #[.pointer (some a), .int .i64 0]) ∧ OwnC K w W' a N (Ch.new lists nodes) := by
  refine (K.new lists nodes w h1 h2 h3 h4).mono ?_
  rintro e W' ⟨a, N, rfl, h5, h6, h7⟩
  exact ⟨a, N, rfl, h5, Ch.new_ok h1 h2 h3 h4, h6, h7⟩
theorem OwnC.push (h : OwnC K w W a N g) (i n : Int) (hi : I64 i) (hn : I64 n) : Calls Try.prog 12 #[.pointer (some a), .int .i64 i, .int .i64 n] W fun e W' => e = .returned (.int .i64 (g.pushE i n : Nat)) ∧ ∃ N', OwnC K w W' a N' (g.push i n) ∧ Stepped W W' N N' := by
  refine (K.push i n h.at_ h.ok hi hn).mono ?_
  rintro e W' ⟨rfl, t⟩
  exact ⟨rfl, h.went (h.ok.push i n) t⟩
theorem OwnC.pop (h : OwnC K w W a N g) (i : Int) (hi : I64 i) : Calls Try.prog 14 #[.pointer (some a), .int .i64 i] W fun e W' => e = .returned (outV (g.list i).head?) ∧ ∃ N', OwnC K w W' a N' (g.pop i) ∧ Stepped W W' N N' := by
  refine (K.pop i h.at_ h.ok hi).mono ?_
  rintro e W' ⟨rfl, t⟩
  exact ⟨rfl, h.went (h.ok.pop i) t⟩
theorem OwnC.drop (h : OwnC K w W a N g) (n : Int) (hn : I64 n) : Calls Try.prog 16 #[.pointer (some a), .int .i64 n] W fun e W' => e = .returned (.bool (g.inn n).isSome) ∧ ∃ N', OwnC K w W' a N' (g.drop n) ∧ Stepped W W' N N' := by
  refine (K.drop n h.at_ h.ok hn).mono ?_
  rintro e W' ⟨rfl, t⟩
  exact ⟨rfl, h.went (h.ok.drop n) t⟩
theorem OwnC.first (h : OwnC K w W a N g) (i : Int) (hi : I64 i) : Calls Try.prog 20 #[.pointer (some a), .int .i64 i] W fun e W' => e = .returned (outV (g.list i).head?) ∧ OwnC K w W' a N g ∧ Below W.heap.size W W' := by
  refine (K.first i h.at_ h.ok hi).mono ?_
  rintro e W' ⟨rfl, b⟩
  exact ⟨rfl, h.below b, b⟩
theorem OwnC.inn (h : OwnC K w W a N g) (n : Int) (hn : I64 n) : Calls Try.prog 23 #[.pointer (some a), .int .i64 n] W fun e W' => e = .returned (outV (g.inn n)) ∧ OwnC K w W' a N g ∧ Below W.heap.size W W' := by
  refine (K.inn n h.at_ h.ok hn).mono ?_
  rintro e W' ⟨rfl, b⟩
  exact ⟨rfl, h.below b, b⟩
theorem OwnC.len (h : OwnC K w W a N g) (i : Int) (hi : I64 i) : Calls Try.prog 22 #[.pointer (some a), .int .i64 i] W fun e W' => e = .returned (.int .i64 ((g.list i).length : Nat)) ∧ OwnC K w W' a N g ∧ Below W.heap.size W W' := by
  refine (K.len i h.at_ h.ok hi).mono ?_
  rintro e W' ⟨rfl, b⟩
  exact ⟨rfl, h.below b, b⟩
theorem OwnC.list (h : OwnC K w W a N g) (i : Int) (hi : I64 i) : Calls Try.prog 18 #[.pointer (some a), .int .i64 i] W fun e W' => ∃ p c, e = .returned (.slice p (g.list i).length c) ∧ Mine w W' N 3 (.slice p (g.list i).length c) (g.list i).length ((g.list i).map natV) ∧ OwnC K w W' a N g ∧ Below W.heap.size W W' := by
  refine (K.list i h.at_ h.ok hi).mono ?_
  rintro e W' ⟨p, c, rfl, o, b⟩
  exact ⟨p, c, rfl, ⟨own_low o h.lo.size, OffV.fresh (fun k hk => K.lt h.at_ k hk) o⟩, h.below b, b⟩
end

/-- Ints: two rows of numbers are the same. -/
theorem law_ints (p q : Option Addr) (c d b1 b2 : Nat) (l m : List Nat) (w : World) (hl : l.length ≤ 65536) (hm : m.length ≤ 65536) (h1 : w.ownsRow b1 3 1 (.slice p l.length c) l.length (l.map natV)) (h2 : w.ownsRow b2 3 1 (.slice q m.length d) m.length (m.map natV)) :
    Calls Try.prog 21 #[.slice p l.length c, .slice q m.length d] w fun e w' => e = .returned (.bool (decide (l = m))) ∧ Below w.heap.size w w' := by
  by_cases hlen : l.length = m.length
  · have HL := Lib.hid hlen
    have hz : ((l.length : Int) != (m.length : Int)) = false := by simp [hlen]
    have HC1 : Hid (∀ (j : Nat) (h : j < l.length), ∃ gb, p = some ⟨gb, 0, none⟩ ∧ ∀ W, Below w.heap.size w W → W.cell? ⟨gb, j, none⟩ = some (.int .i64 (l[j] : Int))) := by
      intro j h
      obtain ⟨_, hq⟩ := owns_nat h1
      rcases hq with ⟨_, e⟩ | ⟨gb, rfl, hg, hc⟩
      · rw [e] at h; simp at h
      · exact ⟨gb, rfl, fun W b => (b.cell (p := ⟨gb, j, none⟩) hg).trans (hc j h)⟩
    have HC2 : Hid (∀ (j : Nat) (h : j < m.length), ∃ gb, q = some ⟨gb, 0, none⟩ ∧ ∀ W, Below w.heap.size w W → W.cell? ⟨gb, j, none⟩ = some (.int .i64 (m[j] : Int))) := by
      intro j h
      obtain ⟨_, hq⟩ := owns_nat h2
      rcases hq with ⟨_, e⟩ | ⟨gb, rfl, hg, hc⟩
      · rw [e] at h; simp at h
      · exact ⟨gb, rfl, fun W b => (b.cell (p := ⟨gb, j, none⟩) hg).trans (hc j h)⟩
    clear h1 h2 hlen
    go_enter Try.func21, Try.ntmps21
    go_wp2_with fail
    go_loopg [13] l.length (fun k i wx => ∃ (j : Nat), l.length - j = k ∧ j ≤ l.length ∧ i = .int .i64 (j : Int) ∧ Hid (l.take j = m.take j) ∧ Hid (Below w.heap.size w wx))
    case atStart => exact ⟨0, rfl, by omega, rfl, rfl, Below.refl _ _⟩
    case round =>
      obtain ⟨j, rfl, hj, rfl, HT, HB⟩ := hrel
      by_cases h0 : j = l.length
      · have h0z : ¬ (j : Int) < (l.length : Int) := by omega
        have HE : Hid (decide (l = m) = true) := by
          have h := HT.out
          rw [h0, List.take_length, HL.out, List.take_length] at h
          exact decide_eq_true h
        clear h0
        go_wp2_with fail
        go_ret
        exact ⟨by rw [HE.out]; rfl, HB.out⟩
      · have hjl : j < l.length := by omega
        have hjm : j < m.length := by have := HL.out; omega
        have hjz : (j : Int) < (l.length : Int) := by omega
        have hjz2 : (j : Int) < (m.length : Int) := by omega
        obtain ⟨g1, rfl, k1⟩ := HC1.out j hjl
        obtain ⟨g2, rfl, k2⟩ := HC2.out j hjm
        have c1 := k1 wr HB.out
        have c2 := k2 wr HB.out
        clear k1 k2 h0
        by_cases he : l[j] = m[j]
        · have HT2 : Hid (l.take (j + 1) = m.take (j + 1)) := by
            show _ = _
            rw [List.take_succ_eq_append_getElem hjl, List.take_succ_eq_append_getElem hjm, HT.out, he]
          rw [← he] at c2
          have hx : ((l[j] : Int) != (l[j] : Int)) = false := by simp
          clear he
          generalize l[j] = x at *
          go_upto_region 6 with fail
          go_quiet (fail)
          go_wp2_with fail
          go_roundg (l.length - (j + 1))
          case measure => omega
          case rel => exact ⟨j + 1, rfl, by omega, by go_num, HT2, below_drewN HB.out _⟩
        · have hx : ((l[j] : Int) != (m[j] : Int)) = true := by rw [bne_iff_ne]; omega
          have HE : Hid (decide (l = m) = false) := by
            show _ = _
            rw [decide_eq_false_iff_not]
            intro e
            subst e
            exact he rfl
          clear he
          generalize l[j] = x at *
          generalize m[j] = y at *
          go_upto_region 6 with fail
          go_quiet (fail)
          go_wp2_with fail
          go_ret
          exact ⟨by rw [HE.out]; rfl, below_drewN HB.out _⟩
  · have hz : ((l.length : Int) != (m.length : Int)) = true := by rw [bne_iff_ne]; omega
    have hd : decide (l = m) = false := by rw [decide_eq_false_iff_not]; exact fun e => hlen (by rw [e])
    rw [hd]
    clear h1 h2 hlen hd
    go_enter Try.func21, Try.ntmps21
    go_wp2_with fail
    go_ret
    exact ⟨rfl, Below.refl _ _⟩

end Go.Proofs.Ythdgpnkkeeebkaa
