/-
  TreeOrder: two trees of the call's own, each beside the other one; and the rows that they come to.
-/
import Derived.Test.YtfedjeojanpnpabTreeOrderKeys
import Derived.Test.YtfedjeojanpnpabTreeSame
import Derived.Test.YtfedjeojanpnpabTreeRefC
namespace Go.Proofs.Ytfedjeojanpnpab
open Go.RowKit
set_option linter.unusedVariables false
set_option linter.unusedSimpArgs false

/-- The row of the first j entries, rising. -/
def canon (E : Nat → En) : Nat → List En
  | 0 => []
  | j + 1 => insL (E j).key (E j).val (canon E j)
theorem canon_mem (E : Nat → En) : ∀ (j : Nat) (e : En), e ∈ canon E j ↔ ∃ q, q < j ∧ e = E q
  | 0, e => by simp [canon]
  | j + 1, e => by
    rw [canon, insL_mem, canon_mem E j]
    constructor
    · rintro (h | ⟨q, h1, h2⟩)
      · exact ⟨j, Nat.lt_succ_self _, h⟩
      · exact ⟨q, Nat.lt_succ_of_lt h1, h2⟩
    · rintro ⟨q, h1, h2⟩
      by_cases c : q = j
      · subst c; exact .inl h2
      · exact .inr ⟨q, by omega, h2⟩
theorem canon_len (E : Nat → En) : ∀ j, (canon E j).length = j
  | 0 => rfl
  | j + 1 => by rw [canon, insL_length, canon_len E j]
def Apt (E : Nat → En) (n : Nat) : Prop := ∀ p q, p < n → q < n → p ≠ q → (E p).key ≠ (E q).key
theorem canon_new {E : Nat → En} {n j : Nat} (h : Apt E n) (hj : j < n) : ∀ e, e ∈ canon E j → e.key ≠ (E j).key := fun e he => by
  obtain ⟨q, h1, rfl⟩ := (canon_mem E j e).1 he
  exact h q j (by omega) hj (by omega)
theorem canon_rises {E : Nat → En} {n : Nat} (h : Apt E n) : ∀ j, j ≤ n → Rises (canon E j)
  | 0, _ => List.Pairwise.nil
  | j + 1, hj => (canon_rises h j (by omega)).ins (canon_new h (by omega))
/-- One that comes and goes beside leaves the row as it would be. -/
theorem canon_del {E : Nat → En} {n j : Nat} {y : Ky} (h : Apt E n) (hj : j < n) (hy : ∀ q, q < n → (E q).key ≠ y) :
    delL y (insL (E j).key (E j).val (insL y (-1) (canon E j))) = canon E (j + 1) := by
  have hyn : ∀ e, e ∈ canon E j → e.key ≠ y := fun e he => by
    obtain ⟨q, h1, rfl⟩ := (canon_mem E j e).1 he
    exact hy q (by omega)
  have r1 := (canon_rises h j (by omega)).ins (k := y) (v := -1) hyn
  have r2 : Rises (insL (E j).key (E j).val (insL y (-1) (canon E j))) := r1.ins (fun e he => by
    rcases insL_mem.1 he with rfl | he
    · exact fun e => hy j hj e.symm
    · exact canon_new h hj e he)
  refine rises_same r2.del (canon_rises h (j + 1) hj) (fun e => ?_)
  unfold delL
  rw [List.mem_filter, insL_mem, insL_mem, canon, insL_mem]
  constructor
  · rintro ⟨h1 | h1 | h1, h2⟩
    · exact .inl h1
    · subst h1; simp at h2
    · exact .inr h1
  · rintro (h1 | h1)
    · exact ⟨.inl h1, by subst h1; simpa using hy j hj⟩
    · exact ⟨.inr (.inr h1), by simpa using hyn e h1⟩
theorem getL_no {k : Ky} {l : List En} (h : ∀ e, e ∈ l → e.key ≠ k) : getL k l = none := by
  cases hg : getL k l with
  | none => rfl
  | some v => exact absurd rfl (h _ (getL_some hg))

/-- Two trees of the call's own. -/
def TwoT (K : TreeK) (w W : World) (a b : Addr) (l m : List En) : Prop :=
  ∃ N g N' g', OwnT K w W a N g ∧ OwnT K w W b N' g' ∧ g.room = 60 ∧ g'.room = 60 ∧ g.l = l ∧ g'.l = m ∧ ∀ k, N k → ¬ N' k
section
variable {K : TreeK} {w W W' : World} {a b : Addr} {l m : List En}
theorem TwoT.swap (h : TwoT K w W a b l m) : TwoT K w W b a m l := by
  obtain ⟨N, g, N', g', h1, h2, h3, h4, h5, h6, h7⟩ := h
  exact ⟨N', g', N, g, h2, h1, h4, h3, h6, h5, fun k hk hk' => h7 k hk' hk⟩
theorem TwoT.below (h : TwoT K w W a b l m) (b' : Below W.heap.size W W') : TwoT K w W' a b l m := by
  obtain ⟨N, g, N', g', h1, h2, h3⟩ := h
  exact ⟨N, g, N', g', h1.below b', h2.below b', h3⟩
theorem TwoT.lo (h : TwoT K w W a b l m) : Below w.heap.size w W := by
  obtain ⟨N, g, N', g', h1, _⟩ := h
  exact h1.lo
theorem TwoT.step {N N1 N' : Nat → Prop} {g g1 g' : Tg} (h1 : OwnT K w W a N g) (h2 : OwnT K w W b N' g') (h7 : ∀ k, N k → ¬ N' k) (o : OwnT K w W' a N1 g1) (s : SteppedT W W' N N1) : OwnT K w W' b N' g' ∧ ∀ k, N1 k → ¬ N' k :=
  ⟨⟨K.kept h2.at_ (fun k hk => s.turned.block k (K.lt h2.at_ k hk) (fun hn => h7 k hn hk)) s.turned.size, h2.ok, h2.new, o.lo⟩, fun k hk hk' => by
    rcases s.own k hk with h | h
    · exact h7 k h hk'
    · have := K.lt h2.at_ k hk'
      omega⟩
theorem TwoT.put (h : TwoT K w W a b l m) (k : Ky) (v : Int) (hk : k.Fits) (hv : I64 v) (hn : ∀ e, e ∈ l → e.key ≠ k) (hl : l.length < 60) {l' : List En} (hl' : insL k v l = l') : Calls Try.prog 9 #[.pointer (some a), kyV k, .int .i64 v] W fun e W' => e = .returned (.int .i64 0) ∧ Hid (TwoT K w W' a b l' m) := by
  obtain ⟨N, g, N', g', h1, h2, h3, h4, rfl, h6, h7⟩ := h
  have hp := put_none_in (room := g.room) (v := v) (getL_no hn) (by rw [h3]; omega)
  refine (h1.put k v hk hv).mono ?_
  rintro e W' ⟨rfl, N1, g1, e1, e2, o, s⟩
  rw [hp.1]
  rw [hp.2] at e2
  obtain ⟨o2, d2⟩ := TwoT.step h1 h2 h7 o s
  exact ⟨rfl, Lib.hid ⟨N1, g1, N', g', o, o2, e1.trans h3, h4, e2.trans hl', h6, d2⟩⟩
theorem TwoT.drop (h : TwoT K w W a b l m) (k : Ky) (hk : k.Fits) {v : Int} (hg : getL k l = some v) {l' : List En} (hl' : delL k l = l') : Calls Try.prog 10 #[.pointer (some a), kyV k] W fun e W' => e = .returned (.tuple #[.int .i64 v, .bool true]) ∧ Hid (TwoT K w W' a b l' m) := by
  obtain ⟨N, g, N', g', h1, h2, h3, h4, rfl, h6, h7⟩ := h
  refine (h1.drop k hk).mono ?_
  rintro e W' ⟨rfl, N1, g1, e1, e2, o, s⟩
  obtain ⟨o2, d2⟩ := TwoT.step h1 h2 h7 o s
  exact ⟨by rw [hg]; rfl, Lib.hid ⟨N1, g1, N', g', o, o2, e1.trans h3, h4, e2.trans hl', h6, d2⟩⟩
theorem TwoT.all (h : TwoT K w W a b l m) : Calls Try.prog 11 #[.pointer (some a)] W fun e W' => ∃ p c, e = .returned (.slice p l.length c) ∧ W'.ownsRow W.heap.size 52 3 (.slice p l.length c) l.length (l.flatMap enC) ∧ Below W.heap.size W W' := by
  obtain ⟨N, g, N', g', h1, h2, h3, h4, rfl, h6, h7⟩ := h
  refine (K.all h1.at_ h1.ok).mono ?_
  rintro e W' ⟨p, c, rfl, r, b'⟩
  exact ⟨p, c, rfl, r, b'⟩
theorem TwoT.start (K : TreeK) (w : World) : Calls Try.prog 8 #[.int .i64 60] w fun e W => ∃ a, e = .returned (.tuple #[.pointer (some a), .int .i64 0]) ∧ Hid (Calls Try.prog 8 #[.int .i64 60] W fun e W' => ∃ b, e = .returned (.tuple #[.pointer (some b), .int .i64 0]) ∧ Hid (TwoT K w W' a b [] [])) := by
  refine (OwnT.new_ K w 60 (by decide) (by decide) w (Below.refl _ _)).mono ?_
  rintro e W ⟨a, N, rfl, h1, h2, h3⟩
  refine ⟨a, rfl, Lib.hid ?_⟩
  refine (OwnT.new_ K w 60 (by decide) (by decide) W h2).mono ?_
  rintro e W' ⟨b, N', rfl, k1, k2, k3⟩
  exact ⟨b, rfl, Lib.hid ⟨N, _, N', _, h1.below k2, k1, rfl, rfl, rfl, rfl, fun k hk hk' => by
    have := K.lt h1.at_ k hk
    have := k3 k hk'
    omega⟩⟩
end
/-- Two trees, and a box beside them. -/
def TwoB (K : TreeK) (w W : World) (a b : Addr) (l m : List En) (q : Nat) (cs : Array Value) : Prop :=
  ∃ N g N' g', OwnT K w W a N g ∧ OwnT K w W b N' g' ∧ g.room = 60 ∧ g'.room = 60 ∧ g.l = l ∧ g'.l = m ∧ (∀ k, N k → ¬ N' k) ∧ ¬ N q ∧ ¬ N' q ∧ Box W q 27 cs
section
variable {K : TreeK} {w W W' : World} {a b : Addr} {l m : List En} {q : Nat} {cs : Array Value}
theorem TwoT.boxed (h : TwoT K w W a b l m) (b' : Below W.heap.size W W') (hb : Box W' q 27 cs) (hq : W.heap.size ≤ q) : TwoB K w W' a b l m q cs := by
  obtain ⟨N, g, N', g', h1, h2, h3, h4, h5, h6, h7⟩ := h
  exact ⟨N, g, N', g', h1.below b', h2.below b', h3, h4, h5, h6, h7, fun hn => by have := K.lt h1.at_ q hn; omega, fun hn => by have := K.lt h2.at_ q hn; omega, hb⟩
theorem TwoB.two (h : TwoB K w W a b l m q cs) : TwoT K w W a b l m := by
  obtain ⟨N, g, N', g', h1, h2, h3, h4, h5, h6, h7, _⟩ := h
  exact ⟨N, g, N', g', h1, h2, h3, h4, h5, h6, h7⟩
theorem TwoB.box (h : TwoB K w W a b l m q cs) : Box W q 27 cs := by
  obtain ⟨N, g, N', g', h1, h2, h3, h4, h5, h6, h7, _, _, h8⟩ := h
  exact h8
theorem TwoB.below (h : TwoB K w W a b l m q cs) (b' : Below W.heap.size W W') : TwoB K w W' a b l m q cs := by
  obtain ⟨N, g, N', g', h1, h2, h3, h4, h5, h6, h7, h8, h9, h10⟩ := h
  exact ⟨N, g, N', g', h1.below b', h2.below b', h3, h4, h5, h6, h7, h8, h9, h10.below b' h10.lt⟩
theorem TwoB.swap (h : TwoB K w W a b l m q cs) : TwoB K w W b a m l q cs := by
  obtain ⟨N, g, N', g', h1, h2, h3, h4, h5, h6, h7, h8, h9, h10⟩ := h
  exact ⟨N', g', N, g, h2, h1, h4, h3, h6, h5, fun k hk hk' => h7 k hk' hk, h9, h8, h10⟩
theorem TwoB.put (h : TwoB K w W a b l m q cs) (k : Ky) (v : Int) (hk : k.Fits) (hv : I64 v) (hn : ∀ e, e ∈ l → e.key ≠ k) (hl : l.length < 60) : Calls Try.prog 9 #[.pointer (some a), kyV k, .int .i64 v] W fun e W' => e = .returned (.int .i64 0) ∧ Hid (TwoB K w W' a b (insL k v l) m q cs) := by
  obtain ⟨N, g, N', g', h1, h2, h3, h4, rfl, h6, h7, h8, h9, h10⟩ := h
  have hp := put_none_in (room := g.room) (v := v) (getL_no hn) (by rw [h3]; omega)
  refine (h1.put k v hk hv).mono ?_
  rintro e W' ⟨rfl, N1, g1, e1, e2, o, s⟩
  rw [hp.1]
  rw [hp.2] at e2
  obtain ⟨o2, d2⟩ := TwoT.step h1 h2 h7 o s
  exact ⟨rfl, Lib.hid ⟨N1, g1, N', g', o, o2, e1.trans h3, h4, e2, h6, d2, fun hn => by
    rcases s.own q hn with h | h
    · exact h8 h
    · have := h10.lt; omega, h9, h10.turned s.turned h8⟩⟩
end
/-- The keys' entries: in their order, and in the turned one. -/
theorem apt_keys {H : List Ky} {n : Nat} {f : Nat → Ky} {σ τ : Nat → Nat} (hl : H.length = n) (hn : H.Nodup) (h : ∀ j, j < n → σ j < n ∧ τ j < n ∧ τ (σ j) = j ∧ σ (τ j) = j ∧ H[σ j]? = some (f j)) : Apt (fun q => (⟨f q, ((σ q + 1 : Nat) : Int)⟩ : En)) n := fun p q hp hq hne e => by
  have h1 := h p hp
  have h2 := h q hq
  have e' : f p = f q := e
  rw [e'] at h1
  obtain ⟨b1, e1⟩ := List.getElem?_eq_some_iff.1 h1.2.2.2.2
  obtain ⟨b2, e2⟩ := List.getElem?_eq_some_iff.1 h2.2.2.2.2
  have hs : σ p = σ q := by
    rcases Nat.lt_trichotomy (σ p) (σ q) with c | c | c
    · exact absurd (e1.trans e2.symm) (List.pairwise_iff_getElem.1 hn _ _ b1 b2 c)
    · exact c
    · exact absurd (e2.trans e1.symm) (List.pairwise_iff_getElem.1 hn _ _ b2 b1 c)
  apply hne
  rw [← h1.2.2.1, ← h2.2.2.1, hs]
theorem canon_same {H : List Ky} {n : Nat} {f f0 : Nat → Ky} {σ τ : Nat → Nat} (hl : H.length = n) (hn : H.Nodup) (h0 : ∀ j, j < n → H[j]? = some (f0 j)) (h : ∀ j, j < n → σ j < n ∧ τ j < n ∧ τ (σ j) = j ∧ σ (τ j) = j ∧ H[σ j]? = some (f j)) :
    canon (fun q => (⟨f0 q, ((q + 1 : Nat) : Int)⟩ : En)) n = canon (fun q => (⟨f q, ((σ q + 1 : Nat) : Int)⟩ : En)) n := by
  have a0 : Apt (fun q => (⟨f0 q, ((q + 1 : Nat) : Int)⟩ : En)) n := apt_keys (σ := id) (τ := id) hl hn (fun j hj => ⟨hj, hj, rfl, rfl, h0 j hj⟩)
  refine rises_same (canon_rises a0 n (Nat.le_refl _)) (canon_rises (apt_keys hl hn h) n (Nat.le_refl _)) (fun e => ?_)
  rw [canon_mem, canon_mem]
  constructor
  · rintro ⟨q, hq, rfl⟩
    have h1 := h q hq
    have h2 := h (τ q) h1.2.1
    refine ⟨τ q, h1.2.1, ?_⟩
    have e1 := h2.2.2.2.2
    rw [h1.2.2.2.1, h0 q hq] at e1
    simp only [Option.some.inj e1, h1.2.2.2.1]
  · rintro ⟨q, hq, rfl⟩
    have h1 := h q hq
    refine ⟨σ q, h1.1, ?_⟩
    have e1 := h1.2.2.2.2
    rw [h0 _ h1.1] at e1
    simp only [Option.some.inj e1]

end Go.Proofs.Ytfedjeojanpnpab
