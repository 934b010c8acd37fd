/-
  The program's own tree (package tree): how it lies in memory, and what the small calls answer.
-/
import Derived.Test.YtkiibobpejoaeaaTreePure
import Derived.StillTailTactics
import Derived.LaidEqlPtr
namespace Go.Proofs.Ytkiibobpejoaeaa
open Go.RowKit
set_option linter.unusedVariables false
set_option maxRecDepth 100000

def Gr.setDn (G : Gr) (u s p : Nat) : Gr := { G with dn := fun q t => if q = u ∧ t = s then p else G.dn q t }
def Gr.setUp (G : Gr) (p u : Nat) : Gr := { G with up := fun q => if q = p then u else G.up q }
theorem Gr.hang_eq (G : Gr) (u s p : Nat) : (G.setDn u s p).setUp p u = G.hang u s p := rfl
/-- A node's cells. -/
def ndC (G : Gr) (p : Nat) : List Value := [.int .u64 ((G.key p).at_ : Int), .int .u64 ((G.key p).seq : Int), .int .i64 (G.val p), .bool (G.red p), .int .i64 (G.up p : Int), .int .i64 (G.dn p 0 : Int), .int .i64 (G.dn p 1 : Int)]
/-- n places lie in block B, which has room for c. -/
def RowG (w : World) (B c n : Nat) (G : Gr) : Prop := ∃ cs : Array Value, Box w B 143 cs ∧ cs.size = c * 7 ∧ ∀ p, p < n → ∀ j, j < 7 → cs[p * 7 + j]? = (ndC G p)[j]?
section
variable {w w' : World} {B c n : Nat} {G : Gr}
theorem RowG.lt (h : RowG w B c n G) : B < w.heap.size := by
  obtain ⟨cs, h1, _⟩ := h
  exact h1.lt
theorem RowG.cell (h : RowG w B c n G) {p j : Nat} (hp : p < n) (hj : j < 7) : w.cell? ⟨B, p * 7 + j, none⟩ = (ndC G p)[j]? := by
  obtain ⟨cs, h1, h2, h3⟩ := h
  rw [h1.cell]
  exact h3 p hp j hj
theorem RowG.frozen (h : RowG w B c n G) (i : Nat) : w.frozen? ⟨B, i, none⟩ = false := by
  obtain ⟨cs, h1, _⟩ := h
  exact h1.frozen i
theorem RowG.same (h : RowG w B c n G) (e : w'.heap[B]? = w.heap[B]?) : RowG w' B c n G := by
  obtain ⟨cs, h1, h2⟩ := h
  exact ⟨cs, e.trans h1, h2⟩
theorem RowG.other {b i : Nat} (h : RowG w B c n G) (hne : B ≠ b) (u : Value) : RowG (w.setCell ⟨b, i, none⟩ u) B c n G := by
  obtain ⟨cs, h1, h2⟩ := h
  exact ⟨cs, h1.other hne u, h2⟩
theorem RowG.less {m : Nat} (h : RowG w B c n G) (hm : m ≤ n) : RowG w B c m G := by
  obtain ⟨cs, h1, h2, h3⟩ := h
  exact ⟨cs, h1, h2, fun p hp => h3 p (by omega)⟩
theorem RowG.set (h : RowG w B c n G) {G' : Gr} {p j : Nat} {v : Value} (hnc : n ≤ c) (hp : p < n) (hj : j < 7) (h1 : (ndC G' p)[j]? = some v) (h2 : ∀ i, i < 7 → i ≠ j → (ndC G' p)[i]? = (ndC G p)[i]?) (h3 : ∀ q, q ≠ p → ndC G' q = ndC G q) : RowG (w.setCell ⟨B, p * 7 + j, none⟩ v) B c n G' := by
  obtain ⟨cs, k1, k2, k3⟩ := h
  refine ⟨_, k1.set _ v, by simp [k2], fun q hq i hi => ?_⟩
  by_cases c1 : q * 7 + i = p * 7 + j
  · obtain rfl : q = p := by omega
    obtain rfl : i = j := by omega
    rw [Array.getElem?_setIfInBounds_self_of_lt (by rw [k2]; omega), h1]
  · rw [Array.getElem?_setIfInBounds_ne (fun e => c1 e.symm), k3 q hq i hi]
    by_cases c2 : q = p
    · subst c2
      exact (h2 i hi (by omega)).symm
    · rw [h3 q c2]
theorem RowG.setUp (h : RowG w B c n G) (hnc : n ≤ c) {p : Nat} (hp : p < n) (u : Nat) : RowG (w.setCell ⟨B, p * 7 + 4, none⟩ (.int .i64 (u : Int))) B c n (G.setUp p u) := by
  refine h.set hnc hp (by omega) ?_ ?_ ?_
  · simp [ndC, Gr.setUp]
  · intro i hi hj
    rcases (by omega : i = 0 ∨ i = 1 ∨ i = 2 ∨ i = 3 ∨ i = 5 ∨ i = 6) with rfl | rfl | rfl | rfl | rfl | rfl <;> rfl
  · intro q hq
    simp [ndC, Gr.setUp, hq]
theorem RowG.setDn (h : RowG w B c n G) (hnc : n ≤ c) {p s : Nat} (hp : p < n) (hs : s < 2) (u : Nat) : RowG (w.setCell ⟨B, p * 7 + 5 + s, none⟩ (.int .i64 (u : Int))) B c n (G.setDn p s u) := by
  rw [Nat.add_assoc]
  refine h.set hnc hp (by omega) ?_ ?_ ?_
  · rcases (by omega : s = 0 ∨ s = 1) with rfl | rfl
    · simp [ndC, Gr.setDn]
    · simp [ndC, Gr.setDn]
  · intro i hi hj
    rcases (by omega : s = 0 ∨ s = 1) with rfl | rfl
    · rcases (by omega : i = 0 ∨ i = 1 ∨ i = 2 ∨ i = 3 ∨ i = 4 ∨ i = 6) with rfl | rfl | rfl | rfl | rfl | rfl <;> simp [ndC, Gr.setDn]
    · rcases (by omega : i = 0 ∨ i = 1 ∨ i = 2 ∨ i = 3 ∨ i = 4 ∨ i = 5) with rfl | rfl | rfl | rfl | rfl | rfl <;> simp [ndC, Gr.setDn]
  · intro q hq
    simp [ndC, Gr.setDn, hq]
theorem RowG.setRed (h : RowG w B c n G) (hnc : n ≤ c) {p : Nat} (hp : p < n) (u : Bool) : RowG (w.setCell ⟨B, p * 7 + 3, none⟩ (.bool u)) B c n (G.setRed p u) := by
  refine h.set hnc hp (by omega) ?_ ?_ ?_
  · simp [ndC, Gr.setRed]
  · intro i hi hj
    rcases (by omega : i = 0 ∨ i = 1 ∨ i = 2 ∨ i = 4 ∨ i = 5 ∨ i = 6) with rfl | rfl | rfl | rfl | rfl | rfl <;> rfl
  · intro q hq
    simp [ndC, Gr.setRed, hq]
end

/-- Links stay among n places. -/
structure Within (n : Nat) (G : Gr) : Prop where
  up : ∀ p, p ≠ 0 → p < n → G.up p < n
  dn : ∀ p s, p < n → s < 2 → G.dn p s < n
theorem Within.hang {n : Nat} {G : Gr} (h : Within n G) {u s p : Nat} (hu : u < n) (hp : p < n) : Within n (G.hang u s p) := by
  refine ⟨fun q h0 hq => ?_, fun q t hq ht => ?_⟩
  · show (if q = p then u else G.up q) < n
    split
    · exact hu
    · exact h.up q h0 hq
  · show (if q = u ∧ t = s then p else G.dn q t) < n
    split
    · exact hp
    · exact h.dn q t hq ht
/-- A tree of n places (no node's place among them) lies in two blocks. -/
structure RawT (w : World) (b B c room n : Nat) (G : Gr) : Prop where
  box : Box w b 138 #[.pointer (some ⟨b, 0, none⟩), .int .i64 (room : Int), .slice (some ⟨B, 0, none⟩) n c]
  row : RowG w B c n G
  inn : Within n G
  n1 : 1 ≤ n
  n2 : n ≤ 65537
  nc : n ≤ c
  c2 : c ≤ maxLen
  rm : room ≤ 65536
def Own2 (b B : Nat) (k : Nat) : Prop := k = b ∨ k = B
section
variable {w w' : World} {b B c room n : Nat} {G : Gr}
theorem RawT.ne (h : RawT w b B c room n G) : B ≠ b := by
  obtain ⟨cs, h1, _⟩ := h.row
  exact h1.ne h.box (by decide)
theorem RawT.cells (h : RawT w b B c room n G) : w.cell? ⟨b, 0, none⟩ = some (.pointer (some ⟨b, 0, none⟩)) ∧ w.cell? ⟨b, 1, none⟩ = some (.int .i64 (room : Int)) ∧ w.cell? ⟨b, 2, none⟩ = some (.slice (some ⟨B, 0, none⟩) n c) :=
  ⟨h.box.cell 0, h.box.cell 1, h.box.cell 2⟩
theorem RawT.same (h : RawT w b B c room n G) (e : ∀ k, Own2 b B k → w'.heap[k]? = w.heap[k]?) : RawT w' b B c room n G :=
  ⟨(e b (.inl rfl)).trans h.box, h.row.same (e B (.inr rfl)), h.inn, h.n1, h.n2, h.nc, h.c2, h.rm⟩
theorem RawT.lt (h : RawT w b B c room n G) : ∀ k, Own2 b B k → k < w.heap.size := by
  rintro k (rfl | rfl)
  · exact h.box.lt
  · exact h.row.lt
theorem RawT.below (h : RawT w b B c room n G) (bl : Below w.heap.size w w') : RawT w' b B c room n G := h.same fun k hk => bl.block k (h.lt k hk)
theorem RawT.drewN (h : RawT w b B c room n G) (k : Nat) : RawT (w.drewN k) b B c room n G := h.same fun i hi => (below_drewN (Below.refl w.heap.size w) k).block i (h.lt i hi)
theorem RawT.drew (h : RawT w b B c room n G) : RawT w.drew b B c room n G := h.same fun _ _ => rfl
theorem RawT.c_key (h : RawT w b B c room n G) {p : Nat} (hp : p < n) : w.cell? ⟨B, p * 7, none⟩ = some (.int .u64 ((G.key p).at_ : Int)) ∧ w.cell? ⟨B, p * 7 + 1, none⟩ = some (.int .u64 ((G.key p).seq : Int)) :=
  ⟨h.row.cell (j := 0) hp (by omega), h.row.cell (j := 1) hp (by omega)⟩
theorem RawT.c_val (h : RawT w b B c room n G) {p : Nat} (hp : p < n) : w.cell? ⟨B, p * 7 + 2, none⟩ = some (.int .i64 (G.val p)) := h.row.cell (j := 2) hp (by omega)
theorem RawT.c_red (h : RawT w b B c room n G) {p : Nat} (hp : p < n) : w.cell? ⟨B, p * 7 + 3, none⟩ = some (.bool (G.red p)) := h.row.cell (j := 3) hp (by omega)
theorem RawT.c_up (h : RawT w b B c room n G) {p : Nat} (hp : p < n) : w.cell? ⟨B, p * 7 + 4, none⟩ = some (.int .i64 (G.up p : Int)) := h.row.cell (j := 4) hp (by omega)
theorem RawT.c_dn (h : RawT w b B c room n G) {p s : Nat} (hp : p < n) (hs : s < 2) : w.cell? ⟨B, p * 7 + 5 + s, none⟩ = some (.int .i64 (G.dn p s : Int)) := by
  rw [Nat.add_assoc]
  rw [h.row.cell hp (by omega)]
  rcases (by omega : s = 0 ∨ s = 1) with rfl | rfl <;> rfl
theorem RawT.c_dn0 (h : RawT w b B c room n G) {p : Nat} (hp : p < n) : w.cell? ⟨B, p * 7 + 5, none⟩ = some (.int .i64 (G.dn p 0 : Int)) := h.c_dn (s := 0) hp (by omega)
theorem RawT.c_dn1 (h : RawT w b B c room n G) {p : Nat} (hp : p < n) : w.cell? ⟨B, p * 7 + 6, none⟩ = some (.int .i64 (G.dn p 1 : Int)) := h.c_dn (s := 1) hp (by omega)
theorem RawT.hang (h : RawT w b B c room n G) {u s p : Nat} (hu : u < n) (hs : s < 2) (hp : p < n) : RawT ((w.setCell ⟨B, u * 7 + 5 + s, none⟩ (.int .i64 (p : Int))).setCell ⟨B, p * 7 + 4, none⟩ (.int .i64 (u : Int))) b B c room n (G.hang u s p) :=
  ⟨(h.box.other (Ne.symm h.ne) _).other (Ne.symm h.ne) _, (h.row.setDn h.nc hu hs p).setUp h.nc hp u, h.inn.hang hu hp, h.n1, h.n2, h.nc, h.c2, h.rm⟩
theorem RawT.setRed (h : RawT w b B c room n G) {p : Nat} (hp : p < n) (u : Bool) : RawT (w.setCell ⟨B, p * 7 + 3, none⟩ (.bool u)) b B c room n (G.setRed p u) :=
  ⟨h.box.other (Ne.symm h.ne) _, h.row.setRed h.nc hp u, ⟨h.inn.up, h.inn.dn⟩, h.n1, h.n2, h.nc, h.c2, h.rm⟩

theorem raw_made (h : RawT w b B c room n G) :
    Calls Try.prog 70 #[.pointer (some ⟨b, 0, none⟩)] w fun e w' => e = .returned (.bool true) ∧ w' = w := by
  obtain ⟨c0, c1, c2⟩ := h.cells
  clear h
  obtain ⟨inf, hi1, _⟩ := info_parts (P := Try.prog) (e := 138) (z := .agg #[.pointer none, .int .i64 0, .slice none 0 0]) (size := 3) (bytes := 40) (by kernel_rfl)
  have hq := fun w : World => run_eql_ptr_same (P := Try.prog) (w := w) (tp := 107) (te := 138) ⟨b, 0, none⟩ rfl hi1
  go_enter Try.func70, Try.ntmps70
  go_wp2_with fail
  go_ret
  exact ⟨rfl, rfl⟩
theorem raw_root (h : RawT w b B c room n G) :
    Calls Try.prog 82 #[.pointer (some ⟨b, 0, none⟩)] w fun e w' => e = .returned (.int .i64 (G.dn 0 0 : Int)) ∧ w' = w := by
  obtain ⟨c0, c1, c2⟩ := h.cells
  have d := h.c_dn0 (p := 0) h.n1
  have n1 := h.n1
  clear h
  go_enter Try.func82, Try.ntmps82
  go_wp2_with fail
  go_ret
  exact ⟨rfl, rfl⟩
theorem raw_len (h : RawT w b B c room n G) :
    Calls Try.prog 58 #[.pointer (some ⟨b, 0, none⟩)] w fun e w' => e = .returned (.int .i64 ((n - 1 : Nat) : Int)) ∧ w' = w := by
  have HM := Lib.hid (raw_made h)
  obtain ⟨c0, c1, c2⟩ := h.cells
  have n1 := h.n1
  have n2 := h.n2
  clear h
  go_enter Try.func58, Try.ntmps58
  go_wp2_with fail
  refine HM.out.mono ?_
  rintro e w1 ⟨rfl, rfl⟩
  go_wp2_with fail
  go_ret
  exact ⟨ret_u (by omega), rfl⟩
theorem raw_room (h : RawT w b B c room n G) :
    Calls Try.prog 50 #[.pointer (some ⟨b, 0, none⟩)] w fun e w' => e = .returned (.int .i64 (room : Int)) ∧ w' = w := by
  have HM := Lib.hid (raw_made h)
  obtain ⟨c0, c1, c2⟩ := h.cells
  clear h
  go_enter Try.func50, Try.ntmps50
  go_wp2_with fail
  refine HM.out.mono ?_
  rintro e w1 ⟨rfl, rfl⟩
  go_wp2_with fail
  go_ret
  exact ⟨rfl, rfl⟩
theorem raw_sideOf (h : RawT w b B c room n G) {p : Nat} (h0 : p ≠ 0) (hp : p < n) :
    Calls Try.prog 84 #[.pointer (some ⟨b, 0, none⟩), .int .i64 (p : Int)] w fun e w' => e = .returned (.int .i64 (G.sideOf p : Int)) ∧ ∃ k, w' = w.drewN k := by
  obtain ⟨c0, c1, c2⟩ := h.cells
  have hu := h.inn.up p h0 hp
  have d1 := h.c_up hp
  have d2 := h.c_dn1 hu
  have n2 := h.n2
  have HS : Hid (G.sideOf p = if G.dn (G.up p) 1 = p then 1 else 0) := Lib.hid rfl
  have hd := h.inn.dn (G.up p) 1 hu (by omega)
  generalize G.sideOf p = sd at *
  generalize G.dn (G.up p) 1 = d at *
  generalize G.up p = u at *
  have hz1 : (p : Int) < (n : Int) := by omega
  have hz2 : (u : Int) < (n : Int) := by omega
  clear h
  by_cases c : d = p
  · have hc : ((d : Int) == (p : Int)) = true := by simp [c]
    have HE : Hid (sd = 1) := Lib.hid (HS.out.trans (if_pos c))
    clear c HS
    go_enter Try.func84, Try.ntmps84
    go_wp2_with fail
    go_quiet (fail)
    go_wp2_with fail
    go_ret
    exact ⟨by rw [HE.out]; rfl, _, rfl⟩
  · have hc : ((d : Int) == (p : Int)) = false := by rw [beq_eq_false_iff_ne]; omega
    have HE : Hid (sd = 0) := Lib.hid (HS.out.trans (if_neg c))
    clear c HS
    go_enter Try.func84, Try.ntmps84
    go_wp2_with fail
    go_quiet (fail)
    go_wp2_with fail
    go_ret
    exact ⟨by rw [HE.out]; rfl, _, rfl⟩
theorem raw_hang (h : RawT w b B c room n G) {u s p : Nat} (hu : u < n) (hs : s < 2) (hp : p < n) :
    Calls Try.prog 73 #[.pointer (some ⟨b, 0, none⟩), .int .i64 (u : Int), .int .i64 (s : Int), .int .i64 (p : Int)] w fun e w' => e = .returned (.tuple #[]) ∧ RawT w' b B c room n (G.hang u s p) ∧ Turned (Own2 b B) w w' := by
  have HR := Lib.hid (h.hang hu hs hp)
  have HT := Lib.hid (((Turned.refl (Own2 b B) w).set (b := B) (i := u * 7 + 5 + s) (.inr rfl) (.int .i64 (p : Int))).set (b := B) (i := p * 7 + 4) (.inr rfl) (.int .i64 (u : Int)))
  obtain ⟨c0, c1, c2⟩ := h.cells
  have d0 := h.c_dn hu hs
  have f0 := h.row.frozen (u * 7 + 5 + s)
  have e2 := (h.box.other (c := B) (i := u * 7 + 5 + s) (Ne.symm h.ne) (.int .i64 (p : Int))).cell 2
  have d1 := (h.row.setDn h.nc hu hs p).cell (j := 4) hp (by omega)
  have f1 := (h.row.setDn h.nc hu hs p).frozen (p * 7 + 4)
  rw [show (ndC (G.setDn u s p) p)[4]? = some (.int .i64 (G.up p : Int)) from rfl] at d1
  have n2 := h.n2
  have hz1 : (u : Int) < (n : Int) := by omega
  have hz2 : (p : Int) < (n : Int) := by omega
  have hz3 : (s : Int) < 2 := by omega
  clear h
  go_enter Try.func73, Try.ntmps73
  go_wp2_with fail
  go_end0
  exact ⟨rfl, HR.out, HT.out⟩
end

end Go.Proofs.Ytkiibobpejoaeaa
