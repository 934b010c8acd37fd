/-
  Maps of the law's own, keyed by keys of the tree.
-/
import Derived.Test.YtfedjeojanpnpabWalkTakeFacts
import Derived.Maps.OwnOps
import Derived.Maps.OwnSet
import Derived.Maps.Views
import Derived.DeepKeys4
namespace Go.Proofs.Ytfedjeojanpnpab
open Go.RowKit Go.Maps Go.WideMaps
set_option linter.unusedVariables false

theorem laidOutK : laidOutB Try.prog = true := by kernel_rfl
theorem lawK : Keyed Try.prog 27 := Keyed.of_law (deep_law_laid (m := 3) laidOutK (by decide) (of_decide_eq_true (by kernel_rfl)) (by kernel_rfl) (by kernel_rfl))
theorem zeroI (w : World) : (zeroValue 3).run Try.prog w = .ok (.int .i64 0) w := by kernel_rfl
def klit (k : Ky) : Lit := .string (keyBytes [.int .u64 (k.at_ : Int), .int .u64 (k.seq : Int)])
theorem wf_u64 {n : Nat} (h : n < 18446744073709551616) : (Lit.int .u64 (n : Int)).wf = true := by
  simp [Lit.wf, IntKind.min, IntKind.max, IntKind.signed, IntKind.bits]
  omega
theorem ky_key {k : Ky} (hk : k.Fits) : keyOf Try.prog 27 (.agg #[.int .u64 (k.at_ : Int), .int .u64 (k.seq : Int)]) = some (klit k) := by
  have wa := wf_u64 hk.1
  have wb := wf_u64 hk.2
  have hkt : Try.prog.keyType 27 = true := by kernel_rfl
  obtain ⟨m, hm⟩ : ∃ m, Try.prog.types.size = m + 1 := ⟨Try.prog.types.size - 1, by kernel_rfl⟩
  unfold keyOf klit
  simp only [Try.underlying27]
  have h2 : Try.prog.cellsOf 27 = 2 := by kernel_rfl
  have h1 : Try.prog.cellsOf 25 = 1 := by kernel_rfl
  rw [if_pos (by simp [hkt, Value.formed, Try.underlying27, h2]), hm]
  unfold Program.keyLits
  simp only [Try.underlying27, Value.cells]
  rw [if_pos (by rw [h2]; exact ⟨rfl, by kernel_rfl⟩), List.mapM_cons, List.mapM_cons, List.mapM_nil]
  simp [h1, Program.keyLits, Try.underlying25, wa, wb]
theorem klit_ne {a b : Ky} (ha : a.Fits) (hb : b.Fits) (h : a ≠ b) : klit a ≠ klit b := fun e => by
  have h1 := ky_key ha
  rw [e] at h1
  have h2 := lawK.inj h1 (ky_key hb)
  simp only [Value.agg.injEq, Array.mk.injEq, List.cons.injEq, Value.int.injEq, true_and, and_true] at h2
  apply h
  cases a; cases b
  simp only at h2
  obtain ⟨e1, e2⟩ := h2
  congr 1 <;> omega
abbrev MapAt (w : World) (b n : Nat) (D : DataW Unit) : Prop := w.ownsMap Try.prog 27 (plainElem Try.prog 3) b n D
theorem map_same {w w' : World} {b n : Nat} {D : DataW Unit} (h : MapAt w b n D) (e : w'.heap[b]? = w.heap[b]?) : MapAt w' b n D := by
  obtain ⟨es, clock, hb, r⟩ := h
  exact ⟨es, clock, e.trans hb, r⟩
theorem map_below {w w' : World} {b n : Nat} {D : DataW Unit} (h : MapAt w b n D) (g : Below w.heap.size w w') : MapAt w' b n D := map_same h (g.block b h.lt)
theorem own_not_map {w : World} {base e size n m b : Nat} {v : Value} {xs : List Value} {D : DataW Unit} (h : w.ownsRow base e size v n xs) (hm : MapAt w b m D) : v.ownBlock ≠ some b := by
  rcases h.2 with ⟨rfl, _⟩ | ⟨g1, c1, cur1, rfl, _, k1, _⟩
  · intro e; cases e
  · intro e
    obtain rfl : g1 = b := by simpa [Value.ownBlock] using e
    obtain ⟨es, clock, hb, _⟩ := hm
    have := k1.symm.trans hb
    simp at this
theorem box_not_map {w : World} {q t m b : Nat} {cs : Array Value} {D : DataW Unit} (h : Box w q t cs) (hm : MapAt w b m D) : q ≠ b := by
  rintro rfl
  obtain ⟨es, clock, hb, _⟩ := hm
  have := (show w.heap[q]? = some (.cells cs t (0, 0)) from h).symm.trans hb
  simp at this

/-- The tree with boxes and rows beside it, and a map of the call's own. -/
def StM (K : TreeK) (w W : World) (a : Addr) (l : List En) (bx : List (Nat × TypeId × Array Value)) (rs : List (Value × List En)) (mb n : Nat) (D : DataW Unit) : Prop :=
  ∃ N g, OwnT K w W a N g ∧ g.room = 60 ∧ g.l = l ∧ (∀ b, b ∈ bx → ¬ N b.1 ∧ w.heap.size ≤ b.1 ∧ Box W b.1 b.2.1 b.2.2) ∧ (∀ r, r ∈ rs → r.2.length ≤ 200 ∧ MineT w W N 52 3 r.1 r.2.length (r.2.flatMap enC)) ∧ ¬ N mb ∧ w.heap.size ≤ mb ∧ MapAt W mb n D
section
variable {K : TreeK} {w W W' : World} {a : Addr} {l : List En} {bx : List (Nat × TypeId × Array Value)} {rs : List (Value × List En)} {mb n : Nat} {D : DataW Unit}
theorem StM.st (h : StM K w W a l bx rs mb n D) : St K w W a l bx rs := by
  obtain ⟨N, g, o, h1, h2, h3, h4, _⟩ := h
  exact ⟨N, g, o, h1, h2, h3, h4⟩
theorem StM.map (h : StM K w W a l bx rs mb n D) : MapAt W mb n D := by
  obtain ⟨N, g, o, h1, h2, h3, h4, _, _, h5⟩ := h
  exact h5
theorem StM.below (h : StM K w W a l bx rs mb n D) (b : Below W.heap.size W W') : StM K w W' a l bx rs mb n D := by
  obtain ⟨N, g, o, h1, h2, h3, h4, h5, h6, h7⟩ := h
  exact ⟨N, g, o.below b, h1, h2, fun q hq => ⟨(h3 q hq).1, (h3 q hq).2.1, (h3 q hq).2.2.below b (h3 q hq).2.2.lt⟩, fun r hr => ⟨(h4 r hr).1, (h4 r hr).2.below b⟩, h5, h6, map_below h7 b⟩
theorem St.mapped (s : St K w W a l bx rs) (b : Below W.heap.size W W') (hm : MapAt W' mb n D) (hg : W.heap.size ≤ mb) : StM K w W' a l bx rs mb n D := by
  obtain ⟨N, g, o, h1, h2, h3, h4⟩ := s
  refine ⟨N, g, o.below b, h1, h2, fun q hq => ⟨(h3 q hq).1, (h3 q hq).2.1, (h3 q hq).2.2.below b (h3 q hq).2.2.lt⟩, fun r hr => ⟨(h4 r hr).1, (h4 r hr).2.below b⟩, fun hn => ?_, Nat.le_trans o.lo.size hg, hm⟩
  have := K.lt o.at_ _ hn
  omega
theorem StM.forget (h : StM K w W a l bx rs mb n D) {bx' : List (Nat × TypeId × Array Value)} {rs' : List (Value × List En)} (hb : ∀ b, b ∈ bx' → b ∈ bx) (hr : ∀ r, r ∈ rs' → r ∈ rs) : StM K w W a l bx' rs' mb n D := by
  obtain ⟨N, g, o, h1, h2, h3, h4, h5, h6, h7⟩ := h
  exact ⟨N, g, o, h1, h2, fun b k => h3 b (hb b k), fun r k => h4 r (hr r k), h5, h6, h7⟩
theorem StM.alloc (h : StM K w W a l bx rs mb n D) (cs : Array Value) (t : TypeId) : StM K w (W.alloc (.cells cs t)) a l ((W.heap.size, t, cs) :: bx) rs mb n D := by
  have b := (Below.refl W.heap.size W).alloc (Nat.le_refl _) (.cells cs t)
  obtain ⟨N, g, o, h1, h2, h3, h4, h5, h6, h7⟩ := h
  refine ⟨N, g, o.below b, h1, h2, fun q hq => ?_, fun r hr => ⟨(h4 r hr).1, (h4 r hr).2.below b⟩, h5, h6, map_below h7 b⟩
  rcases List.mem_cons.1 hq with rfl | hq
  · exact ⟨fun hn => absurd (K.lt o.at_ _ hn) (Nat.lt_irrefl _), o.lo.size, Box.new _ _ _⟩
  · exact ⟨(h3 q hq).1, (h3 q hq).2.1, (h3 q hq).2.2.below b (h3 q hq).2.2.lt⟩
theorem StM.told (h : StM K w W a l bx rs mb n D) {X : List En} {p : Option Addr} {m c : Nat} (r : W'.ownsRow W.heap.size 52 3 (.slice p m c) m (X.flatMap enC)) (hXm : X.length = m) (b : Below W.heap.size W W') (hX : m ≤ 200) : StM K w W' a l bx ((.slice p m c, X) :: rs) mb n D := by
  subst hXm
  obtain ⟨N, g, o, h1, h2, h3, h4, h5, h6, h7⟩ := h
  refine ⟨N, g, o.below b, h1, h2, fun q hq => ⟨(h3 q hq).1, (h3 q hq).2.1, (h3 q hq).2.2.below b (h3 q hq).2.2.lt⟩, fun x hx => ?_, h5, h6, map_below h7 b⟩
  rcases List.mem_cons.1 hx with rfl | hx
  · exact ⟨hX, own_low r o.lo.size, OffV.fresh (fun k hk => K.lt o.at_ k hk) r⟩
  · exact ⟨(h4 x hx).1, (h4 x hx).2.below b⟩
theorem StM.put {n' : Nat} {D' : DataW Unit} (h : StM K w W a l bx rs mb n D) (o' : MapAt W' mb n' D') (t : W.grownBy W' (some mb)) : StM K w W' a l bx rs mb n' D' := by
  obtain ⟨N, g, o, h1, h2, h3, h4, h5, h6, h7⟩ := h
  have lo : Below w.heap.size w W' := o.lo.grown t o.lo.size (fun i e => by cases e; exact h6)
  refine ⟨N, g, ⟨K.kept o.at_ (fun i hi => t.block i (K.lt o.at_ i hi) (fun e => h5 (by cases e; exact hi))) t.size, o.ok, o.new, lo⟩, h1, h2, fun q hq => ⟨(h3 q hq).1, (h3 q hq).2.1, (h3 q hq).2.2.grown t (fun e => box_not_map (h3 q hq).2.2 h7 (Option.some.inj e))⟩, fun r hr => ⟨(h4 r hr).1, (h4 r hr).2.row.kept t (.inr (own_not_map (h4 r hr).2.row h7)), (h4 r hr).2.off⟩, h5, h6, o'⟩
theorem StM.set2 {q : Nat} {x0 y0 : Value} (h : StM K w W a l ((q, 27, #[x0, y0]) :: bx) rs mb n D) (hd : ∀ b, b ∈ bx → b.1 ≠ q) (x y : Value) : StM K w ((W.setCell ⟨q, 0, none⟩ x).setCell ⟨q, 1, none⟩ y) a l ((q, 27, #[x, y]) :: bx) rs mb n D := by
  obtain ⟨N, g, o, h1, h2, h3, h4, h5, h6, h7⟩ := h
  obtain ⟨nq, lq, bq⟩ := h3 _ List.mem_cons_self
  have hqm : q ≠ mb := box_not_map bq h7
  refine ⟨N, g, (o.set6 nq lq).set6 nq lq, h1, h2, fun b hb => ?_, fun r hr => ?_, h5, h6, ?_⟩
  · rcases List.mem_cons.1 hb with rfl | hb'
    · exact ⟨nq, lq, (bq.set 0 x).set 1 y⟩
    · obtain ⟨k1, k2, k3⟩ := h3 b (List.mem_cons_of_mem _ hb')
      exact ⟨k1, k2, (k3.other (hd b hb') x).other (hd b hb') y⟩
  · obtain ⟨k1, k2⟩ := h4 r hr
    have bq' : Box W q 27 #[x0, y0] := bq
    have hne := bq'.not_row k2.row (by decide)
    exact ⟨k1, own_set (own_set k2.row hne) hne, k2.off⟩
  · exact (h7.kept (grownBy_set W q 0 x) (fun e => hqm (Option.some.inj e).symm)).kept (grownBy_set _ q 1 y) (fun e => hqm (Option.some.inj e).symm)
end

end Go.Proofs.Ytfedjeojanpnpab

/- m[k] op= v at a map of the call's own: the entry is sought, or laid, and then stored into. -/
namespace Go.Proofs.Ytfedjeojanpnpab
open Go.RowKit Go.Maps Go.WideMaps Go.MapKept
set_option linter.unusedVariables false
set_option linter.unusedSimpArgs false

theorem modify_congr {es : Array MapEntry} {j : Nat} {f g : MapEntry → MapEntry} (h : ∀ e, es[j]? = some e → f e = g e) : es.modify j f = es.modify j g := by
  apply Array.ext_getElem?
  intro i
  rw [Array.getElem?_modify, Array.getElem?_modify]
  by_cases c : j = i
  · subst c
    simp only [if_true]
    cases he : es[j]? with
    | none => rfl
    | some e => simp [h e he]
  · simp [c]
theorem find_born {es : Array MapEntry} {j : Nat} {e0 : MapEntry} (hn : (es.toList.map (·.born)).Nodup) (hj : es[j]? = some e0) : es.findIdx? (fun e => ((e.born : Int) == (e0.born : Int))) = some j := by
  obtain ⟨hlt, hej⟩ := Array.getElem?_eq_some_iff.1 hj
  rw [Array.findIdx?_eq_some_iff_getElem]
  refine ⟨hlt, by rw [hej]; simp, fun i hi => ?_⟩
  have hp := List.pairwise_iff_getElem.1 hn i j (by simp; omega) (by simpa using hlt) hi
  simp only [List.getElem_map, Array.getElem_toList] at hp
  rw [hej] at hp
  simp
  intro e
  exact hp (by omega)
theorem entry_own {P : Program} {k t e : TypeId} {q : IntKind} {b n : Nat} {D : DataW Unit} {w : World} (h : w.ownsMap P k (plainElem P e) b n D) (K : Keyed P k) (ht : P.underlying t = some (.map k e)) (he : P.underlying e = some (.int q)) (hz : (zeroValue e).run P w = .ok (.int q 0) w)
    {key : Value} {kl : Lit} (hkey : keyOf P k key = some kl) (hn : n < maxLen) {c : Int} (hat : D.atKey kl (.lit (.int q 0)) = .lit (.int q c)) :
    ∃ (st : Int) (w1 : World), (Instr.mapEntry t (.map (some b)) key).run P w = .ok (.tuple #[.int q c, .int .i64 st]) w1 ∧ w1.ownsMap P k (plainElem P e) b (n + 1) (D.put kl (.lit (.int q c))) ∧ w.grownBy w1 (some b) ∧
      ∀ v : Int, (Lit.int q v).wf = true → ∃ w2, (Instr.entryStore t (.map (some b)) (.int .i64 st) (.int q v)).run P w1 = .ok () w2 ∧ w2.ownsMap P k (plainElem P e) b (n + 1) (D.put kl (.lit (.int q v))) ∧ w.grownBy w2 (some b) := by
  obtain ⟨c', hlook, hat', hwc⟩ := h.lookup_int K ht he hz hkey
  rw [hat] at hat'
  obtain rfl : c = c' := by simpa using hat'
  obtain ⟨w1, hup, own1, gr1⟩ := h.update K ht hn hkey (plainElem_int (H := Unit) he hwc)
  have hupv : ∀ v : Int, (Lit.int q v).wf = true → ∃ w', (Instr.mapUpdate t (.map (some b)) key (.int q v)).run P w = .ok () w' ∧ w'.ownsMap P k (plainElem P e) b (n + 1) (D.put kl (.lit (.int q v))) ∧ w.grownBy w' (some b) :=
    fun v hv => h.update K ht hn hkey (plainElem_int (H := Unit) he hv)
  obtain ⟨es, clock, hb, F, hs, hD⟩ := h
  rcases K.find w hkey es.toList F.keys with ⟨h1, h2⟩ | ⟨j, e0, h1, h2, h3⟩
  · have hc : c = 0 := by
      have : (Instr.lookup t (.map (some b)) key false).run P w = .ok (.int q 0) w := by
        simp [Instr.lookup, run_underlying ht, MapKept.run_getObj_map hb, K.check w es.isEmpty hkey, h1, hz, Result.andThen]
      rw [this] at hlook
      simpa using hlook.symm
    subst hc
    simp [Instr.mapUpdate, run_underlying ht, MapKept.run_getObj_map hb, K.check w false hkey, h1, MapKept.run_setObj_map _ hb, Result.andThen] at hup
    subst hup
    refine ⟨clock, _, ?_, own1, gr1, fun v hv => ?_⟩
    · simp [Instr.mapEntry, run_underlying ht, MapKept.run_getObj_map hb, K.check w false hkey, h1, hz, MapKept.run_setObj_map _ hb, Result.andThen, goInt]
    · obtain ⟨w2, hr2, own2, gr2⟩ := hupv v hv
      simp [Instr.mapUpdate, run_underlying ht, MapKept.run_getObj_map hb, K.check w false hkey, h1, MapKept.run_setObj_map _ hb, Result.andThen] at hr2
      subst hr2
      refine ⟨_, ?_, own2, gr2⟩
      have hb1 : ({ w with heap := w.heap.setIfInBounds b (.map (es.push ⟨key, .int q 0, clock⟩) (clock + 1)) } : World).heap[b]? = some (.map (es.push ⟨key, .int q 0, clock⟩) (clock + 1)) := (heap_set hb).1
      have hst := stamped_push (val := .int q 0) F.stamped h2
      have hf := find_born hst.2.1 (j := es.size) (e0 := ⟨key, .int q 0, clock⟩) (by simp)
      have hm : (es.push ⟨key, .int q 0, clock⟩).modify es.size (fun e => { e with val := .int q v }) = es.push ⟨key, .int q v, clock⟩ := by
        apply Array.ext_getElem?
        intro i
        rw [Array.getElem?_modify, Array.getElem?_push, Array.getElem?_push]
        by_cases c1 : es.size = i
        · subst c1; simp
        · have : i ≠ es.size := fun e => c1 e.symm
          simp [c1, this]
      simp only at hf
      simp [Instr.entryStore, MapKept.run_getObj_map hb1, asInt, asIntOf, hf, MapKept.run_setObj_map _ hb1, Result.andThen, hm]
  · have hj : es[j]? = some e0 := by simpa using h2
    have hc : e0.val = .int q c := by
      have : (Instr.lookup t (.map (some b)) key false).run P w = .ok e0.val w := by
        simp [Instr.lookup, run_underlying ht, MapKept.run_getObj_map hb, K.check w es.isEmpty hkey, h1, hz, Result.andThen]
      rw [this] at hlook
      simpa using hlook
    simp [Instr.mapUpdate, run_underlying ht, MapKept.run_getObj_map hb, K.check w false hkey, h1, hj, h3, K.stays w hkey, MapKept.run_setObj_map _ hb, Result.andThen] at hup
    have hcg : es.modify j (fun e => { e with key := key, val := .int q c }) = es.modify j (fun e => { e with key := key }) := modify_congr fun e' he' => by
      rw [hj] at he'; cases he'; rw [hc]
    rw [hcg] at hup
    subst hup
    refine ⟨e0.born, _, ?_, own1, gr1, fun v hv => ?_⟩
    · simp [Instr.mapEntry, run_underlying ht, MapKept.run_getObj_map hb, K.check w false hkey, h1, hj, h3, K.stays w hkey, MapKept.run_setObj_map _ hb, Result.andThen, goInt, hc]
    · obtain ⟨w2, hr2, own2, gr2⟩ := hupv v hv
      simp [Instr.mapUpdate, run_underlying ht, MapKept.run_getObj_map hb, K.check w false hkey, h1, hj, h3, K.stays w hkey, MapKept.run_setObj_map _ hb, Result.andThen] at hr2
      subst hr2
      refine ⟨_, ?_, own2, gr2⟩
      have hb1 : ({ w with heap := w.heap.setIfInBounds b (.map (es.modify j (fun e => { e with key := key })) clock) } : World).heap[b]? = some (.map (es.modify j (fun e => { e with key := key })) clock) := (heap_set hb).1
      have hst := stamped_modify F.stamped j (fun e => { e with key := key }) (fun _ _ => rfl) (fun e' _ he' => by rw [hj] at he'; cases he'; exact h3.symm)
      have hf := find_born hst.2.1 (j := j) (e0 := { e0 with key := key }) (by rw [Array.getElem?_modify]; simp [hj])
      have hm : (es.modify j (fun e => { e with key := key })).modify j (fun e => { e with val := .int q v }) = es.modify j (fun e => { e with key := key, val := .int q v }) := by
        apply Array.ext_getElem?
        intro i
        rw [Array.getElem?_modify, Array.getElem?_modify, Array.getElem?_modify]
        by_cases c1 : j = i
        · subst c1; simp [hj]
        · simp [c1]
      simp only at hf
      simp [Instr.entryStore, MapKept.run_getObj_map hb1, asInt, asIntOf, hf, MapKept.run_setObj_map _ hb1, Result.andThen, hm]

end Go.Proofs.Ytfedjeojanpnpab
