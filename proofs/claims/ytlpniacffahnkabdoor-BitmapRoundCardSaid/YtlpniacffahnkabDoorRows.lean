/-
  NARROWER THAN 'FOR EVERY INPUT', by the rows' own cells (each row's printed sentence says how): BitmapTells: laid · BitmapNext: laid · BitmapRound: laid · BitmapBack: laid · BitmapAll: laid · BitmapNone: laid.
  DERIVED. THE GIVEN ROWS OF THIS SEAT. 6 by the template 'for every input the law returns true; each argument reads behind the call as it read before'; 0 by the template 'total and deterministic' (their statements: YtlpniacffahnkabDoorTotals.lean).
  GIVEN WITH THE SEED: the statements are not yours to turn. If you find one false, say at which input.
  Laid BY PROGRAM, IN A SANDBOX (cutbox-rows.mjs): the forced cells as the released guide's own fill.sh prints them over the translation d544de129d1ae6bd… (all of the seat's roots in one cut). By AI agents, Wed Nov 11 2026. No macro, syntax, notation, axiom, sorry.
-/
import Derived.Test.YtlpniacffahnkabDoorChecked
import GoSem.Claim
import GoSem.ClaimJoined
import GoSem.ClaimMapViews
import Derived.JoinedTies
import Derived.KernelRfl
namespace Go.Proofs.YtlpniacffahnkabDoor
/- THE CELL 'sum', in the pinned program and in every row, IS THE sha256 OF THE DUMP (.gsa) THAT YtlpniacffahnkabDoorProg.lean LOADS. Nothing in Lean hashes anything: it is a label: what it is worth is what the hold of that sum in a sandbox is worth. -/
noncomputable def Tryd.pinned : Pinned := { name := "ytlpniacffahnkabdoor", sum := "d544de129d1ae6bdfc2f8e99c3b1ab0bef78ea41723c7c6bae4974cdd49a6165", checked := Tryd.checked }
namespace Rows
def none {H : Type} : Left H := { results := [], args := [] }

/- WHAT THE LISTED PACKAGE-LEVEL VARIABLES READ AS WHEN THE CALL BEGINS. Each datum BY PROGRAM (the guide's laid-datum.mjs) off the statement by which the dump's own 'gosem.cut.vars' lays the variable. In a bare row this is a premise. The card (YtlpniacffahnkabDoorCards.lean) ties it to the program's text. -/
def laid_math_bits_deBruijn64tab {H : Type} : DataW H := .agg [.lit (.int .u8 0), .lit (.int .u8 1), .lit (.int .u8 56), .lit (.int .u8 2), .lit (.int .u8 57), .lit (.int .u8 49), .lit (.int .u8 28), .lit (.int .u8 3), .lit (.int .u8 61), .lit (.int .u8 58), .lit (.int .u8 42), .lit (.int .u8 50), .lit (.int .u8 38), .lit (.int .u8 29), .lit (.int .u8 17), .lit (.int .u8 4), .lit (.int .u8 62), .lit (.int .u8 47), .lit (.int .u8 59), .lit (.int .u8 36), .lit (.int .u8 45), .lit (.int .u8 43), .lit (.int .u8 51), .lit (.int .u8 22), .lit (.int .u8 53), .lit (.int .u8 39), .lit (.int .u8 33), .lit (.int .u8 30), .lit (.int .u8 24), .lit (.int .u8 18), .lit (.int .u8 12), .lit (.int .u8 5), .lit (.int .u8 63), .lit (.int .u8 55), .lit (.int .u8 48), .lit (.int .u8 27), .lit (.int .u8 60), .lit (.int .u8 41), .lit (.int .u8 37), .lit (.int .u8 16), .lit (.int .u8 46), .lit (.int .u8 35), .lit (.int .u8 44), .lit (.int .u8 21), .lit (.int .u8 52), .lit (.int .u8 32), .lit (.int .u8 23), .lit (.int .u8 11), .lit (.int .u8 54), .lit (.int .u8 26), .lit (.int .u8 40), .lit (.int .u8 15), .lit (.int .u8 34), .lit (.int .u8 20), .lit (.int .u8 31), .lit (.int .u8 10), .lit (.int .u8 25), .lit (.int .u8 14), .lit (.int .u8 19), .lit (.int .u8 9), .lit (.int .u8 13), .lit (.int .u8 8), .lit (.int .u8 7), .lit (.int .u8 6)]

/-- 'sandglasslaw08.BitmapTells': WHATEVER THE INPUT: true; the input reads as it did. -/
def bitmapTellsSpec : ChangeSpec := { name := "bitmapTells", fn := fun _ => fun
  | [d1, d2] => { results := [.lit (.bool true)], args := [d1, d2] }
  | _ => none }
def bitmapTellsRow : OpenClaim := { program := "ytlpniacffahnkabdoor", sum := "d544de129d1ae6bdfc2f8e99c3b1ab0bef78ea41723c7c6bae4974cdd49a6165", func := "sandglass/sandglasslaw08.BitmapTells", spec := "bitmapTells", named := ["math/bits.deBruijn64tab"], apart := false, laid := [("math/bits.deBruijn64tab", laid_math_bits_deBruijn64tab)] }
def BitmapTellsSaid : Prop := bitmapTellsRow.holds Tryd.pinned (OpenSpec.ofChange bitmapTellsSpec)

/-- ITS FALSE NEIGHBOUR: 'it returns false'. Refute it at one input. -/
def bitmapTellsWrong : ChangeSpec := { name := "bitmapTells", fn := fun _ => fun
  | [d1, d2] => { results := [.lit (.bool false)], args := [d1, d2] }
  | _ => none }
def BitmapTellsWrongFalsely : Prop := bitmapTellsRow.holds Tryd.pinned (OpenSpec.ofChange bitmapTellsWrong)

/-- 'sandglasslaw08.BitmapNext': WHATEVER THE INPUT: true; the input reads as it did. -/
def bitmapNextSpec : ChangeSpec := { name := "bitmapNext", fn := fun _ => fun
  | [d1, d2, d3] => { results := [.lit (.bool true)], args := [d1, d2, d3] }
  | _ => none }
def bitmapNextRow : OpenClaim := { program := "ytlpniacffahnkabdoor", sum := "d544de129d1ae6bdfc2f8e99c3b1ab0bef78ea41723c7c6bae4974cdd49a6165", func := "sandglass/sandglasslaw08.BitmapNext", spec := "bitmapNext", named := ["math/bits.deBruijn64tab"], apart := false, laid := [("math/bits.deBruijn64tab", laid_math_bits_deBruijn64tab)] }
def BitmapNextSaid : Prop := bitmapNextRow.holds Tryd.pinned (OpenSpec.ofChange bitmapNextSpec)

/-- ITS FALSE NEIGHBOUR: 'it returns false'. Refute it at one input. -/
def bitmapNextWrong : ChangeSpec := { name := "bitmapNext", fn := fun _ => fun
  | [d1, d2, d3] => { results := [.lit (.bool false)], args := [d1, d2, d3] }
  | _ => none }
def BitmapNextWrongFalsely : Prop := bitmapNextRow.holds Tryd.pinned (OpenSpec.ofChange bitmapNextWrong)

/-- 'sandglasslaw08.BitmapRound': WHATEVER THE INPUT: true; the input reads as it did. -/
def bitmapRoundSpec : ChangeSpec := { name := "bitmapRound", fn := fun _ => fun
  | [d1, d2, d3] => { results := [.lit (.bool true)], args := [d1, d2, d3] }
  | _ => none }
def bitmapRoundRow : OpenClaim := { program := "ytlpniacffahnkabdoor", sum := "d544de129d1ae6bdfc2f8e99c3b1ab0bef78ea41723c7c6bae4974cdd49a6165", func := "sandglass/sandglasslaw08.BitmapRound", spec := "bitmapRound", named := ["math/bits.deBruijn64tab"], apart := false, laid := [("math/bits.deBruijn64tab", laid_math_bits_deBruijn64tab)] }
def BitmapRoundSaid : Prop := bitmapRoundRow.holds Tryd.pinned (OpenSpec.ofChange bitmapRoundSpec)

/-- ITS FALSE NEIGHBOUR: 'it returns false'. Refute it at one input. -/
def bitmapRoundWrong : ChangeSpec := { name := "bitmapRound", fn := fun _ => fun
  | [d1, d2, d3] => { results := [.lit (.bool false)], args := [d1, d2, d3] }
  | _ => none }
def BitmapRoundWrongFalsely : Prop := bitmapRoundRow.holds Tryd.pinned (OpenSpec.ofChange bitmapRoundWrong)

/-- 'sandglasslaw08.BitmapBack': WHATEVER THE INPUT: true; the input reads as it did. -/
def bitmapBackSpec : ChangeSpec := { name := "bitmapBack", fn := fun _ => fun
  | [d1, d2, d3] => { results := [.lit (.bool true)], args := [d1, d2, d3] }
  | _ => none }
def bitmapBackRow : OpenClaim := { program := "ytlpniacffahnkabdoor", sum := "d544de129d1ae6bdfc2f8e99c3b1ab0bef78ea41723c7c6bae4974cdd49a6165", func := "sandglass/sandglasslaw08.BitmapBack", spec := "bitmapBack", named := ["math/bits.deBruijn64tab"], apart := false, laid := [("math/bits.deBruijn64tab", laid_math_bits_deBruijn64tab)] }
def BitmapBackSaid : Prop := bitmapBackRow.holds Tryd.pinned (OpenSpec.ofChange bitmapBackSpec)

/-- ITS FALSE NEIGHBOUR: 'it returns false'. Refute it at one input. -/
def bitmapBackWrong : ChangeSpec := { name := "bitmapBack", fn := fun _ => fun
  | [d1, d2, d3] => { results := [.lit (.bool false)], args := [d1, d2, d3] }
  | _ => none }
def BitmapBackWrongFalsely : Prop := bitmapBackRow.holds Tryd.pinned (OpenSpec.ofChange bitmapBackWrong)

/-- 'sandglasslaw08.BitmapAll': WHATEVER THE INPUT: true; the input reads as it did. -/
def bitmapAllSpec : ChangeSpec := { name := "bitmapAll", fn := fun _ => fun
  | [d1, d2, d3, d4] => { results := [.lit (.bool true)], args := [d1, d2, d3, d4] }
  | _ => none }
def bitmapAllRow : OpenClaim := { program := "ytlpniacffahnkabdoor", sum := "d544de129d1ae6bdfc2f8e99c3b1ab0bef78ea41723c7c6bae4974cdd49a6165", func := "sandglass/sandglasslaw08.BitmapAll", spec := "bitmapAll", named := ["math/bits.deBruijn64tab"], apart := false, laid := [("math/bits.deBruijn64tab", laid_math_bits_deBruijn64tab)] }
def BitmapAllSaid : Prop := bitmapAllRow.holds Tryd.pinned (OpenSpec.ofChange bitmapAllSpec)

/-- ITS FALSE NEIGHBOUR: 'it returns false'. Refute it at one input. -/
def bitmapAllWrong : ChangeSpec := { name := "bitmapAll", fn := fun _ => fun
  | [d1, d2, d3, d4] => { results := [.lit (.bool false)], args := [d1, d2, d3, d4] }
  | _ => none }
def BitmapAllWrongFalsely : Prop := bitmapAllRow.holds Tryd.pinned (OpenSpec.ofChange bitmapAllWrong)

/-- 'sandglasslaw08.BitmapNone': WHATEVER THE INPUT: true; the input reads as it did. -/
def bitmapNoneSpec : ChangeSpec := { name := "bitmapNone", fn := fun _ => fun
  | [d] => { results := [.lit (.bool true)], args := [d] }
  | _ => none }
def bitmapNoneRow : OpenClaim := { program := "ytlpniacffahnkabdoor", sum := "d544de129d1ae6bdfc2f8e99c3b1ab0bef78ea41723c7c6bae4974cdd49a6165", func := "sandglass/sandglasslaw08.BitmapNone", spec := "bitmapNone", named := ["math/bits.deBruijn64tab"], apart := false, laid := [("math/bits.deBruijn64tab", laid_math_bits_deBruijn64tab)] }
def BitmapNoneSaid : Prop := bitmapNoneRow.holds Tryd.pinned (OpenSpec.ofChange bitmapNoneSpec)

/-- ITS FALSE NEIGHBOUR: 'it returns false'. Refute it at one input. -/
def bitmapNoneWrong : ChangeSpec := { name := "bitmapNone", fn := fun _ => fun
  | [d] => { results := [.lit (.bool false)], args := [d] }
  | _ => none }
def BitmapNoneWrongFalsely : Prop := bitmapNoneRow.holds Tryd.pinned (OpenSpec.ofChange bitmapNoneWrong)

/- THE SECOND FORM. 'bulk': how many values and letters a reading holds, each counted each time it is reached (what is shared counts as often as it is met; a slice's spare places count too). A statement '..UptoSaid' is the law's where the arguments, and the package variables that the reading takes, are together of bulk at most 1048576: NARROWER than '..Said'. Prove '..Said' where nothing that the law and all that it calls make is longer than what came in: it says more and counts as full. Else prove '..UptoSaid'. A law counts once. -/
mutual
def uptoBulk {H : Type} : DataW H → Nat
  | .lit (.string bytes) => bytes.length + 1
  | .lit _ => 1
  | .nil => 1
  | .ptr d => uptoBulk d + 1
  | .slice elems spare => uptoBulkAll elems + uptoBulkAll spare + 1
  | .agg parts => uptoBulkAll parts + 1
  | .iface _ d => uptoBulk d + 1
  | .map entries => uptoBulkEntries entries + 1
  | .held _ => 1
def uptoBulkAll {H : Type} : List (DataW H) → Nat
  | [] => 0
  | d :: r => uptoBulk d + uptoBulkAll r
def uptoBulkEntries {H : Type} : List (Lit × DataW H) → Nat
  | [] => 0
  | x :: r => uptoBulkEntry x + uptoBulkEntries r
def uptoBulkEntry {H : Type} : Lit × DataW H → Nat
  | (.string bytes, d) => bytes.length + uptoBulk d + 1
  | (_, d) => uptoBulk d + 1
 end
def uptoSmall : (H : Type) → List (DataW H) → Bool := fun _ ds => decide (uptoBulkAll ds ≤ 1048576)
def OpenSpec.upto (s : _root_.Go.ChangeSpec) : _root_.Go.OpenSpec := { _root_.Go.OpenSpec.ofChange s with cond := some uptoSmall }

/-- 'sandglasslaw08.BitmapTells', WHERE WHAT IT READS IS OF BULK AT MOST 1048576: true; the input reads as it did. -/
def bitmapTellsUptoRow : OpenClaim := { program := "ytlpniacffahnkabdoor", sum := "d544de129d1ae6bdfc2f8e99c3b1ab0bef78ea41723c7c6bae4974cdd49a6165", func := "sandglass/sandglasslaw08.BitmapTells", spec := "bitmapTells", named := ["math/bits.deBruijn64tab"], apart := false, laid := [("math/bits.deBruijn64tab", laid_math_bits_deBruijn64tab)], narrowed := true }
def BitmapTellsUptoSaid : Prop := bitmapTellsUptoRow.holds Tryd.pinned (OpenSpec.upto bitmapTellsSpec)

/-- 'sandglasslaw08.BitmapNext', WHERE WHAT IT READS IS OF BULK AT MOST 1048576: true; the input reads as it did. -/
def bitmapNextUptoRow : OpenClaim := { program := "ytlpniacffahnkabdoor", sum := "d544de129d1ae6bdfc2f8e99c3b1ab0bef78ea41723c7c6bae4974cdd49a6165", func := "sandglass/sandglasslaw08.BitmapNext", spec := "bitmapNext", named := ["math/bits.deBruijn64tab"], apart := false, laid := [("math/bits.deBruijn64tab", laid_math_bits_deBruijn64tab)], narrowed := true }
def BitmapNextUptoSaid : Prop := bitmapNextUptoRow.holds Tryd.pinned (OpenSpec.upto bitmapNextSpec)

/-- 'sandglasslaw08.BitmapRound', WHERE WHAT IT READS IS OF BULK AT MOST 1048576: true; the input reads as it did. -/
def bitmapRoundUptoRow : OpenClaim := { program := "ytlpniacffahnkabdoor", sum := "d544de129d1ae6bdfc2f8e99c3b1ab0bef78ea41723c7c6bae4974cdd49a6165", func := "sandglass/sandglasslaw08.BitmapRound", spec := "bitmapRound", named := ["math/bits.deBruijn64tab"], apart := false, laid := [("math/bits.deBruijn64tab", laid_math_bits_deBruijn64tab)], narrowed := true }
def BitmapRoundUptoSaid : Prop := bitmapRoundUptoRow.holds Tryd.pinned (OpenSpec.upto bitmapRoundSpec)

/-- 'sandglasslaw08.BitmapBack', WHERE WHAT IT READS IS OF BULK AT MOST 1048576: true; the input reads as it did. -/
def bitmapBackUptoRow : OpenClaim := { program := "ytlpniacffahnkabdoor", sum := "d544de129d1ae6bdfc2f8e99c3b1ab0bef78ea41723c7c6bae4974cdd49a6165", func := "sandglass/sandglasslaw08.BitmapBack", spec := "bitmapBack", named := ["math/bits.deBruijn64tab"], apart := false, laid := [("math/bits.deBruijn64tab", laid_math_bits_deBruijn64tab)], narrowed := true }
def BitmapBackUptoSaid : Prop := bitmapBackUptoRow.holds Tryd.pinned (OpenSpec.upto bitmapBackSpec)

/-- 'sandglasslaw08.BitmapAll', WHERE WHAT IT READS IS OF BULK AT MOST 1048576: true; the input reads as it did. -/
def bitmapAllUptoRow : OpenClaim := { program := "ytlpniacffahnkabdoor", sum := "d544de129d1ae6bdfc2f8e99c3b1ab0bef78ea41723c7c6bae4974cdd49a6165", func := "sandglass/sandglasslaw08.BitmapAll", spec := "bitmapAll", named := ["math/bits.deBruijn64tab"], apart := false, laid := [("math/bits.deBruijn64tab", laid_math_bits_deBruijn64tab)], narrowed := true }
def BitmapAllUptoSaid : Prop := bitmapAllUptoRow.holds Tryd.pinned (OpenSpec.upto bitmapAllSpec)

/-- 'sandglasslaw08.BitmapNone', WHERE WHAT IT READS IS OF BULK AT MOST 1048576: true; the input reads as it did. -/
def bitmapNoneUptoRow : OpenClaim := { program := "ytlpniacffahnkabdoor", sum := "d544de129d1ae6bdfc2f8e99c3b1ab0bef78ea41723c7c6bae4974cdd49a6165", func := "sandglass/sandglasslaw08.BitmapNone", spec := "bitmapNone", named := ["math/bits.deBruijn64tab"], apart := false, laid := [("math/bits.deBruijn64tab", laid_math_bits_deBruijn64tab)], narrowed := true }
def BitmapNoneUptoSaid : Prop := bitmapNoneUptoRow.holds Tryd.pinned (OpenSpec.upto bitmapNoneSpec)

end Rows
end Go.Proofs.YtlpniacffahnkabDoor
