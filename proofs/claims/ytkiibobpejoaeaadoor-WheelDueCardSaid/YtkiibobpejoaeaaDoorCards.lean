/-
  DERIVED. GIVEN WITH THE SEED: THE CARDS: each row of YtkiibobpejoaeaaDoorRows.lean that lists a variable, with what it lists TIED to the program's text (the seventh form; the later family's looks); each row that meets fmt, with fmt's text TOLD by the authors' own Lean function (tested against real Go, not proved from fmt's source: count such statements apart). THE CARD IS WHAT COUNTS. Prove the row's statement (the work); the ties are given (YtkiibobpejoaeaaDoorTie.lean); close each card by the builder's one call (the guide's Derived/Test/ToyasCard.lean, 'card_holds'). Laid BY PROGRAM, IN A SANDBOX (cutbox-door.mjs). By AI agents, Wed Nov 11 2026. No macro, syntax, notation, axiom, sorry.
-/
import Derived.Test.YtkiibobpejoaeaaDoorRows
import GoSem.ClaimSeven
namespace Go.Proofs.YtkiibobpejoaeaaDoor
namespace Rows

/-- THE TIED CARD OF 'sandglasslaw09.WheelTells'. -/
def wheelTellsCard : Claim7 := { stood := { row := wheelTellsRow, standIns := [], harness := (true, "684f4c9e1eb3bd03669a6af2bc43cc9ad92a72851ebc4a4cdf4717f57bd7f893"), looks := false }, kinds := [], alts := [], laidByText := true, laidKinds := [.data], laidTests := true, laidLooks := .later }
def WheelTellsCardSaid : Prop := Claim7.holds Tryd.pinned (.plain (OpenSpec.ofChange wheelTellsSpec)) wheelTellsCard

/-- THE TIED CARD OF 'sandglasslaw09.WheelDue'. -/
def wheelDueCard : Claim7 := { stood := { row := wheelDueRow, standIns := [], harness := (true, "684f4c9e1eb3bd03669a6af2bc43cc9ad92a72851ebc4a4cdf4717f57bd7f893"), looks := false }, kinds := [], alts := [], laidByText := true, laidKinds := [.data], laidTests := true, laidLooks := .later }
def WheelDueCardSaid : Prop := Claim7.holds Tryd.pinned (.plain (OpenSpec.ofChange wheelDueSpec)) wheelDueCard

/-- THE SECOND FORM's CARD OF 'sandglasslaw09.WheelTells'. -/
def wheelTellsUptoCard : Claim7 := { stood := { row := wheelTellsUptoRow, standIns := [], harness := (true, "684f4c9e1eb3bd03669a6af2bc43cc9ad92a72851ebc4a4cdf4717f57bd7f893"), looks := false }, kinds := [], alts := [], laidByText := true, laidKinds := [.data], laidTests := true, laidLooks := .later }
def WheelTellsUptoCardSaid : Prop := Claim7.holds Tryd.pinned (.plain (OpenSpec.upto wheelTellsSpec)) wheelTellsUptoCard

/-- THE SECOND FORM's CARD OF 'sandglasslaw09.WheelDue'. -/
def wheelDueUptoCard : Claim7 := { stood := { row := wheelDueUptoRow, standIns := [], harness := (true, "684f4c9e1eb3bd03669a6af2bc43cc9ad92a72851ebc4a4cdf4717f57bd7f893"), looks := false }, kinds := [], alts := [], laidByText := true, laidKinds := [.data], laidTests := true, laidLooks := .later }
def WheelDueUptoCardSaid : Prop := Claim7.holds Tryd.pinned (.plain (OpenSpec.upto wheelDueSpec)) wheelDueUptoCard
end Rows
end Go.Proofs.YtkiibobpejoaeaaDoor
