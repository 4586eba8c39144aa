/-
  DERIVED. GIVEN WITH THE SEED: THE CARDS: each row of YtpcbplademohnaaDoorRows.lean that lists a variable, with what it lists TIED to the program's text (the seventh form; the later family's looks); each row that meets fmt, with fmt's text TOLD by the authors' own Lean function (tested against real Go, not proved from fmt's source: count such statements apart). THE CARD IS WHAT COUNTS. Prove the row's statement (the work); the ties are given (YtpcbplademohnaaDoorTie.lean); close each card by the builder's one call (the guide's Derived/Test/ToyasCard.lean, 'card_holds'). Laid BY PROGRAM, IN A SANDBOX (cutbox-door.mjs). By AI agents, Wed Nov 11 2026. No macro, syntax, notation, axiom, sorry.
-/
import Derived.Test.YtpcbplademohnaaDoorRows
import GoSem.ClaimSeven
namespace Go.Proofs.YtpcbplademohnaaDoor
namespace Rows

/-- THE TIED CARD OF 'laws.FnExactFifthsOf'. -/
def fnExactFifthsOfCard : Claim7 := { stood := { row := fnExactFifthsOfRow, standIns := [], harness := (true, "9cab55061bd53fae077e6f76fb91c91c2b4ebc96e08f82415d6bc1ff274a8932"), looks := false }, kinds := [], alts := [], laidByText := true, laidKinds := [.data], laidTests := true, laidLooks := .later }
def FnExactFifthsOfCardSaid : Prop := Claim7.holds Tryd.pinned (.plain (OpenSpec.ofChange fnExactFifthsOfSpec)) fnExactFifthsOfCard

/-- THE TIED CARD OF 'laws.FnExactGapsBetween'. -/
def fnExactGapsBetweenCard : Claim7 := { stood := { row := fnExactGapsBetweenRow, standIns := [], harness := (true, "9cab55061bd53fae077e6f76fb91c91c2b4ebc96e08f82415d6bc1ff274a8932"), looks := false }, kinds := [], alts := [], laidByText := true, laidKinds := [.data], laidTests := true, laidLooks := .later }
def FnExactGapsBetweenCardSaid : Prop := Claim7.holds Tryd.pinned (.plain (OpenSpec.ofChange fnExactGapsBetweenSpec)) fnExactGapsBetweenCard

/-- THE TIED CARD OF 'laws.FnFifthsOf'. -/
def fnFifthsOfCard : Claim7 := { stood := { row := fnFifthsOfRow, standIns := [], harness := (true, "9cab55061bd53fae077e6f76fb91c91c2b4ebc96e08f82415d6bc1ff274a8932"), looks := false }, kinds := [], alts := [], laidByText := true, laidKinds := [.data, .data], laidTests := true, laidLooks := .later }
def FnFifthsOfCardSaid : Prop := Claim7.holds Tryd.pinned (.plain (OpenSpec.ofChange fnFifthsOfSpec)) fnFifthsOfCard

/-- THE TIED CARD OF 'laws.FnGapsBetween'. -/
def fnGapsBetweenCard : Claim7 := { stood := { row := fnGapsBetweenRow, standIns := [], harness := (true, "9cab55061bd53fae077e6f76fb91c91c2b4ebc96e08f82415d6bc1ff274a8932"), looks := false }, kinds := [], alts := [], laidByText := true, laidKinds := [.data], laidTests := true, laidLooks := .later }
def FnGapsBetweenCardSaid : Prop := Claim7.holds Tryd.pinned (.plain (OpenSpec.ofChange fnGapsBetweenSpec)) fnGapsBetweenCard

/-- THE SECOND FORM's CARD OF 'laws.FnExactFifthsOf'. -/
def fnExactFifthsOfUptoCard : Claim7 := { stood := { row := fnExactFifthsOfUptoRow, standIns := [], harness := (true, "9cab55061bd53fae077e6f76fb91c91c2b4ebc96e08f82415d6bc1ff274a8932"), looks := false }, kinds := [], alts := [], laidByText := true, laidKinds := [.data], laidTests := true, laidLooks := .later }
def FnExactFifthsOfUptoCardSaid : Prop := Claim7.holds Tryd.pinned (.plain (OpenSpec.upto fnExactFifthsOfSpec)) fnExactFifthsOfUptoCard

/-- THE SECOND FORM's CARD OF 'laws.FnExactGapsBetween'. -/
def fnExactGapsBetweenUptoCard : Claim7 := { stood := { row := fnExactGapsBetweenUptoRow, standIns := [], harness := (true, "9cab55061bd53fae077e6f76fb91c91c2b4ebc96e08f82415d6bc1ff274a8932"), looks := false }, kinds := [], alts := [], laidByText := true, laidKinds := [.data], laidTests := true, laidLooks := .later }
def FnExactGapsBetweenUptoCardSaid : Prop := Claim7.holds Tryd.pinned (.plain (OpenSpec.upto fnExactGapsBetweenSpec)) fnExactGapsBetweenUptoCard

/-- THE SECOND FORM's CARD OF 'laws.FnFifthsOf'. -/
def fnFifthsOfUptoCard : Claim7 := { stood := { row := fnFifthsOfUptoRow, standIns := [], harness := (true, "9cab55061bd53fae077e6f76fb91c91c2b4ebc96e08f82415d6bc1ff274a8932"), looks := false }, kinds := [], alts := [], laidByText := true, laidKinds := [.data, .data], laidTests := true, laidLooks := .later }
def FnFifthsOfUptoCardSaid : Prop := Claim7.holds Tryd.pinned (.plain (OpenSpec.upto fnFifthsOfSpec)) fnFifthsOfUptoCard

/-- THE SECOND FORM's CARD OF 'laws.FnGapsBetween'. -/
def fnGapsBetweenUptoCard : Claim7 := { stood := { row := fnGapsBetweenUptoRow, standIns := [], harness := (true, "9cab55061bd53fae077e6f76fb91c91c2b4ebc96e08f82415d6bc1ff274a8932"), looks := false }, kinds := [], alts := [], laidByText := true, laidKinds := [.data], laidTests := true, laidLooks := .later }
def FnGapsBetweenUptoCardSaid : Prop := Claim7.holds Tryd.pinned (.plain (OpenSpec.upto fnGapsBetweenSpec)) fnGapsBetweenUptoCard
end Rows
end Go.Proofs.YtpcbplademohnaaDoor
