/-
  DERIVED. GIVEN WITH THE SEED: THE CARDS: each row of YtfchideohinifaaDoorRows.lean that lists a variable, with what it lists TIED to the program's text (the seventh form; the later family's looks); each row that meets fmt, with fmt's text TOLD by the authors' own Lean function (tested against real Go, not proved from fmt's source: count such statements apart). THE CARD IS WHAT COUNTS. Prove the row's statement (the work); the ties are given (YtfchideohinifaaDoorTie.lean); close each card by the builder's one call (the guide's Derived/Test/ToyasCard.lean, 'card_holds'). Laid BY PROGRAM, IN A SANDBOX (cutbox-door.mjs). By AI agents, Wed Nov 11 2026. No macro, syntax, notation, axiom, sorry.
-/
import Derived.Test.YtfchideohinifaaDoorRows
import GoSem.ClaimSeven
namespace Go.Proofs.YtfchideohinifaaDoor
namespace Rows

/-- THE TIED CARD OF 'laws.FnExactRatioOf'. -/
def fnExactRatioOfCard : Claim7 := { stood := { row := fnExactRatioOfRow, standIns := [], harness := (true, "966133101a5e0b83699289ba9c3012961bbc8b626977a8129f1abf96f55c36a1"), looks := false }, kinds := [], alts := [], laidByText := true, laidKinds := [.data, .data], laidTests := true, laidLooks := .later }
def FnExactRatioOfCardSaid : Prop := Claim7.holds Tryd.pinned (.plain (OpenSpec.ofChange fnExactRatioOfSpec)) fnExactRatioOfCard

/-- THE TIED CARD OF 'laws.FnExactPowersOf'. -/
def fnExactPowersOfCard : Claim7 := { stood := { row := fnExactPowersOfRow, standIns := [], harness := (true, "966133101a5e0b83699289ba9c3012961bbc8b626977a8129f1abf96f55c36a1"), looks := false }, kinds := [], alts := [], laidByText := true, laidKinds := [.data, .data], laidTests := true, laidLooks := .later }
def FnExactPowersOfCardSaid : Prop := Claim7.holds Tryd.pinned (.plain (OpenSpec.ofChange fnExactPowersOfSpec)) fnExactPowersOfCard

/-- THE TIED CARD OF 'laws.FnExactIntoOctave'. -/
def fnExactIntoOctaveCard : Claim7 := { stood := { row := fnExactIntoOctaveRow, standIns := [], harness := (true, "966133101a5e0b83699289ba9c3012961bbc8b626977a8129f1abf96f55c36a1"), looks := false }, kinds := [], alts := [], laidByText := true, laidKinds := [.data, .data], laidTests := true, laidLooks := .later }
def FnExactIntoOctaveCardSaid : Prop := Claim7.holds Tryd.pinned (.plain (OpenSpec.ofChange fnExactIntoOctaveSpec)) fnExactIntoOctaveCard

/-- THE TIED CARD OF 'laws.FnExactStepsBy'. -/
def fnExactStepsByCard : Claim7 := { stood := { row := fnExactStepsByRow, standIns := [], harness := (true, "966133101a5e0b83699289ba9c3012961bbc8b626977a8129f1abf96f55c36a1"), looks := false }, kinds := [], alts := [], laidByText := true, laidKinds := [.data], laidTests := true, laidLooks := .later }
def FnExactStepsByCardSaid : Prop := Claim7.holds Tryd.pinned (.plain (OpenSpec.ofChange fnExactStepsBySpec)) fnExactStepsByCard

/-- THE TIED CARD OF 'laws.FnExactLeftOf'. -/
def fnExactLeftOfCard : Claim7 := { stood := { row := fnExactLeftOfRow, standIns := [], harness := (true, "966133101a5e0b83699289ba9c3012961bbc8b626977a8129f1abf96f55c36a1"), looks := false }, kinds := [], alts := [], laidByText := true, laidKinds := [.data], laidTests := true, laidLooks := .later }
def FnExactLeftOfCardSaid : Prop := Claim7.holds Tryd.pinned (.plain (OpenSpec.ofChange fnExactLeftOfSpec)) fnExactLeftOfCard

/-- THE TIED CARD OF 'laws.FnExactBestTones'. -/
def fnExactBestTonesCard : Claim7 := { stood := { row := fnExactBestTonesRow, standIns := [], harness := (true, "966133101a5e0b83699289ba9c3012961bbc8b626977a8129f1abf96f55c36a1"), looks := false }, kinds := [], alts := [], laidByText := true, laidKinds := [.data], laidTests := true, laidLooks := .later }
def FnExactBestTonesCardSaid : Prop := Claim7.holds Tryd.pinned (.plain (OpenSpec.ofChange fnExactBestTonesSpec)) fnExactBestTonesCard

/-- THE TIED CARD OF 'laws.FnExactFifthsOf'. -/
def fnExactFifthsOfCard : Claim7 := { stood := { row := fnExactFifthsOfRow, standIns := [], harness := (true, "966133101a5e0b83699289ba9c3012961bbc8b626977a8129f1abf96f55c36a1"), looks := false }, kinds := [], alts := [], laidByText := true, laidKinds := [.data], laidTests := true, laidLooks := .later }
def FnExactFifthsOfCardSaid : Prop := Claim7.holds Tryd.pinned (.plain (OpenSpec.ofChange fnExactFifthsOfSpec)) fnExactFifthsOfCard

/-- THE TIED CARD OF 'laws.FnExactGapsBetween'. -/
def fnExactGapsBetweenCard : Claim7 := { stood := { row := fnExactGapsBetweenRow, standIns := [], harness := (true, "966133101a5e0b83699289ba9c3012961bbc8b626977a8129f1abf96f55c36a1"), looks := false }, kinds := [], alts := [], laidByText := true, laidKinds := [.data], laidTests := true, laidLooks := .later }
def FnExactGapsBetweenCardSaid : Prop := Claim7.holds Tryd.pinned (.plain (OpenSpec.ofChange fnExactGapsBetweenSpec)) fnExactGapsBetweenCard

/-- THE SECOND FORM's CARD OF 'laws.FnExactRatioOf'. -/
def fnExactRatioOfUptoCard : Claim7 := { stood := { row := fnExactRatioOfUptoRow, standIns := [], harness := (true, "966133101a5e0b83699289ba9c3012961bbc8b626977a8129f1abf96f55c36a1"), looks := false }, kinds := [], alts := [], laidByText := true, laidKinds := [.data, .data], laidTests := true, laidLooks := .later }
def FnExactRatioOfUptoCardSaid : Prop := Claim7.holds Tryd.pinned (.plain (OpenSpec.upto fnExactRatioOfSpec)) fnExactRatioOfUptoCard

/-- THE SECOND FORM's CARD OF 'laws.FnExactPowersOf'. -/
def fnExactPowersOfUptoCard : Claim7 := { stood := { row := fnExactPowersOfUptoRow, standIns := [], harness := (true, "966133101a5e0b83699289ba9c3012961bbc8b626977a8129f1abf96f55c36a1"), looks := false }, kinds := [], alts := [], laidByText := true, laidKinds := [.data, .data], laidTests := true, laidLooks := .later }
def FnExactPowersOfUptoCardSaid : Prop := Claim7.holds Tryd.pinned (.plain (OpenSpec.upto fnExactPowersOfSpec)) fnExactPowersOfUptoCard

/-- THE SECOND FORM's CARD OF 'laws.FnExactIntoOctave'. -/
def fnExactIntoOctaveUptoCard : Claim7 := { stood := { row := fnExactIntoOctaveUptoRow, standIns := [], harness := (true, "966133101a5e0b83699289ba9c3012961bbc8b626977a8129f1abf96f55c36a1"), looks := false }, kinds := [], alts := [], laidByText := true, laidKinds := [.data, .data], laidTests := true, laidLooks := .later }
def FnExactIntoOctaveUptoCardSaid : Prop := Claim7.holds Tryd.pinned (.plain (OpenSpec.upto fnExactIntoOctaveSpec)) fnExactIntoOctaveUptoCard

/-- THE SECOND FORM's CARD OF 'laws.FnExactStepsBy'. -/
def fnExactStepsByUptoCard : Claim7 := { stood := { row := fnExactStepsByUptoRow, standIns := [], harness := (true, "966133101a5e0b83699289ba9c3012961bbc8b626977a8129f1abf96f55c36a1"), looks := false }, kinds := [], alts := [], laidByText := true, laidKinds := [.data], laidTests := true, laidLooks := .later }
def FnExactStepsByUptoCardSaid : Prop := Claim7.holds Tryd.pinned (.plain (OpenSpec.upto fnExactStepsBySpec)) fnExactStepsByUptoCard

/-- THE SECOND FORM's CARD OF 'laws.FnExactLeftOf'. -/
def fnExactLeftOfUptoCard : Claim7 := { stood := { row := fnExactLeftOfUptoRow, standIns := [], harness := (true, "966133101a5e0b83699289ba9c3012961bbc8b626977a8129f1abf96f55c36a1"), looks := false }, kinds := [], alts := [], laidByText := true, laidKinds := [.data], laidTests := true, laidLooks := .later }
def FnExactLeftOfUptoCardSaid : Prop := Claim7.holds Tryd.pinned (.plain (OpenSpec.upto fnExactLeftOfSpec)) fnExactLeftOfUptoCard

/-- THE SECOND FORM's CARD OF 'laws.FnExactBestTones'. -/
def fnExactBestTonesUptoCard : Claim7 := { stood := { row := fnExactBestTonesUptoRow, standIns := [], harness := (true, "966133101a5e0b83699289ba9c3012961bbc8b626977a8129f1abf96f55c36a1"), looks := false }, kinds := [], alts := [], laidByText := true, laidKinds := [.data], laidTests := true, laidLooks := .later }
def FnExactBestTonesUptoCardSaid : Prop := Claim7.holds Tryd.pinned (.plain (OpenSpec.upto fnExactBestTonesSpec)) fnExactBestTonesUptoCard

/-- THE SECOND FORM's CARD OF 'laws.FnExactFifthsOf'. -/
def fnExactFifthsOfUptoCard : Claim7 := { stood := { row := fnExactFifthsOfUptoRow, standIns := [], harness := (true, "966133101a5e0b83699289ba9c3012961bbc8b626977a8129f1abf96f55c36a1"), looks := false }, kinds := [], alts := [], laidByText := true, laidKinds := [.data], laidTests := true, laidLooks := .later }
def FnExactFifthsOfUptoCardSaid : Prop := Claim7.holds Tryd.pinned (.plain (OpenSpec.upto fnExactFifthsOfSpec)) fnExactFifthsOfUptoCard

/-- THE SECOND FORM's CARD OF 'laws.FnExactGapsBetween'. -/
def fnExactGapsBetweenUptoCard : Claim7 := { stood := { row := fnExactGapsBetweenUptoRow, standIns := [], harness := (true, "966133101a5e0b83699289ba9c3012961bbc8b626977a8129f1abf96f55c36a1"), looks := false }, kinds := [], alts := [], laidByText := true, laidKinds := [.data], laidTests := true, laidLooks := .later }
def FnExactGapsBetweenUptoCardSaid : Prop := Claim7.holds Tryd.pinned (.plain (OpenSpec.upto fnExactGapsBetweenSpec)) fnExactGapsBetweenUptoCard
end Rows
end Go.Proofs.YtfchideohinifaaDoor
