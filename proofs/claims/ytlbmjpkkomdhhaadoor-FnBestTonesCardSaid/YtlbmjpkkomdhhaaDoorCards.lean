/-
  DERIVED. GIVEN WITH THE SEED: THE CARDS: each row of YtlbmjpkkomdhhaaDoorRows.lean that lists a variable, with what it lists TIED to the program's text (the seventh form; the later family's looks); each row that meets fmt, with fmt's text TOLD by the authors' own Lean function (tested against real Go, not proved from fmt's source: count such statements apart). THE CARD IS WHAT COUNTS. Prove the row's statement (the work); the ties are given (YtlbmjpkkomdhhaaDoorTie.lean); close each card by the builder's one call (the guide's Derived/Test/ToyasCard.lean, 'card_holds'). Laid BY PROGRAM, IN A SANDBOX (cutbox-door.mjs). By AI agents, Wed Nov 11 2026. No macro, syntax, notation, axiom, sorry.
-/
import Derived.Test.YtlbmjpkkomdhhaaDoorRows
import GoSem.ClaimSeven
namespace Go.Proofs.YtlbmjpkkomdhhaaDoor
namespace Rows

/-- THE TIED CARD OF 'laws.FnRatioOf'. -/
def fnRatioOfCard : Claim7 := { stood := { row := fnRatioOfRow, standIns := [], harness := (true, "e3e37c2ec6b82b1ab4700f4acd14fccaf3eeb44d413d4fe26e74c102d69c7494"), looks := false }, kinds := [], alts := [], laidByText := true, laidKinds := [.data, .data], laidTests := true, laidLooks := .later }
def FnRatioOfCardSaid : Prop := Claim7.holds Tryd.pinned (.plain (OpenSpec.ofChange fnRatioOfSpec)) fnRatioOfCard

/-- THE TIED CARD OF 'laws.FnPowersOf'. -/
def fnPowersOfCard : Claim7 := { stood := { row := fnPowersOfRow, standIns := [], harness := (true, "e3e37c2ec6b82b1ab4700f4acd14fccaf3eeb44d413d4fe26e74c102d69c7494"), looks := false }, kinds := [], alts := [], laidByText := true, laidKinds := [.data, .data], laidTests := true, laidLooks := .later }
def FnPowersOfCardSaid : Prop := Claim7.holds Tryd.pinned (.plain (OpenSpec.ofChange fnPowersOfSpec)) fnPowersOfCard

/-- THE TIED CARD OF 'laws.FnIntoOctave'. -/
def fnIntoOctaveCard : Claim7 := { stood := { row := fnIntoOctaveRow, standIns := [], harness := (true, "e3e37c2ec6b82b1ab4700f4acd14fccaf3eeb44d413d4fe26e74c102d69c7494"), looks := false }, kinds := [], alts := [], laidByText := true, laidKinds := [.data, .data], laidTests := true, laidLooks := .later }
def FnIntoOctaveCardSaid : Prop := Claim7.holds Tryd.pinned (.plain (OpenSpec.ofChange fnIntoOctaveSpec)) fnIntoOctaveCard

/-- THE TIED CARD OF 'laws.FnStepsBy'. -/
def fnStepsByCard : Claim7 := { stood := { row := fnStepsByRow, standIns := [], harness := (true, "e3e37c2ec6b82b1ab4700f4acd14fccaf3eeb44d413d4fe26e74c102d69c7494"), looks := false }, kinds := [], alts := [], laidByText := true, laidKinds := [.data], laidTests := true, laidLooks := .later }
def FnStepsByCardSaid : Prop := Claim7.holds Tryd.pinned (.plain (OpenSpec.ofChange fnStepsBySpec)) fnStepsByCard

/-- THE TIED CARD OF 'laws.FnLeftOf'. -/
def fnLeftOfCard : Claim7 := { stood := { row := fnLeftOfRow, standIns := [], harness := (true, "e3e37c2ec6b82b1ab4700f4acd14fccaf3eeb44d413d4fe26e74c102d69c7494"), looks := false }, kinds := [], alts := [], laidByText := true, laidKinds := [.data], laidTests := true, laidLooks := .later }
def FnLeftOfCardSaid : Prop := Claim7.holds Tryd.pinned (.plain (OpenSpec.ofChange fnLeftOfSpec)) fnLeftOfCard

/-- THE TIED CARD OF 'laws.FnBestTones'. -/
def fnBestTonesCard : Claim7 := { stood := { row := fnBestTonesRow, standIns := [], harness := (true, "e3e37c2ec6b82b1ab4700f4acd14fccaf3eeb44d413d4fe26e74c102d69c7494"), looks := false }, kinds := [], alts := [], laidByText := true, laidKinds := [.data], laidTests := true, laidLooks := .later }
def FnBestTonesCardSaid : Prop := Claim7.holds Tryd.pinned (.plain (OpenSpec.ofChange fnBestTonesSpec)) fnBestTonesCard

/-- THE TIED CARD OF 'laws.FnFifthsOf'. -/
def fnFifthsOfCard : Claim7 := { stood := { row := fnFifthsOfRow, standIns := [], harness := (true, "e3e37c2ec6b82b1ab4700f4acd14fccaf3eeb44d413d4fe26e74c102d69c7494"), looks := false }, kinds := [], alts := [], laidByText := true, laidKinds := [.data, .data], laidTests := true, laidLooks := .later }
def FnFifthsOfCardSaid : Prop := Claim7.holds Tryd.pinned (.plain (OpenSpec.ofChange fnFifthsOfSpec)) fnFifthsOfCard

/-- THE TIED CARD OF 'laws.FnGapsBetween'. -/
def fnGapsBetweenCard : Claim7 := { stood := { row := fnGapsBetweenRow, standIns := [], harness := (true, "e3e37c2ec6b82b1ab4700f4acd14fccaf3eeb44d413d4fe26e74c102d69c7494"), looks := false }, kinds := [], alts := [], laidByText := true, laidKinds := [.data], laidTests := true, laidLooks := .later }
def FnGapsBetweenCardSaid : Prop := Claim7.holds Tryd.pinned (.plain (OpenSpec.ofChange fnGapsBetweenSpec)) fnGapsBetweenCard

/-- THE SECOND FORM's CARD OF 'laws.FnRatioOf'. -/
def fnRatioOfUptoCard : Claim7 := { stood := { row := fnRatioOfUptoRow, standIns := [], harness := (true, "e3e37c2ec6b82b1ab4700f4acd14fccaf3eeb44d413d4fe26e74c102d69c7494"), looks := false }, kinds := [], alts := [], laidByText := true, laidKinds := [.data, .data], laidTests := true, laidLooks := .later }
def FnRatioOfUptoCardSaid : Prop := Claim7.holds Tryd.pinned (.plain (OpenSpec.upto fnRatioOfSpec)) fnRatioOfUptoCard

/-- THE SECOND FORM's CARD OF 'laws.FnPowersOf'. -/
def fnPowersOfUptoCard : Claim7 := { stood := { row := fnPowersOfUptoRow, standIns := [], harness := (true, "e3e37c2ec6b82b1ab4700f4acd14fccaf3eeb44d413d4fe26e74c102d69c7494"), looks := false }, kinds := [], alts := [], laidByText := true, laidKinds := [.data, .data], laidTests := true, laidLooks := .later }
def FnPowersOfUptoCardSaid : Prop := Claim7.holds Tryd.pinned (.plain (OpenSpec.upto fnPowersOfSpec)) fnPowersOfUptoCard

/-- THE SECOND FORM's CARD OF 'laws.FnIntoOctave'. -/
def fnIntoOctaveUptoCard : Claim7 := { stood := { row := fnIntoOctaveUptoRow, standIns := [], harness := (true, "e3e37c2ec6b82b1ab4700f4acd14fccaf3eeb44d413d4fe26e74c102d69c7494"), looks := false }, kinds := [], alts := [], laidByText := true, laidKinds := [.data, .data], laidTests := true, laidLooks := .later }
def FnIntoOctaveUptoCardSaid : Prop := Claim7.holds Tryd.pinned (.plain (OpenSpec.upto fnIntoOctaveSpec)) fnIntoOctaveUptoCard

/-- THE SECOND FORM's CARD OF 'laws.FnStepsBy'. -/
def fnStepsByUptoCard : Claim7 := { stood := { row := fnStepsByUptoRow, standIns := [], harness := (true, "e3e37c2ec6b82b1ab4700f4acd14fccaf3eeb44d413d4fe26e74c102d69c7494"), looks := false }, kinds := [], alts := [], laidByText := true, laidKinds := [.data], laidTests := true, laidLooks := .later }
def FnStepsByUptoCardSaid : Prop := Claim7.holds Tryd.pinned (.plain (OpenSpec.upto fnStepsBySpec)) fnStepsByUptoCard

/-- THE SECOND FORM's CARD OF 'laws.FnLeftOf'. -/
def fnLeftOfUptoCard : Claim7 := { stood := { row := fnLeftOfUptoRow, standIns := [], harness := (true, "e3e37c2ec6b82b1ab4700f4acd14fccaf3eeb44d413d4fe26e74c102d69c7494"), looks := false }, kinds := [], alts := [], laidByText := true, laidKinds := [.data], laidTests := true, laidLooks := .later }
def FnLeftOfUptoCardSaid : Prop := Claim7.holds Tryd.pinned (.plain (OpenSpec.upto fnLeftOfSpec)) fnLeftOfUptoCard

/-- THE SECOND FORM's CARD OF 'laws.FnBestTones'. -/
def fnBestTonesUptoCard : Claim7 := { stood := { row := fnBestTonesUptoRow, standIns := [], harness := (true, "e3e37c2ec6b82b1ab4700f4acd14fccaf3eeb44d413d4fe26e74c102d69c7494"), looks := false }, kinds := [], alts := [], laidByText := true, laidKinds := [.data], laidTests := true, laidLooks := .later }
def FnBestTonesUptoCardSaid : Prop := Claim7.holds Tryd.pinned (.plain (OpenSpec.upto fnBestTonesSpec)) fnBestTonesUptoCard

/-- THE SECOND FORM's CARD OF 'laws.FnFifthsOf'. -/
def fnFifthsOfUptoCard : Claim7 := { stood := { row := fnFifthsOfUptoRow, standIns := [], harness := (true, "e3e37c2ec6b82b1ab4700f4acd14fccaf3eeb44d413d4fe26e74c102d69c7494"), looks := false }, kinds := [], alts := [], laidByText := true, laidKinds := [.data, .data], laidTests := true, laidLooks := .later }
def FnFifthsOfUptoCardSaid : Prop := Claim7.holds Tryd.pinned (.plain (OpenSpec.upto fnFifthsOfSpec)) fnFifthsOfUptoCard

/-- THE SECOND FORM's CARD OF 'laws.FnGapsBetween'. -/
def fnGapsBetweenUptoCard : Claim7 := { stood := { row := fnGapsBetweenUptoRow, standIns := [], harness := (true, "e3e37c2ec6b82b1ab4700f4acd14fccaf3eeb44d413d4fe26e74c102d69c7494"), looks := false }, kinds := [], alts := [], laidByText := true, laidKinds := [.data], laidTests := true, laidLooks := .later }
def FnGapsBetweenUptoCardSaid : Prop := Claim7.holds Tryd.pinned (.plain (OpenSpec.upto fnGapsBetweenSpec)) fnGapsBetweenUptoCard
end Rows
end Go.Proofs.YtlbmjpkkomdhhaaDoor
