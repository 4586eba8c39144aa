/-
  DERIVED. GIVEN WITH THE SEED: THE CARDS: each row of YtjlbgccffpkmiaaDoorRows.lean that lists a variable, with what it lists TIED to the program's text (the seventh form; the later family's looks); each row that meets fmt, with fmt's text TOLD by the authors' own Lean function (tested against real Go, not proved from fmt's source: count such statements apart). THE CARD IS WHAT COUNTS. Prove the row's statement (the work); the ties are given (YtjlbgccffpkmiaaDoorTie.lean); close each card by the builder's one call (the guide's Derived/Test/ToyasCard.lean, 'card_holds'). Laid BY PROGRAM, IN A SANDBOX (cutbox-door.mjs). By AI agents, Wed Nov 11 2026. No macro, syntax, notation, axiom, sorry.
-/
import Derived.Test.YtjlbgccffpkmiaaDoorRows
import GoSem.ClaimSeven
namespace Go.Proofs.YtjlbgccffpkmiaaDoor
namespace Rows

/-- THE TIED CARD OF 'laws.FnValidTriad'. -/
def fnValidTriadCard : Claim7 := { stood := { row := fnValidTriadRow, standIns := [], harness := (true, "35989c5cd541a4abf0d3794fcd97076975c8d56537122059f1b52db94e579ca8"), looks := false }, kinds := [], alts := [], laidByText := true, laidKinds := [.data], laidTests := true, laidLooks := .later }
def FnValidTriadCardSaid : Prop := Claim7.holds Tryd.pinned (.plain (OpenSpec.ofChange fnValidTriadSpec)) fnValidTriadCard

/-- THE TIED CARD OF 'laws.FnTriadSet'. -/
def fnTriadSetCard : Claim7 := { stood := { row := fnTriadSetRow, standIns := [], harness := (true, "35989c5cd541a4abf0d3794fcd97076975c8d56537122059f1b52db94e579ca8"), looks := false }, kinds := [], alts := [], laidByText := true, laidKinds := [.data], laidTests := true, laidLooks := .later }
def FnTriadSetCardSaid : Prop := Claim7.holds Tryd.pinned (.plain (OpenSpec.ofChange fnTriadSetSpec)) fnTriadSetCard

/-- THE TIED CARD OF 'laws.FnTriadOf'. -/
def fnTriadOfCard : Claim7 := { stood := { row := fnTriadOfRow, standIns := [], harness := (true, "35989c5cd541a4abf0d3794fcd97076975c8d56537122059f1b52db94e579ca8"), looks := false }, kinds := [], alts := [], laidByText := true, laidKinds := [.data], laidTests := true, laidLooks := .later }
def FnTriadOfCardSaid : Prop := Claim7.holds Tryd.pinned (.plain (OpenSpec.ofChange fnTriadOfSpec)) fnTriadOfCard

/-- THE TIED CARD OF 'laws.FnWalkOf'. -/
def fnWalkOfCard : Claim7 := { stood := { row := fnWalkOfRow, standIns := [], harness := (true, "35989c5cd541a4abf0d3794fcd97076975c8d56537122059f1b52db94e579ca8"), looks := false }, kinds := [], alts := [], laidByText := true, laidKinds := [.data], laidTests := true, laidLooks := .later }
def FnWalkOfCardSaid : Prop := Claim7.holds Tryd.pinned (.plain (OpenSpec.ofChange fnWalkOfSpec)) fnWalkOfCard

/-- THE TIED CARD OF 'laws.FnShiftTriad'. -/
def fnShiftTriadCard : Claim7 := { stood := { row := fnShiftTriadRow, standIns := [], harness := (true, "35989c5cd541a4abf0d3794fcd97076975c8d56537122059f1b52db94e579ca8"), looks := false }, kinds := [], alts := [], laidByText := true, laidKinds := [.data], laidTests := true, laidLooks := .later }
def FnShiftTriadCardSaid : Prop := Claim7.holds Tryd.pinned (.plain (OpenSpec.ofChange fnShiftTriadSpec)) fnShiftTriadCard

/-- THE TIED CARD OF 'laws.FnTurnTriad'. -/
def fnTurnTriadCard : Claim7 := { stood := { row := fnTurnTriadRow, standIns := [], harness := (true, "35989c5cd541a4abf0d3794fcd97076975c8d56537122059f1b52db94e579ca8"), looks := false }, kinds := [], alts := [], laidByText := true, laidKinds := [.data], laidTests := true, laidLooks := .later }
def FnTurnTriadCardSaid : Prop := Claim7.holds Tryd.pinned (.plain (OpenSpec.ofChange fnTurnTriadSpec)) fnTurnTriadCard

/-- THE SECOND FORM's CARD OF 'laws.FnValidTriad'. -/
def fnValidTriadUptoCard : Claim7 := { stood := { row := fnValidTriadUptoRow, standIns := [], harness := (true, "35989c5cd541a4abf0d3794fcd97076975c8d56537122059f1b52db94e579ca8"), looks := false }, kinds := [], alts := [], laidByText := true, laidKinds := [.data], laidTests := true, laidLooks := .later }
def FnValidTriadUptoCardSaid : Prop := Claim7.holds Tryd.pinned (.plain (OpenSpec.upto fnValidTriadSpec)) fnValidTriadUptoCard

/-- THE SECOND FORM's CARD OF 'laws.FnTriadSet'. -/
def fnTriadSetUptoCard : Claim7 := { stood := { row := fnTriadSetUptoRow, standIns := [], harness := (true, "35989c5cd541a4abf0d3794fcd97076975c8d56537122059f1b52db94e579ca8"), looks := false }, kinds := [], alts := [], laidByText := true, laidKinds := [.data], laidTests := true, laidLooks := .later }
def FnTriadSetUptoCardSaid : Prop := Claim7.holds Tryd.pinned (.plain (OpenSpec.upto fnTriadSetSpec)) fnTriadSetUptoCard

/-- THE SECOND FORM's CARD OF 'laws.FnTriadOf'. -/
def fnTriadOfUptoCard : Claim7 := { stood := { row := fnTriadOfUptoRow, standIns := [], harness := (true, "35989c5cd541a4abf0d3794fcd97076975c8d56537122059f1b52db94e579ca8"), looks := false }, kinds := [], alts := [], laidByText := true, laidKinds := [.data], laidTests := true, laidLooks := .later }
def FnTriadOfUptoCardSaid : Prop := Claim7.holds Tryd.pinned (.plain (OpenSpec.upto fnTriadOfSpec)) fnTriadOfUptoCard

/-- THE SECOND FORM's CARD OF 'laws.FnWalkOf'. -/
def fnWalkOfUptoCard : Claim7 := { stood := { row := fnWalkOfUptoRow, standIns := [], harness := (true, "35989c5cd541a4abf0d3794fcd97076975c8d56537122059f1b52db94e579ca8"), looks := false }, kinds := [], alts := [], laidByText := true, laidKinds := [.data], laidTests := true, laidLooks := .later }
def FnWalkOfUptoCardSaid : Prop := Claim7.holds Tryd.pinned (.plain (OpenSpec.upto fnWalkOfSpec)) fnWalkOfUptoCard

/-- THE SECOND FORM's CARD OF 'laws.FnShiftTriad'. -/
def fnShiftTriadUptoCard : Claim7 := { stood := { row := fnShiftTriadUptoRow, standIns := [], harness := (true, "35989c5cd541a4abf0d3794fcd97076975c8d56537122059f1b52db94e579ca8"), looks := false }, kinds := [], alts := [], laidByText := true, laidKinds := [.data], laidTests := true, laidLooks := .later }
def FnShiftTriadUptoCardSaid : Prop := Claim7.holds Tryd.pinned (.plain (OpenSpec.upto fnShiftTriadSpec)) fnShiftTriadUptoCard

/-- THE SECOND FORM's CARD OF 'laws.FnTurnTriad'. -/
def fnTurnTriadUptoCard : Claim7 := { stood := { row := fnTurnTriadUptoRow, standIns := [], harness := (true, "35989c5cd541a4abf0d3794fcd97076975c8d56537122059f1b52db94e579ca8"), looks := false }, kinds := [], alts := [], laidByText := true, laidKinds := [.data], laidTests := true, laidLooks := .later }
def FnTurnTriadUptoCardSaid : Prop := Claim7.holds Tryd.pinned (.plain (OpenSpec.upto fnTurnTriadSpec)) fnTurnTriadUptoCard
end Rows
end Go.Proofs.YtjlbgccffpkmiaaDoor
