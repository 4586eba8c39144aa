/-
  DERIVED. GIVEN WITH THE SEED: THE CARDS: each row of YtclcljkaeloagaaDoorRows.lean that lists a variable, with what it lists TIED to the program's text (the seventh form; the later family's looks); each row that meets fmt, with fmt's text TOLD by the authors' own Lean function (tested against real Go, not proved from fmt's source: count such statements apart). THE CARD IS WHAT COUNTS. Prove the row's statement (the work); the ties are given (YtclcljkaeloagaaDoorTie.lean); close each card by the builder's one call (the guide's Derived/Test/ToyasCard.lean, 'card_holds'). Laid BY PROGRAM, IN A SANDBOX (cutbox-door.mjs). By AI agents, Wed Nov 11 2026. No macro, syntax, notation, axiom, sorry.
-/
import Derived.Test.YtclcljkaeloagaaDoorRows
import GoSem.ClaimSeven
namespace Go.Proofs.YtclcljkaeloagaaDoor
namespace Rows

/-- THE TIED CARD OF 'laws.FnExactTriadSet'. -/
def fnExactTriadSetCard : Claim7 := { stood := { row := fnExactTriadSetRow, standIns := [], harness := (true, "7fa79b0b84b12aeb2eba3159e5c38c077a77a2dc7259f44ce2eca39b3765d2db"), looks := false }, kinds := [], alts := [], laidByText := true, laidKinds := [.data], laidTests := true, laidLooks := .later }
def FnExactTriadSetCardSaid : Prop := Claim7.holds Tryd.pinned (.plain (OpenSpec.ofChange fnExactTriadSetSpec)) fnExactTriadSetCard

/-- THE TIED CARD OF 'laws.FnExactTriadOf'. -/
def fnExactTriadOfCard : Claim7 := { stood := { row := fnExactTriadOfRow, standIns := [], harness := (true, "7fa79b0b84b12aeb2eba3159e5c38c077a77a2dc7259f44ce2eca39b3765d2db"), looks := false }, kinds := [], alts := [], laidByText := true, laidKinds := [.data], laidTests := true, laidLooks := .later }
def FnExactTriadOfCardSaid : Prop := Claim7.holds Tryd.pinned (.plain (OpenSpec.ofChange fnExactTriadOfSpec)) fnExactTriadOfCard

/-- THE TIED CARD OF 'laws.FnExactTurnTriad'. -/
def fnExactTurnTriadCard : Claim7 := { stood := { row := fnExactTurnTriadRow, standIns := [], harness := (true, "7fa79b0b84b12aeb2eba3159e5c38c077a77a2dc7259f44ce2eca39b3765d2db"), looks := false }, kinds := [], alts := [], laidByText := true, laidKinds := [.data], laidTests := true, laidLooks := .later }
def FnExactTurnTriadCardSaid : Prop := Claim7.holds Tryd.pinned (.plain (OpenSpec.ofChange fnExactTurnTriadSpec)) fnExactTurnTriadCard

/-- THE TIED CARD OF 'laws.FnExactTriadsIn'. -/
def fnExactTriadsInCard : Claim7 := { stood := { row := fnExactTriadsInRow, standIns := [], harness := (true, "7fa79b0b84b12aeb2eba3159e5c38c077a77a2dc7259f44ce2eca39b3765d2db"), looks := false }, kinds := [], alts := [], laidByText := true, laidKinds := [.data], laidTests := true, laidLooks := .later }
def FnExactTriadsInCardSaid : Prop := Claim7.holds Tryd.pinned (.plain (OpenSpec.ofChange fnExactTriadsInSpec)) fnExactTriadsInCard

/-- THE SECOND FORM's CARD OF 'laws.FnExactTriadSet'. -/
def fnExactTriadSetUptoCard : Claim7 := { stood := { row := fnExactTriadSetUptoRow, standIns := [], harness := (true, "7fa79b0b84b12aeb2eba3159e5c38c077a77a2dc7259f44ce2eca39b3765d2db"), looks := false }, kinds := [], alts := [], laidByText := true, laidKinds := [.data], laidTests := true, laidLooks := .later }
def FnExactTriadSetUptoCardSaid : Prop := Claim7.holds Tryd.pinned (.plain (OpenSpec.upto fnExactTriadSetSpec)) fnExactTriadSetUptoCard

/-- THE SECOND FORM's CARD OF 'laws.FnExactTriadOf'. -/
def fnExactTriadOfUptoCard : Claim7 := { stood := { row := fnExactTriadOfUptoRow, standIns := [], harness := (true, "7fa79b0b84b12aeb2eba3159e5c38c077a77a2dc7259f44ce2eca39b3765d2db"), looks := false }, kinds := [], alts := [], laidByText := true, laidKinds := [.data], laidTests := true, laidLooks := .later }
def FnExactTriadOfUptoCardSaid : Prop := Claim7.holds Tryd.pinned (.plain (OpenSpec.upto fnExactTriadOfSpec)) fnExactTriadOfUptoCard

/-- THE SECOND FORM's CARD OF 'laws.FnExactTurnTriad'. -/
def fnExactTurnTriadUptoCard : Claim7 := { stood := { row := fnExactTurnTriadUptoRow, standIns := [], harness := (true, "7fa79b0b84b12aeb2eba3159e5c38c077a77a2dc7259f44ce2eca39b3765d2db"), looks := false }, kinds := [], alts := [], laidByText := true, laidKinds := [.data], laidTests := true, laidLooks := .later }
def FnExactTurnTriadUptoCardSaid : Prop := Claim7.holds Tryd.pinned (.plain (OpenSpec.upto fnExactTurnTriadSpec)) fnExactTurnTriadUptoCard

/-- THE SECOND FORM's CARD OF 'laws.FnExactTriadsIn'. -/
def fnExactTriadsInUptoCard : Claim7 := { stood := { row := fnExactTriadsInUptoRow, standIns := [], harness := (true, "7fa79b0b84b12aeb2eba3159e5c38c077a77a2dc7259f44ce2eca39b3765d2db"), looks := false }, kinds := [], alts := [], laidByText := true, laidKinds := [.data], laidTests := true, laidLooks := .later }
def FnExactTriadsInUptoCardSaid : Prop := Claim7.holds Tryd.pinned (.plain (OpenSpec.upto fnExactTriadsInSpec)) fnExactTriadsInUptoCard
end Rows
end Go.Proofs.YtclcljkaeloagaaDoor
