/-
  DERIVED. GIVEN WITH THE SEED: THE CARDS: each row of YtgjfgmjgndcccaaDoorRows.lean that lists a variable, with what it lists TIED to the program's text (the seventh form; the later family's looks); each row that meets fmt, with fmt's text TOLD by the authors' own Lean function (tested against real Go, not proved from fmt's source: count such statements apart). THE CARD IS WHAT COUNTS. Prove the row's statement (the work); the ties are given (YtgjfgmjgndcccaaDoorTie.lean); close each card by the builder's one call (the guide's Derived/Test/ToyasCard.lean, 'card_holds'). Laid BY PROGRAM, IN A SANDBOX (cutbox-door.mjs). By AI agents, Wed Nov 11 2026. No macro, syntax, notation, axiom, sorry.
-/
import Derived.Test.YtgjfgmjgndcccaaDoorRows
import GoSem.ClaimSeven
namespace Go.Proofs.YtgjfgmjgndcccaaDoor
namespace Rows

/-- THE TIED CARD OF 'laws.FnTriadsIn'. -/
def fnTriadsInCard : Claim7 := { stood := { row := fnTriadsInRow, standIns := [], harness := (true, "729ea0a8627c68fc22d98e9df57c556ebeff17de15fca8914fda691e6a35b31c"), looks := false }, kinds := [], alts := [], laidByText := true, laidKinds := [.data], laidTests := true, laidLooks := .later }
def FnTriadsInCardSaid : Prop := Claim7.holds Tryd.pinned (.plain (OpenSpec.ofChange fnTriadsInSpec)) fnTriadsInCard

/-- THE SECOND FORM's CARD OF 'laws.FnTriadsIn'. -/
def fnTriadsInUptoCard : Claim7 := { stood := { row := fnTriadsInUptoRow, standIns := [], harness := (true, "729ea0a8627c68fc22d98e9df57c556ebeff17de15fca8914fda691e6a35b31c"), looks := false }, kinds := [], alts := [], laidByText := true, laidKinds := [.data], laidTests := true, laidLooks := .later }
def FnTriadsInUptoCardSaid : Prop := Claim7.holds Tryd.pinned (.plain (OpenSpec.upto fnTriadsInSpec)) fnTriadsInUptoCard
end Rows
end Go.Proofs.YtgjfgmjgndcccaaDoor
