/-
  No cell of these rows narrows 'for every input' (looked for: loops, veiled, ifaces, maps, wideKeys, modest, calm, conditions, laid).
  DERIVED. THE GIVEN ROWS OF THIS SEAT. 9 by the template 'for every input the law returns true; each argument reads behind the call as it read before'; 0 by the template 'total and deterministic' (their statements: YtjppinifaiebdaaTotals.lean).
  GIVEN WITH THE SEED: the statements are not yours to turn. If you find one false, say at which input.
  Laid BY PROGRAM, IN A SANDBOX (cutbox-rows.mjs): the forced cells as the released guide's own fill.sh prints them over the translation 6d67a5bd14a1bd87… (all of the seat's roots in one cut). By AI agents, Wed Nov 11 2026. No macro, syntax, notation, axiom, sorry.
-/
import Derived.Test.YtjppinifaiebdaaChecked
import GoSem.Claim
import GoSem.ClaimJoined
import GoSem.ClaimMapViews
import Derived.JoinedTies
import Derived.KernelRfl
namespace Go.Proofs.Ytjppinifaiebdaa
/- THE CELL 'sum', in the pinned program and in every row, IS THE sha256 OF THE DUMP (.gsa) THAT YtjppinifaiebdaaProg.lean LOADS. Nothing in Lean hashes anything: it is a label: what it is worth is what the hold of that sum in a sandbox is worth. -/
noncomputable def Try.pinned : Pinned := { name := "ytjppinifaiebdaa", sum := "6d67a5bd14a1bd87637d9eb6618bf839ccbe2f87eebe206db9fdddd62b17894f", checked := Try.checked }
namespace Rows
def none {H : Type} : Left H := { results := [], args := [] }

/-- 'laws.FnShiftSet': WHATEVER THE INPUT: true; the input reads as it did. -/
def fnShiftSetSpec : ChangeSpec := { name := "fnShiftSet", fn := fun _ => fun
  | [d] => { results := [.lit (.bool true)], args := [d] }
  | _ => none }
def fnShiftSetRow : OpenClaim := { program := "ytjppinifaiebdaa", sum := "6d67a5bd14a1bd87637d9eb6618bf839ccbe2f87eebe206db9fdddd62b17894f", func := "loop.example/tonesincircles/laws.FnShiftSet", spec := "fnShiftSet", apart := false }
def FnShiftSetSaid : Prop := fnShiftSetRow.holds Try.pinned (OpenSpec.ofChange fnShiftSetSpec)

/-- ITS FALSE NEIGHBOUR: 'it returns false'. Refute it at one input. -/
def fnShiftSetWrong : ChangeSpec := { name := "fnShiftSet", fn := fun _ => fun
  | [d] => { results := [.lit (.bool false)], args := [d] }
  | _ => none }
def FnShiftSetWrongFalsely : Prop := fnShiftSetRow.holds Try.pinned (OpenSpec.ofChange fnShiftSetWrong)

/-- 'laws.FnTurnSet': WHATEVER THE INPUT: true; the input reads as it did. -/
def fnTurnSetSpec : ChangeSpec := { name := "fnTurnSet", fn := fun _ => fun
  | [d] => { results := [.lit (.bool true)], args := [d] }
  | _ => none }
def fnTurnSetRow : OpenClaim := { program := "ytjppinifaiebdaa", sum := "6d67a5bd14a1bd87637d9eb6618bf839ccbe2f87eebe206db9fdddd62b17894f", func := "loop.example/tonesincircles/laws.FnTurnSet", spec := "fnTurnSet", apart := false }
def FnTurnSetSaid : Prop := fnTurnSetRow.holds Try.pinned (OpenSpec.ofChange fnTurnSetSpec)

/-- ITS FALSE NEIGHBOUR: 'it returns false'. Refute it at one input. -/
def fnTurnSetWrong : ChangeSpec := { name := "fnTurnSet", fn := fun _ => fun
  | [d] => { results := [.lit (.bool false)], args := [d] }
  | _ => none }
def FnTurnSetWrongFalsely : Prop := fnTurnSetRow.holds Try.pinned (OpenSpec.ofChange fnTurnSetWrong)

/-- 'laws.FnOthersOf': WHATEVER THE INPUT: true; the input reads as it did. -/
def fnOthersOfSpec : ChangeSpec := { name := "fnOthersOf", fn := fun _ => fun
  | [d] => { results := [.lit (.bool true)], args := [d] }
  | _ => none }
def fnOthersOfRow : OpenClaim := { program := "ytjppinifaiebdaa", sum := "6d67a5bd14a1bd87637d9eb6618bf839ccbe2f87eebe206db9fdddd62b17894f", func := "loop.example/tonesincircles/laws.FnOthersOf", spec := "fnOthersOf", apart := false }
def FnOthersOfSaid : Prop := fnOthersOfRow.holds Try.pinned (OpenSpec.ofChange fnOthersOfSpec)

/-- ITS FALSE NEIGHBOUR: 'it returns false'. Refute it at one input. -/
def fnOthersOfWrong : ChangeSpec := { name := "fnOthersOf", fn := fun _ => fun
  | [d] => { results := [.lit (.bool false)], args := [d] }
  | _ => none }
def FnOthersOfWrongFalsely : Prop := fnOthersOfRow.holds Try.pinned (OpenSpec.ofChange fnOthersOfWrong)

/-- 'laws.FnGapsOf': WHATEVER THE INPUT: true; the input reads as it did. -/
def fnGapsOfSpec : ChangeSpec := { name := "fnGapsOf", fn := fun _ => fun
  | [d] => { results := [.lit (.bool true)], args := [d] }
  | _ => none }
def fnGapsOfRow : OpenClaim := { program := "ytjppinifaiebdaa", sum := "6d67a5bd14a1bd87637d9eb6618bf839ccbe2f87eebe206db9fdddd62b17894f", func := "loop.example/tonesincircles/laws.FnGapsOf", spec := "fnGapsOf", apart := false }
def FnGapsOfSaid : Prop := fnGapsOfRow.holds Try.pinned (OpenSpec.ofChange fnGapsOfSpec)

/-- ITS FALSE NEIGHBOUR: 'it returns false'. Refute it at one input. -/
def fnGapsOfWrong : ChangeSpec := { name := "fnGapsOf", fn := fun _ => fun
  | [d] => { results := [.lit (.bool false)], args := [d] }
  | _ => none }
def FnGapsOfWrongFalsely : Prop := fnGapsOfRow.holds Try.pinned (OpenSpec.ofChange fnGapsOfWrong)

/-- 'laws.FnCommonOf': WHATEVER THE INPUT: true; the input reads as it did. -/
def fnCommonOfSpec : ChangeSpec := { name := "fnCommonOf", fn := fun _ => fun
  | [d] => { results := [.lit (.bool true)], args := [d] }
  | _ => none }
def fnCommonOfRow : OpenClaim := { program := "ytjppinifaiebdaa", sum := "6d67a5bd14a1bd87637d9eb6618bf839ccbe2f87eebe206db9fdddd62b17894f", func := "loop.example/tonesincircles/laws.FnCommonOf", spec := "fnCommonOf", apart := false }
def FnCommonOfSaid : Prop := fnCommonOfRow.holds Try.pinned (OpenSpec.ofChange fnCommonOfSpec)

/-- ITS FALSE NEIGHBOUR: 'it returns false'. Refute it at one input. -/
def fnCommonOfWrong : ChangeSpec := { name := "fnCommonOf", fn := fun _ => fun
  | [d] => { results := [.lit (.bool false)], args := [d] }
  | _ => none }
def FnCommonOfWrongFalsely : Prop := fnCommonOfRow.holds Try.pinned (OpenSpec.ofChange fnCommonOfWrong)

/-- 'laws.FnPrimeOf': WHATEVER THE INPUT: true; the input reads as it did. -/
def fnPrimeOfSpec : ChangeSpec := { name := "fnPrimeOf", fn := fun _ => fun
  | [d] => { results := [.lit (.bool true)], args := [d] }
  | _ => none }
def fnPrimeOfRow : OpenClaim := { program := "ytjppinifaiebdaa", sum := "6d67a5bd14a1bd87637d9eb6618bf839ccbe2f87eebe206db9fdddd62b17894f", func := "loop.example/tonesincircles/laws.FnPrimeOf", spec := "fnPrimeOf", apart := false }
def FnPrimeOfSaid : Prop := fnPrimeOfRow.holds Try.pinned (OpenSpec.ofChange fnPrimeOfSpec)

/-- ITS FALSE NEIGHBOUR: 'it returns false'. Refute it at one input. -/
def fnPrimeOfWrong : ChangeSpec := { name := "fnPrimeOf", fn := fun _ => fun
  | [d] => { results := [.lit (.bool false)], args := [d] }
  | _ => none }
def FnPrimeOfWrongFalsely : Prop := fnPrimeOfRow.holds Try.pinned (OpenSpec.ofChange fnPrimeOfWrong)

/-- 'laws.FnAreTwins': WHATEVER THE INPUT: true; the input reads as it did. -/
def fnAreTwinsSpec : ChangeSpec := { name := "fnAreTwins", fn := fun _ => fun
  | [d] => { results := [.lit (.bool true)], args := [d] }
  | _ => none }
def fnAreTwinsRow : OpenClaim := { program := "ytjppinifaiebdaa", sum := "6d67a5bd14a1bd87637d9eb6618bf839ccbe2f87eebe206db9fdddd62b17894f", func := "loop.example/tonesincircles/laws.FnAreTwins", spec := "fnAreTwins", apart := false }
def FnAreTwinsSaid : Prop := fnAreTwinsRow.holds Try.pinned (OpenSpec.ofChange fnAreTwinsSpec)

/-- ITS FALSE NEIGHBOUR: 'it returns false'. Refute it at one input. -/
def fnAreTwinsWrong : ChangeSpec := { name := "fnAreTwins", fn := fun _ => fun
  | [d] => { results := [.lit (.bool false)], args := [d] }
  | _ => none }
def FnAreTwinsWrongFalsely : Prop := fnAreTwinsRow.holds Try.pinned (OpenSpec.ofChange fnAreTwinsWrong)

/-- 'laws.FnExactGapsOf': WHATEVER THE INPUT: true; the input reads as it did. -/
def fnExactGapsOfSpec : ChangeSpec := { name := "fnExactGapsOf", fn := fun _ => fun
  | [d1, d2] => { results := [.lit (.bool true)], args := [d1, d2] }
  | _ => none }
def fnExactGapsOfRow : OpenClaim := { program := "ytjppinifaiebdaa", sum := "6d67a5bd14a1bd87637d9eb6618bf839ccbe2f87eebe206db9fdddd62b17894f", func := "loop.example/tonesincircles/laws.FnExactGapsOf", spec := "fnExactGapsOf", apart := false }
def FnExactGapsOfSaid : Prop := fnExactGapsOfRow.holds Try.pinned (OpenSpec.ofChange fnExactGapsOfSpec)

/-- ITS FALSE NEIGHBOUR: 'it returns false'. Refute it at one input. -/
def fnExactGapsOfWrong : ChangeSpec := { name := "fnExactGapsOf", fn := fun _ => fun
  | [d1, d2] => { results := [.lit (.bool false)], args := [d1, d2] }
  | _ => none }
def FnExactGapsOfWrongFalsely : Prop := fnExactGapsOfRow.holds Try.pinned (OpenSpec.ofChange fnExactGapsOfWrong)

/-- 'laws.FnExactAreTwins': WHATEVER THE INPUT: true; the input reads as it did. -/
def fnExactAreTwinsSpec : ChangeSpec := { name := "fnExactAreTwins", fn := fun _ => fun
  | [d1, d2, d3] => { results := [.lit (.bool true)], args := [d1, d2, d3] }
  | _ => none }
def fnExactAreTwinsRow : OpenClaim := { program := "ytjppinifaiebdaa", sum := "6d67a5bd14a1bd87637d9eb6618bf839ccbe2f87eebe206db9fdddd62b17894f", func := "loop.example/tonesincircles/laws.FnExactAreTwins", spec := "fnExactAreTwins", apart := false }
def FnExactAreTwinsSaid : Prop := fnExactAreTwinsRow.holds Try.pinned (OpenSpec.ofChange fnExactAreTwinsSpec)

/-- ITS FALSE NEIGHBOUR: 'it returns false'. Refute it at one input. -/
def fnExactAreTwinsWrong : ChangeSpec := { name := "fnExactAreTwins", fn := fun _ => fun
  | [d1, d2, d3] => { results := [.lit (.bool false)], args := [d1, d2, d3] }
  | _ => none }
def FnExactAreTwinsWrongFalsely : Prop := fnExactAreTwinsRow.holds Try.pinned (OpenSpec.ofChange fnExactAreTwinsWrong)

/- THE SECOND FORM. 'bulk': how many values and letters a reading holds, each counted each time it is reached (what is shared counts as often as it is met; a slice's spare places count too). A statement '..UptoSaid' is the law's where the arguments, and the package variables that the reading takes, are together of bulk at most 1048576: NARROWER than '..Said'. Prove '..Said' where nothing that the law and all that it calls make is longer than what came in: it says more and counts as full. Else prove '..UptoSaid'. A law counts once. -/
mutual
def uptoBulk {H : Type} : DataW H → Nat
  | .lit (.string bytes) => bytes.length + 1
  | .lit _ => 1
  | .nil => 1
  | .ptr d => uptoBulk d + 1
  | .slice elems spare => uptoBulkAll elems + uptoBulkAll spare + 1
  | .agg parts => uptoBulkAll parts + 1
  | .iface _ d => uptoBulk d + 1
  | .map entries => uptoBulkEntries entries + 1
  | .held _ => 1
def uptoBulkAll {H : Type} : List (DataW H) → Nat
  | [] => 0
  | d :: r => uptoBulk d + uptoBulkAll r
def uptoBulkEntries {H : Type} : List (Lit × DataW H) → Nat
  | [] => 0
  | x :: r => uptoBulkEntry x + uptoBulkEntries r
def uptoBulkEntry {H : Type} : Lit × DataW H → Nat
  | (.string bytes, d) => bytes.length + uptoBulk d + 1
  | (_, d) => uptoBulk d + 1
 end
def uptoSmall : (H : Type) → List (DataW H) → Bool := fun _ ds => decide (uptoBulkAll ds ≤ 1048576)
def OpenSpec.upto (s : _root_.Go.ChangeSpec) : _root_.Go.OpenSpec := { _root_.Go.OpenSpec.ofChange s with cond := some uptoSmall }

/-- 'laws.FnShiftSet', WHERE WHAT IT READS IS OF BULK AT MOST 1048576: true; the input reads as it did. -/
def fnShiftSetUptoRow : OpenClaim := { program := "ytjppinifaiebdaa", sum := "6d67a5bd14a1bd87637d9eb6618bf839ccbe2f87eebe206db9fdddd62b17894f", func := "loop.example/tonesincircles/laws.FnShiftSet", spec := "fnShiftSet", apart := false, narrowed := true }
def FnShiftSetUptoSaid : Prop := fnShiftSetUptoRow.holds Try.pinned (OpenSpec.upto fnShiftSetSpec)

/-- 'laws.FnTurnSet', WHERE WHAT IT READS IS OF BULK AT MOST 1048576: true; the input reads as it did. -/
def fnTurnSetUptoRow : OpenClaim := { program := "ytjppinifaiebdaa", sum := "6d67a5bd14a1bd87637d9eb6618bf839ccbe2f87eebe206db9fdddd62b17894f", func := "loop.example/tonesincircles/laws.FnTurnSet", spec := "fnTurnSet", apart := false, narrowed := true }
def FnTurnSetUptoSaid : Prop := fnTurnSetUptoRow.holds Try.pinned (OpenSpec.upto fnTurnSetSpec)

/-- 'laws.FnOthersOf', WHERE WHAT IT READS IS OF BULK AT MOST 1048576: true; the input reads as it did. -/
def fnOthersOfUptoRow : OpenClaim := { program := "ytjppinifaiebdaa", sum := "6d67a5bd14a1bd87637d9eb6618bf839ccbe2f87eebe206db9fdddd62b17894f", func := "loop.example/tonesincircles/laws.FnOthersOf", spec := "fnOthersOf", apart := false, narrowed := true }
def FnOthersOfUptoSaid : Prop := fnOthersOfUptoRow.holds Try.pinned (OpenSpec.upto fnOthersOfSpec)

/-- 'laws.FnGapsOf', WHERE WHAT IT READS IS OF BULK AT MOST 1048576: true; the input reads as it did. -/
def fnGapsOfUptoRow : OpenClaim := { program := "ytjppinifaiebdaa", sum := "6d67a5bd14a1bd87637d9eb6618bf839ccbe2f87eebe206db9fdddd62b17894f", func := "loop.example/tonesincircles/laws.FnGapsOf", spec := "fnGapsOf", apart := false, narrowed := true }
def FnGapsOfUptoSaid : Prop := fnGapsOfUptoRow.holds Try.pinned (OpenSpec.upto fnGapsOfSpec)

/-- 'laws.FnCommonOf', WHERE WHAT IT READS IS OF BULK AT MOST 1048576: true; the input reads as it did. -/
def fnCommonOfUptoRow : OpenClaim := { program := "ytjppinifaiebdaa", sum := "6d67a5bd14a1bd87637d9eb6618bf839ccbe2f87eebe206db9fdddd62b17894f", func := "loop.example/tonesincircles/laws.FnCommonOf", spec := "fnCommonOf", apart := false, narrowed := true }
def FnCommonOfUptoSaid : Prop := fnCommonOfUptoRow.holds Try.pinned (OpenSpec.upto fnCommonOfSpec)

/-- 'laws.FnPrimeOf', WHERE WHAT IT READS IS OF BULK AT MOST 1048576: true; the input reads as it did. -/
def fnPrimeOfUptoRow : OpenClaim := { program := "ytjppinifaiebdaa", sum := "6d67a5bd14a1bd87637d9eb6618bf839ccbe2f87eebe206db9fdddd62b17894f", func := "loop.example/tonesincircles/laws.FnPrimeOf", spec := "fnPrimeOf", apart := false, narrowed := true }
def FnPrimeOfUptoSaid : Prop := fnPrimeOfUptoRow.holds Try.pinned (OpenSpec.upto fnPrimeOfSpec)

/-- 'laws.FnAreTwins', WHERE WHAT IT READS IS OF BULK AT MOST 1048576: true; the input reads as it did. -/
def fnAreTwinsUptoRow : OpenClaim := { program := "ytjppinifaiebdaa", sum := "6d67a5bd14a1bd87637d9eb6618bf839ccbe2f87eebe206db9fdddd62b17894f", func := "loop.example/tonesincircles/laws.FnAreTwins", spec := "fnAreTwins", apart := false, narrowed := true }
def FnAreTwinsUptoSaid : Prop := fnAreTwinsUptoRow.holds Try.pinned (OpenSpec.upto fnAreTwinsSpec)

/-- 'laws.FnExactGapsOf', WHERE WHAT IT READS IS OF BULK AT MOST 1048576: true; the input reads as it did. -/
def fnExactGapsOfUptoRow : OpenClaim := { program := "ytjppinifaiebdaa", sum := "6d67a5bd14a1bd87637d9eb6618bf839ccbe2f87eebe206db9fdddd62b17894f", func := "loop.example/tonesincircles/laws.FnExactGapsOf", spec := "fnExactGapsOf", apart := false, narrowed := true }
def FnExactGapsOfUptoSaid : Prop := fnExactGapsOfUptoRow.holds Try.pinned (OpenSpec.upto fnExactGapsOfSpec)

/-- 'laws.FnExactAreTwins', WHERE WHAT IT READS IS OF BULK AT MOST 1048576: true; the input reads as it did. -/
def fnExactAreTwinsUptoRow : OpenClaim := { program := "ytjppinifaiebdaa", sum := "6d67a5bd14a1bd87637d9eb6618bf839ccbe2f87eebe206db9fdddd62b17894f", func := "loop.example/tonesincircles/laws.FnExactAreTwins", spec := "fnExactAreTwins", apart := false, narrowed := true }
def FnExactAreTwinsUptoSaid : Prop := fnExactAreTwinsUptoRow.holds Try.pinned (OpenSpec.upto fnExactAreTwinsSpec)

end Rows
end Go.Proofs.Ytjppinifaiebdaa
