/-
  No cell of these rows narrows 'for every input' (looked for: loops, veiled, ifaces, maps, wideKeys, modest, calm, conditions, laid).
  DERIVED. THE GIVEN ROWS OF THIS SEAT. 12 by the template 'for every input the law returns true; each argument reads behind the call as it read before'; 0 by the template 'total and deterministic' (their statements: YtkpmgeajeoaobaaTotals.lean).
  GIVEN WITH THE SEED: the statements are not yours to turn. If you find one false, say at which input.
  Laid BY PROGRAM, IN A SANDBOX (cutbox-rows.mjs): the forced cells as the released guide's own fill.sh prints them over the translation 7603d07b37e7a862… (all of the seat's roots in one cut). By AI agents, Wed Nov 11 2026. No macro, syntax, notation, axiom, sorry.
-/
import Derived.Test.YtkpmgeajeoaobaaChecked
import GoSem.Claim
import GoSem.ClaimJoined
import GoSem.ClaimMapViews
import Derived.JoinedTies
import Derived.KernelRfl
namespace Go.Proofs.Ytkpmgeajeoaobaa
/- THE CELL 'sum', in the pinned program and in every row, IS THE sha256 OF THE DUMP (.gsa) THAT YtkpmgeajeoaobaaProg.lean LOADS. Nothing in Lean hashes anything: it is a label: what it is worth is what the hold of that sum in a sandbox is worth. -/
noncomputable def Try.pinned : Pinned := { name := "ytkpmgeajeoaobaa", sum := "7603d07b37e7a8627998aa5ed0f1fd4fc001d679253dcaf405a583e050925f33", checked := Try.checked }
namespace Rows
def none {H : Type} : Left H := { results := [], args := [] }

/-- 'laws.FnExactValidSet': WHATEVER THE INPUT: true; the input reads as it did. -/
def fnExactValidSetSpec : ChangeSpec := { name := "fnExactValidSet", fn := fun _ => fun
  | [d1, d2] => { results := [.lit (.bool true)], args := [d1, d2] }
  | _ => none }
def fnExactValidSetRow : OpenClaim := { program := "ytkpmgeajeoaobaa", sum := "7603d07b37e7a8627998aa5ed0f1fd4fc001d679253dcaf405a583e050925f33", func := "loop.example/tonesincircles/laws.FnExactValidSet", spec := "fnExactValidSet", plainKeys := false, apart := false }
def FnExactValidSetSaid : Prop := fnExactValidSetRow.holds Try.pinned (OpenSpec.ofChange fnExactValidSetSpec)

/-- ITS FALSE NEIGHBOUR: 'it returns false'. Refute it at one input. -/
def fnExactValidSetWrong : ChangeSpec := { name := "fnExactValidSet", fn := fun _ => fun
  | [d1, d2] => { results := [.lit (.bool false)], args := [d1, d2] }
  | _ => none }
def FnExactValidSetWrongFalsely : Prop := fnExactValidSetRow.holds Try.pinned (OpenSpec.ofChange fnExactValidSetWrong)

/-- 'laws.FnExactTonesOf': WHATEVER THE INPUT: true; the input reads as it did. -/
def fnExactTonesOfSpec : ChangeSpec := { name := "fnExactTonesOf", fn := fun _ => fun
  | [d1, d2] => { results := [.lit (.bool true)], args := [d1, d2] }
  | _ => none }
def fnExactTonesOfRow : OpenClaim := { program := "ytkpmgeajeoaobaa", sum := "7603d07b37e7a8627998aa5ed0f1fd4fc001d679253dcaf405a583e050925f33", func := "loop.example/tonesincircles/laws.FnExactTonesOf", spec := "fnExactTonesOf", plainKeys := false, apart := false }
def FnExactTonesOfSaid : Prop := fnExactTonesOfRow.holds Try.pinned (OpenSpec.ofChange fnExactTonesOfSpec)

/-- ITS FALSE NEIGHBOUR: 'it returns false'. Refute it at one input. -/
def fnExactTonesOfWrong : ChangeSpec := { name := "fnExactTonesOf", fn := fun _ => fun
  | [d1, d2] => { results := [.lit (.bool false)], args := [d1, d2] }
  | _ => none }
def FnExactTonesOfWrongFalsely : Prop := fnExactTonesOfRow.holds Try.pinned (OpenSpec.ofChange fnExactTonesOfWrong)

/-- 'laws.FnExactShiftSet': WHATEVER THE INPUT: true; the input reads as it did. -/
def fnExactShiftSetSpec : ChangeSpec := { name := "fnExactShiftSet", fn := fun _ => fun
  | [d1, d2, d3] => { results := [.lit (.bool true)], args := [d1, d2, d3] }
  | _ => none }
def fnExactShiftSetRow : OpenClaim := { program := "ytkpmgeajeoaobaa", sum := "7603d07b37e7a8627998aa5ed0f1fd4fc001d679253dcaf405a583e050925f33", func := "loop.example/tonesincircles/laws.FnExactShiftSet", spec := "fnExactShiftSet", plainKeys := false, apart := false }
def FnExactShiftSetSaid : Prop := fnExactShiftSetRow.holds Try.pinned (OpenSpec.ofChange fnExactShiftSetSpec)

/-- ITS FALSE NEIGHBOUR: 'it returns false'. Refute it at one input. -/
def fnExactShiftSetWrong : ChangeSpec := { name := "fnExactShiftSet", fn := fun _ => fun
  | [d1, d2, d3] => { results := [.lit (.bool false)], args := [d1, d2, d3] }
  | _ => none }
def FnExactShiftSetWrongFalsely : Prop := fnExactShiftSetRow.holds Try.pinned (OpenSpec.ofChange fnExactShiftSetWrong)

/-- 'laws.FnExactTurnSet': WHATEVER THE INPUT: true; the input reads as it did. -/
def fnExactTurnSetSpec : ChangeSpec := { name := "fnExactTurnSet", fn := fun _ => fun
  | [d1, d2, d3] => { results := [.lit (.bool true)], args := [d1, d2, d3] }
  | _ => none }
def fnExactTurnSetRow : OpenClaim := { program := "ytkpmgeajeoaobaa", sum := "7603d07b37e7a8627998aa5ed0f1fd4fc001d679253dcaf405a583e050925f33", func := "loop.example/tonesincircles/laws.FnExactTurnSet", spec := "fnExactTurnSet", plainKeys := false, apart := false }
def FnExactTurnSetSaid : Prop := fnExactTurnSetRow.holds Try.pinned (OpenSpec.ofChange fnExactTurnSetSpec)

/-- ITS FALSE NEIGHBOUR: 'it returns false'. Refute it at one input. -/
def fnExactTurnSetWrong : ChangeSpec := { name := "fnExactTurnSet", fn := fun _ => fun
  | [d1, d2, d3] => { results := [.lit (.bool false)], args := [d1, d2, d3] }
  | _ => none }
def FnExactTurnSetWrongFalsely : Prop := fnExactTurnSetRow.holds Try.pinned (OpenSpec.ofChange fnExactTurnSetWrong)

/-- 'laws.FnExactOthersOf': WHATEVER THE INPUT: true; the input reads as it did. -/
def fnExactOthersOfSpec : ChangeSpec := { name := "fnExactOthersOf", fn := fun _ => fun
  | [d1, d2] => { results := [.lit (.bool true)], args := [d1, d2] }
  | _ => none }
def fnExactOthersOfRow : OpenClaim := { program := "ytkpmgeajeoaobaa", sum := "7603d07b37e7a8627998aa5ed0f1fd4fc001d679253dcaf405a583e050925f33", func := "loop.example/tonesincircles/laws.FnExactOthersOf", spec := "fnExactOthersOf", plainKeys := false, apart := false }
def FnExactOthersOfSaid : Prop := fnExactOthersOfRow.holds Try.pinned (OpenSpec.ofChange fnExactOthersOfSpec)

/-- ITS FALSE NEIGHBOUR: 'it returns false'. Refute it at one input. -/
def fnExactOthersOfWrong : ChangeSpec := { name := "fnExactOthersOf", fn := fun _ => fun
  | [d1, d2] => { results := [.lit (.bool false)], args := [d1, d2] }
  | _ => none }
def FnExactOthersOfWrongFalsely : Prop := fnExactOthersOfRow.holds Try.pinned (OpenSpec.ofChange fnExactOthersOfWrong)

/-- 'laws.FnExactGapsOf': WHATEVER THE INPUT: true; the input reads as it did. -/
def fnExactGapsOfSpec : ChangeSpec := { name := "fnExactGapsOf", fn := fun _ => fun
  | [d1, d2] => { results := [.lit (.bool true)], args := [d1, d2] }
  | _ => none }
def fnExactGapsOfRow : OpenClaim := { program := "ytkpmgeajeoaobaa", sum := "7603d07b37e7a8627998aa5ed0f1fd4fc001d679253dcaf405a583e050925f33", func := "loop.example/tonesincircles/laws.FnExactGapsOf", spec := "fnExactGapsOf", plainKeys := false, apart := false }
def FnExactGapsOfSaid : Prop := fnExactGapsOfRow.holds Try.pinned (OpenSpec.ofChange fnExactGapsOfSpec)

/-- ITS FALSE NEIGHBOUR: 'it returns false'. Refute it at one input. -/
def fnExactGapsOfWrong : ChangeSpec := { name := "fnExactGapsOf", fn := fun _ => fun
  | [d1, d2] => { results := [.lit (.bool false)], args := [d1, d2] }
  | _ => none }
def FnExactGapsOfWrongFalsely : Prop := fnExactGapsOfRow.holds Try.pinned (OpenSpec.ofChange fnExactGapsOfWrong)

/-- 'laws.FnExactCommonOf': WHATEVER THE INPUT: true; the input reads as it did. -/
def fnExactCommonOfSpec : ChangeSpec := { name := "fnExactCommonOf", fn := fun _ => fun
  | [d1, d2, d3] => { results := [.lit (.bool true)], args := [d1, d2, d3] }
  | _ => none }
def fnExactCommonOfRow : OpenClaim := { program := "ytkpmgeajeoaobaa", sum := "7603d07b37e7a8627998aa5ed0f1fd4fc001d679253dcaf405a583e050925f33", func := "loop.example/tonesincircles/laws.FnExactCommonOf", spec := "fnExactCommonOf", plainKeys := false, apart := false }
def FnExactCommonOfSaid : Prop := fnExactCommonOfRow.holds Try.pinned (OpenSpec.ofChange fnExactCommonOfSpec)

/-- ITS FALSE NEIGHBOUR: 'it returns false'. Refute it at one input. -/
def fnExactCommonOfWrong : ChangeSpec := { name := "fnExactCommonOf", fn := fun _ => fun
  | [d1, d2, d3] => { results := [.lit (.bool false)], args := [d1, d2, d3] }
  | _ => none }
def FnExactCommonOfWrongFalsely : Prop := fnExactCommonOfRow.holds Try.pinned (OpenSpec.ofChange fnExactCommonOfWrong)

/-- 'laws.FnExactPrimeOf': WHATEVER THE INPUT: true; the input reads as it did. -/
def fnExactPrimeOfSpec : ChangeSpec := { name := "fnExactPrimeOf", fn := fun _ => fun
  | [d1, d2] => { results := [.lit (.bool true)], args := [d1, d2] }
  | _ => none }
def fnExactPrimeOfRow : OpenClaim := { program := "ytkpmgeajeoaobaa", sum := "7603d07b37e7a8627998aa5ed0f1fd4fc001d679253dcaf405a583e050925f33", func := "loop.example/tonesincircles/laws.FnExactPrimeOf", spec := "fnExactPrimeOf", plainKeys := false, apart := false }
def FnExactPrimeOfSaid : Prop := fnExactPrimeOfRow.holds Try.pinned (OpenSpec.ofChange fnExactPrimeOfSpec)

/-- ITS FALSE NEIGHBOUR: 'it returns false'. Refute it at one input. -/
def fnExactPrimeOfWrong : ChangeSpec := { name := "fnExactPrimeOf", fn := fun _ => fun
  | [d1, d2] => { results := [.lit (.bool false)], args := [d1, d2] }
  | _ => none }
def FnExactPrimeOfWrongFalsely : Prop := fnExactPrimeOfRow.holds Try.pinned (OpenSpec.ofChange fnExactPrimeOfWrong)

/-- 'laws.FnExactPrimesOf': WHATEVER THE INPUT: true; the input reads as it did. -/
def fnExactPrimesOfSpec : ChangeSpec := { name := "fnExactPrimesOf", fn := fun _ => fun
  | [d1, d2] => { results := [.lit (.bool true)], args := [d1, d2] }
  | _ => none }
def fnExactPrimesOfRow : OpenClaim := { program := "ytkpmgeajeoaobaa", sum := "7603d07b37e7a8627998aa5ed0f1fd4fc001d679253dcaf405a583e050925f33", func := "loop.example/tonesincircles/laws.FnExactPrimesOf", spec := "fnExactPrimesOf", recurses := true, plainKeys := false, apart := false }
def FnExactPrimesOfSaid : Prop := fnExactPrimesOfRow.holds Try.pinned (OpenSpec.ofChange fnExactPrimesOfSpec)

/-- ITS FALSE NEIGHBOUR: 'it returns false'. Refute it at one input. -/
def fnExactPrimesOfWrong : ChangeSpec := { name := "fnExactPrimesOf", fn := fun _ => fun
  | [d1, d2] => { results := [.lit (.bool false)], args := [d1, d2] }
  | _ => none }
def FnExactPrimesOfWrongFalsely : Prop := fnExactPrimesOfRow.holds Try.pinned (OpenSpec.ofChange fnExactPrimesOfWrong)

/-- 'laws.FnExactAreTwins': WHATEVER THE INPUT: true; the input reads as it did. -/
def fnExactAreTwinsSpec : ChangeSpec := { name := "fnExactAreTwins", fn := fun _ => fun
  | [d1, d2, d3] => { results := [.lit (.bool true)], args := [d1, d2, d3] }
  | _ => none }
def fnExactAreTwinsRow : OpenClaim := { program := "ytkpmgeajeoaobaa", sum := "7603d07b37e7a8627998aa5ed0f1fd4fc001d679253dcaf405a583e050925f33", func := "loop.example/tonesincircles/laws.FnExactAreTwins", spec := "fnExactAreTwins", plainKeys := false, apart := false }
def FnExactAreTwinsSaid : Prop := fnExactAreTwinsRow.holds Try.pinned (OpenSpec.ofChange fnExactAreTwinsSpec)

/-- ITS FALSE NEIGHBOUR: 'it returns false'. Refute it at one input. -/
def fnExactAreTwinsWrong : ChangeSpec := { name := "fnExactAreTwins", fn := fun _ => fun
  | [d1, d2, d3] => { results := [.lit (.bool false)], args := [d1, d2, d3] }
  | _ => none }
def FnExactAreTwinsWrongFalsely : Prop := fnExactAreTwinsRow.holds Try.pinned (OpenSpec.ofChange fnExactAreTwinsWrong)

/-- 'laws.FnExactTwinsOf': WHATEVER THE INPUT: true; the input reads as it did. -/
def fnExactTwinsOfSpec : ChangeSpec := { name := "fnExactTwinsOf", fn := fun _ => fun
  | [d1, d2] => { results := [.lit (.bool true)], args := [d1, d2] }
  | _ => none }
def fnExactTwinsOfRow : OpenClaim := { program := "ytkpmgeajeoaobaa", sum := "7603d07b37e7a8627998aa5ed0f1fd4fc001d679253dcaf405a583e050925f33", func := "loop.example/tonesincircles/laws.FnExactTwinsOf", spec := "fnExactTwinsOf", recurses := true, plainKeys := false, apart := false }
def FnExactTwinsOfSaid : Prop := fnExactTwinsOfRow.holds Try.pinned (OpenSpec.ofChange fnExactTwinsOfSpec)

/-- ITS FALSE NEIGHBOUR: 'it returns false'. Refute it at one input. -/
def fnExactTwinsOfWrong : ChangeSpec := { name := "fnExactTwinsOf", fn := fun _ => fun
  | [d1, d2] => { results := [.lit (.bool false)], args := [d1, d2] }
  | _ => none }
def FnExactTwinsOfWrongFalsely : Prop := fnExactTwinsOfRow.holds Try.pinned (OpenSpec.ofChange fnExactTwinsOfWrong)

/-- 'laws.FnExactMovesOf': WHATEVER THE INPUT: true; the input reads as it did. -/
def fnExactMovesOfSpec : ChangeSpec := { name := "fnExactMovesOf", fn := fun _ => fun
  | [d1, d2] => { results := [.lit (.bool true)], args := [d1, d2] }
  | _ => none }
def fnExactMovesOfRow : OpenClaim := { program := "ytkpmgeajeoaobaa", sum := "7603d07b37e7a8627998aa5ed0f1fd4fc001d679253dcaf405a583e050925f33", func := "loop.example/tonesincircles/laws.FnExactMovesOf", spec := "fnExactMovesOf", plainKeys := false, apart := false }
def FnExactMovesOfSaid : Prop := fnExactMovesOfRow.holds Try.pinned (OpenSpec.ofChange fnExactMovesOfSpec)

/-- ITS FALSE NEIGHBOUR: 'it returns false'. Refute it at one input. -/
def fnExactMovesOfWrong : ChangeSpec := { name := "fnExactMovesOf", fn := fun _ => fun
  | [d1, d2] => { results := [.lit (.bool false)], args := [d1, d2] }
  | _ => none }
def FnExactMovesOfWrongFalsely : Prop := fnExactMovesOfRow.holds Try.pinned (OpenSpec.ofChange fnExactMovesOfWrong)

/- THE SECOND FORM. 'bulk': how many values and letters a reading holds, each counted each time it is reached (what is shared counts as often as it is met; a slice's spare places count too). A statement '..UptoSaid' is the law's where the arguments, and the package variables that the reading takes, are together of bulk at most 1048576: NARROWER than '..Said'. Prove '..Said' where nothing that the law and all that it calls make is longer than what came in: it says more and counts as full. Else prove '..UptoSaid'. A law counts once. -/
mutual
def uptoBulk {H : Type} : DataW H → Nat
  | .lit (.string bytes) => bytes.length + 1
  | .lit _ => 1
  | .nil => 1
  | .ptr d => uptoBulk d + 1
  | .slice elems spare => uptoBulkAll elems + uptoBulkAll spare + 1
  | .agg parts => uptoBulkAll parts + 1
  | .iface _ d => uptoBulk d + 1
  | .map entries => uptoBulkEntries entries + 1
  | .held _ => 1
def uptoBulkAll {H : Type} : List (DataW H) → Nat
  | [] => 0
  | d :: r => uptoBulk d + uptoBulkAll r
def uptoBulkEntries {H : Type} : List (Lit × DataW H) → Nat
  | [] => 0
  | x :: r => uptoBulkEntry x + uptoBulkEntries r
def uptoBulkEntry {H : Type} : Lit × DataW H → Nat
  | (.string bytes, d) => bytes.length + uptoBulk d + 1
  | (_, d) => uptoBulk d + 1
 end
def uptoSmall : (H : Type) → List (DataW H) → Bool := fun _ ds => decide (uptoBulkAll ds ≤ 1048576)
def OpenSpec.upto (s : _root_.Go.ChangeSpec) : _root_.Go.OpenSpec := { _root_.Go.OpenSpec.ofChange s with cond := some uptoSmall }

/-- 'laws.FnExactValidSet', WHERE WHAT IT READS IS OF BULK AT MOST 1048576: true; the input reads as it did. -/
def fnExactValidSetUptoRow : OpenClaim := { program := "ytkpmgeajeoaobaa", sum := "7603d07b37e7a8627998aa5ed0f1fd4fc001d679253dcaf405a583e050925f33", func := "loop.example/tonesincircles/laws.FnExactValidSet", spec := "fnExactValidSet", plainKeys := false, apart := false, narrowed := true }
def FnExactValidSetUptoSaid : Prop := fnExactValidSetUptoRow.holds Try.pinned (OpenSpec.upto fnExactValidSetSpec)

/-- 'laws.FnExactTonesOf', WHERE WHAT IT READS IS OF BULK AT MOST 1048576: true; the input reads as it did. -/
def fnExactTonesOfUptoRow : OpenClaim := { program := "ytkpmgeajeoaobaa", sum := "7603d07b37e7a8627998aa5ed0f1fd4fc001d679253dcaf405a583e050925f33", func := "loop.example/tonesincircles/laws.FnExactTonesOf", spec := "fnExactTonesOf", plainKeys := false, apart := false, narrowed := true }
def FnExactTonesOfUptoSaid : Prop := fnExactTonesOfUptoRow.holds Try.pinned (OpenSpec.upto fnExactTonesOfSpec)

/-- 'laws.FnExactShiftSet', WHERE WHAT IT READS IS OF BULK AT MOST 1048576: true; the input reads as it did. -/
def fnExactShiftSetUptoRow : OpenClaim := { program := "ytkpmgeajeoaobaa", sum := "7603d07b37e7a8627998aa5ed0f1fd4fc001d679253dcaf405a583e050925f33", func := "loop.example/tonesincircles/laws.FnExactShiftSet", spec := "fnExactShiftSet", plainKeys := false, apart := false, narrowed := true }
def FnExactShiftSetUptoSaid : Prop := fnExactShiftSetUptoRow.holds Try.pinned (OpenSpec.upto fnExactShiftSetSpec)

/-- 'laws.FnExactTurnSet', WHERE WHAT IT READS IS OF BULK AT MOST 1048576: true; the input reads as it did. -/
def fnExactTurnSetUptoRow : OpenClaim := { program := "ytkpmgeajeoaobaa", sum := "7603d07b37e7a8627998aa5ed0f1fd4fc001d679253dcaf405a583e050925f33", func := "loop.example/tonesincircles/laws.FnExactTurnSet", spec := "fnExactTurnSet", plainKeys := false, apart := false, narrowed := true }
def FnExactTurnSetUptoSaid : Prop := fnExactTurnSetUptoRow.holds Try.pinned (OpenSpec.upto fnExactTurnSetSpec)

/-- 'laws.FnExactOthersOf', WHERE WHAT IT READS IS OF BULK AT MOST 1048576: true; the input reads as it did. -/
def fnExactOthersOfUptoRow : OpenClaim := { program := "ytkpmgeajeoaobaa", sum := "7603d07b37e7a8627998aa5ed0f1fd4fc001d679253dcaf405a583e050925f33", func := "loop.example/tonesincircles/laws.FnExactOthersOf", spec := "fnExactOthersOf", plainKeys := false, apart := false, narrowed := true }
def FnExactOthersOfUptoSaid : Prop := fnExactOthersOfUptoRow.holds Try.pinned (OpenSpec.upto fnExactOthersOfSpec)

/-- 'laws.FnExactGapsOf', WHERE WHAT IT READS IS OF BULK AT MOST 1048576: true; the input reads as it did. -/
def fnExactGapsOfUptoRow : OpenClaim := { program := "ytkpmgeajeoaobaa", sum := "7603d07b37e7a8627998aa5ed0f1fd4fc001d679253dcaf405a583e050925f33", func := "loop.example/tonesincircles/laws.FnExactGapsOf", spec := "fnExactGapsOf", plainKeys := false, apart := false, narrowed := true }
def FnExactGapsOfUptoSaid : Prop := fnExactGapsOfUptoRow.holds Try.pinned (OpenSpec.upto fnExactGapsOfSpec)

/-- 'laws.FnExactCommonOf', WHERE WHAT IT READS IS OF BULK AT MOST 1048576: true; the input reads as it did. -/
def fnExactCommonOfUptoRow : OpenClaim := { program := "ytkpmgeajeoaobaa", sum := "7603d07b37e7a8627998aa5ed0f1fd4fc001d679253dcaf405a583e050925f33", func := "loop.example/tonesincircles/laws.FnExactCommonOf", spec := "fnExactCommonOf", plainKeys := false, apart := false, narrowed := true }
def FnExactCommonOfUptoSaid : Prop := fnExactCommonOfUptoRow.holds Try.pinned (OpenSpec.upto fnExactCommonOfSpec)

/-- 'laws.FnExactPrimeOf', WHERE WHAT IT READS IS OF BULK AT MOST 1048576: true; the input reads as it did. -/
def fnExactPrimeOfUptoRow : OpenClaim := { program := "ytkpmgeajeoaobaa", sum := "7603d07b37e7a8627998aa5ed0f1fd4fc001d679253dcaf405a583e050925f33", func := "loop.example/tonesincircles/laws.FnExactPrimeOf", spec := "fnExactPrimeOf", plainKeys := false, apart := false, narrowed := true }
def FnExactPrimeOfUptoSaid : Prop := fnExactPrimeOfUptoRow.holds Try.pinned (OpenSpec.upto fnExactPrimeOfSpec)

/-- 'laws.FnExactPrimesOf', WHERE WHAT IT READS IS OF BULK AT MOST 1048576: true; the input reads as it did. -/
def fnExactPrimesOfUptoRow : OpenClaim := { program := "ytkpmgeajeoaobaa", sum := "7603d07b37e7a8627998aa5ed0f1fd4fc001d679253dcaf405a583e050925f33", func := "loop.example/tonesincircles/laws.FnExactPrimesOf", spec := "fnExactPrimesOf", recurses := true, plainKeys := false, apart := false, narrowed := true }
def FnExactPrimesOfUptoSaid : Prop := fnExactPrimesOfUptoRow.holds Try.pinned (OpenSpec.upto fnExactPrimesOfSpec)

/-- 'laws.FnExactAreTwins', WHERE WHAT IT READS IS OF BULK AT MOST 1048576: true; the input reads as it did. -/
def fnExactAreTwinsUptoRow : OpenClaim := { program := "ytkpmgeajeoaobaa", sum := "7603d07b37e7a8627998aa5ed0f1fd4fc001d679253dcaf405a583e050925f33", func := "loop.example/tonesincircles/laws.FnExactAreTwins", spec := "fnExactAreTwins", plainKeys := false, apart := false, narrowed := true }
def FnExactAreTwinsUptoSaid : Prop := fnExactAreTwinsUptoRow.holds Try.pinned (OpenSpec.upto fnExactAreTwinsSpec)

/-- 'laws.FnExactTwinsOf', WHERE WHAT IT READS IS OF BULK AT MOST 1048576: true; the input reads as it did. -/
def fnExactTwinsOfUptoRow : OpenClaim := { program := "ytkpmgeajeoaobaa", sum := "7603d07b37e7a8627998aa5ed0f1fd4fc001d679253dcaf405a583e050925f33", func := "loop.example/tonesincircles/laws.FnExactTwinsOf", spec := "fnExactTwinsOf", recurses := true, plainKeys := false, apart := false, narrowed := true }
def FnExactTwinsOfUptoSaid : Prop := fnExactTwinsOfUptoRow.holds Try.pinned (OpenSpec.upto fnExactTwinsOfSpec)

/-- 'laws.FnExactMovesOf', WHERE WHAT IT READS IS OF BULK AT MOST 1048576: true; the input reads as it did. -/
def fnExactMovesOfUptoRow : OpenClaim := { program := "ytkpmgeajeoaobaa", sum := "7603d07b37e7a8627998aa5ed0f1fd4fc001d679253dcaf405a583e050925f33", func := "loop.example/tonesincircles/laws.FnExactMovesOf", spec := "fnExactMovesOf", plainKeys := false, apart := false, narrowed := true }
def FnExactMovesOfUptoSaid : Prop := fnExactMovesOfUptoRow.holds Try.pinned (OpenSpec.upto fnExactMovesOfSpec)

end Rows
end Go.Proofs.Ytkpmgeajeoaobaa
