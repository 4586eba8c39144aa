/-
  No cell of these rows narrows 'for every input' (looked for: loops, veiled, ifaces, maps, wideKeys, modest, calm, conditions, laid).
  DERIVED. THE GIVEN ROWS OF THIS SEAT. 4 by the template 'for every input the law returns true; each argument reads behind the call as it read before'; 0 by the template 'total and deterministic' (their statements: YtmofhhffkppelaaTotals.lean).
  GIVEN WITH THE SEED: the statements are not yours to turn. If you find one false, say at which input.
  Laid BY PROGRAM, IN A SANDBOX (cutbox-rows.mjs): the forced cells as the released guide's own fill.sh prints them over the translation 03cfd58413192850… (all of the seat's roots in one cut). By AI agents, Wed Nov 11 2026. No macro, syntax, notation, axiom, sorry.
-/
import Derived.Test.YtmofhhffkppelaaChecked
import GoSem.Claim
import GoSem.ClaimJoined
import GoSem.ClaimMapViews
import Derived.JoinedTies
import Derived.KernelRfl
namespace Go.Proofs.Ytmofhhffkppelaa
/- THE CELL 'sum', in the pinned program and in every row, IS THE sha256 OF THE DUMP (.gsa) THAT YtmofhhffkppelaaProg.lean LOADS. Nothing in Lean hashes anything: it is a label: what it is worth is what the hold of that sum in a sandbox is worth. -/
noncomputable def Try.pinned : Pinned := { name := "ytmofhhffkppelaa", sum := "03cfd58413192850ac40aeeb017c86af4d789ee1cd9f0dfa20635af91c994467", checked := Try.checked }
namespace Rows
def none {H : Type} : Left H := { results := [], args := [] }

/-- 'laws.FnTwinsOf': WHATEVER THE INPUT: true; the input reads as it did. -/
def fnTwinsOfSpec : ChangeSpec := { name := "fnTwinsOf", fn := fun _ => fun
  | [d] => { results := [.lit (.bool true)], args := [d] }
  | _ => none }
def fnTwinsOfRow : OpenClaim := { program := "ytmofhhffkppelaa", sum := "03cfd58413192850ac40aeeb017c86af4d789ee1cd9f0dfa20635af91c994467", func := "loop.example/tonesincircles/laws.FnTwinsOf", spec := "fnTwinsOf", recurses := true, plainKeys := false, apart := false }
def FnTwinsOfSaid : Prop := fnTwinsOfRow.holds Try.pinned (OpenSpec.ofChange fnTwinsOfSpec)

/-- ITS FALSE NEIGHBOUR: 'it returns false'. Refute it at one input. -/
def fnTwinsOfWrong : ChangeSpec := { name := "fnTwinsOf", fn := fun _ => fun
  | [d] => { results := [.lit (.bool false)], args := [d] }
  | _ => none }
def FnTwinsOfWrongFalsely : Prop := fnTwinsOfRow.holds Try.pinned (OpenSpec.ofChange fnTwinsOfWrong)

/-- 'laws.FnExactTwinsOf': WHATEVER THE INPUT: true; the input reads as it did. -/
def fnExactTwinsOfSpec : ChangeSpec := { name := "fnExactTwinsOf", fn := fun _ => fun
  | [d1, d2] => { results := [.lit (.bool true)], args := [d1, d2] }
  | _ => none }
def fnExactTwinsOfRow : OpenClaim := { program := "ytmofhhffkppelaa", sum := "03cfd58413192850ac40aeeb017c86af4d789ee1cd9f0dfa20635af91c994467", func := "loop.example/tonesincircles/laws.FnExactTwinsOf", spec := "fnExactTwinsOf", recurses := true, plainKeys := false, apart := false }
def FnExactTwinsOfSaid : Prop := fnExactTwinsOfRow.holds Try.pinned (OpenSpec.ofChange fnExactTwinsOfSpec)

/-- ITS FALSE NEIGHBOUR: 'it returns false'. Refute it at one input. -/
def fnExactTwinsOfWrong : ChangeSpec := { name := "fnExactTwinsOf", fn := fun _ => fun
  | [d1, d2] => { results := [.lit (.bool false)], args := [d1, d2] }
  | _ => none }
def FnExactTwinsOfWrongFalsely : Prop := fnExactTwinsOfRow.holds Try.pinned (OpenSpec.ofChange fnExactTwinsOfWrong)

/-- 'laws.FnIsDeep': WHATEVER THE INPUT: true; the input reads as it did. -/
def fnIsDeepSpec : ChangeSpec := { name := "fnIsDeep", fn := fun _ => fun
  | [d] => { results := [.lit (.bool true)], args := [d] }
  | _ => none }
def fnIsDeepRow : OpenClaim := { program := "ytmofhhffkppelaa", sum := "03cfd58413192850ac40aeeb017c86af4d789ee1cd9f0dfa20635af91c994467", func := "loop.example/tonesincircles/laws.FnIsDeep", spec := "fnIsDeep", plainKeys := false, apart := false }
def FnIsDeepSaid : Prop := fnIsDeepRow.holds Try.pinned (OpenSpec.ofChange fnIsDeepSpec)

/-- ITS FALSE NEIGHBOUR: 'it returns false'. Refute it at one input. -/
def fnIsDeepWrong : ChangeSpec := { name := "fnIsDeep", fn := fun _ => fun
  | [d] => { results := [.lit (.bool false)], args := [d] }
  | _ => none }
def FnIsDeepWrongFalsely : Prop := fnIsDeepRow.holds Try.pinned (OpenSpec.ofChange fnIsDeepWrong)

/-- 'laws.FnExactIsDeep': WHATEVER THE INPUT: true; the input reads as it did. -/
def fnExactIsDeepSpec : ChangeSpec := { name := "fnExactIsDeep", fn := fun _ => fun
  | [d1, d2] => { results := [.lit (.bool true)], args := [d1, d2] }
  | _ => none }
def fnExactIsDeepRow : OpenClaim := { program := "ytmofhhffkppelaa", sum := "03cfd58413192850ac40aeeb017c86af4d789ee1cd9f0dfa20635af91c994467", func := "loop.example/tonesincircles/laws.FnExactIsDeep", spec := "fnExactIsDeep", plainKeys := false, apart := false }
def FnExactIsDeepSaid : Prop := fnExactIsDeepRow.holds Try.pinned (OpenSpec.ofChange fnExactIsDeepSpec)

/-- ITS FALSE NEIGHBOUR: 'it returns false'. Refute it at one input. -/
def fnExactIsDeepWrong : ChangeSpec := { name := "fnExactIsDeep", fn := fun _ => fun
  | [d1, d2] => { results := [.lit (.bool false)], args := [d1, d2] }
  | _ => none }
def FnExactIsDeepWrongFalsely : Prop := fnExactIsDeepRow.holds Try.pinned (OpenSpec.ofChange fnExactIsDeepWrong)

/- THE SECOND FORM. 'bulk': how many values and letters a reading holds, each counted each time it is reached (what is shared counts as often as it is met; a slice's spare places count too). A statement '..UptoSaid' is the law's where the arguments, and the package variables that the reading takes, are together of bulk at most 1048576: NARROWER than '..Said'. Prove '..Said' where nothing that the law and all that it calls make is longer than what came in: it says more and counts as full. Else prove '..UptoSaid'. A law counts once. -/
mutual
def uptoBulk {H : Type} : DataW H → Nat
  | .lit (.string bytes) => bytes.length + 1
  | .lit _ => 1
  | .nil => 1
  | .ptr d => uptoBulk d + 1
  | .slice elems spare => uptoBulkAll elems + uptoBulkAll spare + 1
  | .agg parts => uptoBulkAll parts + 1
  | .iface _ d => uptoBulk d + 1
  | .map entries => uptoBulkEntries entries + 1
  | .held _ => 1
def uptoBulkAll {H : Type} : List (DataW H) → Nat
  | [] => 0
  | d :: r => uptoBulk d + uptoBulkAll r
def uptoBulkEntries {H : Type} : List (Lit × DataW H) → Nat
  | [] => 0
  | x :: r => uptoBulkEntry x + uptoBulkEntries r
def uptoBulkEntry {H : Type} : Lit × DataW H → Nat
  | (.string bytes, d) => bytes.length + uptoBulk d + 1
  | (_, d) => uptoBulk d + 1
 end
def uptoSmall : (H : Type) → List (DataW H) → Bool := fun _ ds => decide (uptoBulkAll ds ≤ 1048576)
def OpenSpec.upto (s : _root_.Go.ChangeSpec) : _root_.Go.OpenSpec := { _root_.Go.OpenSpec.ofChange s with cond := some uptoSmall }

/-- 'laws.FnTwinsOf', WHERE WHAT IT READS IS OF BULK AT MOST 1048576: true; the input reads as it did. -/
def fnTwinsOfUptoRow : OpenClaim := { program := "ytmofhhffkppelaa", sum := "03cfd58413192850ac40aeeb017c86af4d789ee1cd9f0dfa20635af91c994467", func := "loop.example/tonesincircles/laws.FnTwinsOf", spec := "fnTwinsOf", recurses := true, plainKeys := false, apart := false, narrowed := true }
def FnTwinsOfUptoSaid : Prop := fnTwinsOfUptoRow.holds Try.pinned (OpenSpec.upto fnTwinsOfSpec)

/-- 'laws.FnExactTwinsOf', WHERE WHAT IT READS IS OF BULK AT MOST 1048576: true; the input reads as it did. -/
def fnExactTwinsOfUptoRow : OpenClaim := { program := "ytmofhhffkppelaa", sum := "03cfd58413192850ac40aeeb017c86af4d789ee1cd9f0dfa20635af91c994467", func := "loop.example/tonesincircles/laws.FnExactTwinsOf", spec := "fnExactTwinsOf", recurses := true, plainKeys := false, apart := false, narrowed := true }
def FnExactTwinsOfUptoSaid : Prop := fnExactTwinsOfUptoRow.holds Try.pinned (OpenSpec.upto fnExactTwinsOfSpec)

/-- 'laws.FnIsDeep', WHERE WHAT IT READS IS OF BULK AT MOST 1048576: true; the input reads as it did. -/
def fnIsDeepUptoRow : OpenClaim := { program := "ytmofhhffkppelaa", sum := "03cfd58413192850ac40aeeb017c86af4d789ee1cd9f0dfa20635af91c994467", func := "loop.example/tonesincircles/laws.FnIsDeep", spec := "fnIsDeep", plainKeys := false, apart := false, narrowed := true }
def FnIsDeepUptoSaid : Prop := fnIsDeepUptoRow.holds Try.pinned (OpenSpec.upto fnIsDeepSpec)

/-- 'laws.FnExactIsDeep', WHERE WHAT IT READS IS OF BULK AT MOST 1048576: true; the input reads as it did. -/
def fnExactIsDeepUptoRow : OpenClaim := { program := "ytmofhhffkppelaa", sum := "03cfd58413192850ac40aeeb017c86af4d789ee1cd9f0dfa20635af91c994467", func := "loop.example/tonesincircles/laws.FnExactIsDeep", spec := "fnExactIsDeep", plainKeys := false, apart := false, narrowed := true }
def FnExactIsDeepUptoSaid : Prop := fnExactIsDeepUptoRow.holds Try.pinned (OpenSpec.upto fnExactIsDeepSpec)

end Rows
end Go.Proofs.Ytmofhhffkppelaa
