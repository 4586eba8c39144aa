/-
  No cell of these rows narrows 'for every input' (looked for: loops, veiled, ifaces, maps, wideKeys, modest, calm, conditions, laid).
  DERIVED. THE GIVEN ROWS OF THIS SEAT. 4 by the template 'for every input the law returns true; each argument reads behind the call as it read before'; 0 by the template 'total and deterministic' (their statements: YtahpjfdecjfpcaaTotals.lean).
  GIVEN WITH THE SEED: the statements are not yours to turn. If you find one false, say at which input.
  Laid BY PROGRAM, IN A SANDBOX (cutbox-rows.mjs): the forced cells as the released guide's own fill.sh prints them over the translation fc5e094a2e5ce8a6… (all of the seat's roots in one cut). By AI agents, Wed Nov 11 2026. No macro, syntax, notation, axiom, sorry.
-/
import Derived.Test.YtahpjfdecjfpcaaChecked
import GoSem.Claim
import GoSem.ClaimJoined
import GoSem.ClaimMapViews
import Derived.JoinedTies
import Derived.KernelRfl
namespace Go.Proofs.Ytahpjfdecjfpcaa
/- THE CELL 'sum', in the pinned program and in every row, IS THE sha256 OF THE DUMP (.gsa) THAT YtahpjfdecjfpcaaProg.lean LOADS. Nothing in Lean hashes anything: it is a label: what it is worth is what the hold of that sum in a sandbox is worth. -/
noncomputable def Try.pinned : Pinned := { name := "ytahpjfdecjfpcaa", sum := "fc5e094a2e5ce8a60f6325426daea9399f5d86f2faa7f34fea4653cf9f261c72", checked := Try.checked }
namespace Rows
def none {H : Type} : Left H := { results := [], args := [] }

/-- 'laws.FnTwinsOf': WHATEVER THE INPUT: true; the input reads as it did. -/
def fnTwinsOfSpec : ChangeSpec := { name := "fnTwinsOf", fn := fun _ => fun
  | [d] => { results := [.lit (.bool true)], args := [d] }
  | _ => none }
def fnTwinsOfRow : OpenClaim := { program := "ytahpjfdecjfpcaa", sum := "fc5e094a2e5ce8a60f6325426daea9399f5d86f2faa7f34fea4653cf9f261c72", func := "loop.example/tonesincircles/laws.FnTwinsOf", spec := "fnTwinsOf", recurses := true, plainKeys := false, apart := false }
def FnTwinsOfSaid : Prop := fnTwinsOfRow.holds Try.pinned (OpenSpec.ofChange fnTwinsOfSpec)

/-- ITS FALSE NEIGHBOUR: 'it returns false'. Refute it at one input. -/
def fnTwinsOfWrong : ChangeSpec := { name := "fnTwinsOf", fn := fun _ => fun
  | [d] => { results := [.lit (.bool false)], args := [d] }
  | _ => none }
def FnTwinsOfWrongFalsely : Prop := fnTwinsOfRow.holds Try.pinned (OpenSpec.ofChange fnTwinsOfWrong)

/-- 'laws.FnExactTwinsOf': WHATEVER THE INPUT: true; the input reads as it did. -/
def fnExactTwinsOfSpec : ChangeSpec := { name := "fnExactTwinsOf", fn := fun _ => fun
  | [d1, d2] => { results := [.lit (.bool true)], args := [d1, d2] }
  | _ => none }
def fnExactTwinsOfRow : OpenClaim := { program := "ytahpjfdecjfpcaa", sum := "fc5e094a2e5ce8a60f6325426daea9399f5d86f2faa7f34fea4653cf9f261c72", func := "loop.example/tonesincircles/laws.FnExactTwinsOf", spec := "fnExactTwinsOf", recurses := true, plainKeys := false, apart := false }
def FnExactTwinsOfSaid : Prop := fnExactTwinsOfRow.holds Try.pinned (OpenSpec.ofChange fnExactTwinsOfSpec)

/-- ITS FALSE NEIGHBOUR: 'it returns false'. Refute it at one input. -/
def fnExactTwinsOfWrong : ChangeSpec := { name := "fnExactTwinsOf", fn := fun _ => fun
  | [d1, d2] => { results := [.lit (.bool false)], args := [d1, d2] }
  | _ => none }
def FnExactTwinsOfWrongFalsely : Prop := fnExactTwinsOfRow.holds Try.pinned (OpenSpec.ofChange fnExactTwinsOfWrong)

/-- 'laws.FnBeatsOf': WHATEVER THE INPUT: true; the input reads as it did. -/
def fnBeatsOfSpec : ChangeSpec := { name := "fnBeatsOf", fn := fun _ => fun
  | [d] => { results := [.lit (.bool true)], args := [d] }
  | _ => none }
def fnBeatsOfRow : OpenClaim := { program := "ytahpjfdecjfpcaa", sum := "fc5e094a2e5ce8a60f6325426daea9399f5d86f2faa7f34fea4653cf9f261c72", func := "loop.example/tonesincircles/laws.FnBeatsOf", spec := "fnBeatsOf", inPlace := ["slices.overlaps[int]"], unfollowed := true, recurses := true, plainKeys := false, apart := false }
def FnBeatsOfSaid : Prop := fnBeatsOfRow.holds Try.pinned (OpenSpec.ofChange fnBeatsOfSpec)

/-- ITS FALSE NEIGHBOUR: 'it returns false'. Refute it at one input. -/
def fnBeatsOfWrong : ChangeSpec := { name := "fnBeatsOf", fn := fun _ => fun
  | [d] => { results := [.lit (.bool false)], args := [d] }
  | _ => none }
def FnBeatsOfWrongFalsely : Prop := fnBeatsOfRow.holds Try.pinned (OpenSpec.ofChange fnBeatsOfWrong)

/-- 'laws.FnExactBeatsOf': WHATEVER THE INPUT: true; the input reads as it did. -/
def fnExactBeatsOfSpec : ChangeSpec := { name := "fnExactBeatsOf", fn := fun _ => fun
  | [d1, d2] => { results := [.lit (.bool true)], args := [d1, d2] }
  | _ => none }
def fnExactBeatsOfRow : OpenClaim := { program := "ytahpjfdecjfpcaa", sum := "fc5e094a2e5ce8a60f6325426daea9399f5d86f2faa7f34fea4653cf9f261c72", func := "loop.example/tonesincircles/laws.FnExactBeatsOf", spec := "fnExactBeatsOf", plainKeys := false, apart := false }
def FnExactBeatsOfSaid : Prop := fnExactBeatsOfRow.holds Try.pinned (OpenSpec.ofChange fnExactBeatsOfSpec)

/-- ITS FALSE NEIGHBOUR: 'it returns false'. Refute it at one input. -/
def fnExactBeatsOfWrong : ChangeSpec := { name := "fnExactBeatsOf", fn := fun _ => fun
  | [d1, d2] => { results := [.lit (.bool false)], args := [d1, d2] }
  | _ => none }
def FnExactBeatsOfWrongFalsely : Prop := fnExactBeatsOfRow.holds Try.pinned (OpenSpec.ofChange fnExactBeatsOfWrong)

/- THE SECOND FORM. 'bulk': how many values and letters a reading holds, each counted each time it is reached (what is shared counts as often as it is met; a slice's spare places count too). A statement '..UptoSaid' is the law's where the arguments, and the package variables that the reading takes, are together of bulk at most 1048576: NARROWER than '..Said'. Prove '..Said' where nothing that the law and all that it calls make is longer than what came in: it says more and counts as full. Else prove '..UptoSaid'. A law counts once. -/
mutual
def uptoBulk {H : Type} : DataW H → Nat
  | .lit (.string bytes) => bytes.length + 1
  | .lit _ => 1
  | .nil => 1
  | .ptr d => uptoBulk d + 1
  | .slice elems spare => uptoBulkAll elems + uptoBulkAll spare + 1
  | .agg parts => uptoBulkAll parts + 1
  | .iface _ d => uptoBulk d + 1
  | .map entries => uptoBulkEntries entries + 1
  | .held _ => 1
def uptoBulkAll {H : Type} : List (DataW H) → Nat
  | [] => 0
  | d :: r => uptoBulk d + uptoBulkAll r
def uptoBulkEntries {H : Type} : List (Lit × DataW H) → Nat
  | [] => 0
  | x :: r => uptoBulkEntry x + uptoBulkEntries r
def uptoBulkEntry {H : Type} : Lit × DataW H → Nat
  | (.string bytes, d) => bytes.length + uptoBulk d + 1
  | (_, d) => uptoBulk d + 1
 end
def uptoSmall : (H : Type) → List (DataW H) → Bool := fun _ ds => decide (uptoBulkAll ds ≤ 1048576)
def OpenSpec.upto (s : _root_.Go.ChangeSpec) : _root_.Go.OpenSpec := { _root_.Go.OpenSpec.ofChange s with cond := some uptoSmall }

/-- 'laws.FnTwinsOf', WHERE WHAT IT READS IS OF BULK AT MOST 1048576: true; the input reads as it did. -/
def fnTwinsOfUptoRow : OpenClaim := { program := "ytahpjfdecjfpcaa", sum := "fc5e094a2e5ce8a60f6325426daea9399f5d86f2faa7f34fea4653cf9f261c72", func := "loop.example/tonesincircles/laws.FnTwinsOf", spec := "fnTwinsOf", recurses := true, plainKeys := false, apart := false, narrowed := true }
def FnTwinsOfUptoSaid : Prop := fnTwinsOfUptoRow.holds Try.pinned (OpenSpec.upto fnTwinsOfSpec)

/-- 'laws.FnExactTwinsOf', WHERE WHAT IT READS IS OF BULK AT MOST 1048576: true; the input reads as it did. -/
def fnExactTwinsOfUptoRow : OpenClaim := { program := "ytahpjfdecjfpcaa", sum := "fc5e094a2e5ce8a60f6325426daea9399f5d86f2faa7f34fea4653cf9f261c72", func := "loop.example/tonesincircles/laws.FnExactTwinsOf", spec := "fnExactTwinsOf", recurses := true, plainKeys := false, apart := false, narrowed := true }
def FnExactTwinsOfUptoSaid : Prop := fnExactTwinsOfUptoRow.holds Try.pinned (OpenSpec.upto fnExactTwinsOfSpec)

/-- 'laws.FnBeatsOf', WHERE WHAT IT READS IS OF BULK AT MOST 1048576: true; the input reads as it did. -/
def fnBeatsOfUptoRow : OpenClaim := { program := "ytahpjfdecjfpcaa", sum := "fc5e094a2e5ce8a60f6325426daea9399f5d86f2faa7f34fea4653cf9f261c72", func := "loop.example/tonesincircles/laws.FnBeatsOf", spec := "fnBeatsOf", inPlace := ["slices.overlaps[int]"], unfollowed := true, recurses := true, plainKeys := false, apart := false, narrowed := true }
def FnBeatsOfUptoSaid : Prop := fnBeatsOfUptoRow.holds Try.pinned (OpenSpec.upto fnBeatsOfSpec)

/-- 'laws.FnExactBeatsOf', WHERE WHAT IT READS IS OF BULK AT MOST 1048576: true; the input reads as it did. -/
def fnExactBeatsOfUptoRow : OpenClaim := { program := "ytahpjfdecjfpcaa", sum := "fc5e094a2e5ce8a60f6325426daea9399f5d86f2faa7f34fea4653cf9f261c72", func := "loop.example/tonesincircles/laws.FnExactBeatsOf", spec := "fnExactBeatsOf", plainKeys := false, apart := false, narrowed := true }
def FnExactBeatsOfUptoSaid : Prop := fnExactBeatsOfUptoRow.holds Try.pinned (OpenSpec.upto fnExactBeatsOfSpec)

end Rows
end Go.Proofs.Ytahpjfdecjfpcaa
