/-
  Contracts of TriadSet and TriadOf, of the program and of the model. The program's table of shapes is a package-level variable: its cells are a hypothesis.
-/
import Derived.Test.YtjlbgccffpkmiaaTri
import Derived.Test.YtjlbgccffpkmiaaTriSetNum
import Derived.Test.YtjlbgccffpkmiaaShift
namespace Go.Proofs.Ytjlbgccffpkmiaa
open Go.RowKit
set_option linter.unusedVariables false

/-- the table of shapes lies as the program's text lays it -/
def Shapes (w : World) : Prop := ∀ s k : Nat, s < 2 → k < 3 → w.cell? ⟨0, s * 3 + k, none⟩ = some (.int .i64 (Tic.abv s k))
theorem Shapes.kept {w w' : World} (h : Shapes w) (hb : Below w.heap.size w w') : Shapes w' := fun s k hs hk =>
  (hb.cell (p := ⟨0, s * 3 + k, none⟩) (block_lt_of_cell (h s k hs hk))).trans (h s k hs hk)
theorem Shapes.pos {w : World} (h : Shapes w) : 0 < w.heap.size := block_lt_of_cell (h 0 0 (by omega) (by omega))




/-- what TriadOf tells -/
def ofV (o : Option Nat) : Value := .tuple #[.int .i64 ((o.getD 0 : Nat) : Int), .bool o.isSome]
end Go.Proofs.Ytjlbgccffpkmiaa
