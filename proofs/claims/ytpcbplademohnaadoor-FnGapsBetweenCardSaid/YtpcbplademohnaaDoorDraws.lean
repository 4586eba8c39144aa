/-
  Contracts of the drawers of arguments of a circle and a set, and of a shift beside them.
-/
import Derived.Test.YtpcbplademohnaaDoorDraw
import Derived.OpenShut
namespace Go.Proofs.YtpcbplademohnaaDoor
open Go.RowKit
set_option linter.unusedVariables false

/-- a code that came in, byte by byte -/
def Code (w : World) (x : Option Addr) (len cap : Nat) : Prop := ∃ zs, Bytes w x len zs ∧ len ≤ cap ∧ cap ≤ maxLen
theorem code_nil (w : World) : Code w none 0 0 := ⟨[], .inl rfl, Nat.le_refl _, Nat.zero_le _⟩
theorem code_row {w : World} {x : Addr} {len cap : Nat} {z : List Int} (hl : len ≤ cap) (hm : cap ≤ maxLen) (hz : z.length = cap) (hcell : ∀ i, i < z.length → w.cell? (x.add i) = some (.int .u8 (z.getD i 0))) (hwz : ∀ n ∈ z, (Lit.int .u8 n).wf = true) : Code w (some x) len cap := by
  refine ⟨z, ?_, hl, hm⟩
  by_cases h0 : len = 0
  · exact .inl h0
  · obtain ⟨b, off, spot⟩ := x
    have hc := hcell 0 (by omega)
    have hspot : spot = none := by simpa [Addr.add] using World.cell?_spot hc
    subst hspot
    have hb : b < w.heap.size := by simpa [Addr.add] using World.block_lt_of_cell? w _ hc
    refine .inr ⟨b, off, rfl, hb, fun i hi => ⟨(show (⟨b, off + i, none⟩ : Addr) = (⟨b, off, none⟩ : Addr).add i by unfold Addr.add; split <;> simp_all) ▸ hcell i (by omega), ?_⟩⟩
    have hmem : z.getD i 0 ∈ z := by
      rw [List.getD_eq_getElem?_getD, List.getElem?_eq_getElem (by omega)]
      exact List.getElem_mem _
    have hw := hwz _ hmem
    exact bounds_u8 hw


end Go.Proofs.YtpcbplademohnaaDoor
