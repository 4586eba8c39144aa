/-
  Slices of whole numbers that a call made: their rows, kept and written; the contracts of the laws' helpers eqIntS, markIntS, heldIntS.
-/
import Derived.Test.YtlbmjpkkomdhhaaDoorSets
import Derived.Laws.OwnMore
import Derived.WalkSmall
namespace Go.Proofs.YtlbmjpkkomdhhaaDoor
open Go.RowKit
set_option linter.unusedVariables false

/-- the slice v, made from block B on, holds the numbers L -/
def Row (w : World) (B : Nat) (v : Value) (L : List Int) : Prop := w.ownsRow B 3 1 v L.length (L.map (Value.int .i64)) ∧ L.length ≤ 1048576

theorem Row.kept {w w' : World} {B : Nat} {v : Value} {L : List Int} (h : Row w B v L) (hb : Below w.heap.size w w') : Row w' B v L :=
  ⟨h.1.kept (row := none) ⟨hb.os, hb.tape, hb.output, hb.size, fun k hk _ => hb.block k hk⟩ (by cases v.ownBlock <;> simp), h.2⟩
theorem Row.mono {w : World} {B B' : Nat} {v : Value} {L : List Int} (h : Row w B v L) (hB : B' ≤ B) : Row w B' v L := by
  obtain ⟨⟨h1, h2⟩, h3⟩ := h
  refine ⟨⟨h1, ?_⟩, h3⟩
  rcases h2 with h2 | ⟨g, cap, cur, e, hg, r⟩
  · exact .inl h2
  · exact .inr ⟨g, cap, cur, e, by omega, r⟩
theorem Row.cases {w : World} {B : Nat} {v : Value} {L : List Int} (h : Row w B v L) : (v = .slice none 0 0 ∧ L = []) ∨
    ∃ g cap, v = .slice (some ⟨g, 0, none⟩) L.length cap ∧ B ≤ g ∧ g < w.heap.size ∧ (∀ i, i < L.length → w.cell? ⟨g, i, none⟩ = some (.int .i64 (L.getD i 0))) ∧ (∀ i, w.frozen? ⟨g, i, none⟩ = false) := by
  obtain ⟨h1, h3⟩ := h
  have h1' := h1
  rcases h1.2 with ⟨e, hn⟩ | ⟨g, cap, cur, e, hg, hh, r⟩
  · exact .inl ⟨e, List.eq_nil_of_length_eq_zero hn⟩
  · subst e
    refine .inr ⟨g, cap, rfl, hg, (Array.getElem?_eq_some_iff.1 hh).1, fun i hi => ?_, fun i => h1.frozenAt i⟩
    rw [h1.cellAt i (by omega), List.getElem?_map, List.getElem?_eq_getElem hi]
    simp [List.getD_eq_getElem?_getD, List.getElem?_eq_getElem hi]
theorem Row.set {w : World} {B g cap : Nat} {L : List Int} (h : Row w B (.slice (some ⟨g, 0, none⟩) L.length cap) L) (j : Nat) (x : Int) :
    Row (w.setCell ⟨g, j, none⟩ (.int .i64 x)) B (.slice (some ⟨g, 0, none⟩) L.length cap) (L.set j x) ∧ w.grownBy (w.setCell ⟨g, j, none⟩ (.int .i64 x)) (some g) := by
  obtain ⟨h1, h2⟩ := h.1.stored j (.int .i64 x)
  refine ⟨⟨?_, by simpa using h.2⟩, h2⟩
  rw [List.map_set, List.length_set]
  exact h1
theorem Row.far {w w' : World} {B : Nat} {v : Value} {L : List Int} (h : Row w B v L) {g : Nat} (hg : w.grownBy w' (some g)) (hB : ∀ k, v.ownBlock = some k → k < g) : Row w' B v L := by
  refine ⟨h.1.kept hg ?_, h.2⟩
  cases e : v.ownBlock with
  | none => exact .inl rfl
  | some k => right; intro e2; have := hB k e; injection e2 with e2; omega


theorem Row.low {w w' : World} {B B0 : Nat} {v : Value} {L : List Int} (h : Row w B0 v L) (hb : Below B w w') (hlt : ∀ k, v.ownBlock = some k → k < B) : Row w' B0 v L := by
  obtain ⟨⟨h1, h2⟩, h3⟩ := h
  refine ⟨⟨h1, ?_⟩, h3⟩
  rcases h2 with h2 | ⟨g, cap, cur, e, hg, hh, r⟩
  · exact .inl h2
  · subst e
    exact .inr ⟨g, cap, cur, rfl, hg, (hb.block g (hlt g rfl)).trans hh, r⟩
theorem Row.lt {w : World} {B : Nat} {v : Value} {L : List Int} (h : Row w B v L) : ∀ k, v.ownBlock = some k → B ≤ k ∧ k < w.heap.size := h.1.lt

/-- the first i numbers are q, q + 1, and so on -/
def markTo (q : Int) (L : List Int) : Nat → List Int
  | 0 => L
  | i + 1 => (markTo q L i).set i (q + i)
theorem markTo_length (q : Int) (L : List Int) : ∀ i, (markTo q L i).length = L.length
  | 0 => rfl
  | i + 1 => by unfold markTo; rw [List.length_set, markTo_length q L i]
theorem markTo_getD (q : Int) (L : List Int) : ∀ i, i ≤ L.length → ∀ j, j < i → (markTo q L i).getD j 0 = q + j
  | 0, _, j, h => by omega
  | i + 1, hi, j, h => by
    unfold markTo
    have hl := markTo_length q L i
    rw [List.getD_eq_getElem?_getD, List.getElem?_set]
    by_cases e : i = j
    · subst e; rw [if_pos rfl, if_pos (by omega)]; rfl
    · rw [if_neg e, ← List.getD_eq_getElem?_getD]; exact markTo_getD q L i (by omega) j (by omega)

def Marked (q : Int) (M : List Int) : Prop := ∀ j, j < M.length → M.getD j 0 = q + j
theorem marked_all (q : Int) (L : List Int) : Marked q (markTo q L L.length) := fun j hj => markTo_getD q L L.length (Nat.le_refl _) j (by rw [markTo_length] at hj; exact hj)

def Marks (B : Nat) (v : Value) (L : List Int) (q : Int) (w : World) (e : Ending) (w' : World) : Prop :=
  e = .returned (.int .i64 (q + L.length)) ∧ Row w' B v (markTo q L L.length) ∧ Below B w w'

end Go.Proofs.YtlbmjpkkomdhhaaDoor
