/-
  A list of numbers that a call made, sorted in place.
-/
import Derived.Test.YtmofhhffkppelaaTones
import Derived.Test.YtmofhhffkppelaaSorted
import Derived.Test.YtmofhhffkppelaaSort
import Derived.Sort.OwnSortedInts
namespace Go.Proofs.Ytmofhhffkppelaa
open Go.RowKit
set_option linter.unusedVariables false

theorem Row.but {w w' : World} {B : Nat} {v : Value} {L : List Int} (h : Row w B v L) {g : Nat} (hg : w.grownBy w' (some g)) (hB : g < B) : Row w' B v L := by
  refine ⟨h.1.kept hg (.inr ?_), h.2⟩
  rcases h.cases with ⟨rfl, _⟩ | ⟨g', cap, rfl, hb, _⟩
  · simp [Value.ownBlock]
  · simp [Value.ownBlock]; omega
theorem Row.own_ge {w : World} {B k : Nat} {v : Value} {L : List Int} (h : Row w B v L) (e : v.ownBlock = some k) : B ≤ k := by
  rcases h.cases with ⟨rfl, _⟩ | ⟨g', cap, rfl, hb, _⟩
  · simp [Value.ownBlock] at e
  · simp [Value.ownBlock] at e; omega
/-- a list sorted in place -/
theorem sort_row (v : Value) (B : Nat) (L : List Int) (w : World) (h : Row w B v L) :
    Calls Try.prog 45 #[v] w fun e w' => e = .returned (.tuple #[]) ∧ Row w' B v (L.mergeSort fun x y => decide (x ≤ y)) ∧ w.grownBy w' v.ownBlock := by
  obtain ⟨h1, h2⟩ := h
  have hlen : (L.mergeSort fun x y => decide (x ≤ y)).length = L.length := List.length_mergeSort _
  rcases h1.2 with ⟨e, hn⟩ | ⟨g, cap, cur, e, hg, hb, r1, r2, r3, r4⟩
  · subst e
    have : L = [] := List.eq_nil_of_length_eq_zero hn
    subst this
    refine (Try.slices_Sort_int_none none 0 w).mono ?_
    rintro e w' ⟨rfl, rfl⟩
    exact ⟨rfl, ⟨⟨by simp, .inl ⟨rfl, by simp⟩⟩, by simp⟩, World.grownBy.refl _ _⟩
  · subst e
    refine (Try.slices_Sort_int g 0 cap L w (holds_of_blockI hb (by simpa using r4)) (Array.getElem?_eq_some_iff.1 hb).1 (by omega)).mono ?_
    rintro e w' ⟨rfl, n, os, rfl⟩
    refine ⟨rfl, ⟨?_, by rw [hlen]; exact h2⟩, ?_⟩
    · rw [hlen]
      exact ownsRow_sortedI hlen hg hb r1 r2 r3
    · exact grownBy_sortedI _

end Go.Proofs.Ytmofhhffkppelaa
