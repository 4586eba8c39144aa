/-
  Lists of numbers: two ascending lists with the same members are one; a list without doubles, sorted, is the ascending list of its members.
-/
import Derived.WalkKit
namespace Go.Proofs.Ytmofhhffkppelaa

/-- two ascending lists with the same members are one -/
theorem asc_ext : ∀ (L M : List Int), L.Pairwise (· < ·) → M.Pairwise (· < ·) → (∀ y, y ∈ L ↔ y ∈ M) → L = M
  | [], [], _, _, _ => rfl
  | [], b :: M, _, _, h => by have := (h b).2 (by simp); cases this
  | a :: L, [], _, _, h => by have := (h a).1 (by simp); cases this
  | a :: L, b :: M, hL, hM, h => by
    obtain ⟨l1, l2⟩ := List.pairwise_cons.1 hL
    obtain ⟨m1, m2⟩ := List.pairwise_cons.1 hM
    have e : a = b := by
      rcases List.mem_cons.1 ((h a).1 (by simp)) with h1 | h1
      · exact h1
      · rcases List.mem_cons.1 ((h b).2 (by simp)) with h2 | h2
        · exact h2.symm
        · have := m1 _ h1
          have := l1 _ h2
          omega
    subst e
    congr 1
    refine asc_ext L M l2 m2 fun y => ?_
    have hy := h y
    simp only [List.mem_cons] at hy
    constructor
    · intro q
      rcases hy.1 (.inr q) with r | r
      · subst r; have := l1 _ q; omega
      · exact r
    · intro q
      rcases hy.2 (.inr q) with r | r
      · subst r; have := m1 _ q; omega
      · exact r
theorem asc_of_sorted {L : List Int} (hs : L.Pairwise fun x y => decide (x ≤ y) = true) (hn : L.Nodup) : L.Pairwise (· < ·) := by
  refine List.Pairwise.imp₂ (fun a b h1 h2 => ?_) hs hn
  have h1' := of_decide_eq_true h1
  omega
/-- a list without doubles, sorted, is the ascending list of its members -/
theorem sort_eq {L M : List Int} (hn : L.Nodup) (hM : M.Pairwise (· < ·)) (h : ∀ y, y ∈ L ↔ y ∈ M) : (L.mergeSort fun x y => decide (x ≤ y)) = M := by
  refine asc_ext _ _ (asc_of_sorted ?_ ?_) hM ?_
  · exact List.pairwise_mergeSort (fun a b c h1 h2 => by simp at *; omega) (fun a b => by simp; omega) L
  · exact (List.mergeSort_perm L _).nodup_iff.2 hn
  · intro y; rw [(List.mergeSort_perm L _).mem_iff]; exact h y

end Go.Proofs.Ytmofhhffkppelaa
