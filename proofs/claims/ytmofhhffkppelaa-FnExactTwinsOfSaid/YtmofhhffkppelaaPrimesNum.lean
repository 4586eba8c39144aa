/-
  What the map of kinds holds, and the list of its least sets, put in order.
-/
import Derived.Test.YtmofhhffkppelaaSorted
import Derived.Test.YtmofhhffkppelaaKinds
import Derived.Test.YtmofhhffkppelaaLawNum
namespace Go.Proofs.Ytmofhhffkppelaa
open Go.RowKit Go.Maps
set_option linter.unusedVariables false

theorem kl_key {n x : Nat} (h1 : n ≤ 12) (h2 : x ≤ 5000) : WideAt.IsKeyLit (kl n x) := kindKeyed.key (kl_of h1 h2)
theorem kindMap_isMap {H : Type} (n k : Nat) : ∀ m, IsMap (kindMap (H := H) n k m)
  | 0 => isMap_empty
  | m + 1 => by unfold kindMap; split
                · exact (kindMap_isMap n k m).put _ _
                · exact kindMap_isMap n k m
theorem kindMap_has {H : Type} {n k : Nat} (hn : n ≤ 12) (l : Lit) : ∀ m, (∀ s, s < m → Tic.prm n s ≤ 5000) → (has (kindMap (H := H) n k m) l = true ↔ ∃ s, s < m ∧ Tic.wt 12 s = k ∧ l = kl n (Tic.prm n s))
  | 0, _ => by
    constructor
    · intro h; cases h
    · rintro ⟨s, h, _⟩; omega
  | m + 1, hp => by
    have ih := kindMap_has (H := H) (k := k) hn l m (fun s hs => hp s (by omega))
    by_cases hw : Tic.wt 12 m = k
    · rw [kindMap_yes hw]
      by_cases e : l = kl n (Tic.prm n m)
      · subst e
        rw [has_put_same (kindMap_isMap n k m) (kl_key hn (hp m (by omega)))]
        exact ⟨fun _ => ⟨m, by omega, hw, rfl⟩, fun _ => rfl⟩
      · rw [has_put_other e, ih]
        constructor
        · rintro ⟨s, h1, h2, h3⟩; exact ⟨s, by omega, h2, h3⟩
        · rintro ⟨s, h1, h2, h3⟩
          by_cases hs : s = m
          · subst hs; exact absurd h3 e
          · exact ⟨s, by omega, h2, h3⟩
    · rw [kindMap_no hw, ih]
      constructor
      · rintro ⟨s, h1, h2, h3⟩; exact ⟨s, by omega, h2, h3⟩
      · rintro ⟨s, h1, h2, h3⟩
        by_cases hs : s = m
        · subst hs; exact absurd h2 hw
        · exact ⟨s, by omega, h2, h3⟩

theorem kindMap_tidy {H : Type} {n k : Nat} (hn : n ≤ 12) : ∀ m, (∀ s, s < m → Tic.prm n s ≤ 5000) → Tidy (kindMap (H := H) n k m) ∧ size (kindMap (H := H) n k m) ≤ m
  | 0, _ => ⟨tidy_empty, Nat.le_refl _⟩
  | m + 1, hp => by
    have ih := kindMap_tidy (H := H) (k := k) hn m (fun s hs => hp s (by omega))
    by_cases hw : Tic.wt 12 m = k
    · rw [kindMap_yes hw]
      refine ⟨ih.1.put (kl_key hn (hp m (by omega))) _, ?_⟩
      rw [size_put ih.1]
      split <;> omega
    · rw [kindMap_no hw]
      exact ⟨ih.1, by omega⟩
theorem kindMap_size {H : Type} {n k m : Nat} (hn : n ≤ 12) (hp : ∀ s, s < m → Tic.prm n s ≤ 5000) : size (kindMap (H := H) n k m) ≤ m := (kindMap_tidy hn m hp).2
theorem ranges_below {H : Type} {P : Program} {k : TypeId} {R : Value → Option (DataW H × List MemPlace)} {b r n : Nat} {D : DataW H} {left : Lit → Bool} {cnt B : Nat} {w w' : World} (h : w.ranges P k R b r n D left cnt) (hb : Below B w w') (h1 : b < B) (h2 : r < B) : w'.ranges P k R b r n D left cnt := by
  obtain ⟨es, clock, since, seen, c0, e1, F, hs, hD, e2, rest⟩ := h
  exact ⟨es, clock, since, seen, c0, (hb.block b h1).trans e1, F, hs, hD, (hb.block r h2).trans e2, rest⟩

theorem primesTo_mem (n k : Nat) (y : Int) : ∀ m, (y ∈ primesTo n k m ↔ ∃ s : Nat, s < m ∧ told n k s = true ∧ y = (s : Int))
  | 0 => by
    constructor
    · intro h; cases h
    · rintro ⟨s, h, _⟩; omega
  | m + 1 => by
    have ih := primesTo_mem n k y m
    cases ht : told n k m
    · rw [primesTo_no ht, ih]
      constructor
      · rintro ⟨s, h1, h2, h3⟩; exact ⟨s, by omega, h2, h3⟩
      · rintro ⟨s, h1, h2, h3⟩
        by_cases hs : s = m
        · subst hs; rw [ht] at h2; cases h2
        · exact ⟨s, by omega, h2, h3⟩
    · rw [primesTo_yes ht, List.mem_append, ih]
      constructor
      · rintro (⟨s, h1, h2, h3⟩ | h)
        · exact ⟨s, by omega, h2, h3⟩
        · exact ⟨m, by omega, ht, by simpa using h⟩
      · rintro ⟨s, h1, h2, h3⟩
        by_cases hs : s = m
        · subst hs; exact .inr (by simp [h3])
        · exact .inl ⟨s, by omega, h2, h3⟩
theorem primesTo_asc (n k : Nat) : ∀ m, (primesTo n k m).Pairwise (· < ·)
  | 0 => List.Pairwise.nil
  | m + 1 => by
    have ih := primesTo_asc n k m
    cases ht : told n k m
    · rw [primesTo_no ht]; exact ih
    · rw [primesTo_yes ht, List.pairwise_append]
      refine ⟨ih, List.pairwise_singleton _ _, ?_⟩
      intro a ha b hb
      obtain ⟨s, h1, _, rfl⟩ := (primesTo_mem n k a m).1 ha
      simp at hb
      omega

/-- the kinds that have come so far: their least sets -/
def Come (n k m : Nat) (left : Lit → Bool) (L : List Int) : Prop :=
  L.Nodup ∧ ∀ y : Int, y ∈ L ↔ ∃ x : Nat, y = (x : Int) ∧ x ≤ 5000 ∧ has (kindMap (H := Unit) n k m) (kl n x) = true ∧ left (kl n x) = false
theorem come_start (n k m : Nat) : Come n k m (has (kindMap (H := Unit) n k m)) [] := by
  refine ⟨List.nodup_nil, fun y => ⟨fun h => absurd h List.not_mem_nil, ?_⟩⟩
  rintro ⟨x, _, _, h1, h2⟩
  rw [h1] at h2; cases h2
theorem come_step {n k m x : Nat} {left : Lit → Bool} {L : List Int} (hn : n ≤ 12) (h : Come n k m left L) (hx : x ≤ 5000) (hh : has (kindMap (H := Unit) n k m) (kl n x) = true) (hl : left (kl n x) = true) :
    Come n k m (fun z => left z && !z.sameKey (kl n x)) (L ++ [(x : Int)]) := by
  have hno : ¬ (x : Int) ∈ L := by
    intro hm
    obtain ⟨x', e, _, _, h2⟩ := (h.2 _).1 hm
    have : x' = x := by omega
    subst this
    rw [hl] at h2; cases h2
  refine ⟨?_, fun y => ?_⟩
  · rw [List.nodup_append]
    refine ⟨h.1, by simp, ?_⟩
    intro a ha b hb e
    simp at hb
    subst hb e
    exact hno ha
  · rw [List.mem_append, h.2]
    constructor
    · rintro (⟨x', e, h1, h2, h3⟩ | h1)
      · exact ⟨x', e, h1, h2, by simp [h3]⟩
      · refine ⟨x, by simpa using h1, hx, hh, ?_⟩
        simp [WideAt.sameKey_self (kl_key hn hx)]
    · rintro ⟨x', e, h1, h2, h3⟩
      by_cases hxx : x' = x
      · subst hxx; exact .inr (by simp [e])
      · left
        refine ⟨x', e, h1, h2, ?_⟩
        have hne : kl n x' ≠ kl n x := fun q => hxx (kl_inj hn h1 hx q)
        have h4 : (left (kl n x') && !(kl n x').sameKey (kl n x)) = false := h3
        rw [sameKey_ne hne] at h4
        simpa using h4
theorem come_end {n k : Nat} {left : Lit → Bool} {L : List Int} (hn0 : 0 < n) (hn : n ≤ 12) (h : Come n k (2 ^ n) left L) (hl : ∀ z, left z = false) (hp : ∀ s, s < 2 ^ n → Tic.prm n s ≤ 5000) :
    (L.mergeSort fun x y => decide (x ≤ y)) = primesTo n k (2 ^ n) := by
  refine sort_eq h.1 (primesTo_asc _ _ _) fun y => ?_
  rw [h.2, primesTo_mem]
  constructor
  · rintro ⟨x, rfl, hx, hh, _⟩
    obtain ⟨s, h1, h2, h3⟩ := (kindMap_has hn _ _ hp).1 hh
    have e := kl_inj hn hx (hp s h1) h3
    subst e
    refine ⟨_, Nat.lt_of_le_of_lt Tic.prm_le h1, ?_, rfl⟩
    unfold told
    rw [Tic.prm_prm hn0 h1, Tic.prm_wt hn0 hn h1]
    simp [h2]
  · rintro ⟨s, h1, h2, rfl⟩
    unfold told at h2
    have h3 := of_decide_eq_true h2
    have hs := hp s h1
    rw [h3.2] at hs
    refine ⟨s, rfl, hs, ?_, hl _⟩
    exact (kindMap_has hn _ _ hp).2 ⟨s, h1, h3.1, by rw [h3.2]⟩
end Go.Proofs.Ytmofhhffkppelaa
