/-
  Plain mathematics of the triads in a set: as many in shifted and turned sets. Decided over all sets of twelve tones, on a table.
-/
import Derived.Test.YtgjfgmjgndcccaaDoorTriSetNum
namespace Go.Proofs.YtgjfgmjgndcccaaDoor.Tic
set_option linter.unusedVariables false

/-- the sets of the triads -/
def triTab : List Nat := [145, 137, 290, 274, 580, 548, 1160, 1096, 2320, 2192, 545, 289, 1090, 578, 2180, 1156, 265, 2312, 530, 529, 1060, 1058, 2120, 2116]
theorem triTab_eq : triTab = (List.range 24).map (fun k => triSet (k : Nat)) := by decide +kernel
/-- how many of some sets are in a set -/
def cnt (S : Nat) : List Nat → Nat
  | [] => 0
  | x :: l => bif Nat.beq (Nat.land x S) x then cnt S l + 1 else cnt S l
theorem cnt_append (S : Nat) : ∀ L M, cnt S (L ++ M) = cnt S L + cnt S M
  | [], M => by rw [List.nil_append]; show _ = 0 + _; omega
  | x :: L, M => by
    have ih := cnt_append S L M
    show (bif Nat.beq (Nat.land x S) x then cnt S (L ++ M) + 1 else cnt S (L ++ M)) = (bif Nat.beq (Nat.land x S) x then cnt S L + 1 else cnt S L) + cnt S M
    rw [ih]
    cases Nat.beq (Nat.land x S) x
    · rfl
    · show _ + 1 = _ + 1 + _
      omega
theorem cnt_one (S x : Nat) : cnt S [x] = if x &&& S = x then 1 else 0 := by
  show (bif Nat.beq (Nat.land x S) x then 0 + 1 else 0) = _
  by_cases h : x &&& S = x
  · rw [if_pos h, show Nat.land x S = x from h, Nat.beq_refl]; rfl
  · rw [if_neg h]
    cases e : Nat.beq (Nat.land x S) x with
    | false => rfl
    | true => exact absurd (Nat.eq_of_beq_eq_true e) h
theorem trisIn_cnt (S : Nat) : ∀ k, (trisIn S k).length = cnt S ((List.range k).map (fun k => triSet (k : Nat)))
  | 0 => rfl
  | k + 1 => by
    rw [List.range_succ, List.map_append, cnt_append, ← trisIn_cnt S k]
    show _ = _ + cnt S [triSet k]
    rw [cnt_one]
    by_cases h : triSet k &&& S = triSet k
    · rw [trisIn_yes h, if_pos h]; simp
    · rw [trisIn_no h, if_neg h]; rfl
theorem trisIn_tab (S : Nat) : (trisIn S 24).length = cnt S triTab := by rw [triTab_eq]; exact trisIn_cnt S 24
/-- all numbers below f are so -/
def allBelow (p : Nat → Bool) : Nat → Bool
  | 0 => true
  | f + 1 => p f && allBelow p f
theorem allBelow_at {p : Nat → Bool} : ∀ {f}, allBelow p f = true → ∀ s, s < f → p s = true
  | 0, _, s, h => by omega
  | f + 1, h, s, hs => by
    unfold allBelow at h
    rw [Bool.and_eq_true] at h
    by_cases e : s = f
    · rw [e]; exact h.1
    · exact allBelow_at h.2 s (by omega)
theorem cnt_shf : allBelow (fun s => Nat.beq (cnt (shf 12 5 s) triTab) (cnt s triTab)) 4096 = true := by decide +kernel
theorem cnt_tur : allBelow (fun s => Nat.beq (cnt (tur 12 0 s) triTab) (cnt s triTab)) 4096 = true := by decide +kernel
theorem tris_shf {s : Nat} (h : s < 4096) : (trisIn (shf 12 5 s) 24).length = (trisIn s 24).length := by
  rw [trisIn_tab, trisIn_tab]
  exact Nat.eq_of_beq_eq_true (allBelow_at cnt_shf s h)
theorem tris_tur {s : Nat} (h : s < 4096) : (trisIn (tur 12 0 s) 24).length = (trisIn s 24).length := by
  rw [trisIn_tab, trisIn_tab]
  exact Nat.eq_of_beq_eq_true (allBelow_at cnt_tur s h)
theorem trisIn_mem (S : Nat) (v : Int) : ∀ k, v ∈ trisIn S k → ∃ j : Nat, j < k ∧ v = (j : Int) ∧ triSet j &&& S = triSet j
  | 0, h => by cases h
  | k + 1, h => by
    by_cases e : triSet k &&& S = triSet k
    · rw [trisIn_yes e, List.mem_append] at h
      rcases h with h | h
      · obtain ⟨j, h1, h2⟩ := trisIn_mem S v k h; exact ⟨j, by omega, h2⟩
      · exact ⟨k, by omega, by simpa using h, e⟩
    · rw [trisIn_no e] at h
      obtain ⟨j, h1, h2⟩ := trisIn_mem S v k h; exact ⟨j, by omega, h2⟩
theorem trisIn_asc (S : Nat) : ∀ k, (trisIn S k).Pairwise (· < ·)
  | 0 => List.Pairwise.nil
  | k + 1 => by
    have ih := trisIn_asc S k
    by_cases e : triSet k &&& S = triSet k
    · rw [trisIn_yes e, List.pairwise_append]
      refine ⟨ih, List.pairwise_singleton _ _, fun a ha b hb => ?_⟩
      obtain ⟨j, h1, rfl, _⟩ := trisIn_mem S a k ha
      simp at hb
      omega
    · rw [trisIn_no e]; exact ih

end Go.Proofs.YtgjfgmjgndcccaaDoor.Tic
