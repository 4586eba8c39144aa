/-
  The program's function that gathers sizes: a number is put into the ascending list that a captured variable holds.
-/
import Derived.Test.YtmofhhffkppelaaInsert
import Derived.Test.YtmofhhffkppelaaSizesSpec
namespace Go.Proofs.Ytmofhhffkppelaa
open Go.RowKit
set_option linter.unusedVariables false

theorem tonesTo_lt {s k : Nat} {x : Int} (h : x ∈ tonesTo s k) : 0 ≤ x ∧ x < k := by
  rw [tonesTo_map] at h
  obtain ⟨y, hy, rfl⟩ := List.mem_map.1 h
  obtain ⟨i, hi, e⟩ := List.getElem_of_mem hy
  have := tn_lt (s := s) (n := k) (i := i) hi
  rw [List.getD_eq_getElem?_getD, List.getElem?_eq_getElem hi] at this
  simp [e] at this
  exact ⟨by omega, by omega⟩
theorem tonesTo_sorted (s : Nat) : ∀ k, (tonesTo s k).Pairwise (· ≤ ·)
  | 0 => List.Pairwise.nil
  | k + 1 => by
    cases h : s.testBit k with
    | false => rw [tonesTo_no h]; exact tonesTo_sorted s k
    | true =>
      rw [tonesTo_yes h, List.pairwise_append]
      refine ⟨tonesTo_sorted s k, by simp, fun x hx y hy => ?_⟩
      have := tonesTo_lt hx
      have hy2 : y = (k : Int) := by simpa using hy
      omega
theorem tonesTo_count (s d : Nat) : ∀ k, d ≤ k → (tonesTo s k).countP (fun x => decide (x < (d : Int))) = (tonesTo s d).length
  | 0, h => by have : d = 0 := by omega
               subst this; rfl
  | k + 1, h => by
    by_cases e : d = k + 1
    · subst e
      rw [List.countP_eq_length]
      intro x hx
      have := tonesTo_lt hx
      simpa using this.2
    · have ih := tonesTo_count s d k (by omega)
      cases hb : s.testBit k with
      | false => rw [tonesTo_no hb]; exact ih
      | true =>
        rw [tonesTo_yes hb, List.countP_append, ih]
        simp
        omega
theorem tonesTo_mem (s d : Nat) : ∀ k, d < k → (tonesTo s k).contains (d : Int) = s.testBit d
  | 0, h => by omega
  | k + 1, h => by
    by_cases e : d = k
    · subst e
      cases hb : s.testBit d with
      | true => rw [tonesTo_yes hb]; simp
      | false =>
        rw [tonesTo_no hb]
        cases hc : (tonesTo s d).contains (d : Int) with
        | false => rfl
        | true =>
          have := tonesTo_lt (List.contains_iff_mem.1 hc)
          omega
    · have ih := tonesTo_mem s d k (by omega)
      cases hb : s.testBit k with
      | false => rw [tonesTo_no hb]; exact ih
      | true =>
        rw [tonesTo_yes hb, ← ih]
        have : ¬ (d : Int) = (k : Int) := by omega
        simp [this]
theorem or_bit {s d j : Nat} : (s ||| 2 ^ d).testBit j = (s.testBit j || decide (d = j)) := by rw [Nat.testBit_or, Nat.testBit_two_pow]
theorem tonesTo_or_low {s d : Nat} : ∀ k, k ≤ d → tonesTo (s ||| 2 ^ d) k = tonesTo s k
  | 0, _ => rfl
  | k + 1, h => by
    have ih := tonesTo_or_low (s := s) (d := d) k (by omega)
    have hb : (s ||| 2 ^ d).testBit k = s.testBit k := by rw [or_bit, decide_eq_false (by omega), Bool.or_false]
    cases hs : s.testBit k with
    | true => rw [tonesTo_yes (by rw [hb, hs]), tonesTo_yes hs, ih]
    | false => rw [tonesTo_no (by rw [hb, hs]), tonesTo_no hs, ih]
theorem tonesTo_split {s d : Nat} (hd : s.testBit d = false) : ∀ k, d < k → ∃ R, tonesTo s k = tonesTo s d ++ R ∧ tonesTo (s ||| 2 ^ d) k = tonesTo s d ++ (d : Int) :: R
  | 0, h => by omega
  | k + 1, h => by
    by_cases e : d = k
    · subst e
      refine ⟨[], by rw [tonesTo_no hd]; simp, ?_⟩
      rw [tonesTo_yes (by rw [or_bit]; simp), tonesTo_or_low _ (Nat.le_refl _)]
    · obtain ⟨R, h1, h2⟩ := tonesTo_split hd k (by omega)
      have hb : (s ||| 2 ^ d).testBit k = s.testBit k := by rw [or_bit, decide_eq_false e, Bool.or_false]
      cases hs : s.testBit k with
      | true => exact ⟨R ++ [(k : Int)], by rw [tonesTo_yes hs, h1, List.append_assoc], by rw [tonesTo_yes (by rw [hb, hs]), h2, List.append_assoc]; rfl⟩
      | false => exact ⟨R, by rw [tonesTo_no hs, h1], by rw [tonesTo_no (by rw [hb, hs]), h2]⟩
theorem tonesTo_ins {s d k : Nat} (hd : s.testBit d = false) (h : d < k) : insAt (tonesTo s k) (tonesTo s d).length d = tonesTo (s ||| 2 ^ d) k := by
  obtain ⟨R, h1, h2⟩ := tonesTo_split hd k h
  rw [h2]
  unfold insAt
  rw [h1]
  simp
theorem tonesTo_or {s d k : Nat} (hd : s.testBit d = true) : tonesTo (s ||| 2 ^ d) k = tonesTo s k := by
  have : s ||| 2 ^ d = s := by
    apply Nat.eq_of_testBit_eq
    intro j
    rw [or_bit]
    by_cases e : d = j
    · subst e; simp [hd]
    · simp [e]
  rw [this]


theorem Row.slice {w : World} {B : Nat} {v : Value} {L : List Int} (h : Row w B v L) : ∃ a n c, v = .slice a n c := by
  rcases h.cases with ⟨e, _⟩ | ⟨g, cap, e, _⟩
  · exact ⟨_, _, _, e⟩
  · exact ⟨_, _, _, e⟩
/-- the blocks below B but b are as they were -/
def Stays (b B : Nat) (w w' : World) : Prop := Below b w w' ∧ ∀ k, k < B → k ≠ b → w'.heap[k]? = w.heap[k]?
theorem Stays.refl (b B : Nat) (w : World) : Stays b B w w := ⟨Below.refl _ _, fun _ _ _ => rfl⟩
theorem Stays.cell {b B : Nat} {w w' : World} (h : Stays b B w w') {g o : Nat} (hg : g < B) (hne : g ≠ b) : w'.cell? ⟨g, o, none⟩ = w.cell? ⟨g, o, none⟩ := World.cell?_of_block (h.2 g hg hne)
theorem Stays.trans {b B : Nat} {u v w : World} (h : Stays b B u v) (k : Stays b B v w) : Stays b B u w := ⟨h.1.trans k.1, fun i hi hn => (k.2 i hi hn).trans (h.2 i hi hn)⟩
theorem Stays.of {b B : Nat} {w w' : World} (hb : b ≤ B) (h : Below B w w') (hB : B ≤ w.heap.size) : Stays b B w w' := ⟨h.mono hb, fun k hk _ => h.block k hk⟩

end Go.Proofs.Ytmofhhffkppelaa
