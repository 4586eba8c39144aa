/-
  How many sets have so many tones, reckoned over the least sets of the kinds: decided for circles of up to 9 tones.
-/
import Derived.Test.YtchaeiecohldkaaPrimesNum
namespace Go.Proofs.Ytchaeiecohldkaa
open Go.RowKit
set_option linter.unusedVariables false

/-- how many shifts and turns leave a set -/
def mv (n s : Nat) : Nat := Tic.shs n s n + Tic.trs n s n
/-- how many sets are of the kind of a set -/
def tm (n : Nat) (y : Int) : Nat := 2 * n / mv n y.toNat
/-- how many sets of k of n there are -/
def chs (n : Nat) : Nat → Nat
  | 0 => 1
  | i + 1 => chs n i * (n - i) / (i + 1)
def setOk (n k : Nat) (y : Int) : Bool := decide (Tic.wt 12 y.toNat = k) && (decide (1 ≤ mv n y.toNat) && decide (2 * n % mv n y.toNat = 0))
def tabOk (n k : Nat) : Bool := (primesTo n k (2 ^ n)).all (setOk n k) && decide (((primesTo n k (2 ^ n)).map (tm n)).sum = chs n k)
def tabsOk : Bool := (List.range 7).all fun a => (List.range 7).all fun k => decide (a + 3 < k) || tabOk (a + 3) k
set_option maxRecDepth 100000 in
theorem tabsOk_true : tabsOk = true := by decide +kernel
theorem tab {n k : Nat} (h1 : 3 ≤ n) (h2 : n ≤ 9) (hk : k ≤ 6) (hkn : k ≤ n) : (∀ y, y ∈ primesTo n k (2 ^ n) → setOk n k y = true) ∧ ((primesTo n k (2 ^ n)).map (tm n)).sum = chs n k := by
  have h := List.all_eq_true.1 (List.all_eq_true.1 tabsOk_true (n - 3) (List.mem_range.2 (by omega))) k (List.mem_range.2 (by omega))
  rw [show n - 3 + 3 = n by omega] at h
  have h3 : decide (n < k) = false := by simp; omega
  rw [h3, Bool.false_or] at h
  unfold tabOk at h
  rw [Bool.and_eq_true] at h
  exact ⟨fun y hy => List.all_eq_true.1 h.1 y hy, of_decide_eq_true h.2⟩
def chsOk : Bool := (List.range 13).all fun n => (List.range 7).all fun i => decide (chs n i ≤ 1000)
theorem chsOk_true : chsOk = true := by decide +kernel
theorem chs_le {n i : Nat} (hn : n ≤ 12) (hi : i ≤ 6) : chs n i ≤ 1000 :=
  of_decide_eq_true (List.all_eq_true.1 (List.all_eq_true.1 chsOk_true n (List.mem_range.2 (by omega))) i (List.mem_range.2 (by omega)))

/-- the sum over the first i of a list -/
def part' (n : Nat) (L : List Int) (i : Nat) : Nat := ((L.take i).map (tm n)).sum
theorem part_zero (n : Nat) (L : List Int) : part' n L 0 = 0 := rfl
theorem part_next {n i : Nat} {L : List Int} (h : i < L.length) : part' n L (i + 1) = part' n L i + tm n (L.getD i 0) := by
  unfold part'
  rw [List.take_succ_eq_append_getElem h, List.map_append, List.sum_append]
  simp [List.getD_eq_getElem?_getD, List.getElem?_eq_getElem h]
theorem part_all (n : Nat) (L : List Int) : part' n L L.length = (L.map (tm n)).sum := by unfold part'; rw [List.take_length]
theorem tm_le (n : Nat) (y : Int) : tm n y ≤ 2 * n := Nat.div_le_self _ _
end Go.Proofs.Ytchaeiecohldkaa
