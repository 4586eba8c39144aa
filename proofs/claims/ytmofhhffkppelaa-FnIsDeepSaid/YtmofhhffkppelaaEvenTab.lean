/-
  Plain mathematics of even scales, second part: sets of equal or nearly equal steps are the spread ones; tables decided over all circles of twelve tones. No program in sight.
-/
import Derived.Test.YtmofhhffkppelaaEvenNum
namespace Go.Proofs.Ytmofhhffkppelaa.Tic
set_option linter.unusedVariables false

/-- the place of the i-th of k tones spread over n -/
def spt (n k m i : Nat) : Nat := (i * n + m) / k % n
/-- the first j of them as a set, and added up -/
def spr (n k m : Nat) : Nat → Nat
  | 0 => 0
  | j + 1 => spr n k m j ||| 2 ^ spt n k m j
def spS (n k m : Nat) : Nat → Nat
  | 0 => 0
  | j + 1 => spS n k m j + 2 ^ spt n k m j
def sprOk : Bool := (List.range 13).all fun n => (List.range 13).all fun k => (List.range n).all fun m => n < k || (List.range (k + 1)).all fun j => spr n k m j == spS n k m j
theorem sprOk_true : sprOk = true := by decide +kernel
theorem spr_sum {n k m j : Nat} (hn : n ≤ 12) (hk : k ≤ n) (hm : m < n) (hj : j ≤ k) : spS n k m j = spr n k m j := by
  have h := sprOk_true
  simp only [sprOk, List.all_eq_true, List.mem_range, Bool.or_eq_true, decide_eq_true_eq, beq_iff_eq] at h
  rcases h n (by omega) k (by omega) m hm with h | h
  · omega
  · exact (h j (by omega)).symm
theorem spt_lt {n : Nat} (h : 0 < n) (k m i : Nat) : spt n k m i < n := Nat.mod_lt _ h
theorem spr_lt {n : Nat} (h : 0 < n) (k m : Nat) : ∀ j, spr n k m j < 2 ^ n
  | 0 => Nat.two_pow_pos n
  | j + 1 => by
    unfold spr
    exact Nat.or_lt_two_pow (spr_lt h k m j) (Nat.pow_lt_pow_right (by omega) (spt_lt h k m j))

/-- one bit at most -/
def pw2 (D : Nat) : Bool := D &&& (D - 1) == 0
/-- one size, or two next to each other -/
def okD (D : Nat) : Bool := pw2 D || (D % 3 == 0 && pw2 (D / 3))
/-- two sizes -/
def okD2 (D : Nat) : Bool := D &&& (D - 1) != 0 && pw2 (D &&& (D - 1))
/-- the sizes of 1 to j steps all have p -/
def allTo (p : Nat → Bool) (n s : Nat) : Nat → Bool
  | 0 => true
  | j + 1 => allTo p n s j && p (dset n s (j + 1))
theorem allTo_at (p : Nat → Bool) (n s : Nat) : ∀ j, allTo p n s j = true ↔ ∀ i, 1 ≤ i → i ≤ j → p (dset n s i) = true
  | 0 => by simp [allTo]; omega
  | j + 1 => by
    unfold allTo
    rw [Bool.and_eq_true, allTo_at p n s j]
    constructor
    · rintro ⟨h1, h2⟩ i hi hj
      by_cases e : i = j + 1
      · subst e; exact h2
      · exact h1 i hi (by omega)
    · intro h
      exact ⟨fun i hi hj => h i hi (by omega), h (j + 1) (by omega) (by omega)⟩
theorem allTo_no {p : Nat → Bool} {n s i j : Nat} (h : p (dset n s i) = false) (h1 : 1 ≤ i) (h2 : i ≤ j) : allTo p n s j = false := by
  cases e : allTo p n s j with
  | false => rfl
  | true => rw [(allTo_at p n s j).1 e i h1 h2] at h; cases h
def evn (n s : Nat) : Bool := allTo okD n s (rk s n - 1)
def dbl (n s : Nat) : Bool := allTo okD2 n s (rk s n - 1)

/-- the list of the sizes tells whether they are nearly equal -/
def okL (L : List Nat) : Bool := L.length == 1 || (L.length == 2 && L.getD 1 0 == L.getD 0 0 + 1)
def listOk : Bool := (List.range 4096).all fun D => D == 0 || (okL (tn D 12) == okD D && ((tn D 12).length == 2) == okD2 D)
theorem listOk_true : listOk = true := by decide +kernel
theorem tn_big {s n : Nat} (h : s < 2 ^ n) : ∀ m, n ≤ m → tn s m = tn s n
  | 0, hm => by have : n = 0 := by omega
                subst this; rfl
  | m + 1, hm => by
    by_cases e : n = m + 1
    · subst e; rfl
    · rw [tn_no (Nat.testBit_lt_two_pow (Nat.lt_of_lt_of_le h (Nat.pow_le_pow_right (by omega) (by omega)))), tn_big h m (by omega)]
theorem okL_tn {D n : Nat} (hD : D < 2 ^ n) (hn : n ≤ 12) (h0 : D ≠ 0) : okL (tn D n) = okD D ∧ ((tn D n).length == 2) = okD2 D := by
  have h := listOk_true
  simp only [listOk, List.all_eq_true, List.mem_range, Bool.or_eq_true, Bool.and_eq_true, beq_iff_eq] at h
  have hp : 2 ^ n ≤ 2 ^ 12 := Nat.pow_le_pow_right (by omega) hn
  rcases h D (by omega) with h | h
  · exact absurd h h0
  · rw [tn_big hD 12 hn] at h; exact h

def evOk (n : Nat) : Bool := (List.range (2 ^ n)).all fun s => s == 0 || !evn n s || (List.range n).any fun t => shf n t (spr n (rk s n) 0 (rk s n)) == s
def shOk (n : Nat) : Bool := (List.range (n + 1)).all fun k => k == 0 || (List.range n).all fun t => evn n (shf n t (spr n k 0 k)) && rk (spr n k 0 k) n == k && (k == n || evn n (oth n (shf n t (spr n k 0 k))))
def smOk (n : Nat) : Bool := (List.range (n + 1)).all fun k => k == 0 || (List.range n).all fun m => (List.range n).any fun t => shf n t (spr n k 0 k) == spr n k m k
theorem smOk_true : ((List.range 13).all smOk) = true := by decide +kernel
theorem shOk_true : ((List.range 13).all shOk) = true := by decide +kernel
theorem evOk_low : ((List.range 11).all evOk) = true := by decide +kernel
theorem evOk_11 : evOk 11 = true := by decide +kernel
theorem evOk_12 : evOk 12 = true := by decide +kernel
end Go.Proofs.Ytmofhhffkppelaa.Tic
