/-
  Contracts of the drawers of triads and words of steps.
-/
import Derived.Test.YtgjfgmjgndcccaaDoorDraws
import Derived.Test.YtgjfgmjgndcccaaDoorTriSet
namespace Go.Proofs.YtgjfgmjgndcccaaDoor
open Go.RowKit
set_option linter.unusedVariables false



/-- a triad, or a number beside, is drawn -/
def DT (w : World) (e : Ending) (w' : World) : Prop := ∃ t : Int, e = .returned (.int .i64 t) ∧ -1 ≤ t ∧ t ≤ 24 ∧ Below w.heap.size w w'
/-- a set of twelve tones, or a number beside -/
def DTO (w : World) (e : Ending) (w' : World) : Prop := ∃ t : Int, e = .returned (.int .i64 t) ∧ -1 ≤ t ∧ t ≤ 1000000 ∧ Below w.heap.size w w'
/-- a triad and a number -/
def DTK (w : World) (e : Ending) (w' : World) : Prop := ∃ t k : Int, e = .returned (.tuple #[.int .i64 t, .int .i64 k]) ∧ -1 ≤ t ∧ t ≤ 24 ∧ -60 ≤ k ∧ k ≤ 60 ∧ Below w.heap.size w w'
/-- a triad and a text -/
def DTW (w : World) (e : Ending) (w' : World) : Prop := ∃ (t : Int) (s : ByteArray), e = .returned (.tuple #[.int .i64 t, .string s]) ∧ -1 ≤ t ∧ t ≤ 24 ∧ s.size ≤ 20 ∧ Below w.heap.size w w'
theorem drawTriadsIn (x : Option Addr) (len cap : Nat) (w : World) (h : Code w x len cap) : Calls Tryd.prog 4 #[.slice x len cap] w (DTO w) := by
  obtain ⟨zs, h1, h2, h3⟩ := h
  go_enter Tryd.func4, Tryd.ntmps4
  go_wp2_with fail
  refine (newReader_any _ _ _ _ _ h1 h2 h3).mono ?_; rintro e w1 ⟨rfl, hrd, hb, _⟩
  have HB := Lib.hid hb
  clear hb
  go_wp2_with fail
  refine (pick_pos _ _ _ _ hrd (by omega) (by omega) (by omega)).mono ?_; rintro e w2 ⟨r, rfl, h0, h1, HR2, HG2⟩
  by_cases hr : r = 0
  · subst hr
    go_wp2_with fail
    refine (pick_pos _ _ _ _ HR2.out (by omega) (by omega) (by omega)).mono ?_; rintro e w3 ⟨r3, rfl, h4, h5, HR3, HG3⟩
    obtain ⟨n, rfl⟩ := Int.eq_ofNat_of_zero_le h4
    have hx := Tic.triSet_lt n
    go_wp2_with fail
    refine (striadSet_any _ _ (by omega)).mono ?_; rintro e w4 ⟨rfl, rfl⟩
    go_wp2_with fail
    refine (pick_pos _ _ _ _ HR3.out (by omega) (by omega) (by omega)).mono ?_; rintro e w5 ⟨r5, rfl, h6, h7, HR5, HG5⟩
    obtain ⟨m, rfl⟩ := Int.eq_ofNat_of_zero_le h6
    have hy := Tic.triSet_lt m
    go_wp2_with fail
    refine (striadSet_any _ _ (by omega)).mono ?_; rintro e w6 ⟨rfl, rfl⟩
    have HO := Lib.hid (i64_or_nat (Tic.triSet n) (Tic.triSet m) (by omega) (by omega))
    have ho : Tic.triSet n ||| Tic.triSet m < 4096 := Nat.or_lt_two_pow (n := 12) hx hy
    generalize Tic.triSet n = a at hx HO ho
    generalize Tic.triSet m = b at hy HO ho
    go_wp2_with fail
    rw [HO.out]
    go_ret
    exact ⟨_, rfl, by omega, by omega, below_grown HB.out (grown_trans HG2.out (grown_trans HG3.out HG5.out))⟩
  · go_wp2_with fail
    refine (setOf_any _ _ _ _ HR2.out (by omega) (by omega) (by omega)).mono ?_; rintro e w3 ⟨s, p3, rfl, s0, s1, hp3, hr3, hg3⟩
    go_wp2_with fail
    go_ret
    exact ⟨s, rfl, s0, s1, below_grown HB.out (grown_trans HG2.out hg3)⟩
end Go.Proofs.YtgjfgmjgndcccaaDoor
