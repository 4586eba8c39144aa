/-
  The walk of the exact law of TwinsOf.
-/
import Derived.Test.YtmofhhffkppelaaTwinsImpl
import Derived.Test.YtmofhhffkppelaaListsEq
namespace Go.Proofs.Ytmofhhffkppelaa
open Go.RowKit
set_option linter.unusedVariables false

theorem iTwinsOf_no (n k : Int) (w : World) (h : ¬ Counts n k) :
    Calls Try.prog 8 #[.int .i64 n, .int .i64 k] w (GivesLists [] w) := by
  go_enter Try.func8, Try.ntmps8
  go_wp2_with fail
  refine (iPrimesOf_no _ _ _ h).mono ?_; rintro e w1 ⟨v, rfl, hr, hb⟩
  have HB := Lib.hid hb
  rcases hr.cases with ⟨rfl, _⟩ | ⟨g, c, rfl, _⟩
  all_goals
    clear hr hb
    go_wp2
    refine wp_loop_rounds 1 ?_
    rw [rounds_succ]
    go_wp2
    go_ret
    exact ⟨_, _, rfl, Lists.nil _ _, HB.out⟩

set_option maxHeartbeats 800000 in
theorem FnExactTwinsOf_core (a0 a1 : Int) (LL : List (List Int)) (hl : LL.length ≤ 16777216) (ho : offs LL LL.length ≤ 100000000000) (hs : ∀ w, Calls Try.prog 10 #[.int .i64 a0, .int .i64 a1] w (GivesLists LL w)) (hi : ∀ w, Calls Try.prog 8 #[.int .i64 a0, .int .i64 a1] w (GivesLists LL w)) (w : World) :
    Calls Try.prog 4 #[.int .i64 a0, .int .i64 a1] w fun e w' => e = .returned (.bool true) ∧ Below w.heap.size w w' := by
  have HS := Lib.hid hs
  have HI := Lib.hid hi
  clear hs hi
  go_enter Try.func4, Try.ntmps4
  go_wp2_with fail
  refine (HS.out _).mono ?_; rintro e w1 ⟨v0, vs0, rfl, r0, b1⟩
  have lt0 := Lib.hid r0.blocks
  have R0 := Lib.hid r0
  have B1 := Lib.hid b1
  clear r0 b1
  go_wp2_with fail
  refine (HI.out _).mono ?_; rintro e w2 ⟨v1, vs1, rfl, r1, b2⟩
  have R1 := Lib.hid r1
  have R0' := Lib.hid (R0.out.kept b2)
  have hz2 := b2.size
  have B2 := Lib.hid (B1.out.trans (b2.mono B1.out.size))
  clear r1 b2 R0
  go_wp2_with fail
  refine (eqIntSS_same _ _ _ _ _ _ _ _ R1.out R0'.out).mono ?_; rintro e w3 ⟨rfl, b3⟩
  have R1' := Lib.hid (R1.out.kept b3)
  have R0 := Lib.hid (R0'.out.kept b3)
  have hz3 := b3.size
  have B3 := Lib.hid (B2.out.trans (b3.mono B2.out.size))
  clear b3 R1 R0' B2
  go_wp2_with fail
  refine (markIntSS_any _ _ vs1 LL _ _ (R1'.out.ms 1) (by omega) (by omega) hl (by omega)).mono ?_; rintro e w4 ⟨rfl, r1, b4⟩
  have hz4 := b4.size
  have R1 := Lib.hid r1
  have R0' := Lib.hid (R0.out.low b4 lt0.out)
  have B4 := Lib.hid (B3.out.trans (b4.mono B1.out.size))
  clear r1 b4 R1' R0 B3
  go_wp2_with fail
  refine (heldIntSS_any _ _ vs1 LL _ _ R1.out (by omega) hl (by omega)).mono ?_; rintro e w4' ⟨rfl, rfl⟩
  go_wp2_with fail
  refine (HI.out _).mono ?_; rintro e w5 ⟨v2, vs2, rfl, r2, b5⟩
  have R2 := Lib.hid r2
  have R1' := Lib.hid (R1.out.kept b5)
  have R0 := Lib.hid (R0'.out.kept b5)
  have hz5 := b5.size
  have B5 := Lib.hid (B4.out.trans (b5.mono B4.out.size))
  clear r2 b5 R1 R0' B4
  go_wp2_with fail
  refine (eqIntSS_same _ _ _ _ _ _ _ _ R2.out R0.out).mono ?_; rintro e w6 ⟨rfl, b6⟩
  have R1 := Lib.hid (R1'.out.kept b6)
  have B6 := Lib.hid (B5.out.trans (b6.mono B5.out.size))
  clear b6 R1' R0 B5
  go_wp2_with fail
  refine (heldIntSS_any _ _ vs1 LL _ _ R1.out (by omega) hl (by omega)).mono ?_; rintro e w6' ⟨rfl, rfl⟩
  go_wp2_with fail
  go_ret
  exact ⟨rfl, B6.out⟩
theorem pairs_two {n : Nat} {P : List Int} : ∀ i, ∀ x ∈ pairsTo n P i, x.length = 2
  | 0, x, h => by cases h
  | i + 1, x, h => by
    unfold pairsTo at h
    rcases List.mem_append.1 h with h | h
    · exact pairs_two i x h
    · have : ∀ j, ∀ x ∈ rowTo n P i j, x.length = 2 := by
        intro j
        induction j with
        | zero => intro x h; cases h
        | succ j ih =>
          intro x h
          unfold rowTo at h
          split at h
          · rcases List.mem_append.1 h with h | h
            · exact ih x h
            · simp at h; subst h; rfl
          · exact ih x h
      exact this _ x h
theorem offs_le {LL : List (List Int)} (h : ∀ x ∈ LL, x.length = 2) : ∀ i, i ≤ LL.length → offs LL i ≤ 2 * i
  | 0, _ => Nat.le_refl _
  | i + 1, hi => by
    have h1 := offs_le h i (by omega)
    have h2 : (LL.getD i []).length = 2 := by
      rw [List.getD_eq_getElem?_getD, List.getElem?_eq_getElem (by omega)]
      exact h _ (List.getElem_mem _)
    show offs LL i + (LL.getD i []).length ≤ 2 * (i + 1)
    omega
theorem pairs_all {n : Nat} {P : List Int} (hP : P.length ≤ 4096) : (pairsTo n P P.length).length ≤ 16777216 := by
  have h1 := pairsTo_le n P P.length
  have h3 : P.length * P.length ≤ 4096 * 4096 := Nat.mul_le_mul hP hP
  omega
theorem FnExactTwinsOf_walk (a0 a1 : Int) (w0 : (Lit.int .i64 a0).wf = true) (w1 : (Lit.int .i64 a1).wf = true) (w : World) :
    Calls Try.prog 4 #[.int .i64 a0, .int .i64 a1] w fun e w' => e = .returned (.bool true) ∧ Below w.heap.size w w' := by
  by_cases h : Counts a0 a1
  · have hp : (primesTo a0.toNat a1.toNat (2 ^ a0.toNat)).length ≤ 4096 := Nat.le_trans (primes_few _ _ _) (Tic.pow_le_12 h.2.1)
    have hl := pairs_all (n := a0.toNat) hp
    have ho := offs_le (pairs_two (n := a0.toNat) (P := primesTo a0.toNat a1.toNat (2 ^ a0.toNat)) (primesTo a0.toNat a1.toNat (2 ^ a0.toNat)).length) _ (Nat.le_refl _)
    exact FnExactTwinsOf_core _ _ _ hl (by omega) (fun w => sTwinsOf_yes _ _ w h) (fun w => iTwinsOf_yes _ _ w h) w
  · exact FnExactTwinsOf_core _ _ [] (by decide) (by decide) (fun w => sTwinsOf_no _ _ w h) (fun w => iTwinsOf_no _ _ w h) w
end Go.Proofs.Ytmofhhffkppelaa
