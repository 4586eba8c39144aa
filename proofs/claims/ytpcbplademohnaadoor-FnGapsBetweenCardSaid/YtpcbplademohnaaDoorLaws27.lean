/-
  The walk of the law of GapsBetween.
-/
import Derived.Test.YtpcbplademohnaaDoorTuneDraw
import Derived.Test.YtpcbplademohnaaDoorEqLists
import Derived.Test.YtpcbplademohnaaDoorExact6E
namespace Go.Proofs.YtpcbplademohnaaDoor
open Go.RowKit
set_option linter.unusedVariables false
set_option maxRecDepth 20000

namespace Tic
theorem gaps_tab : ∀ n : Fin 13, 1 ≤ n.val → 1 ≤ (gps n.val n.val).length ∧ (gps n.val n.val).length ≤ 3 ∧ ((n.val = 2 ∨ n.val = 3 ∨ n.val = 5 ∨ n.val = 7 ∨ n.val = 12) → (gps n.val n.val).length = 2) ∧ (n.val = 1 → (gps n.val n.val).length = 1) := by decide +kernel
end Tic
set_option maxHeartbeats 2000000 in
theorem FnGapsBetween_walk (x : Option Addr) (len cap : Nat) (w : World) (h : Code w x len cap) (hsh : Primes w) :
    Calls Tryd.prog 6 #[.slice x len cap] w fun e w' => e = .returned (.bool true) ∧ Below w.heap.size w w' := by
  by_cases hl : 1048576 < len
  · go_enter Tryd.func6, Tryd.ntmps6
    go_wp2_with fail
    go_ret
    exact ⟨rfl, Below.refl _ _⟩
  · have HT := Lib.hid (fun (W : World) hW => Primes.kept (w := w) (w' := W) hsh hW)
    clear hsh
    go_enter Tryd.func6, Tryd.ntmps6
    go_wp2_with fail
    refine (drawGapsBetween _ _ _ _ h).mono ?_; rintro e w1 ⟨n, rfl, n0, n1, hb⟩
    have HB := Lib.hid hb
    clear hb h hl
    by_cases hn : 1 ≤ n ∧ n ≤ 12
    · obtain ⟨N, rfl⟩ := Int.eq_ofNat_of_zero_le n0
      have HS := Lib.hid (fun w => sGaps_yes N w (by omega) (by omega))
      have HI := Lib.hid (fun w hp => iGaps_yes N w hp (by omega) (by omega))
      obtain ⟨t1, t2, t3, t4⟩ := Tic.gaps_tab ⟨N, by omega⟩ (by simp only; omega)
      simp only at t1 t2 t3 t4
      have T := Lib.hid (And.intro t1 (And.intro t2 (And.intro t3 t4)))
      clear t1 t2 t3 t4
      go_wp2_with fail
      refine (HI.out _ (HT.out _ HB.out)).mono ?_; rintro e w2 ⟨v, vs, rfl, r0, b2⟩
      have R0 := Lib.hid r0
      replace HB := Lib.hid (HB.out.trans (b2.mono HB.out.size))
      clear r0 b2
      go_wp2_with fail
      refine (HS.out _).mono ?_; rintro e w3 ⟨v1, vs1, rfl, r1, b3⟩
      have R1 := Lib.hid r1
      replace R0 := Lib.hid (R0.out.kept b3)
      replace HB := Lib.hid (HB.out.trans (b3.mono HB.out.size))
      clear r1 b3
      go_wp2_with fail
      refine (equalLists_same _ _ _ _ _ _ _ _ R0.out R1.out).mono ?_; rintro e w4 ⟨rfl, b4⟩
      replace R0 := Lib.hid (R0.out.kept b4)
      replace HB := Lib.hid (HB.out.trans (b4.mono HB.out.size))
      clear b4 R1
      obtain ⟨p, c, rfl, _⟩ := R0.out.vw
      clear R0 HS HI
      generalize (Tic.gps N N).length = m at *
      obtain ⟨t1, t2, t3, t4⟩ := T.out
      have hz0 : ((m : Int) == 0) = false := beq_eq_false_iff_ne.2 (by omega)
      have hz3 : (m : Int) ≤ 3 := by omega
      by_cases h1 : N = 1
      · have hm := t4 h1
        subst h1
        subst hm
        clear t1 t2 t3 t4 T
        go_wp2_with fail
        go_ret
        exact ⟨rfl, HB.out⟩
      · by_cases h2 : N = 2 ∨ N = 3 ∨ N = 5 ∨ N = 7 ∨ N = 12
        · have hm := t3 h2
          subst hm
          clear t1 t2 t3 t4 T
          rcases h2 with rfl | rfl | rfl | rfl | rfl
          all_goals
            go_wp2_with fail
            go_ret
            exact ⟨rfl, HB.out⟩
        · have k1 : ((N : Int) == 1) = false := beq_eq_false_iff_ne.2 (by omega)
          have k2 : ((N : Int) == 2) = false := beq_eq_false_iff_ne.2 (by omega)
          have k3 : ((N : Int) == 3) = false := beq_eq_false_iff_ne.2 (by omega)
          have k5 : ((N : Int) == 5) = false := beq_eq_false_iff_ne.2 (by omega)
          have k7 : ((N : Int) == 7) = false := beq_eq_false_iff_ne.2 (by omega)
          have k12 : ((N : Int) == 12) = false := beq_eq_false_iff_ne.2 (by omega)
          have k1n : ((N : Int) != 1) = true := bne_iff_ne.2 (by omega)
          clear t1 t2 t3 t4 T
          go_wp2_with fail
          go_ret
          exact ⟨rfl, HB.out⟩
    · have HS := Lib.hid (fun w => sGaps_no n w (by omega))
      have HI := Lib.hid (fun w => iGaps_no n w (by omega))
      clear hn
      go_wp2_with fail
      refine (HI.out _).mono ?_; rintro e w2 ⟨v, vs, rfl, r0, b2⟩
      have R0 := Lib.hid r0
      replace HB := Lib.hid (HB.out.trans (b2.mono HB.out.size))
      clear r0 b2
      go_wp2_with fail
      refine (HS.out _).mono ?_; rintro e w3 ⟨v1, vs1, rfl, r1, b3⟩
      have R1 := Lib.hid r1
      replace R0 := Lib.hid (R0.out.kept b3)
      replace HB := Lib.hid (HB.out.trans (b3.mono HB.out.size))
      clear r1 b3
      go_wp2_with fail
      refine (equalLists_same _ _ _ _ _ _ _ _ R0.out R1.out).mono ?_; rintro e w4 ⟨rfl, b4⟩
      replace R0 := Lib.hid (R0.out.kept b4)
      replace HB := Lib.hid (HB.out.trans (b4.mono HB.out.size))
      clear b4 R1
      rcases R0.out.shape with ⟨rfl, _⟩ | ⟨g, c, rfl, _, hg, hcl⟩
      all_goals
        go_wp2_with fail
        refine (HS.out _).mono ?_; rintro e w5 ⟨v1, vs1, rfl, r1, b3⟩
        have R1 := Lib.hid r1
        replace R0 := Lib.hid (R0.out.kept b3)
        replace HB := Lib.hid (HB.out.trans (b3.mono HB.out.size))
        clear r1 b3
        go_wp2_with fail
        refine (equalLists_same _ _ _ _ _ _ _ _ R0.out R1.out).mono ?_; rintro e w6 ⟨rfl, b4⟩
        replace HB := Lib.hid (HB.out.trans (b4.mono HB.out.size))
        clear b4
        go_wp2_with fail
        go_ret
        exact ⟨rfl, HB.out⟩
end Go.Proofs.YtpcbplademohnaaDoor
