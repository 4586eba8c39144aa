/-
  The contract of the model's sameList (beside XEqInts; XEq has its own).
-/
import Derived.Test.YtpcbplademohnaaDoorEqInts
namespace Go.Proofs.YtpcbplademohnaaDoor
open Go.RowKit
set_option linter.unusedVariables false

set_option maxHeartbeats 400000 in
theorem sameList_yes (v1 v2 : Value) (B1 B2 : Nat) (L : List Int) (w : World) (h1 : Row w B1 v1 L) (h2 : Row w B2 v2 L) :
    Calls Tryd.prog 30 #[v1, v2] w fun e w' => e = .returned (.bool true) ∧ Below w.heap.size w w' := by
  by_cases hL : L = []
  · subst hL
    rcases h1.cases with ⟨rfl, _⟩ | ⟨g1, c1, rfl, _⟩ <;> rcases h2.cases with ⟨rfl, _⟩ | ⟨g2, c2, rfl, _⟩
    all_goals
      go_enter Tryd.func30, Tryd.ntmps30
      go_wp2
      refine wp_loop_rounds 1 ?_
      rw [rounds_succ]
      go_wp2
      go_ret
      exact ⟨rfl, Below.refl _ _⟩
  · have hl : 0 < L.length := List.length_pos_iff.2 hL
    have hl2 := h1.2
    rcases h1.cases with ⟨_, e⟩ | ⟨g1, c1, rfl, _, hg1, hc1, _⟩
    · exact absurd e hL
    rcases h2.cases with ⟨_, e⟩ | ⟨g2, c2, rfl, _, hg2, hc2, _⟩
    · exact absurd e hL
    generalize hn : L.length = n at hl hl2 hc1 hc2
    have HC1 := Lib.hid hc1
    have HC2 := Lib.hid hc2
    clear hn hc1 hc2 h1 h2 hL
    go_enter Tryd.func30, Tryd.ntmps30
    go_wp2
    go_loopw [5] (fun t5 wr => ∃ k : Nat, k ≤ n ∧ t5 = .int .i64 k ∧ Below w.heap.size w wr) (fun t5 _ => n - (intOf t5).toNat)
    case atStart => exact ⟨0, Nat.zero_le _, rfl, Below.refl _ _⟩
    case round =>
      obtain ⟨k, hk, rfl, hbel⟩ := hrel
      by_cases hlt2 : k < n
      · have d1 := (hbel.cell (p := ⟨g1, k, none⟩) hg1).trans (HC1.out k hlt2)
        have d2 := (hbel.cell (p := ⟨g2, k, none⟩) hg2).trans (HC2.out k hlt2)
        have hi0 : (0 : Int) ≤ (k : Int) := by omega
        have hi1 : (k : Int) < (n : Int) := by omega
        go_wp2
        go_region
        all_goals
          go_wp2
          go_roundw
          case rel => exact ⟨k + 1, by omega, by go_num, hbel.drew⟩
          case measure => simp [intOf]; omega
      · have : k = n := by omega
        subst this
        go_wp2
        go_ret
        exact ⟨rfl, hbel⟩
set_option maxHeartbeats 400000 in
theorem sameList_no (v1 v2 : Value) (B1 B2 : Nat) (L M : List Int) (w : World) (h1 : Row w B1 v1 L) (h2 : Row w B2 v2 M) (hlen : L.length = M.length) (hne : L ≠ M) :
    Calls Tryd.prog 30 #[v1, v2] w fun e w' => e = .returned (.bool false) ∧ Below w.heap.size w w' := by
  obtain ⟨m, hm, hbef, hat⟩ := first_diff L M hlen hne
  have hL : L ≠ [] := fun e => by rw [e] at hm; simp at hm
  have hM : M ≠ [] := fun e => by rw [e] at hlen; exact hL (List.eq_nil_of_length_eq_zero hlen)
  have hl2 := h1.2
  rcases h1.cases with ⟨_, e⟩ | ⟨g1, c1, rfl, _, hg1, hc1, _⟩
  · exact absurd e hL
  rcases h2.cases with ⟨_, e⟩ | ⟨g2, c2, rfl, _, hg2, hc2, _⟩
  · exact absurd e hM
  rw [← hlen] at hc2 ⊢
  · generalize hn : L.length = n at hm hl2 hc1 hc2
    have HC1 := Lib.hid hc1
    have HC2 := Lib.hid hc2
    have HBEF := Lib.hid hbef
    have HAT := Lib.hid hat
    clear hn hc1 hc2 h1 h2 hL hM hlen hne hbef hat
    go_enter Tryd.func30, Tryd.ntmps30
    go_wp2
    go_loopw [5] (fun t5 wr => ∃ k : Nat, k ≤ m ∧ t5 = .int .i64 k ∧ Below w.heap.size w wr) (fun t5 _ => n - (intOf t5).toNat)
    case atStart => exact ⟨0, Nat.zero_le _, rfl, Below.refl _ _⟩
    case round =>
      obtain ⟨k, hk, rfl, hbel⟩ := hrel
      have d1 := (hbel.cell (p := ⟨g1, k, none⟩) hg1).trans (HC1.out k (by omega))
      have d2 := (hbel.cell (p := ⟨g2, k, none⟩) hg2).trans (HC2.out k (by omega))
      have hi0 : (0 : Int) ≤ (k : Int) := by omega
      have hi1 : (k : Int) < (n : Int) := by omega
      by_cases hlt2 : k < m
      · rw [← HBEF.out k hlt2] at d2
        go_wp2
        go_region
        all_goals
          go_wp2
          go_roundw
          case rel => exact ⟨k + 1, by omega, by go_num, hbel.drew⟩
          case measure => simp [intOf]; omega
      · have : k = m := by omega
        subst this
        have hx : (L.getD k 0 != M.getD k 0) = true := by rw [bne_iff_ne]; exact HAT.out
        generalize L.getD k 0 = x at d1 hx
        generalize M.getD k 0 = y at d2 hx
        go_wp2
        go_region
        all_goals
          go_wp2
          go_ret
          exact ⟨rfl, hbel.drew⟩
end Go.Proofs.YtpcbplademohnaaDoor
