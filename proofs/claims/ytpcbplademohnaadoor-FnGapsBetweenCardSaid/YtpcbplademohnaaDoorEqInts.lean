/-
  Contracts of the laws' comparison of two slices of numbers.
-/
import Derived.Test.YtpcbplademohnaaDoorTones
import Derived.RegionTactic
import Derived.Test.YtpcbplademohnaaDoorAscends
namespace Go.Proofs.YtpcbplademohnaaDoor
open Go.RowKit
set_option linter.unusedVariables false

theorem first_diff : ∀ (L M : List Int), L.length = M.length → L ≠ M → ∃ m, m < L.length ∧ (∀ j, j < m → L.getD j 0 = M.getD j 0) ∧ L.getD m 0 ≠ M.getD m 0
  | [], [], _, h => absurd rfl h
  | [], y :: M, h, _ => by simp at h
  | x :: L, [], h, _ => by simp at h
  | x :: L, y :: M, h, hne => by
    by_cases e : x = y
    · subst e
      obtain ⟨m, h1, h2, h3⟩ := first_diff L M (by simpa using h) (fun e => hne (by rw [e]))
      refine ⟨m + 1, by simpa using h1, ?_, by simpa using h3⟩
      intro j hj
      cases j with
      | zero => rfl
      | succ j => simpa using h2 j (by omega)
    · exact ⟨0, by simp, fun j hj => by omega, by simpa using e⟩

set_option maxHeartbeats 400000 in
theorem equalInts_yes (v1 v2 : Value) (B1 B2 : Nat) (L : List Int) (w : World) (h1 : Row w B1 v1 L) (h2 : Row w B2 v2 L) :
    Calls Tryd.prog 17 #[v1, v2] w fun e w' => e = .returned (.bool true) ∧ Below w.heap.size w w' := by
  by_cases hL : L = []
  · subst hL
    rcases h1.cases with ⟨rfl, _⟩ | ⟨g1, c1, rfl, _⟩ <;> rcases h2.cases with ⟨rfl, _⟩ | ⟨g2, c2, rfl, _⟩
    all_goals
      go_enter Tryd.func17, Tryd.ntmps17
      go_wp2
      refine wp_loop_rounds 1 ?_
      rw [rounds_succ]
      go_wp2
      go_ret
      exact ⟨rfl, Below.refl _ _⟩
  · have hl : 0 < L.length := List.length_pos_iff.2 hL
    have hl2 := h1.2
    rcases h1.cases with ⟨_, e⟩ | ⟨g1, c1, rfl, _, hg1, hc1, _⟩
    · exact absurd e hL
    rcases h2.cases with ⟨_, e⟩ | ⟨g2, c2, rfl, _, hg2, hc2, _⟩
    · exact absurd e hL
    generalize hn : L.length = n at hl hl2 hc1 hc2
    have HC1 := Lib.hid hc1
    have HC2 := Lib.hid hc2
    clear hn hc1 hc2 h1 h2 hL
    go_enter Tryd.func17, Tryd.ntmps17
    go_wp2
    go_loopw [5] (fun t5 wr => ∃ k : Nat, k ≤ n ∧ t5 = .int .i64 k ∧ Below w.heap.size w wr) (fun t5 _ => n - (intOf t5).toNat)
    case atStart => exact ⟨0, Nat.zero_le _, rfl, Below.refl _ _⟩
    case round =>
      obtain ⟨k, hk, rfl, hbel⟩ := hrel
      by_cases hlt2 : k < n
      · have d1 := (hbel.cell (p := ⟨g1, k, none⟩) hg1).trans (HC1.out k hlt2)
        have d2 := (hbel.cell (p := ⟨g2, k, none⟩) hg2).trans (HC2.out k hlt2)
        have hi0 : (0 : Int) ≤ (k : Int) := by omega
        have hi1 : (k : Int) < (n : Int) := by omega
        go_wp2
        go_region
        all_goals
          go_wp2
          go_roundw
          case rel => exact ⟨k + 1, by omega, by go_num, hbel.drew⟩
          case measure => simp [intOf]; omega
      · have : k = n := by omega
        subst this
        go_wp2
        go_ret
        exact ⟨rfl, hbel⟩
set_option maxHeartbeats 400000 in
theorem equalInts_no (v1 v2 : Value) (B1 B2 : Nat) (L M : List Int) (w : World) (h1 : Row w B1 v1 L) (h2 : Row w B2 v2 M) (hlen : L.length = M.length) (hne : L ≠ M) :
    Calls Tryd.prog 17 #[v1, v2] w fun e w' => e = .returned (.bool false) ∧ Below w.heap.size w w' := by
  obtain ⟨m, hm, hbef, hat⟩ := first_diff L M hlen hne
  have hL : L ≠ [] := fun e => by rw [e] at hm; simp at hm
  have hM : M ≠ [] := fun e => by rw [e] at hlen; exact hL (List.eq_nil_of_length_eq_zero hlen)
  have hl2 := h1.2
  rcases h1.cases with ⟨_, e⟩ | ⟨g1, c1, rfl, _, hg1, hc1, _⟩
  · exact absurd e hL
  rcases h2.cases with ⟨_, e⟩ | ⟨g2, c2, rfl, _, hg2, hc2, _⟩
  · exact absurd e hM
  rw [← hlen] at hc2 ⊢
  · generalize hn : L.length = n at hm hl2 hc1 hc2
    have HC1 := Lib.hid hc1
    have HC2 := Lib.hid hc2
    have HBEF := Lib.hid hbef
    have HAT := Lib.hid hat
    clear hn hc1 hc2 h1 h2 hL hM hlen hne hbef hat
    go_enter Tryd.func17, Tryd.ntmps17
    go_wp2
    go_loopw [5] (fun t5 wr => ∃ k : Nat, k ≤ m ∧ t5 = .int .i64 k ∧ Below w.heap.size w wr) (fun t5 _ => n - (intOf t5).toNat)
    case atStart => exact ⟨0, Nat.zero_le _, rfl, Below.refl _ _⟩
    case round =>
      obtain ⟨k, hk, rfl, hbel⟩ := hrel
      have d1 := (hbel.cell (p := ⟨g1, k, none⟩) hg1).trans (HC1.out k (by omega))
      have d2 := (hbel.cell (p := ⟨g2, k, none⟩) hg2).trans (HC2.out k (by omega))
      have hi0 : (0 : Int) ≤ (k : Int) := by omega
      have hi1 : (k : Int) < (n : Int) := by omega
      by_cases hlt2 : k < m
      · rw [← HBEF.out k hlt2] at d2
        go_wp2
        go_region
        all_goals
          go_wp2
          go_roundw
          case rel => exact ⟨k + 1, by omega, by go_num, hbel.drew⟩
          case measure => simp [intOf]; omega
      · have : k = m := by omega
        subst this
        have hx : (L.getD k 0 != M.getD k 0) = true := by rw [bne_iff_ne]; exact HAT.out
        generalize L.getD k 0 = x at d1 hx
        generalize M.getD k 0 = y at d2 hx
        go_wp2
        go_region
        all_goals
          go_wp2
          go_ret
          exact ⟨rfl, hbel.drew⟩
theorem equalInts_lens (v1 v2 : Value) (B1 B2 : Nat) (L M : List Int) (w : World) (h1 : Row w B1 v1 L) (h2 : Row w B2 v2 M) (hne : L.length ≠ M.length) :
    Calls Tryd.prog 17 #[v1, v2] w fun e w' => e = .returned (.bool false) ∧ Below w.heap.size w w' := by
  have e1 : ∃ a c, v1 = .slice a L.length c := by
    rcases h1.cases with ⟨rfl, rfl⟩ | ⟨g1, c1, rfl, _⟩
    · exact ⟨_, _, rfl⟩
    · exact ⟨_, _, rfl⟩
  have e2 : ∃ a c, v2 = .slice a M.length c := by
    rcases h2.cases with ⟨rfl, rfl⟩ | ⟨g1, c1, rfl, _⟩
    · exact ⟨_, _, rfl⟩
    · exact ⟨_, _, rfl⟩
  obtain ⟨a1, c1, rfl⟩ := e1
  obtain ⟨a2, c2, rfl⟩ := e2
  have hx : ((L.length : Int) != (M.length : Int)) = true := by rw [bne_iff_ne]; omega
  generalize L.length = l at hx
  generalize M.length = m at hx
  clear h1 h2 hne
  go_enter Tryd.func17, Tryd.ntmps17
  go_wp2
  go_ret
  exact ⟨rfl, Below.refl _ _⟩

end Go.Proofs.YtpcbplademohnaaDoor
