/-
  The contract of the laws' test that a list ascends.
-/
import Derived.Test.YtlbmjpkkomdhhaaDoorTones
import Derived.RegionTactic
namespace Go.Proofs.YtlbmjpkkomdhhaaDoor
open Go.RowKit
set_option linter.unusedVariables false

theorem lascends_any (L : List Int) (v : Value) (B : Nat) (w : World) (h : Row w B v L) (hp : L.Pairwise (· < ·)) (hb : ∀ y, y ∈ L → 0 ≤ y ∧ y ≤ 5000) :
    Calls Tryd.prog 33 #[v] w fun e w' => e = .returned (.bool true) ∧ Below w.heap.size w w' := by
  have hl2 := h.2
  rcases h.cases with ⟨rfl, _⟩ | ⟨g, c, rfl, _, hg, hc, _⟩
  · go_enter Tryd.func33, Tryd.ntmps33
    go_wp2
    refine wp_loop_rounds 1 ?_
    rw [rounds_succ]
    go_wp2
    go_ret
    exact ⟨rfl, Below.refl _ _⟩
  · have HX : Hid (∀ i, 1 ≤ i → i < L.length → ∃ x y : Nat, L.getD (i - 1) 0 = (x : Int) ∧ L.getD i 0 = (y : Int) ∧ x < y) := fun i h1 hi => by
      have q := List.pairwise_iff_getElem.1 hp (i - 1) i (by omega) hi (by omega)
      have b1 := hb _ (List.getElem_mem (show i - 1 < L.length by omega))
      have b2 := hb _ (List.getElem_mem hi)
      refine ⟨(L.getD (i - 1) 0).toNat, (L.getD i 0).toNat, ?_⟩
      rw [List.getD_eq_getElem?_getD, List.getD_eq_getElem?_getD, List.getElem?_eq_getElem hi, List.getElem?_eq_getElem (show i - 1 < L.length by omega)]
      simp only [Option.getD_some]
      omega
    generalize hn : L.length = n at hl2 hc HX
    have HC := Lib.hid hc
    clear hn hc h hp hb
    by_cases hn0 : n = 0
    · subst hn0
      go_enter Tryd.func33, Tryd.ntmps33
      go_wp2
      refine wp_loop_rounds 1 ?_
      rw [rounds_succ]
      go_wp2
      go_ret
      exact ⟨rfl, Below.refl _ _⟩
    · go_enter Tryd.func33, Tryd.ntmps33
      go_wp2
      go_loopw [3] (fun t3 wr => ∃ k : Nat, 1 ≤ k ∧ k ≤ n ∧ t3 = .int .i64 k ∧ Below w.heap.size w wr) (fun t3 _ => n - (intOf t3).toNat)
      case atStart => exact ⟨1, Nat.le_refl _, by omega, rfl, Below.refl _ _⟩
      case round =>
        obtain ⟨k, hk0, hk, rfl, hbel⟩ := hrel
        by_cases hlt : k < n
        · obtain ⟨x, y, hx, hy, hxy⟩ := HX.out k hk0 hlt
          have d1 := (hbel.cell (p := ⟨g, k, none⟩) hg).trans (HC.out k hlt)
          have d2 := (hbel.cell (p := ⟨g, k - 1, none⟩) hg).trans (HC.out (k - 1) (by omega))
          rw [hy] at d1
          rw [hx] at d2
          clear hx hy
          have hi0 : (0 : Int) ≤ (k : Int) - 1 := by omega
          have hi1 : (k : Int) - 1 < (n : Int) := by omega
          have hi2 : (k : Int) < (n : Int) := by omega
          go_wp2
          go_region
          all_goals
            go_wp2
            go_roundw
            case rel => exact ⟨k + 1, by omega, by omega, by go_num, hbel.drew⟩
            case measure => simp [intOf]; omega
        · have : k = n := by omega
          subst this
          go_wp2
          go_ret
          exact ⟨rfl, hbel⟩
end Go.Proofs.YtlbmjpkkomdhhaaDoor
