/-
  Lists of lists compared by the laws' equalLists (beside XEqInts; XLaws15 has its own beside XEq).
-/
import Derived.Test.YtpcbplademohnaaDoorListsEq
import Derived.Test.YtpcbplademohnaaDoorEqInts
namespace Go.Proofs.YtpcbplademohnaaDoor
open Go.RowKit
set_option linter.unusedVariables false

set_option maxHeartbeats 800000 in
theorem equalLists_same (v1 v2 : Value) (B1 B2 : Nat) (vs1 vs2 : List Value) (LL : List (List Int)) (w : World) (h1 : Lists w B1 v1 vs1 LL) (h2 : Lists w B2 v2 vs2 LL) :
    Calls Tryd.prog 15 #[v1, v2] w fun e w' => e = .returned (.bool true) ∧ Below w.heap.size w w' := by
  have hl := h1.1
  by_cases hL : LL = []
  · subst hL
    rcases h1.shape with ⟨rfl, _⟩ | ⟨g1, c1, rfl, _⟩ <;> rcases h2.shape with ⟨rfl, _⟩ | ⟨g2, c2, rfl, _⟩
    all_goals
      go_enter Tryd.func15, Tryd.ntmps15
      go_wp2
      refine wp_loop_rounds 1 ?_
      rw [rounds_succ]
      go_wp2
      go_ret
      exact ⟨rfl, Below.refl _ _⟩
  · rcases h1.shape with ⟨_, e⟩ | ⟨g1, c1, rfl, _, hg1, hc1⟩
    · exact absurd e hL
    rcases h2.shape with ⟨_, e⟩ | ⟨g2, c2, rfl, _, hg2, hc2⟩
    · exact absurd e hL
    have HR1 := Lib.hid (fun i hi => h1.row (i := i) hi)
    have HR2 := Lib.hid (fun i hi => h2.row (i := i) hi)
    have HC1 := Lib.hid hc1
    have HC2 := Lib.hid hc2
    clear hc1 hc2 h1 h2 hL
    generalize hn : LL.length = n at hl HR1 HR2 HC1 HC2
    clear hn
    go_enter Tryd.func15, Tryd.ntmps15
    go_wp2
    go_loopw [5] (fun t5 wr => ∃ k : Nat, k ≤ n ∧ t5 = .int .i64 k ∧ Below w.heap.size w wr) (fun t5 _ => n - (intOf t5).toNat)
    case atStart => exact ⟨0, Nat.zero_le _, rfl, Below.refl _ _⟩
    case round =>
      obtain ⟨k, hk, rfl, hbel⟩ := hrel
      by_cases hlt2 : k < n
      · have d1 := (hbel.cell (p := ⟨g1, k, none⟩) hg1).trans (HC1.out k hlt2)
        have d2 := (hbel.cell (p := ⟨g2, k, none⟩) hg2).trans (HC2.out k hlt2)
        have R1 := Lib.hid ((HR1.out k hlt2).kept hbel)
        have R2 := Lib.hid ((HR2.out k hlt2).kept hbel)
        have hz := hbel.size
        have hg1r : g1 < wr.heap.size := by omega
        have hg2r : g2 < wr.heap.size := by omega
        generalize vs1.getD k undef = u1 at d1 R1
        generalize vs2.getD k undef = u2 at d2 R2
        have hi1 : (k : Int) < (n : Int) := by omega
        have hk0 : Below wr.heap.size wr wr := Below.refl _ _
        go_wp2
        go_region_held3 (fun w' => w'.cell? ⟨g1, k, none⟩ = some u1 ∧ w'.cell? ⟨g2, k, none⟩ = some u2)
          (first | go_keep | (refine ⟨?_, ?_⟩ <;> ((refine (hk0.cell ?_).trans ?_) <;> assumption)))
          (first | (go_at_call 17; refine (equalInts_yes _ _ _ _ _ _ (show Row _ _ _ _ from by first | exact R1.out | exact R1.out.kept (Below.refl _ _).drew) (show Row _ _ _ _ from by first | exact R2.out | exact R2.out.kept (Below.refl _ _).drew)).mono ?_; rintro e wx ⟨rfl, hb⟩; replace hk0 : Below wr.heap.size wr wx := (by first | exact grow1 hk0 hb | exact grow0 hk0 hb); clear hb) | fail)
        have hb2 := hbel.trans (hk0.mono hz)
        clear hk0
        go_wp2
        go_roundw
        case rel => exact ⟨k + 1, by omega, by go_num, hb2⟩
        case measure => simp [intOf]; omega
      · have : k = n := by omega
        subst this
        go_wp2
        go_ret
        exact ⟨rfl, hbel⟩
end Go.Proofs.YtpcbplademohnaaDoor
