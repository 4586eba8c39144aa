/-
  The walk of the law of pairs of twins.
-/
import Derived.Test.YtmofhhffkppelaaExactH
import Derived.Test.YtmofhhffkppelaaDraws2
import Derived.Test.YtmofhhffkppelaaLawLow
namespace Go.Proofs.Ytmofhhffkppelaa
open Go.RowKit
set_option linter.unusedVariables false

theorem row_pairs {n : Nat} {P : List Int} {i : Nat} : ∀ j, j ≤ P.length → ∀ x ∈ rowTo n P i j, ∃ b, i < b ∧ b < P.length ∧ x = [P.getD i 0, P.getD b 0] ∧ twins n (P.getD i 0).toNat (P.getD b 0).toNat = true
  | 0, _, x, h => by cases h
  | j + 1, hj, x, h => by
    by_cases c : i < j ∧ twins n (P.getD i 0).toNat (P.getD j 0).toNat = true
    · rw [rowTo_yes c.1 c.2] at h
      rcases List.mem_append.1 h with h | h
      · exact row_pairs j (by omega) x h
      · exact ⟨j, c.1, by omega, by simpa using h, c.2⟩
    · rw [rowTo_no c] at h
      exact row_pairs j (by omega) x h
theorem all_pairs {n : Nat} {P : List Int} : ∀ i, i ≤ P.length → ∀ x ∈ pairsTo n P i, ∃ a b, a < b ∧ b < P.length ∧ x = [P.getD a 0, P.getD b 0] ∧ twins n (P.getD a 0).toNat (P.getD b 0).toNat = true
  | 0, _, x, h => by cases h
  | i + 1, hi, x, h => by
    unfold pairsTo at h
    rcases List.mem_append.1 h with h | h
    · exact all_pairs i (by omega) x h
    · exact ⟨i, row_pairs _ (Nat.le_refl _) x h⟩
/-- a pair of twins with so many tones, ascending -/
def Pr (n k : Nat) (x : List Int) : Prop := ∃ s t : Nat, x = [(s : Int), (t : Int)] ∧ s < t ∧ t < 2 ^ n ∧ Tic.wt 12 s = k ∧ twins n s t = true
theorem told_wt {n k i : Nat} (hi : i < (primesTo n k (2 ^ n)).length) : ∃ s : Nat, (primesTo n k (2 ^ n)).getD i 0 = (s : Int) ∧ s < 2 ^ n ∧ Tic.wt 12 s = k := by
  obtain ⟨s, h1, h2, h3⟩ := (primesTo_mem n k _ _).1 (List.getElem_mem hi)
  unfold told at h2
  refine ⟨s, ?_, h1, (of_decide_eq_true h2).1⟩
  rw [List.getD_eq_getElem?_getD, List.getElem?_eq_getElem hi]
  exact h3
theorem told_lt {n k i j : Nat} (hij : i < j) (hj : j < (primesTo n k (2 ^ n)).length) : (primesTo n k (2 ^ n)).getD i 0 < (primesTo n k (2 ^ n)).getD j 0 := by
  have q := List.pairwise_iff_getElem.1 (primesTo_asc n k (2 ^ n)) i j (by omega) hj hij
  rw [List.getD_eq_getElem?_getD, List.getD_eq_getElem?_getD, List.getElem?_eq_getElem hj, List.getElem?_eq_getElem (show i < _ by omega)]
  exact q
theorem pairs_pr (n k : Nat) : ∀ x ∈ pairsTo n (primesTo n k (2 ^ n)) (primesTo n k (2 ^ n)).length, Pr n k x := by
  intro x h
  obtain ⟨a, b, hab, hb, rfl, ht⟩ := all_pairs _ (Nat.le_refl _) x h
  obtain ⟨s, e1, h1, h2⟩ := told_wt (n := n) (k := k) (i := a) (by omega)
  obtain ⟨t, e2, h3, _⟩ := told_wt (n := n) (k := k) (i := b) hb
  have hlt := told_lt hab hb
  rw [e1, e2] at hlt ht ⊢
  rw [Int.toNat_natCast, Int.toNat_natCast] at ht
  exact ⟨s, t, rfl, by omega, h3, h2, ht⟩

set_option maxHeartbeats 800000 in
theorem equalLists_same (v1 v2 : Value) (B1 B2 : Nat) (vs1 vs2 : List Value) (LL : List (List Int)) (w : World) (h1 : Lists w B1 v1 vs1 LL) (h2 : Lists w B2 v2 vs2 LL) :
    Calls Try.prog 9 #[v1, v2] w fun e w' => e = .returned (.bool true) ∧ Below w.heap.size w w' := by
  have hl := h1.1
  by_cases hL : LL = []
  · subst hL
    rcases h1.shape with ⟨rfl, _⟩ | ⟨g1, c1, rfl, _⟩ <;> rcases h2.shape with ⟨rfl, _⟩ | ⟨g2, c2, rfl, _⟩
    all_goals
      go_enter Try.func9, Try.ntmps9
      go_wp2
      refine wp_loop_rounds 1 ?_
      rw [rounds_succ]
      go_wp2
      go_ret
      exact ⟨rfl, Below.refl _ _⟩
  · rcases h1.shape with ⟨_, e⟩ | ⟨g1, c1, rfl, _, hg1, hc1⟩
    · exact absurd e hL
    rcases h2.shape with ⟨_, e⟩ | ⟨g2, c2, rfl, _, hg2, hc2⟩
    · exact absurd e hL
    have HR1 := Lib.hid (fun i hi => h1.row (i := i) hi)
    have HR2 := Lib.hid (fun i hi => h2.row (i := i) hi)
    have HC1 := Lib.hid hc1
    have HC2 := Lib.hid hc2
    clear hc1 hc2 h1 h2 hL
    generalize hn : LL.length = n at hl HR1 HR2 HC1 HC2
    clear hn
    go_enter Try.func9, Try.ntmps9
    go_wp2
    go_loopw [5] (fun t5 wr => ∃ k : Nat, k ≤ n ∧ t5 = .int .i64 k ∧ Below w.heap.size w wr) (fun t5 _ => n - (intOf t5).toNat)
    case atStart => exact ⟨0, Nat.zero_le _, rfl, Below.refl _ _⟩
    case round =>
      obtain ⟨k, hk, rfl, hbel⟩ := hrel
      by_cases hlt2 : k < n
      · have d1 := (hbel.cell (p := ⟨g1, k, none⟩) hg1).trans (HC1.out k hlt2)
        have d2 := (hbel.cell (p := ⟨g2, k, none⟩) hg2).trans (HC2.out k hlt2)
        have R1 := Lib.hid ((HR1.out k hlt2).kept hbel)
        have R2 := Lib.hid ((HR2.out k hlt2).kept hbel)
        have hz := hbel.size
        have hg1r : g1 < wr.heap.size := by omega
        have hg2r : g2 < wr.heap.size := by omega
        generalize vs1.getD k undef = u1 at d1 R1
        generalize vs2.getD k undef = u2 at d2 R2
        have hi1 : (k : Int) < (n : Int) := by omega
        have hk0 : Below wr.heap.size wr wr := Below.refl _ _
        go_wp2
        go_region_held3 (fun w' => w'.cell? ⟨g1, k, none⟩ = some u1 ∧ w'.cell? ⟨g2, k, none⟩ = some u2)
          (first | go_keep | (refine ⟨?_, ?_⟩ <;> ((refine (hk0.cell ?_).trans ?_) <;> assumption)))
          (first | (go_at_call 25; refine (equalInts_yes _ _ _ _ _ _ (show Row _ _ _ _ from by first | exact R1.out | exact R1.out.kept (Below.refl _ _).drew) (show Row _ _ _ _ from by first | exact R2.out | exact R2.out.kept (Below.refl _ _).drew)).mono ?_; rintro e wx ⟨rfl, hb⟩; replace hk0 : Below wr.heap.size wr wx := (by first | exact grow1 hk0 hb | exact grow0 hk0 hb); clear hb) | fail)
        have hb2 := hbel.trans (hk0.mono hz)
        clear hk0
        go_wp2
        go_roundw
        case rel => exact ⟨k + 1, by omega, by go_num, hb2⟩
        case measure => simp [intOf]; omega
      · have : k = n := by omega
        subst this
        go_wp2
        go_ret
        exact ⟨rfl, hbel⟩
theorem drawTwinsOf (x : Option Addr) (len cap : Nat) (w : World) (h : Code w x len cap) : Calls Try.prog 7 #[.slice x len cap] w (Two w) := by
  obtain ⟨zs, h1, h2, h3⟩ := h
  go_enter Try.func7, Try.ntmps7
  go_wp2_with fail
  refine (newReader_any _ _ _ _ _ h1 h2 h3).mono ?_; rintro e w1 ⟨rfl, hrd, hb, _⟩
  have HB := Lib.hid hb
  clear hb
  go_wp2_with fail
  refine (one_lit [8, 8, 7, 9, 6, 5, 2] _ _ 2 9 _ _ _ rfl rfl hrd (by omega) (by decide) (by decide) (by decide)).mono ?_; rintro e w2 ⟨n, p1, rfl, n0, n1, hp1, hrd2, hg1⟩
  have HR := Lib.hid hrd2
  have HG := Lib.hid (below_grown HB.out hg1)
  clear hrd2 hg1 hrd
  go_wp2_with fail
  refine (one_lit [4, 4, 3, 5, 2, 0, -1] _ _ (-1) 5 _ _ _ rfl rfl HR.out (by omega) (by decide) (by decide) (by decide)).mono ?_; rintro e w3 ⟨k, p2, rfl, k0, k1, _, _, hg2⟩
  go_wp2_with fail
  go_ret2
  exact ⟨n, k, rfl, by omega, by omega, by omega, by omega, below_grown HG.out hg2⟩
theorem twinsOf_both (n k : Int) : ∃ LL : List (List Int), (∀ w, Calls Try.prog 10 #[.int .i64 n, .int .i64 k] w (GivesLists LL w)) ∧ (∀ w, Calls Try.prog 8 #[.int .i64 n, .int .i64 k] w (GivesLists LL w)) ∧
    ∀ x ∈ LL, 3 ≤ n ∧ n ≤ 12 ∧ 0 ≤ k ∧ Pr n.toNat k.toNat x := by
  by_cases h : Counts n k
  · exact ⟨_, fun w => sTwinsOf_yes _ _ w h, fun w => iTwinsOf_yes _ _ w h, fun x hx => ⟨h.1, h.2.1, h.2.2.1, pairs_pr _ _ x hx⟩⟩
  · exact ⟨[], fun w => sTwinsOf_no _ _ w h, fun w => iTwinsOf_no _ _ w h, fun x hx => by cases hx⟩
set_option maxRecDepth 20000 in
set_option maxHeartbeats 1600000 in
theorem FnTwinsOf_walk (x : Option Addr) (len cap : Nat) (w : World) (h : Code w x len cap) :
    Calls Try.prog 3 #[.slice x len cap] w fun e w' => e = .returned (.bool true) ∧ Below w.heap.size w w' := by
  by_cases hl : 1048576 < len
  · go_enter Try.func3, Try.ntmps3
    go_wp2_with fail
    go_ret
    exact ⟨rfl, Below.refl _ _⟩
  · go_enter Try.func3, Try.ntmps3
    go_wp2_with fail
    refine (drawTwinsOf _ _ _ _ h).mono ?_; rintro e w1 ⟨n, k, rfl, n0, n1, k0, k1, hb⟩
    have HB := Lib.hid hb
    clear hb h hl
    obtain ⟨LL, hs, hi, hp⟩ := twinsOf_both n k
    have HS := Lib.hid hs
    have HI := Lib.hid hi
    have HP := Lib.hid hp
    clear hs hi hp
    go_wp2_with fail
    refine (HI.out _).mono ?_; rintro e w2 ⟨v, vs, rfl, r0, b2⟩
    have hln := r0.1
    have R0 := Lib.hid r0
    replace HB := Lib.hid (HB.out.trans (b2.mono HB.out.size))
    clear r0 b2
    go_wp2_with fail
    refine (HS.out _).mono ?_; rintro e w3 ⟨v1, vs1, rfl, r1, b3⟩
    have R1 := Lib.hid r1
    replace R0 := Lib.hid (R0.out.kept b3)
    replace HB := Lib.hid (HB.out.trans (b3.mono HB.out.size))
    clear r1 b3
    go_wp2_with fail
    refine (equalLists_same _ _ _ _ _ _ _ _ R0.out R1.out).mono ?_; rintro e w4 ⟨rfl, b4⟩
    replace R0 := Lib.hid (R0.out.kept b4)
    replace HB := Lib.hid (HB.out.trans (b4.mono HB.out.size))
    clear b4 R1
    rcases R0.out.shape with ⟨rfl, rfl⟩ | ⟨g, c, rfl, _, hg, hcl⟩
    · go_wp2_with fail
      refine (HS.out _).mono ?_; rintro e w5 ⟨v1, vs1, rfl, r1, b3⟩
      have R1 := Lib.hid r1
      replace R0 := Lib.hid (R0.out.kept b3)
      replace HB := Lib.hid (HB.out.trans (b3.mono HB.out.size))
      clear r1 b3
      go_wp2_with fail
      refine (equalLists_same _ _ _ _ _ _ _ _ R0.out R1.out).mono ?_; rintro e w6 ⟨rfl, b4⟩
      replace HB := Lib.hid (HB.out.trans (b4.mono HB.out.size))
      clear b4
      go_wp2_with fail
      go_ret
      exact ⟨rfl, HB.out⟩
    · by_cases hz : LL.length = 0
      · obtain rfl := List.eq_nil_of_length_eq_zero hz
        clear hcl
        go_wp2_with fail
        refine (HS.out _).mono ?_; rintro e w5 ⟨v1, vs1, rfl, r1, b3⟩
        have R1 := Lib.hid r1
        replace R0 := Lib.hid (R0.out.kept b3)
        replace HB := Lib.hid (HB.out.trans (b3.mono HB.out.size))
        clear r1 b3
        go_wp2_with fail
        refine (equalLists_same _ _ _ _ _ _ _ _ R0.out R1.out).mono ?_; rintro e w6 ⟨rfl, b4⟩
        replace HB := Lib.hid (HB.out.trans (b4.mono HB.out.size))
        clear b4
        go_wp2_with fail
        go_ret
        exact ⟨rfl, HB.out⟩
      · have HR := Lib.hid (fun i hi => R0.out.row (i := i) hi)
        have HC := Lib.hid hcl
        have HPP : Hid (∀ i, i < LL.length → 3 ≤ n ∧ n ≤ 12 ∧ 0 ≤ k ∧ Pr n.toNat k.toNat (LL.getD i [])) := Lib.hid (fun i hi => HP.out _ (by rw [List.getD_eq_getElem?_getD, List.getElem?_eq_getElem hi]; exact List.getElem_mem hi))
        clear hcl R0 HP HS HI
        generalize hm : LL.length = m at hln hz HR HC HPP
        have hz0 : ((m : Int) == 0) = false := beq_eq_false_iff_ne.2 (by omega)
        clear hm
        go_wp2
        go_loopw [6] (fun t6 wr => ∃ i : Nat, i ≤ m ∧ t6 = .int .i64 i ∧ Below w4.heap.size w4 wr) (fun t6 _ => m - (intOf t6).toNat)
        case atStart => exact ⟨0, Nat.zero_le _, rfl, Below.refl _ _⟩
        case round =>
          obtain ⟨i, hi, rfl, hbel⟩ := hrel
          by_cases hlt : i < m
          · obtain ⟨a1, a2, a3, s, t, e, hst, htn, hwt, htw⟩ := HPP.out i hlt
            obtain ⟨N, rfl⟩ := Int.eq_ofNat_of_zero_le (show 0 ≤ n by omega)
            obtain ⟨K, rfl⟩ := Int.eq_ofNat_of_zero_le a3
            rw [Int.toNat_natCast] at htn hwt htw
            have hp2 := Tic.pow_le_12 a2
            rw [Int.toNat_natCast] at hp2
            have hvs : Tic.Valid (N : Int) (s : Int) := ⟨a1, a2, Int.natCast_nonneg _, Int.ofNat_lt.2 (by rw [Int.toNat_natCast]; omega)⟩
            have hvt : Tic.Valid (N : Int) (t : Int) := ⟨a1, a2, Int.natCast_nonneg _, Int.ofNat_lt.2 (by rw [Int.toNat_natCast]; omega)⟩
            have HVS := Lib.hid hvs
            have HVT := Lib.hid hvt
            have HTW := Lib.hid htw
            have HWT := Lib.hid hwt
            have hrow := (HR.out i hlt).kept hbel
            rw [e] at hrow
            have d0 := (hbel.cell (p := ⟨g, i, none⟩) hg).trans (HC.out i hlt)
            have hgr : g < wr.heap.size := Nat.lt_of_lt_of_le hg hbel.size
            have hi0 : (i : Int) < (m : Int) := by omega
            have hst' : (s : Int) < (t : Int) := by omega
            have hsl : s < 4096 := by omega
            have htl : t < 4096 := by omega
            clear hvs hvt htw hwt htn hp2 e
            generalize vs.getD i undef = u at d0 hrow
            rcases hrow.cases with ⟨_, e⟩ | ⟨gu, cu, rfl, _, hgu, hcu, _⟩
            · cases e
            · have d1 : wr.cell? ⟨gu, 0, none⟩ = some (.int .i64 (s : Int)) := hcu 0 (by simp)
              have d2 : wr.cell? ⟨gu, 1, none⟩ = some (.int .i64 (t : Int)) := hcu 1 (by simp)
              have hk0 : Below wr.heap.size wr wr := Below.refl _ _
              replace d0 : wr.cell? ⟨g, i, none⟩ = some (.slice (some ⟨gu, 0, none⟩) 2 cu) := d0
              clear hcu hrow
              have hge : ¬ ((t : Int) ≤ (s : Int)) := by omega
              have hgn : ¬ (t ≤ s) := by omega
              have hgd : decide ((t : Int) ≤ (s : Int)) = false := decide_eq_false hge
              go_wp2
              go_region_held3 (fun w' => w'.cell? ⟨g, i, none⟩ = some (.slice (some ⟨gu, 0, none⟩) 2 cu) ∧ w'.cell? ⟨gu, 0, none⟩ = some (.int .i64 (s : Int)) ∧ w'.cell? ⟨gu, 1, none⟩ = some (.int .i64 (t : Int)))
                (first | go_keep | (refine ⟨?_, ?_, ?_⟩ <;> ((refine (hk0.cell ?_).trans ?_) <;> assumption)))
                (first
                  | (go_at_call 11; refine (iAreTwins_yes _ _ _ _ HVS.out HVT.out).mono ?_; rintro e wx ⟨rfl, bx⟩; rw [Int.toNat_natCast, Int.toNat_natCast, Int.toNat_natCast, HTW.out]; replace hk0 : Below wr.heap.size wr wx := (by first | exact grow1 hk0 bx | exact grow0 hk0 bx); clear bx)
                  | (go_at_call 12; refine (lweight_any _ _ (by omega) (by omega)).mono ?_; rintro e wx ⟨rfl, rfl⟩; rw [Int.toNat_natCast, HWT.out])
                  | fail)
              have hb2 := hbel.trans (hk0.mono hbel.size)
              clear hk0
              go_wp2
              go_roundw
              case rel => exact ⟨i + 1, by omega, by go_num, hb2⟩
              case measure => simp [intOf]; omega
          · have : i = m := by omega
            subst this
            replace HB := Lib.hid (HB.out.trans (hbel.mono HB.out.size))
            go_wp2
            go_ret
            exact ⟨rfl, HB.out⟩
end Go.Proofs.Ytmofhhffkppelaa
