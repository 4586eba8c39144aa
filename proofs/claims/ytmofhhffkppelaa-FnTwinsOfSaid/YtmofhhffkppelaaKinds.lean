/-
  The contract of kindsOf: a map that has just the kinds of the sets of so many tones.
-/
import Derived.Test.YtmofhhffkppelaaKeys
namespace Go.Proofs.Ytmofhhffkppelaa
open Go.RowKit Go.Maps
set_option linter.unusedVariables false

/-- the key of the kind with the least set x -/
def kl (n x : Nat) : Lit := .string (keyBytes [.int .i64 n, .int .i64 x])
theorem wf_small {m : Nat} (h : m ≤ 100000) : (Lit.int .i64 (m : Int)).wf = true := WalkArith.wf_i64 (by omega)
theorem kl_of {n x : Nat} (h1 : n ≤ 12) (h2 : x ≤ 5000) : keyOf Try.prog 45 (.agg #[.int .i64 n, .int .i64 x]) = some (kl n x) := kind_key n x (wf_small (by omega)) (wf_small (by omega))
theorem kl_inj {n x y : Nat} (h1 : n ≤ 12) (h2 : x ≤ 5000) (h3 : y ≤ 5000) (e : kl n x = kl n y) : x = y := by
  have := kindKeyed.inj (kl_of h1 h2) (by rw [e]; exact kl_of h1 h3)
  simp at this
  omega

/-- the map behind the sets below m -/
def kindMap {H : Type} (n k : Nat) : Nat → DataW H
  | 0 => .map []
  | s + 1 => if Tic.wt 12 s = k then (kindMap n k s).put (kl n (Tic.prm n s)) (.lit (.bool true)) else kindMap n k s
theorem kindMap_yes {H : Type} {n k s : Nat} (h : Tic.wt 12 s = k) : kindMap (H := H) n k (s + 1) = (kindMap n k s).put (kl n (Tic.prm n s)) (.lit (.bool true)) := by conv => lhs; unfold kindMap; rw [if_pos h]
theorem kindMap_no {H : Type} {n k s : Nat} (h : Tic.wt 12 s ≠ k) : kindMap (H := H) n k (s + 1) = kindMap n k s := by conv => lhs; unfold kindMap; rw [if_neg h]

theorem Tic.prm_small {n s : Nat} (h : Tic.Valid n s) : Tic.prm n s ≤ 5000 := by
  have h1 := Tic.kTo_le n s n
  have h2 := h.lt
  unfold Tic.prm
  omega
theorem grown_of_below {w w' : World} (h : Below w.heap.size w w') : w.grownBy w' none := ⟨h.os, h.tape, h.output, h.size, fun k hk _ => h.block k hk⟩
/-- a map that reads as D is handed back -/
def GivesMap (D : DataW Unit) (w : World) (e : Ending) (w' : World) : Prop := ∃ b, e = .returned (.map (some b)) ∧ w.heap.size ≤ b ∧ w'.ownsMap Try.prog 45 (plainElem Try.prog 4) b 5000 D ∧ Below w.heap.size w w'

set_option maxRecDepth 20000 in
set_option maxHeartbeats 1000000 in
theorem kindsOf_any (N K : Nat) (w : World) (h1 : 3 ≤ N) (h2 : N ≤ 12) (h3 : K ≤ N) :
    Calls Try.prog 44 #[.int .i64 N, .int .i64 K] w (GivesMap (kindMap N K (2 ^ N)) w) := by
  have hp := Tic.pow_le_12 (n := (N : Int)) (by omega)
  have HW := Lib.hid (wrap_pow (k := N) (by omega))
  rw [Int.toNat_natCast] at hp
  generalize hg : 2 ^ N = p at hp HW
  have HP := Lib.hid hg
  have HV : Hid (∀ s : Nat, s < p → Tic.Valid N s) := fun s hs => ⟨by omega, by omega, by omega, by rw [Int.toNat_natCast, hg]; omega⟩
  clear hg
  have hmm := @run_makeMap Try.prog
  go_enter Try.func44, Try.ntmps44
  go_wp2
  rw [HW.out]
  clear hmm
  go_loopw [6, 7, 11] (fun t6 t7 t11 wr => ∃ s : Nat, s ≤ p ∧ t11 = .int .i64 s ∧ Hid (wr.ownsMap Try.prog 45 (plainElem Try.prog 4) w.heap.size s (kindMap (H := Unit) N K s)) ∧ w.heap.size < wr.heap.size ∧ Below w.heap.size w wr) (fun _ _ t11 _ => p - (intOf t11).toNat)
  case atStart => exact ⟨0, Nat.zero_le _, rfl, World.ownsMap_made _ _ _ _, by simp, (Below.refl _ _).alloc (Nat.le_refl _) _⟩
  case round =>
    obtain ⟨s, hs, rfl, HM, hz, hbel⟩ := hrel
    by_cases hlt : s < p
    · have hv := HV.out s hlt
      have hw := Tic.wt_le 12 s
      by_cases hwk : Tic.wt 12 s = K
      · have HWK := Lib.hid hwk
        have HPR := Lib.hid (Tic.prm_small hv)
        clear hwk hw
        go_wp2_with fail
        refine (count_any _ _ s _ rfl (by omega)).mono ?_; rintro e w1 ⟨rfl, hb1⟩; rw [HWK.out]
        have d0 : w1.cell? ⟨wr.heap.size, 0, none⟩ = some (.int .i64 N) := (hb1.cell (p := ⟨wr.heap.size, 0, none⟩) (by simp)).trans (by go_simp)
        have d1 : w1.cell? ⟨wr.heap.size, 1, none⟩ = some (.int .i64 s) := (hb1.cell (p := ⟨wr.heap.size, 1, none⟩) (by simp)).trans (by go_simp)
        have hs1 := hb1.size
        simp at hs1
        have hb2 : Below wr.heap.size wr w1 := ((Below.refl wr.heap.size wr).alloc (Nat.le_refl _) _).trans (hb1.mono (by simp))
        clear hb1
        go_wp2_with fail
        refine (kind_any _ _ _ hv).mono ?_; rintro e w2 ⟨rfl, hb3⟩
        rw [Int.toNat_natCast, Int.toNat_natCast]
        have hb4 : Below wr.heap.size wr w2 := hb2.trans (hb3.mono (by omega))
        have hz4 := hb4.size
        have HM2 := Lib.hid (HM.out.kept (row := none) (grown_of_below hb4) (by simp))
        have hbel2 := hbel.trans (hb4.mono (by omega))
        clear hb2 hb3 hb4 d0 d1 hs1
        have hkk : keyOf Try.prog 45 (.agg #[.int .i64 N, .int .i64 (Tic.prm N s : Int)]) = some (kl N (Tic.prm N s)) := kl_of h2 HPR.out
        have HKK := Lib.hid hkk
        clear hkk
        go_wp2_with (at_mapUpdate; refine wpList_mapUpdate_own _ rfl _ _ _ 55 rfl 45 4 kindKeyed Try.underlying55 _ w.heap.size s _ rfl HM2.out (by unfold maxLen; omega) _ _ _ rfl rfl HKK.out _ [] (plainElem_bool Try.underlying4 true) ?_; intro w3 hown3 hgr3)
        have hz5 := hgr3.size
        have HM3 : Hid (w3.ownsMap Try.prog 45 (plainElem Try.prog 4) w.heap.size (s + 1) (kindMap (H := Unit) N K (s + 1))) := by
          show World.ownsMap _ _ _ _ _ _ _
          rw [kindMap_yes HWK.out]; exact hown3
        clear hown3
        go_roundw
        case rel => exact ⟨s + 1, by omega, by go_num, HM3, by omega, hbel2.grown hgr3 (by omega) (fun j hj => by cases hj; exact Nat.le_refl _)⟩
        case measure => simp [intOf]; omega
      · have hwk2 : ((Tic.wt 12 s : Int) == (K : Int)) = false := beq_eq_false_iff_ne.2 (fun e => hwk (Int.ofNat.inj e))
        have HM3 : Hid (wr.ownsMap Try.prog 45 (plainElem Try.prog 4) w.heap.size (s + 1) (kindMap (H := Unit) N K (s + 1))) := by
          show World.ownsMap _ _ _ _ _ _ _
          rw [kindMap_no hwk]; exact HM.out.mono (by omega)
        generalize hm : Tic.wt 12 s = m at hwk2 hw
        have HMM := Lib.hid hm
        clear hm hwk
        go_wp2_with fail
        refine (count_any _ _ s _ rfl (by omega)).mono ?_; rintro e w1 ⟨rfl, hb1⟩; rw [HMM.out]
        have hb2 : Below wr.heap.size wr w1 := ((Below.refl wr.heap.size wr).alloc (Nat.le_refl _) _).trans (hb1.mono (by simp))
        have hz4 := hb2.size
        have HM4 := Lib.hid (HM3.out.kept (row := none) (grown_of_below hb2) (by simp))
        have hbel2 := hbel.trans (hb2.mono (by omega))
        clear hb1 hb2
        go_wp2
        go_roundw
        case rel => exact ⟨s + 1, by omega, by go_num, HM4, by omega, hbel2⟩
        case measure => simp [intOf]; omega
    · have : s = p := by omega
      subst this
      go_wp2
      go_ret
      exact ⟨_, rfl, Nat.le_refl _, HM.out.mono (by omega), hbel⟩

end Go.Proofs.Ytmofhhffkppelaa
