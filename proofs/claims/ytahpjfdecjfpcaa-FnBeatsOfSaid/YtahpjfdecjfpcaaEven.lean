/-
  Contracts of IsEven and IsDouble, of the program and of the model.
-/
import Derived.Test.YtahpjfdecjfpcaaSizes
namespace Go.Proofs.Ytahpjfdecjfpcaa
open Go.RowKit
set_option linter.unusedVariables false

theorem tonesTo_one {D N x : Nat} (h : Tic.tn D N = [x]) : tonesTo D N = [(x : Int)] := by rw [tonesTo_map, h]; rfl
theorem tonesTo_two {D N x y : Nat} (h : Tic.tn D N = [x, y]) : tonesTo D N = [(x : Int), (y : Int)] := by rw [tonesTo_map, h]; rfl
/-- a list of one, of two, or of another length -/
theorem tn_cases (D N : Nat) : (∃ x, Tic.tn D N = [x] ∧ x < N) ∨ (∃ x y, Tic.tn D N = [x, y] ∧ x < N ∧ y < N) ∨ ((Tic.tn D N).length ≠ 1 ∧ (Tic.tn D N).length ≠ 2) := by
  have hl : ∀ i, i < (Tic.tn D N).length → (Tic.tn D N).getD i 0 < N := fun i hi => tn_lt hi
  match h : Tic.tn D N with
  | [] => exact .inr (.inr (by simp))
  | [x] => rw [h] at hl; exact .inl ⟨x, rfl, hl 0 (by simp)⟩
  | [x, y] => rw [h] at hl; exact .inr (.inl ⟨x, y, rfl, hl 0 (by simp), hl 1 (by simp)⟩)
  | x :: y :: z :: r => exact .inr (.inr (by simp))

set_option maxRecDepth 20000 in
theorem fitE_any (v : Value) (B D N : Nat) (w : World) (h : Row w B v (tonesTo D N)) (hN : N ≤ 12) :
    Calls Try.prog 45 #[v] w fun e w' => e = .returned (.bool (Tic.okL (Tic.tn D N))) ∧ ∃ q, w' = w.drewN q := by
  rcases tn_cases D N with ⟨x, hx, x1⟩ | ⟨x, y, hx, x1, y1⟩ | ⟨n1, n2⟩
  · rw [tonesTo_one hx] at h
    rcases h.cases with ⟨_, e⟩ | ⟨g, cap, rfl, _, _, hc, _⟩
    · cases e
    · rw [hx]
      go_enter Try.func45, Try.ntmps45
      go_wp2_with fail
      go_quiet (fail)
      go_wp2
      go_ret
      exact ⟨rfl, _, rfl⟩
  · rw [tonesTo_two hx] at h
    rcases h.cases with ⟨_, e⟩ | ⟨g, cap, rfl, _, _, hc, _⟩
    · cases e
    · rw [hx]
      have c0 : w.cell? ⟨g, 0, none⟩ = some (.int .i64 x) := hc 0 (by simp)
      have c1 : w.cell? ⟨g, 1, none⟩ = some (.int .i64 y) := hc 1 (by simp)
      have hs1 := IntWalk.i64_in ((y : Int) - (x : Int)) (by omega)
      clear hc
      go_enter Try.func45, Try.ntmps45
      go_wp2_with fail
      go_quiet (fail)
      go_wp2
      go_ret
      refine ⟨ret_bool ?_, _, rfl⟩
      show ((y : Int) - (x : Int) == 1) = (y == x + 1)
      rw [Bool.eq_iff_iff, beq_iff_eq, beq_iff_eq]
      omega
  · have hl : (tonesTo D N).length = (Tic.tn D N).length := tonesTo_len D N
    have hok : Tic.okL (Tic.tn D N) = false := by unfold Tic.okL; simp [n1, n2]
    have n1' : ¬ ((Tic.tn D N).length : Int) = 1 := by omega
    have n2' : ¬ ((Tic.tn D N).length : Int) = 2 := by omega
    rw [hok]
    rcases h.cases with ⟨rfl, e⟩ | ⟨g, cap, rfl, _, _, hc, _⟩
    · go_enter Try.func45, Try.ntmps45
      go_wp2_with fail
      go_quiet (fail)
      go_wp2
      go_ret
      exact ⟨rfl, _, rfl⟩
    · rw [hl]
      generalize (Tic.tn D N).length = K at n1 n2 n1' n2'
      have d1 : decide ((K : Int) = 1) = false := decide_eq_false n1'
      have d2 : decide ((K : Int) = 2) = false := decide_eq_false n2'
      clear hc h hl hok
      go_enter Try.func45, Try.ntmps45
      go_wp2_with fail
      go_quiet (fail)
      go_wp2
      go_ret
      exact ⟨ret_bool (beq_eq_false_iff_ne.2 n1'), _, rfl⟩
/-- the sizes of 1 to j steps all fit -/
def allL (p : List Nat → Bool) (n s j : Nat) : Bool := Tic.allTo (fun D => p (Tic.tn D n)) n s j

set_option maxHeartbeats 800000 in
set_option maxRecDepth 20000 in
theorem allSizes_any (F : Nat) (p : List Nat → Bool) (n s : Int) (w : World) (hv : Tic.Valid n s)
    (hfit : ∀ (v : Value) (B D N : Nat) (w : World), Row w B v (tonesTo D N) → N ≤ 12 → Calls Try.prog F #[v] w fun e w' => e = .returned (.bool (p (Tic.tn D N))) ∧ ∃ q, w' = w.drewN q) (hent : ∀ args w, (callFunc F args).run Try.prog w = .ok (.enter F args) w) :
    Calls Try.prog 44 #[.agg #[.int .i64 n, .int .i64 s], .func (.func F) #[] #[]] w fun e w' => e = .returned (.bool (allL p n.toNat s.toNat (Tic.rk s.toNat n.toNat - 1))) ∧ Below w.heap.size w w' := by
  have hlt := hv.lt
  have g1 := hv.1
  have g2 := hv.2.1
  have HF := Lib.hid hfit
  clear hfit
  have HW := Lib.hid (rk_valid hv)
  have HV := Lib.hid hv
  obtain ⟨N, rfl⟩ := Int.eq_ofNat_of_zero_le (show 0 ≤ n by omega)
  obtain ⟨S, rfl⟩ := Int.eq_ofNat_of_zero_le hv.2.2.1
  simp only [Int.toNat_natCast] at HW ⊢
  have hK12 : Tic.rk S N ≤ 12 := by have := tonesTo_le S N; rw [tonesTo_len] at this; omega
  have HAT := Lib.hid (fun j => show allL p N S (j + 1) = (allL p N S j && p (Tic.tn (Tic.dset N S (j + 1)) N)) from rfl)
  have HNO := Lib.hid (fun i j => show p (Tic.tn (Tic.dset N S i) N) = false → 1 ≤ i → i ≤ j → allL p N S j = false from fun a b c => Tic.allTo_no (p := fun D => p (Tic.tn D N)) a b c)
  go_enter Try.func44, Try.ntmps44
  go_wp2
  go_loopw [5] (fun t5 wr => ∃ i : Nat, 1 ≤ i ∧ i ≤ 13 ∧ (i ≤ Tic.rk S N ∨ i = 1) ∧ t5 = .int .i64 i ∧ Hid (allL p N S (i - 1) = true) ∧
      wr.cell? ⟨w.heap.size, 0, none⟩ = some (.int .i64 N) ∧ wr.cell? ⟨w.heap.size, 1, none⟩ = some (.int .i64 S) ∧ w.heap.size < wr.heap.size ∧ Below w.heap.size w wr) (fun t5 _ => 13 - (intOf t5).toNat)
  case atStart => exact ⟨1, by omega, by omega, .inr rfl, rfl, rfl, by go_simp, by go_simp, by simp, (Below.refl _ _).alloc (Nat.le_refl _) _⟩
  case round =>
    obtain ⟨i, hi1, hi2, hi3, rfl, HA, a0, a1, hz, hbel⟩ := hrel
    go_wp2_with fail
    refine (count_any _ _ S _ rfl (by omega)).mono ?_; rintro e w1 ⟨rfl, hb1⟩
    rw [← HW.out]
    have d0 := (hb1.cell (p := ⟨w.heap.size, 0, none⟩) hz).trans a0
    have d1 := (hb1.cell (p := ⟨w.heap.size, 1, none⟩) hz).trans a1
    have hz1 := hb1.size
    have hbel1 := hbel.trans (hb1.mono (by omega))
    clear a0 a1 hb1 hbel
    by_cases hlt2 : i < Tic.rk S N
    · have hsz : (i : Int) < (Tic.rk ((S : Int)).toNat ((N : Int)).toNat : Int) := by rw [Int.toNat_natCast, Int.toNat_natCast]; omega
      go_wp2_with fail
      refine (sizes_any _ _ _ _ HV.out (by omega) hsz).mono ?_; rintro e w2 ⟨v, rfl, hr, hb2⟩
      simp only [Int.toNat_natCast] at hr
      clear hsz
      have e0 := (hb2.cell (p := ⟨w.heap.size, 0, none⟩) (by show w.heap.size < _; omega)).trans d0
      have e1 := (hb2.cell (p := ⟨w.heap.size, 1, none⟩) (by show w.heap.size < _; omega)).trans d1
      have hz2 := hb2.size
      have hbel2 := hbel1.trans (hb2.mono (by omega))
      have HR := Lib.hid hr
      clear d0 d1 hb2 hbel1 hr
      go_wp2_with fail
      refine (HF.out _ _ _ _ _ HR.out (by omega)).mono ?_; rintro e w3 ⟨rfl, q, rfl⟩
      have hat := HAT.out (i - 1)
      rw [show i - 1 + 1 = i by omega] at hat
      cases hp : p (Tic.tn (Tic.dset N S i) N) with
      | true =>
        rw [hp, HA.out] at hat
        have HA2 := Lib.hid hat
        clear hat hp
        go_wp2
        go_roundw
        case rel => exact ⟨i + 1, by omega, by omega, by omega, by go_num, HA2, e0, e1, by simp; omega, below_drewN hbel2 _⟩
        case measure => simp [intOf]; omega
      | false =>
        have HN := Lib.hid (HNO.out i (Tic.rk S N - 1) hp hi1 (by omega))
        clear hat hp
        go_wp2
        go_ret
        exact ⟨ret_bool HN.out.symm, below_drewN hbel2 _⟩
    · have HA2 : Hid (allL p N S (Tic.rk S N - 1) = true) := Lib.hid (by
        have : Tic.rk S N - 1 = i - 1 := by omega
        rw [this]; exact HA.out)
      go_wp2
      go_ret
      exact ⟨ret_bool HA2.out.symm, hbel1⟩
theorem dset_some {N S i : Nat} (hN : 0 < N) (h : 0 < Tic.rk S N) : 1 ≤ (Tic.tn (Tic.dset N S i) N).length := by
  have h1 := Tic.dset_one (st := i) h
  have h2 := Tic.rk_lt h1 (Tic.dst_lt hN S i 0)
  exact Nat.lt_of_le_of_lt (Nat.zero_le _) h2

/-- the arguments at which IsEven is asked -/
def EvOk (n s : Int) : Prop := Tic.Valid n s ∧ s ≠ 0
theorem iIsEven_yes (n s : Int) (w : World) (h : EvOk n s) :
    Calls Try.prog 22 #[.int .i64 n, .int .i64 s] w fun e w' => e = .returned (.bool (allL Tic.okL n.toNat s.toNat (Tic.rk s.toNat n.toNat - 1))) ∧ Below w.heap.size w w' := by
  obtain ⟨hv, h0⟩ := h
  go_enter Try.func22, Try.ntmps22
  go_wp2_with fail
  refine (implValid_yes _ _ _ hv).mono ?_; rintro e w1 ⟨rfl, rfl⟩
  go_wp2_with fail
  refine (allSizes_any 45 Tic.okL _ _ _ hv (fun v B D N w h hN => fitE_any v B D N w h hN) (enters_of Try.func45 (by kernel_rfl) rfl)).mono ?_; rintro e w1 ⟨rfl, hb⟩
  go_wp2_with fail
  go_ret
  exact ⟨rfl, hb⟩
theorem iIsEven_no (n s : Int) (w : World) (h : ¬ EvOk n s) :
    Calls Try.prog 22 #[.int .i64 n, .int .i64 s] w fun e w' => e = .returned (.bool false) ∧ w = w' := by
  by_cases hv : Tic.Valid n s
  · have h0 : s = 0 := Decidable.byContradiction fun e => h ⟨hv, e⟩
    clear h
    subst h0
    go_enter Try.func22, Try.ntmps22
    go_wp2_with fail
    refine (implValid_yes _ _ _ hv).mono ?_; rintro e w1 ⟨rfl, rfl⟩
    go_wp2
    go_ret
    exact ⟨rfl, rfl⟩
  · clear h
    go_enter Try.func22, Try.ntmps22
    go_wp2_with fail
    refine (implValid_no _ _ _ hv).mono ?_; rintro e w1 ⟨rfl, rfl⟩
    go_wp2
    go_ret
    exact ⟨rfl, rfl⟩
end Go.Proofs.Ytahpjfdecjfpcaa
