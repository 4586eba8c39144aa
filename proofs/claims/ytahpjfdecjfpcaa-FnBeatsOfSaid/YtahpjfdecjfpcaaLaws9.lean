/-
  The walk of the law of beats.
-/
import Derived.Test.YtahpjfdecjfpcaaDraws2
import Derived.Test.YtahpjfdecjfpcaaLawLow
import Derived.Test.YtahpjfdecjfpcaaEven
import Derived.Test.YtahpjfdecjfpcaaEq
import Derived.Test.YtahpjfdecjfpcaaBeatsOf
namespace Go.Proofs.Ytahpjfdecjfpcaa
open Go.RowKit
set_option linter.unusedVariables false

theorem allTo_same {p q : Nat → Bool} {n s : Nat} : ∀ j, (∀ i, 1 ≤ i → i ≤ j → p (Tic.dset n s i) = q (Tic.dset n s i)) → Tic.allTo p n s j = Tic.allTo q n s j
  | 0, _ => rfl
  | j + 1, h => by
    unfold Tic.allTo
    rw [allTo_same j (fun i a b => h i a (by omega)), h (j + 1) (by omega) (by omega)]
theorem allL_even {n s : Nat} (hn0 : 0 < n) (hn : n ≤ 12) : allL Tic.okL n s (Tic.rk s n - 1) = Tic.evn n s := by
  refine allTo_same _ fun i a b => ?_
  exact (Tic.okL_tn (Tic.dset_lt hn0 s i) hn (Tic.dset_pos (by omega))).1
theorem sum_take (L : List Int) : ∀ j, j < L.length → (L.take (j + 1)).sum = (L.take j).sum + L.getD j 0 := by
  induction L with
  | nil => intro j hj; simp at hj
  | cons b r ih =>
    intro j hj
    cases j with
    | zero => simp
    | succ j =>
      have := ih j (by simpa using hj)
      rw [List.take_succ_cons, List.take_succ_cons, List.sum_cons, List.sum_cons, this, show (b :: r).getD (j + 1) 0 = r.getD j 0 from rfl]
      omega
theorem sum_bd (L : List Int) (h : ∀ b ∈ L, b = 0 ∨ b = 1) : 0 ≤ L.sum ∧ L.sum ≤ L.length := by
  induction L with
  | nil => simp
  | cons b r ih =>
    have := ih (fun c hc => h c (List.mem_cons_of_mem _ hc))
    have hb := h b (by simp)
    rw [List.sum_cons, List.length_cons]
    omega
theorem mem_getD {L : List Int} {j : Nat} (hj : j < L.length) : L.getD j 0 ∈ L := by
  rw [List.getD_eq_getElem?_getD, List.getElem?_eq_getElem hj]
  exact List.getElem_mem _
set_option maxHeartbeats 400000 in
theorem total_any (v : Value) (B : Nat) (L : List Int) (w : World) (h : Row w B v L) (hb : ∀ b ∈ L, b = 0 ∨ b = 1) :
    Calls Try.prog 21 #[v] w fun e w' => e = .returned (.int .i64 L.sum) ∧ w = w' := by
  have hl := h.2
  rcases h.cases with ⟨rfl, rfl⟩ | ⟨g, cap, rfl, _, _, hc, _⟩
  · go_enter Try.func21, Try.ntmps21
    go_wp2
    refine wp_loop_rounds 1 ?_
    rw [rounds_succ]
    go_wp2
    go_ret
    exact ⟨rfl, rfl⟩
  · have HC := Lib.hid hc
    have HBD := Lib.hid (fun i => sum_bd (L.take i) (fun b hm => hb b (List.mem_of_mem_take hm)))
    have HST := Lib.hid (sum_take L)
    clear hc h hb
    go_enter Try.func21, Try.ntmps21
    go_wp2
    go_loop [3, 4] (fun t3 t4 => ∃ i : Nat, i ≤ L.length ∧ t4 = .int .i64 i ∧ t3 = .int .i64 ((L.take i).sum)) (fun _ t4 => L.length - (intOf t4).toNat)
    case atStart => exact ⟨0, Nat.zero_le _, rfl, by simp⟩
    case round =>
      obtain ⟨i, hi, rfl, rfl⟩ := hrel
      by_cases hlt : i < L.length
      · have hci := HC.out i hlt
        have hst := HST.out i hlt
        have b0 := HBD.out i
        have b1 := HBD.out (i + 1)
        rw [hst] at b1
        have hl1 : (L.take i).length ≤ L.length := by simp; omega
        have hl2 : (L.take (i + 1)).length ≤ L.length := by simp; omega
        have hi2 : (i : Int) < (L.length : Int) := by omega
        have HS := Lib.hid hst
        clear hst
        generalize (L.take i).sum = s at b0 b1 HS ⊢
        generalize L.getD i 0 = y at hci b1 HS
        have hs1 := IntWalk.i64_in (s + y) (by omega)
        go_wp2
        go_round
        case rel => exact ⟨i + 1, by omega, by go_num, by rw [HS.out]⟩
        case measure => simp [intOf]; omega
      · have : i = L.length := by omega
        have HE : Hid ((L.take i).sum = L.sum) := Lib.hid (by rw [this, List.take_length])
        rw [HE.out]
        go_wp2
        go_ret
        exact ⟨rfl, rfl⟩
set_option maxRecDepth 20000 in
set_option maxHeartbeats 1600000 in
theorem FnBeatsOf_walk (x : Option Addr) (len cap : Nat) (w : World) (h : Code w x len cap) :
    Calls Try.prog 5 #[.slice x len cap] w fun e w' => e = .returned (.bool true) ∧ Below w.heap.size w w' := by
  by_cases hl : 1048576 < len
  · go_enter Try.func5, Try.ntmps5
    go_wp2_with fail
    go_ret
    exact ⟨rfl, Below.refl _ _⟩
  · go_enter Try.func5, Try.ntmps5
    go_wp2_with fail
    refine (drawBeatsOf _ _ _ _ h).mono ?_; rintro e w1 ⟨n, k, rfl, n0, n1, k0, k1, hb⟩
    have HB := Lib.hid hb
    clear hb h hl
    by_cases hc : BOk n k
    · have HC := Lib.hid hc
      obtain ⟨a1, a2, a3, a4⟩ := hc
      obtain ⟨N, rfl⟩ := Int.eq_ofNat_of_zero_le (show 0 ≤ n by omega)
      obtain ⟨K, rfl⟩ := Int.eq_ofNat_of_zero_le (show 0 ≤ k by omega)
      obtain ⟨o1, o2, o3, o4, o5, o6⟩ := Tic.beats_ok (n := N) (k := K) (by omega) (by omega) (by omega)
      have hva : Tic.Valid (N : Int) (Tic.bset (Tic.beats N K) : Int) := ⟨a1, a2, Int.natCast_nonneg _, Int.ofNat_lt.2 (by have := Tic.bset_lt (Tic.beats N K); rw [o1] at this; exact this)⟩
      have HEV : Hid (EvOk (N : Int) (Tic.bset (Tic.beats N K) : Int)) := Lib.hid ⟨hva, by omega⟩
      have HAL := Lib.hid ((allL_even (n := N) (s := Tic.bset (Tic.beats N K)) (by omega) (by omega)).trans o5)
      have HSUM := Lib.hid o2
      have H01 := Lib.hid o3
      have HTK := Lib.hid (Tic.bset_take (Tic.beats N K) o3)
      have HLT := Lib.hid (fun i => Tic.bset_lt ((Tic.beats N K).take i))
      clear o2 o3 o5 o6 hva
      go_wp2_with fail
      refine (iBeatsOf_yes _ _ _ HC.out).mono ?_; rintro e w2 ⟨v, rfl, hr, hb⟩
      simp only [Int.toNat_natCast] at hr
      have R0 := Lib.hid hr
      replace HB := Lib.hid (HB.out.trans (hb.mono HB.out.size))
      clear hb hr
      go_wp2_with fail
      refine (sBeatsOf_yes _ _ _ HC.out).mono ?_; rintro e w3 ⟨v1, rfl, hr, hb⟩
      simp only [Int.toNat_natCast] at hr
      have R1 := Lib.hid hr
      replace R0 := Lib.hid (R0.out.kept hb)
      replace HB := Lib.hid (HB.out.trans (hb.mono HB.out.size))
      clear hb hr
      go_wp2_with fail
      refine (equalInts_yes _ _ _ _ _ _ R0.out R1.out).mono ?_; rintro e w4 ⟨rfl, hb⟩
      replace R0 := Lib.hid (R0.out.kept hb)
      replace HB := Lib.hid (HB.out.trans (hb.mono HB.out.size))
      clear hb R1
      generalize hL : Tic.beats N K = L at R0 HEV HAL HSUM H01 HTK HLT o1 o4
      clear hL
      have HN1 := Lib.hid o1
      have HG := Lib.hid o4
      clear o1 o4
      rcases R0.out.cases with ⟨rfl, e2⟩ | ⟨g, cap, rfl, _, _, hcel, _⟩
      · have := HN1.out; rw [e2] at this; simp at this; omega
      · have HCE := Lib.hid hcel
        clear hcel
        rw [HN1.out] at R0 ⊢
        have hN0 : ¬ N = 0 := by omega
        have hN0' : ((N : Int) == 0) = false := beq_eq_false_iff_ne.2 (by omega)
        go_wp2
        go_loopw [6, 7] (fun t6 t7 wr => ∃ i : Nat, i ≤ N ∧ t7 = .int .i64 i ∧ t6 = .int .i64 (Tic.bset (L.take i) : Int) ∧ ∃ q, Hid (wr = w4.drewN q)) (fun _ t7 _ => N - (intOf t7).toNat)
        case atStart => exact ⟨0, Nat.zero_le _, rfl, by simp [Tic.bset], 0, rfl⟩
        case round =>
          obtain ⟨i, hi, rfl, rfl, q, HQ⟩ := hrel
          by_cases hlti : i < N
          · have hci : wr.cell? ⟨g, i, none⟩ = some (.int .i64 (L.getD i 0)) := by rw [HQ.out]; exact HCE.out i (by rw [HN1.out]; exact hlti)
            have hi2 : (i : Int) < (N : Int) := by omega
            have hb01 := H01.out _ (mem_getD (L := L) (j := i) (by rw [HN1.out]; exact hlti))
            have htk := HTK.out i (by rw [HN1.out]; exact hlti)
            have hl0 := HLT.out i
            have hpw : 2 ^ i ≤ 4096 := by
              have : 2 ^ i ≤ 2 ^ 12 := Nat.pow_le_pow_right (by omega) (by omega)
              omega
            have hl1 : Tic.bset (L.take i) < 4096 := Nat.lt_of_lt_of_le hl0 (Nat.le_trans (Nat.pow_le_pow_right (by omega) (by simp; omega : (L.take i).length ≤ i)) hpw)
            have HTK1 := Lib.hid htk
            clear htk hl0
            rcases hb01 with hb01 | hb01
            · rw [hb01] at hci HTK1
              rw [if_neg (by omega)] at HTK1
              clear hb01
              go_wp2_with fail
              go_quiet ((go_at_call 20; exact Calls.quiet_of_same (still_of (lpower_any _ _ (by omega) (by omega)))))
              rw [Int.toNat_natCast]
              go_wp2
              go_roundw
              case rel => exact ⟨i + 1, by omega, by go_num, by rw [HTK1.out, Nat.add_zero], q + nq, Lib.hid (by rw [HQ.out, World.drewN_drewN])⟩
              case measure => simp [intOf]; omega
            · rw [hb01] at hci HTK1
              rw [if_pos rfl] at HTK1
              clear hb01
              have hPz : ((2 : Int) ^ i) = ((2 ^ i : Nat) : Int) := by rw [Int.natCast_pow]; rfl
              generalize 2 ^ i = P at hpw HTK1 hPz
              have hs1 := IntWalk.i64_in ((Tic.bset (L.take i) : Int) + (P : Int)) (by omega)
              go_wp2_with fail
              go_quiet ((go_at_call 20; exact Calls.quiet_of_same (still_of (lpower_any _ _ (by omega) (by omega)))))
              rw [Int.toNat_natCast]
              generalize hbs : Tic.bset (L.take i) = b at hl1 HTK1 hs1 ⊢
              go_wp2
              go_roundw
              case rel => exact ⟨i + 1, by omega, by go_num, by rw [HTK1.out]; rfl, q + nq, Lib.hid (by rw [HQ.out, World.drewN_drewN])⟩
              case measure => simp [intOf]; omega
          · have hiN : i = N := by omega
            subst hiN
            have hT : L.take i = L := by rw [← HN1.out, List.take_length]
            rw [hT]
            go_wp2_with fail
            refine (total_any _ w1.heap.size L _ (by rw [HQ.out]; exact R0.out) H01.out).mono ?_; rintro e w5 ⟨rfl, rfl⟩
            rw [HSUM.out]
            have hc0 : wr.cell? ⟨g, 0, none⟩ = some (.int .i64 1) := by rw [HQ.out, ← HG.out]; exact HCE.out 0 (by rw [HN1.out]; omega)
            go_wp2_with fail
            refine (iIsEven_yes _ _ _ HEV.out).mono ?_; rintro e w5 ⟨rfl, hb⟩
            simp only [Int.toNat_natCast]
            rw [HAL.out]
            replace HB := Lib.hid ((show Below w.heap.size w wr by rw [HQ.out]; exact below_drewN HB.out _).trans (hb.mono (show Below w.heap.size w wr by rw [HQ.out]; exact below_drewN HB.out _).size))
            clear hb
            go_wp2
            go_ret
            exact ⟨rfl, HB.out⟩
    · have HC := Lib.hid hc
      go_wp2_with fail
      refine (iBeatsOf_no _ _ _ hc).mono ?_; rintro e w2 ⟨rfl, rfl⟩
      go_wp2_with fail
      refine (sBeatsOf_no _ _ _ HC.out).mono ?_; rintro e w3 ⟨rfl, rfl⟩
      go_wp2_with fail
      refine (equalInts_yes _ _ 0 0 [] _ (Row.nil _ _) (Row.nil _ _)).mono ?_; rintro e w4 ⟨rfl, hb⟩
      replace HB := Lib.hid (HB.out.trans (hb.mono HB.out.size))
      clear hb
      go_wp2_with fail
      refine (sBeatsOf_no _ _ _ HC.out).mono ?_; rintro e w3 ⟨rfl, rfl⟩
      go_wp2_with fail
      refine (equalInts_yes _ _ 0 0 [] _ (Row.nil _ _) (Row.nil _ _)).mono ?_; rintro e w4 ⟨rfl, hb⟩
      replace HB := Lib.hid (HB.out.trans (hb.mono HB.out.size))
      clear hb
      go_wp2_with fail
      go_ret
      exact ⟨rfl, HB.out⟩
end Go.Proofs.Ytahpjfdecjfpcaa
