/-
  The walk of the law of FifthsOf.
-/
import Derived.Test.YtpcbplademohnaaDoorTuneDraw
import Derived.Test.YtpcbplademohnaaDoorEqLists
import Derived.Test.YtpcbplademohnaaDoorExact6D
import Derived.Test.YtpcbplademohnaaDoorExact6A
import Derived.Test.YtpcbplademohnaaDoorInto2
import Derived.Test.YtpcbplademohnaaDoorLPow
namespace Go.Proofs.YtpcbplademohnaaDoor
open Go.RowKit
set_option linter.unusedVariables false
set_option maxRecDepth 20000

namespace Tic
/-- the powers of 3 of the first i tones, as a set -/
def seen (n : Nat) : Nat → Nat
  | 0 => 0
  | i + 1 => seen n i ||| 2 ^ ((chain n).getD i 0).val
theorem seen_tab : ∀ n : Fin 13, seen n.val n.val + 1 = 2 ^ n.val := by decide +kernel
theorem seen_lt : ∀ n : Fin 13, ∀ i : Fin 13, seen n.val i.val < 4096 := by decide +kernel
theorem less_next : ∀ n : Fin 13, ∀ i : Fin 12, i.val + 1 < n.val → less ((chain n.val).getD i.val 0) ((chain n.val).getD (i.val + 1) 0) = true := by decide +kernel
end Tic
theorem into_vec (x : Fin 12) : into (vec3 x) = some (vec3 x) := by
  have h := Tic.oc_bd x
  have hx := x.isLt
  exact into_yes (a := Tic.oc x) (b := (x.val : Int)) (c := 0) ⟨by omega, by omega, by omega, by omega, by omega, by omega⟩ ⟨by have := h.1; exact this, by have := h.2; exact Int.le_trans this (by decide)⟩
theorem rat_vec (x : Fin 12) : ratLV (vec3 x) = .tuple #[.int .i64 (Tic.fu x : Int), .int .i64 (Tic.fd x : Int)] := by
  have h := Tic.oc_bd x
  have hx := x.isLt
  exact ratLV_yes (a := Tic.oc x) (b := (x.val : Int)) (c := 0) ⟨by omega, by omega, by omega, by omega, by omega, by omega⟩
set_option maxHeartbeats 2000000 in
theorem FnFifthsOf_walk (x : Option Addr) (len cap : Nat) (w : World) (h : Code w x len cap) (hsh : Tabs w) :
    Calls Tryd.prog 5 #[.slice x len cap] w fun e w' => e = .returned (.bool true) ∧ Below w.heap.size w w' := by
  by_cases hl : 1048576 < len
  · go_enter Tryd.func5, Tryd.ntmps5
    go_wp2_with fail
    go_ret
    exact ⟨rfl, Below.refl _ _⟩
  · have HT := Lib.hid (fun (W : World) hW => Tabs.kept (w := w) (w' := W) hsh hW)
    clear hsh
    go_enter Tryd.func5, Tryd.ntmps5
    go_wp2_with fail
    refine (drawFifthsOf _ _ _ _ h).mono ?_; rintro e w1 ⟨n, rfl, n0, n1, hb⟩
    have HB := Lib.hid hb
    clear hb h hl
    by_cases hn : 1 ≤ n ∧ n ≤ 12
    · obtain ⟨N, rfl⟩ := Int.eq_ofNat_of_zero_le n0
      have HS := Lib.hid (fun w => sFifths_yes N w (by omega) (by omega))
      have HI := Lib.hid (fun w hp => iFifths_yes N w hp (by omega) (by omega))
      have hcl := Tic.chain_len (n := N) (by omega)
      go_wp2_with fail
      refine (HI.out _ (HT.out _ HB.out).2).mono ?_; rintro e w2 ⟨v, vs, rfl, r0, b2⟩
      have R0 := Lib.hid r0
      replace HB := Lib.hid (HB.out.trans (b2.mono HB.out.size))
      clear r0 b2
      go_wp2_with fail
      refine (HS.out _).mono ?_; rintro e w3 ⟨v1, vs1, rfl, r1, b3⟩
      have R1 := Lib.hid r1
      replace R0 := Lib.hid (R0.out.kept b3)
      replace HB := Lib.hid (HB.out.trans (b3.mono HB.out.size))
      clear r1 b3
      go_wp2_with fail
      refine (equalLists_same _ _ _ _ _ _ _ _ R0.out R1.out).mono ?_; rintro e w4 ⟨rfl, b4⟩
      replace R0 := Lib.hid (R0.out.kept b4)
      replace HB := Lib.hid (HB.out.trans (b4.mono HB.out.size))
      clear b4 R1
      have hml : ((Tic.chain N).map vec3).length = N := by rw [List.length_map, hcl]
      rcases R0.out.shape with ⟨_, e⟩ | ⟨g, c, rfl, _, hg, hcl2⟩
      · exact absurd (congrArg List.length e) (by rw [hml, List.length_nil]; omega)
      have HR : Hid (∀ i, i < N → Row w4 w1.heap.size (vs.getD i undef) (vec3 ((Tic.chain N).getD i 0))) := Lib.hid (fun i hi => by
        have := R0.out.row (i := i) (by rw [hml]; exact hi)
        rw [List.getD_eq_getElem?_getD (l := (Tic.chain N).map vec3), List.getElem?_map, List.getElem?_eq_getElem (by omega)] at this
        rw [List.getD_eq_getElem?_getD (l := Tic.chain N), List.getElem?_eq_getElem (by omega)]
        exact this)
      rw [hml] at hcl2 ⊢
      have HC := Lib.hid hcl2
      have HSL : Hid (∀ i, i ≤ N → Tic.seen N i < 4096) := Lib.hid (fun i hi => Tic.seen_lt ⟨N, by omega⟩ ⟨i, by omega⟩)
      have HNX : Hid (∀ i, i + 1 < N → Tic.less ((Tic.chain N).getD i 0) ((Tic.chain N).getD (i + 1) 0) = true) := Lib.hid (fun i hi => Tic.less_next ⟨N, by omega⟩ ⟨i, by omega⟩ hi)
      have HST : Hid (∀ i, Tic.seen N (i + 1) = Tic.seen N i ||| 2 ^ ((Tic.chain N).getD i 0).val) := Lib.hid (fun i => rfl)
      have HSE : Hid (Tic.seen N N + 1 = 2 ^ N) := Lib.hid (Tic.seen_tab ⟨N, by omega⟩)
      have hS0 : Tic.seen N 0 = 0 := rfl
      clear hcl2 HS HI hcl hml R0
      generalize Tic.seen N = sn at *
      have hz0 : ((N : Int) == 0) = false := beq_eq_false_iff_ne.2 (by omega)
      go_wp2
      go_loopw [5, 6] (fun t5 t6 wr => ∃ i : Nat, i ≤ N ∧ t6 = .int .i64 i ∧ t5 = .int .i64 (sn i : Int) ∧ Hid (Below w4.heap.size w4 wr)) (fun _ t6 _ => N - (intOf t6).toNat)
      case atStart => exact ⟨0, Nat.zero_le _, rfl, by rw [hS0]; rfl, Below.refl _ _⟩
      case round =>
        obtain ⟨i, hi, rfl, rfl, HBL⟩ := hrel
        by_cases hlt : i < N
        · rcases Nat.eq_zero_or_pos i with rfl | hi0
          · obtain ⟨X, hX⟩ : ∃ X, X = (Tic.chain N).getD (0) 0 := ⟨_, rfl⟩
            have hrow := HR.out (0) hlt
            have hst := HST.out (0)
            rw [← hX] at hrow hst
            have HTB := Lib.hid (HT.out _ (HB.out.trans (HBL.out.mono HB.out.size)))
            have hgr : g < wr.heap.size := Nat.lt_of_lt_of_le hg HBL.out.size
            have d0 := (HBL.out.cell (p := ⟨g, 0, none⟩) hg).trans (HC.out (0) hlt)
            have hr1 := hrow.kept HBL.out
            clear hrow
            generalize vs.getD (0) undef = u at d0 hr1
            have h3 := hr1
            unfold vec3 at h3
            obtain ⟨gu, cu, rfl, hgu0, hgu, q0, q1, _⟩ := h3.three
            have HR1 := Lib.hid hr1
            have hsl := HSL.out (0) (by omega)
            have hP : 2 ^ X.val ≤ 2048 := by have := Nat.pow_le_pow_right (n := 2) (by decide) (show X.val ≤ 11 by have := X.isLt; omega); exact this
            have hor : bits .or .i64 (sn (0) : Int) ((2 ^ X.val : Nat) : Int) = (sn (0 + 1) : Int) := by rw [hst]; exact i64_or_nat _ _ (by omega) (by omega)
            have HP := Lib.hid (fun w => lpow_any X.val w (by have := X.isLt; omega))
            have HII : Hid (∀ v B w, Limits w → Primes w → Row w B v (vec3 X) → Calls Tryd.prog 16 #[v] w (GivesOk (vec3 X) true w)) := Lib.hid (fun v B w a b c => by
              have := iInto_all v B (vec3 X) w a b c
              rw [into_vec] at this
              exact this)
            have HRT : Hid (∀ v B w, Limits w → Primes w → Row w B v (vec3 X) → Calls Tryd.prog 19 #[v] w fun e w' => e = .returned (.tuple #[.int .i64 (Tic.fu X : Int), .int .i64 (Tic.fd X : Int)]) ∧ Below w.heap.size w w') := Lib.hid (fun v B w a b c => by
              have := iRatioOf_all v B (vec3 X) w a b c
              rw [rat_vec] at this
              exact this)
            clear hr1 h3 hst hX
            generalize 2 ^ X.val = P at *
            have HOR : Hid (Value.int .i64 (bits .or .i64 0 (P : Int)) = Value.int .i64 (sn 1 : Int)) := Lib.hid (congrArg (Value.int .i64) (by rw [hS0] at hor; exact hor))
            clear hor
            generalize (X.val : Int) = XV at *
            go_wp2_with fail
            refine (HII.out _ _ _ HTB.out.1 HTB.out.2 HR1.out).mono ?_; rintro e wa ⟨s, rfl, rs, ba⟩
            have RS := Lib.hid rs
            replace HR1 := Lib.hid (HR1.out.kept ba)
            replace HTB := Lib.hid (HTB.out.kept ba)
            replace HBL := Lib.hid (HBL.out.trans (ba.mono HBL.out.size))
            replace d0 := (ba.cell (p := ⟨g, 0, none⟩) hgr).trans d0
            replace q1 := (ba.cell (p := ⟨gu, 1, none⟩) hgu).trans q1
            replace hgr := Nat.lt_of_lt_of_le hgr ba.size
            replace hgu := Nat.lt_of_lt_of_le hgu ba.size
            clear rs ba q0
            go_wp2_with fail
            refine (equalInts_yes _ _ _ _ _ _ RS.out HR1.out).mono ?_; rintro e wb ⟨rfl, bb⟩
            replace HR1 := Lib.hid (HR1.out.kept bb)
            replace HTB := Lib.hid (HTB.out.kept bb)
            replace HBL := Lib.hid (HBL.out.trans (bb.mono HBL.out.size))
            replace d0 := (bb.cell (p := ⟨g, 0, none⟩) hgr).trans d0
            replace q1 := (bb.cell (p := ⟨gu, 1, none⟩) hgu).trans q1
            replace hgr := Nat.lt_of_lt_of_le hgr bb.size
            replace hgu := Nat.lt_of_lt_of_le hgu bb.size
            clear bb RS
            go_wp2_with fail
            refine (HP.out _).mono ?_; rintro e wp ⟨rfl, rfl⟩
            go_wp2_with fail
            refine (HRT.out _ _ _ HTB.out.1 HTB.out.2 HR1.out).mono ?_; rintro e wc ⟨rfl, bc⟩
            replace HTB := Lib.hid (HTB.out.kept bc)
            replace HBL := Lib.hid (HBL.out.trans (bc.mono HBL.out.size))
            clear bc d0 q1
            go_wp2
            go_roundw
            case rel => exact ⟨1, by omega, by go_num, HOR.out, HBL⟩
            case measure => simp [intOf]; omega
          · obtain ⟨j, rfl⟩ : ∃ j, i = j + 1 := ⟨i - 1, by omega⟩
            obtain ⟨X, hX⟩ : ∃ X, X = (Tic.chain N).getD (j + 1) 0 := ⟨_, rfl⟩
            have hrow := HR.out (j + 1) hlt
            have hst := HST.out (j + 1)
            rw [← hX] at hrow hst
            have HTB := Lib.hid (HT.out _ (HB.out.trans (HBL.out.mono HB.out.size)))
            have hgr : g < wr.heap.size := Nat.lt_of_lt_of_le hg HBL.out.size
            have d0 := (HBL.out.cell (p := ⟨g, j + 1, none⟩) hg).trans (HC.out (j + 1) hlt)
            have hr1 := hrow.kept HBL.out
            clear hrow
            obtain ⟨Z, hZ⟩ : ∃ Z, Z = (Tic.chain N).getD j 0 := ⟨_, rfl⟩
            have hrow := HR.out j (by omega)
            have hls := HNX.out j hlt
            rw [← hX, ← hZ] at hls
            rw [← hZ] at hrow
            have e0 := (HBL.out.cell (p := ⟨g, j, none⟩) hg).trans (HC.out j (by omega))
            have HRZ := Lib.hid (hrow.kept HBL.out)
            have HRTZ : Hid (∀ v B w, Limits w → Primes w → Row w B v (vec3 Z) → Calls Tryd.prog 19 #[v] w fun e w' => e = .returned (.tuple #[.int .i64 (Tic.fu Z : Int), .int .i64 (Tic.fd Z : Int)]) ∧ Below w.heap.size w w') := Lib.hid (fun v B w a b c => by
              have := iRatioOf_all v B (vec3 Z) w a b c
              rw [rat_vec] at this
              exact this)
            have hpq : Tic.fu Z * Tic.fd X < Tic.fu X * Tic.fd Z := of_decide_eq_true hls
            have hp1 := Tic.fud_lt Z X
            have hp2 := Tic.fud_lt X Z
            have e1 : (Tic.fu Z : Int) * (Tic.fd X : Int) = ((Tic.fu Z * Tic.fd X : Nat) : Int) := (Int.natCast_mul _ _).symm
            have e2 : (Tic.fu X : Int) * (Tic.fd Z : Int) = ((Tic.fu X * Tic.fd Z : Nat) : Int) := (Int.natCast_mul _ _).symm
            generalize Tic.fu Z * Tic.fd X = pp at *
            generalize Tic.fu X * Tic.fd Z = qq at *
            have E1 := Lib.hid e1
            have E2 := Lib.hid e2
            have HPQ := Lib.hid hpq
            have HP1 := Lib.hid hp1
            have HP2 := Lib.hid hp2
            clear hrow hls hZ hpq hp1 hp2 e1 e2
            generalize vs.getD j undef = uz at e0 HRZ
            generalize vs.getD (j + 1) undef = u at d0 hr1
            have h3 := hr1
            unfold vec3 at h3
            obtain ⟨gu, cu, rfl, hgu0, hgu, q0, q1, _⟩ := h3.three
            have HR1 := Lib.hid hr1
            have hsl := HSL.out (j + 1) (by omega)
            have hP : 2 ^ X.val ≤ 2048 := by have := Nat.pow_le_pow_right (n := 2) (by decide) (show X.val ≤ 11 by have := X.isLt; omega); exact this
            have hor : bits .or .i64 (sn (j + 1) : Int) ((2 ^ X.val : Nat) : Int) = (sn (j + 1 + 1) : Int) := by rw [hst]; exact i64_or_nat _ _ (by omega) (by omega)
            have HP := Lib.hid (fun w => lpow_any X.val w (by have := X.isLt; omega))
            have HII : Hid (∀ v B w, Limits w → Primes w → Row w B v (vec3 X) → Calls Tryd.prog 16 #[v] w (GivesOk (vec3 X) true w)) := Lib.hid (fun v B w a b c => by
              have := iInto_all v B (vec3 X) w a b c
              rw [into_vec] at this
              exact this)
            have HRT : Hid (∀ v B w, Limits w → Primes w → Row w B v (vec3 X) → Calls Tryd.prog 19 #[v] w fun e w' => e = .returned (.tuple #[.int .i64 (Tic.fu X : Int), .int .i64 (Tic.fd X : Int)]) ∧ Below w.heap.size w w') := Lib.hid (fun v B w a b c => by
              have := iRatioOf_all v B (vec3 X) w a b c
              rw [rat_vec] at this
              exact this)
            clear hr1 h3 hst hX
            generalize 2 ^ X.val = P at *
            generalize (X.val : Int) = XV at *
            go_wp2_with fail
            refine (HII.out _ _ _ HTB.out.1 HTB.out.2 HR1.out).mono ?_; rintro e wa ⟨s, rfl, rs, ba⟩
            have RS := Lib.hid rs
            replace HR1 := Lib.hid (HR1.out.kept ba)
            replace HTB := Lib.hid (HTB.out.kept ba)
            replace HBL := Lib.hid (HBL.out.trans (ba.mono HBL.out.size))
            replace d0 := (ba.cell (p := ⟨g, j + 1, none⟩) hgr).trans d0
            replace q1 := (ba.cell (p := ⟨gu, 1, none⟩) hgu).trans q1
            replace e0 := (ba.cell (p := ⟨g, j, none⟩) hgr).trans e0
            replace HRZ := Lib.hid (HRZ.out.kept ba)
            replace hgr := Nat.lt_of_lt_of_le hgr ba.size
            replace hgu := Nat.lt_of_lt_of_le hgu ba.size
            clear rs ba q0
            go_wp2_with fail
            refine (equalInts_yes _ _ _ _ _ _ RS.out HR1.out).mono ?_; rintro e wb ⟨rfl, bb⟩
            replace HR1 := Lib.hid (HR1.out.kept bb)
            replace HTB := Lib.hid (HTB.out.kept bb)
            replace HBL := Lib.hid (HBL.out.trans (bb.mono HBL.out.size))
            replace d0 := (bb.cell (p := ⟨g, j + 1, none⟩) hgr).trans d0
            replace q1 := (bb.cell (p := ⟨gu, 1, none⟩) hgu).trans q1
            replace e0 := (bb.cell (p := ⟨g, j, none⟩) hgr).trans e0
            replace HRZ := Lib.hid (HRZ.out.kept bb)
            replace hgr := Nat.lt_of_lt_of_le hgr bb.size
            replace hgu := Nat.lt_of_lt_of_le hgu bb.size
            clear bb RS
            go_wp2_with fail
            refine (HP.out _).mono ?_; rintro e wp ⟨rfl, rfl⟩
            go_wp2_with fail
            refine (HRT.out _ _ _ HTB.out.1 HTB.out.2 HR1.out).mono ?_; rintro e wc ⟨rfl, bc⟩
            replace HTB := Lib.hid (HTB.out.kept bc)
            replace HBL := Lib.hid (HBL.out.trans (bc.mono HBL.out.size))
            replace e0 := (bc.cell (p := ⟨g, j, none⟩) hgr).trans e0
            replace HRZ := Lib.hid (HRZ.out.kept bc)
            clear bc d0 q1
            go_wp2_with fail
            refine (HRTZ.out _ _ _ HTB.out.1 HTB.out.2 HRZ.out).mono ?_; rintro e wd ⟨rfl, bd⟩
            replace HBL := Lib.hid (HBL.out.trans (bd.mono HBL.out.size))
            clear bd e0
            have e1 := E1.out
            have e2 := E2.out
            have k0 := HPQ.out
            have k3 : (pp : Int) < (qq : Int) := by omega
            have k1 := IntWalk.i64_in (pp : Int) (by have := HP1.out; omega)
            have k2 := IntWalk.i64_in (qq : Int) (by have := HP2.out; omega)
            have hge : ¬ ((qq : Int) ≤ (pp : Int)) := by omega
            go_wp2
            go_roundw
            case rel => exact ⟨j + 1 + 1, by omega, by go_num, rfl, HBL⟩
            case measure => simp [intOf]; omega
        · obtain rfl : i = N := by omega
          obtain ⟨Q, hQ⟩ : ∃ Q, Q = sn i := ⟨_, rfl⟩
          have hs := HSE.out
          have hq := HSL.out i (Nat.le_refl _)
          rw [← hQ] at hs hq ⊢
          have HP : Hid (∀ w, Calls Tryd.prog 18 #[.int .i64 (i : Int)] w fun e w' => e = .returned (.int .i64 ((Q + 1 : Nat) : Int)) ∧ w = w') := Lib.hid (fun w => by rw [hs]; exact lpow_any i w (by omega))
          clear hQ hs
          replace HB := Lib.hid (HB.out.trans (HBL.out.mono HB.out.size))
          go_wp2_with fail
          refine (HP.out _).mono ?_; rintro e wp ⟨rfl, rfl⟩
          go_wp2
          go_ret
          exact ⟨by first | rfl | simp, HB.out⟩
    · have HS := Lib.hid (fun w => sFifths_no n w (by omega))
      have HI := Lib.hid (fun w => iFifths_no n w (by omega))
      clear hn
      go_wp2_with fail
      refine (HI.out _).mono ?_; rintro e w2 ⟨v, vs, rfl, r0, b2⟩
      have R0 := Lib.hid r0
      replace HB := Lib.hid (HB.out.trans (b2.mono HB.out.size))
      clear r0 b2
      go_wp2_with fail
      refine (HS.out _).mono ?_; rintro e w3 ⟨v1, vs1, rfl, r1, b3⟩
      have R1 := Lib.hid r1
      replace R0 := Lib.hid (R0.out.kept b3)
      replace HB := Lib.hid (HB.out.trans (b3.mono HB.out.size))
      clear r1 b3
      go_wp2_with fail
      refine (equalLists_same _ _ _ _ _ _ _ _ R0.out R1.out).mono ?_; rintro e w4 ⟨rfl, b4⟩
      replace R0 := Lib.hid (R0.out.kept b4)
      replace HB := Lib.hid (HB.out.trans (b4.mono HB.out.size))
      clear b4 R1
      rcases R0.out.shape with ⟨rfl, _⟩ | ⟨g, c, rfl, _, hg, hcl⟩
      all_goals
        go_wp2_with fail
        refine (HS.out _).mono ?_; rintro e w5 ⟨v1, vs1, rfl, r1, b3⟩
        have R1 := Lib.hid r1
        replace R0 := Lib.hid (R0.out.kept b3)
        replace HB := Lib.hid (HB.out.trans (b3.mono HB.out.size))
        clear r1 b3
        go_wp2_with fail
        refine (equalLists_same _ _ _ _ _ _ _ _ R0.out R1.out).mono ?_; rintro e w6 ⟨rfl, b4⟩
        replace HB := Lib.hid (HB.out.trans (b4.mono HB.out.size))
        clear b4
        go_wp2_with fail
        go_ret
        exact ⟨rfl, HB.out⟩
end Go.Proofs.YtpcbplademohnaaDoor
