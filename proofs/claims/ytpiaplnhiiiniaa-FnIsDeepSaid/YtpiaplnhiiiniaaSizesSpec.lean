/-
  The model's list of the distances of some steps.
-/
import Derived.Test.YtpiaplnhiiiniaaTones
import Derived.Test.YtpiaplnhiiiniaaEvenTab
import Derived.Deep.QuietTactic
import Derived.BigQuiet
namespace Go.Proofs.Ytpiaplnhiiiniaa
open Go.RowKit
set_option linter.unusedVariables false

theorem tonesTo_map (s : Nat) : ∀ k, tonesTo s k = (Tic.tn s k).map fun (x : Nat) => (x : Int)
  | 0 => rfl
  | k + 1 => by
    cases h : s.testBit k with
    | true => rw [tonesTo_yes h, Tic.tn_yes h, List.map_append, tonesTo_map s k]; rfl
    | false => rw [tonesTo_no h, Tic.tn_no h, tonesTo_map s k]
theorem tonesTo_len (s k : Nat) : (tonesTo s k).length = Tic.rk s k := by rw [tonesTo_map, List.length_map]; rfl
theorem tonesTo_getD (s k i : Nat) (h : i < Tic.rk s k) : (tonesTo s k).getD i 0 = (((Tic.tn s k).getD i 0 : Nat) : Int) := by
  have h' : i < (Tic.tn s k).length := h
  rw [tonesTo_map]
  simp [List.getD_eq_getElem?_getD, List.getElem?_map, List.getElem?_eq_getElem h']
/-- the tones below n -/
theorem tn_lt {s n i : Nat} (h : i < Tic.rk s n) : (Tic.tn s n).getD i 0 < n := by
  obtain ⟨x, h1, _, _, h4⟩ := Tic.tn_at s n i h
  rw [h4]; exact h1
theorem dst_int {n s st i : Nat} (h : i < Tic.rk s n) : ((((Tic.tn s n).getD ((i + st) % Tic.rk s n) 0 : Nat) : Int) - (((Tic.tn s n).getD i 0 : Nat) : Int)) % (n : Int) = (Tic.dst n s st i : Int) := by
  have h1 := tn_lt h
  unfold Tic.dst
  rw [Int.natCast_emod, Int.natCast_sub (by omega), Int.natCast_add]
  rw [show ((((Tic.tn s n).getD ((i + st) % Tic.rk s n) 0 : Nat) : Int) + (n : Int) - (((Tic.tn s n).getD i 0 : Nat) : Int)) = ((((Tic.tn s n).getD ((i + st) % Tic.rk s n) 0 : Nat) : Int) - (((Tic.tn s n).getD i 0 : Nat) : Int)) + (n : Int) by omega, Int.add_emod_right]
theorem dm_next {n s st i d : Nat} : (Tic.dm n s st (i + 1)).testBit d = false ↔ (Tic.dm n s st i).testBit d = false ∧ Tic.dst n s st i ≠ d := by
  rw [show Tic.dm n s st (i + 1) = Tic.dm n s st i ||| 2 ^ Tic.dst n s st i from rfl, Nat.testBit_or, Nat.testBit_two_pow]
  simp

set_option maxHeartbeats 1600000 in
set_option maxRecDepth 20000 in
theorem sstep_any (n s st : Int) (w : World) (hv : Tic.Valid n s) (h1 : 1 ≤ st) (h2 : st < (Tic.rk s.toNat n.toNat : Int)) :
    Calls Try.prog 66 #[.int .i64 n, .int .i64 s, .int .i64 st] w (Gives (tonesTo (Tic.dset n.toNat s.toNat st.toNat) n.toNat) w) := by
  have hlt := hv.lt
  have g1 := hv.1
  have g2 := hv.2.1
  obtain ⟨N, rfl⟩ := Int.eq_ofNat_of_zero_le (show 0 ≤ n by omega)
  obtain ⟨S, rfl⟩ := Int.eq_ofNat_of_zero_le hv.2.2.1
  obtain ⟨T, rfl⟩ := Int.eq_ofNat_of_zero_le (show 0 ≤ st by omega)
  simp only [Int.toNat_natCast] at h2 ⊢
  have hK12 : Tic.rk S N ≤ 12 := by have := tonesTo_le S N; rw [tonesTo_len] at this; omega
  have HZ := Lib.hid (Tic.dset_zero (n := N) (s := S) (st := T) (by omega) (by omega))
  have HD : Hid (Tic.dset N S T = Tic.dm N S T (Tic.rk S N)) := rfl
  go_enter Try.func66, Try.ntmps66
  go_wp2_with fail
  refine (stones_any _ _ _ hv).mono ?_; rintro e w1 ⟨v, rfl, hrow, hb1⟩
  simp only [Int.toNat_natCast] at hrow
  have hlen := tonesTo_len S N
  rcases hrow.cases with ⟨rfl, e0⟩ | ⟨g, cap, rfl, hg1, hg2, hc, hf⟩
  · rw [e0] at hlen; simp at hlen; omega
  rw [hlen] at hc
  have HC := Lib.hid (show ∀ i, i < Tic.rk S N → w1.cell? ⟨g, i, none⟩ = some (.int .i64 ((Tic.tn S N).getD i 0 : Nat)) from fun i hi => by rw [hc i hi, tonesTo_getD S N i hi])
  clear hc hf hrow
  rw [hlen]
  clear hlen
  have HT := Lib.hid (show ∀ i, i < Tic.rk S N → (Tic.tn S N).getD i 0 < N from fun i hi => tn_lt hi)
  have HDI := Lib.hid (show ∀ i, i < Tic.rk S N → ((((Tic.tn S N).getD ((i + T) % Tic.rk S N) 0 : Nat) : Int) - (((Tic.tn S N).getD i 0 : Nat) : Int)) % (N : Int) = (Tic.dst N S T i : Int) from fun i hi => dst_int hi)
  have HNX := Lib.hid (show ∀ i d, (Tic.dm N S T (i + 1)).testBit d = false ↔ (Tic.dm N S T i).testBit d = false ∧ Tic.dst N S T i ≠ d from fun i d => dm_next)
  have HIN := Lib.hid (show ∀ i, i < Tic.rk S N → (Tic.dset N S T).testBit (Tic.dst N S T i) = true from fun i hi => Tic.dset_one hi)
  generalize Tic.rk S N = K at h2 hK12 HD HC HT HDI HNX HIN ⊢
  have hK1 : ¬ K = 0 := by omega
  go_wp2
  go_loopw [9, 10, 11] (fun t9 t10 t11 wr => ∃ d : Nat, 1 ≤ d ∧ d ≤ N ∧ t10 = .int .i64 d ∧ Hid (Row wr w1.heap.size t9 (tonesTo (Tic.dset N S T) d)) ∧ Below w1.heap.size w1 wr ∧ w1.heap.size ≤ wr.heap.size) (fun _ t10 _ _ => N - (intOf t10).toNat)
  case atStart => 
    refine ⟨1, by omega, by omega, rfl, ?_, (Below.refl _ _).alloc (Nat.le_refl _) _, by simp⟩
    rw [tonesTo_no HZ.out]
    exact ⟨World.ownsRow_made w1 #[] 0 (Nat.le_refl _) (by decide) rfl, Nat.zero_le _⟩
  case round =>
    obtain ⟨d, hd1, hd2, rfl, HR, hbel, hsz⟩ := hrel
    by_cases hltd : d < N
    · go_wp2
      obtain ⟨wo, rfl⟩ : ∃ wo : World, wo = wr := ⟨_, rfl⟩
      go_loopw [9, 11] (fun t9 t11 wi => ∃ i : Nat, i ≤ K ∧ t11 = .int .i64 i ∧ Hid (Row wo w1.heap.size t9 (tonesTo (Tic.dset N S T) d)) ∧ Hid ((Tic.dm N S T i).testBit d = false) ∧ (∃ q, wi = wo.drewN q)) (fun _ t11 _ => K - (intOf t11).toNat)
      case atStart => exact ⟨0, Nat.zero_le _, rfl, HR, Lib.hid (by simp [Tic.dm]), ⟨0, rfl⟩⟩
      case round =>
        obtain ⟨i, hi, rfl, HR, HN, q, hq⟩ := hrel
        have HQ := Lib.hid hq
        clear hq
        by_cases hlti : i < K
        · have hj : (i + T) % K < K := Nat.mod_lt _ (by omega)
          have hc1 : wr.cell? ⟨g, i, none⟩ = some (.int .i64 ((Tic.tn S N).getD i 0 : Nat)) := by rw [HQ.out]; exact (hbel.cell (p := ⟨g, i, none⟩) hg2).trans (HC.out i hlti)
          have hc2 : wr.cell? ⟨g, (i + T) % K, none⟩ = some (.int .i64 ((Tic.tn S N).getD ((i + T) % K) 0 : Nat)) := by rw [HQ.out]; exact (hbel.cell (p := ⟨g, (i + T) % K, none⟩) hg2).trans (HC.out _ hj)
          have ht1 := HT.out i hlti
          have ht2 := HT.out _ hj
          have hdi := HDI.out i hlti
          have hin := HIN.out i hlti
          have hmod : ((i : Int) + (T : Int)).tmod (K : Int) = (((i + T) % K : Nat) : Int) := by
            rw [Int.tmod_eq_emod_of_nonneg (by omega), ← Int.natCast_add, ← Int.natCast_emod]
          generalize (i + T) % K = j at hj hc2 ht2 hdi hmod
          generalize (Tic.tn S N).getD i 0 = x at hc1 ht1 hdi
          generalize (Tic.tn S N).getD j 0 = y at hc2 ht2 hdi
          have hj2 : (j : Int) < (K : Int) := by omega
          have hi2 : (i : Int) < (K : Int) := by omega
          have hs1 := IntWalk.i64_in ((i : Int) + (T : Int)) (by omega)
          have hs2 := IntWalk.i64_in ((y : Int) - (x : Int)) (by omega)
          have hs3 := IntWalk.i64_in (j : Int) (by omega)
          go_wp2_with fail
          go_quiet ((go_at_call 90; exact Calls.quiet_of_same (still_of (rest_any _ _ _ (by omega) (by omega) (by omega) (by omega)))))
          rw [hdi]
          clear hdi hmod hs1 hs2 hs3
          have hnx := HNX.out i d
          have hrw := HR.out
          have HB2 : Hid (Below w1.heap.size w1 (wr.drewN nq)) := Lib.hid (by rw [HQ.out]; exact below_drewN (below_drewN hbel _) _)
          have HR2 : Hid (Row (wr.drewN nq) w1.heap.size u9 (tonesTo (Tic.dset N S T) d)) := Lib.hid (by rw [HQ.out]; exact hrw)
          clear hrw
          by_cases hd : Tic.dst N S T i = d
          · have HB : Hid ((Tic.dset N S T).testBit d = true) := Lib.hid (hd ▸ hin)
            rw [hd]
            clear hd hin hnx
            have hlt9 := tonesTo_le (Tic.dset N S T) d
            generalize wr.drewN nq = wz at HB2 HR2 ⊢
            go_wp2_with (at_builtin; refine wpList_append_int rfl _ _ rfl w1.heap.size _ (tonesTo (Tic.dset N S T) d) rfl (HR2.out.alloc _) wz.heap.size 1 d rfl ?c1 ?c2 ?c3 ?_)
            case c1 => go_simp
            case c2 => omega
            case c3 => have := HB2.out.size; simp; omega
            intro v' w4 hrow hb4
            have HR4 := Lib.hid hrow
            have HB4 : Hid (Below w1.heap.size w1 w4) := Lib.hid ((HB2.out.alloc HB2.out.size _).trans hb4)
            clear hrow hb4
            go_wp2
            go_roundw
            case rel => exact ⟨d + 1, by omega, by omega, by go_num, by rw [tonesTo_yes HB.out]; exact HR4, HB4.out, HB4.out.size⟩
            case measure => simp [intOf]; omega
          · have HD1 : Hid ((Tic.dm N S T (i + 1)).testBit d = false) := Lib.hid (hnx.2 ⟨HN.out, hd⟩)
            have hdi : ((Tic.dst N S T i : Int) == (d : Int)) = false := by
              rw [beq_eq_false_iff_ne]; omega
            have hdn : ¬ (Tic.dst N S T i : Int) = (d : Int) := by omega
            clear hin hnx
            generalize Tic.dst N S T i = di at hd hdi hdn ⊢
            go_wp2
            go_roundw
            case rel => exact ⟨i + 1, by omega, by go_num, HR, HD1, q + nq, by rw [HQ.out, World.drewN_drewN]⟩
            case measure => simp [intOf]; omega
        · have : i = K := by omega
          subst this
          have HN2 : Hid ((Tic.dset N S T).testBit d = false) := Lib.hid (by rw [HD.out]; exact HN.out)
          have HB2 : Hid (Below w1.heap.size w1 wr) := Lib.hid (by rw [HQ.out]; exact below_drewN hbel _)
          have HR2 : Hid (Row wr w1.heap.size u9 (tonesTo (Tic.dset N S T) d)) := Lib.hid (by rw [HQ.out]; exact HR.out)
          go_wp2
          go_roundw
          case rel => exact ⟨d + 1, by omega, by omega, by go_num, by rw [tonesTo_no HN2.out]; exact HR2, HB2.out, HB2.out.size⟩
          case measure => simp [intOf]; omega
    · have : d = N := by omega
      subst this
      have hb2 := hb1.trans (hbel.mono hb1.size)
      have hr2 := HR.out.mono (B' := w.heap.size) hb1.size
      go_wp2
      go_ret
      exact ⟨_, rfl, hr2, hb2⟩
end Go.Proofs.Ytpiaplnhiiiniaa
