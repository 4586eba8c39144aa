/-
  The program's list of the distances of some steps, and SizesOf of both.
-/
import Derived.Test.YtahpjfdecjfpcaaGather
import Derived.Test.YtahpjfdecjfpcaaOnes
namespace Go.Proofs.Ytahpjfdecjfpcaa
open Go.RowKit
set_option linter.unusedVariables false

set_option maxHeartbeats 1600000 in
set_option maxRecDepth 20000 in
theorem sizes_any (n s st : Int) (w : World) (hv : Tic.Valid n s) (h1 : 1 ≤ st) (h2 : st < (Tic.rk s.toNat n.toNat : Int)) :
    Calls Try.prog 56 #[.agg #[.int .i64 n, .int .i64 s], .int .i64 st] w (Gives (tonesTo (Tic.dset n.toNat s.toNat st.toNat) n.toNat) w) := by
  have hlt := hv.lt
  have g1 := hv.1
  have g2 := hv.2.1
  obtain ⟨N, rfl⟩ := Int.eq_ofNat_of_zero_le (show 0 ≤ n by omega)
  obtain ⟨S, rfl⟩ := Int.eq_ofNat_of_zero_le hv.2.2.1
  obtain ⟨T, rfl⟩ := Int.eq_ofNat_of_zero_le (show 0 ≤ st by omega)
  simp only [Int.toNat_natCast] at h2 ⊢
  have hK12 : Tic.rk S N ≤ 12 := by have := tonesTo_le S N; rw [tonesTo_len] at this; omega
  have HD : Hid (Tic.dset N S T = Tic.dm N S T (Tic.rk S N)) := rfl
  have hmf : ∀ (fn : Fn) (first cap : Array Value) (w : World), (Instr.makeFunc fn first cap).run Try.prog w = .ok (.func fn first cap) w := fun _ _ _ _ => rfl
  go_enter Try.func56, Try.ntmps56
  go_wp2_with fail
  refine (list_any _ _ _ hv).mono ?_; rintro e w1 ⟨v, rfl, hrow, hb1⟩
  simp only [Int.toNat_natCast] at hrow
  have hlen := tonesTo_len S N
  rcases hrow.cases with ⟨rfl, e0⟩ | ⟨g, cap, rfl, hg1, hg2, hc, hf⟩
  · rw [e0] at hlen; simp at hlen; omega
  rw [hlen] at hc
  have HC := Lib.hid (show ∀ i, i < Tic.rk S N → w1.cell? ⟨g, i, none⟩ = some (.int .i64 ((Tic.tn S N).getD i 0 : Nat)) from fun i hi => by rw [hc i hi, tonesTo_getD S N i hi])
  clear hc hf hrow
  rw [hlen]
  clear hlen
  have HT := Lib.hid (show ∀ i, i < Tic.rk S N → (Tic.tn S N).getD i 0 < N from fun i hi => tn_lt hi)
  have HDI := Lib.hid (show ∀ i, i < Tic.rk S N → ((((Tic.tn S N).getD ((i + T) % Tic.rk S N) 0 : Nat) : Int) - (((Tic.tn S N).getD i 0 : Nat) : Int)) % (N : Int) = (Tic.dst N S T i : Int) from fun i hi => dst_int hi)
  have HDL := Lib.hid (show ∀ i, Tic.dst N S T i < N from fun i => Tic.dst_lt (by omega) S T i)
  have a0 : w1.cell? ⟨w.heap.size, 0, none⟩ = some (.int .i64 N) := by rw [hb1.cell (p := ⟨w.heap.size, 0, none⟩) (by simp; omega)]; go_simp
  have ao : w1.heap[w.heap.size + 1]? = some (.cells #[.slice none 0 0] 29 (0, 0)) := by
    rw [hb1.block (w.heap.size + 1) (by simp)]
    have := heap_alloc_new (w.alloc (.cells #[.int .i64 N, .int .i64 S] 41)) (.cells #[.slice none 0 0] 29)
    rwa [show (w.alloc (.cells #[.int .i64 N, .int .i64 S] 41)).heap.size = w.heap.size + 1 by simp] at this
  have hz1 : w.heap.size + 1 + 1 ≤ w1.heap.size := by simpa using hb1.size
  have hg1' : w.heap.size + 1 + 1 ≤ g := by simpa using hg1
  have hbw : Below w.heap.size w w1 := (((Below.refl _ _).alloc (Nat.le_refl _) _).alloc (by simp) _).trans (hb1.mono (by simp; omega))
  have AO := Lib.hid ao
  clear ao hb1 hg1
  generalize hKK : Tic.rk S N = K at h2 hK12 HD HC HT HDI ⊢
  clear hKK
  have hK1 : ¬ K = 0 := by omega
  go_wp2
  go_loopw [8, 9, 10, 16] (fun t8 t9 t10 t16 wr => ∃ i : Nat, i ≤ K ∧ t16 = .int .i64 i ∧ ∃ v, Hid (wr.heap[w.heap.size + 1]? = some (.cells #[v] 29 (0, 0))) ∧ Hid (Row wr w1.heap.size v (tonesTo (Tic.dm N S T i) N)) ∧ Hid (Stays (w.heap.size + 1) w1.heap.size w1 wr)) (fun _ _ _ t16 _ => K - (intOf t16).toNat)
  case atStart => exact ⟨0, by omega, rfl, _, AO, Lib.hid (by
    have : tonesTo (Tic.dm N S T 0) N = [] := by
      rw [tonesTo_map]
      have : ∀ k, Tic.tn 0 k = [] := fun k => by
        induction k with
        | zero => rfl
        | succ k ih => rw [Tic.tn_no (by simp), ih]
      rw [show Tic.dm N S T 0 = 0 from rfl, this]; rfl
    rw [this]; exact Row.nil _ _), Stays.refl _ _ _⟩
  case round =>
    obtain ⟨i, hi, rfl, v, AO, HR, HS⟩ := hrel
    by_cases hlti : i < K
    · have hj : (i + T) % K < K := Nat.mod_lt _ (by omega)
      have a0' := (HS.out.cell (g := w.heap.size) (o := 0) (by omega) (by omega)).trans a0
      have hc1 : wr.cell? ⟨g, i, none⟩ = some (.int .i64 ((Tic.tn S N).getD i 0 : Nat)) := (HS.out.cell hg2 (by omega)).trans (HC.out i hlti)
      have hc2 : wr.cell? ⟨g, (i + T) % K, none⟩ = some (.int .i64 ((Tic.tn S N).getD ((i + T) % K) 0 : Nat)) := (HS.out.cell hg2 (by omega)).trans (HC.out _ hj)
      have ht1 := HT.out i hlti
      have ht2 := HT.out _ hj
      have hdi := HDI.out i hlti
      have hdl := HDL.out i
      have hmod : ((i : Int) + (T : Int)).tmod (K : Int) = (((i + T) % K : Nat) : Int) := by
        rw [Int.tmod_eq_emod_of_nonneg (by omega), ← Int.natCast_add, ← Int.natCast_emod]
      generalize (i + T) % K = j at hj hc2 ht2 hdi hmod
      generalize (Tic.tn S N).getD i 0 = x at hc1 ht1 hdi
      generalize (Tic.tn S N).getD j 0 = y at hc2 ht2 hdi
      have HDI1 := Lib.hid hdi
      clear hdi
      have hj2 : (j : Int) < (K : Int) := by omega
      have hi2 : (i : Int) < (K : Int) := by omega
      have hs1 := IntWalk.i64_in ((i : Int) + (T : Int)) (by omega)
      have hs2 := IntWalk.i64_in ((y : Int) - (x : Int)) (by omega)
      have hs3 := IntWalk.i64_in (j : Int) (by omega)
      go_wp2_with fail
      refine (roundCircle_any _ _ _ (by omega) (by omega) (by omega) (by omega)).mono ?_; rintro e w2 ⟨rfl, rfl⟩
      rw [HDI1.out]
      clear hmod hs1 hs2 hs3
      go_wp2_with fail
      refine (gather_any (Tic.dst N S T i) (Tic.dm N S T i) N (w.heap.size + 1) w1.heap.size v _ HR.out AO.out (by omega) (Nat.le_trans (Nat.le_refl _) (HS.out.1.size)) hdl (by omega)).mono ?_
      rintro e w2 ⟨rfl, v2, ho2, hr2, hs2⟩
      have HO2 := Lib.hid ho2
      have HR2 := Lib.hid hr2
      have HS2 := Lib.hid (HS.out.trans hs2)
      clear ho2 hr2 hs2 a0' hc1 hc2
      go_wp2
      go_roundw
      case rel => exact ⟨i + 1, by omega, by go_num, v2, HO2, HR2, HS2⟩
      case measure => simp [intOf]; omega
    · have : i = K := by omega
      subst this
      have hco := cell_of_one AO.out
      have hr2 := HR.out.mono (B' := w.heap.size) (by omega)
      rw [← HD.out] at hr2
      have HR2 := Lib.hid hr2
      have hb2 := hbw.trans (HS.out.1.mono (by omega))
      clear hr2
      go_wp2
      go_ret
      exact ⟨_, rfl, HR2.out, hb2⟩

/-- the arguments for which SizesOf is asked -/
def SzOk (n s st : Int) : Prop := Tic.Valid n s ∧ 1 ≤ st ∧ st < (Tic.rk s.toNat n.toNat : Int)
theorem rk_valid {n s : Int} (hv : Tic.Valid n s) : Tic.rk s.toNat n.toNat = Tic.wt 12 s.toNat := Tic.rk_wt hv.lt_pow (by have := hv.2.1; omega)
end Go.Proofs.Ytahpjfdecjfpcaa
