/-
  Contracts of RowsOf, of the program and of the model.
-/
import Derived.Test.YtpiaplnhiiiniaaSizes
import Derived.Test.YtpiaplnhiiiniaaRowsNum
import Derived.Test.YtpiaplnhiiiniaaKind
import Derived.Test.YtpiaplnhiiiniaaOnes
import Derived.WalkMore
import Derived.Deep.LoopGhost
namespace Go.Proofs.Ytpiaplnhiiiniaa
open Go.RowKit
set_option linter.unusedVariables false

theorem rowT_int {N x g i : Nat} : (((x : Int) + (i : Int) * (g : Int)) % (N : Int)).toNat = Tic.rowT N x g i := by
  unfold Tic.rowT
  rw [← Int.natCast_mul, ← Int.natCast_add, ← Int.natCast_emod, Int.toNat_natCast]
theorem wrap_small {a : Int} (h0 : 0 ≤ a) (h1 : a ≤ 1000) : wrap64 a = a := IntWalk.wrap64_in a (by omega)
theorem rows4096 {N x g j : Nat} (h : 0 < N) (hN : N ≤ 12) : Tic.rowS N x g j < 4096 := by
  have h1 := Tic.rowS_lt h x g j
  have h3 : 2 ^ N ≤ 2 ^ 12 := Nat.pow_le_pow_right (by omega) hN
  omega

set_option maxHeartbeats 800000 in
set_option maxRecDepth 20000 in
theorem mrow_any (N S x g : Nat) (w : World) (h1 : 1 ≤ N) (h2 : N ≤ 12) (hS : S < 2 ^ N) (hx : x < N) (hg : g < N) :
    Calls Try.prog 76 #[.agg #[.int .i64 N, .int .i64 S], .int .i64 x, .int .i64 g] w fun e w' => e = .returned (.bool (Tic.rowAt N S x g)) ∧ Below w.heap.size w w' := by
  have hS2 : S < 4096 := by
    have h3 : 2 ^ N ≤ 2 ^ 12 := Nat.pow_le_pow_right (by omega) h2
    omega
  have HW := Lib.hid (Tic.rk_wt hS h2)
  clear hS
  have hwt := Tic.wt_le 12 S
  have HE : Hid (Tic.rowAt N S x g = (Tic.rowS N x g (Tic.rk S N) == S)) := rfl
  rw [HW.out] at HE
  have heq := eql_set
  go_enter Try.func76, Try.ntmps76
  go_wp2_with fail
  refine (count_any _ _ S _ rfl hS2).mono ?_; rintro e w1 ⟨rfl, hb1⟩
  have a0 : w1.cell? ⟨w.heap.size, 0, none⟩ = some (.int .i64 N) := by rw [hb1.cell (p := ⟨w.heap.size, 0, none⟩) (by simp; omega)]; go_simp
  have a1 : w1.cell? ⟨w.heap.size, 1, none⟩ = some (.int .i64 S) := by rw [hb1.cell (p := ⟨w.heap.size, 1, none⟩) (by simp; omega)]; go_simp
  have b0 : w1.cell? ⟨w.heap.size + 1, 0, none⟩ = some (.int .i64 N) := by rw [hb1.cell (p := ⟨w.heap.size + 1, 0, none⟩) (by simp)]; go_simp
  have b1 : w1.cell? ⟨w.heap.size + 1, 1, none⟩ = some (.int .i64 0) := by rw [hb1.cell (p := ⟨w.heap.size + 1, 1, none⟩) (by simp)]; go_simp
  have p0 : w1.frozen? ⟨w.heap.size + 1, 0, none⟩ = false := by rw [hb1.frozen (p := ⟨w.heap.size + 1, 0, none⟩) (by simp)]; go_simp
  have p1 : w1.frozen? ⟨w.heap.size + 1, 1, none⟩ = false := by rw [hb1.frozen (p := ⟨w.heap.size + 1, 1, none⟩) (by simp)]; go_simp
  have hz1 : w.heap.size + 1 + 1 ≤ w1.heap.size := by simpa using hb1.size
  have hbw : Below w.heap.size w w1 := (((Below.refl _ _).alloc (Nat.le_refl _) _).alloc (by simp) _).trans (hb1.mono (by simp; omega))
  clear hb1
  generalize Tic.wt 12 S = K at hwt HE ⊢
  go_wp2
  go_loopw [8, 14] (fun t8 t14 wr => ∃ i : Nat, i ≤ K ∧ t14 = .int .i64 i ∧
      wr.cell? ⟨w.heap.size, 0, none⟩ = some (.int .i64 N) ∧ wr.cell? ⟨w.heap.size, 1, none⟩ = some (.int .i64 S) ∧
      wr.cell? ⟨w.heap.size + 1, 0, none⟩ = some (.int .i64 N) ∧ wr.cell? ⟨w.heap.size + 1, 1, none⟩ = some (.int .i64 (Tic.rowS N x g i : Int)) ∧
      wr.frozen? ⟨w.heap.size + 1, 0, none⟩ = false ∧ wr.frozen? ⟨w.heap.size + 1, 1, none⟩ = false ∧
      w.heap.size + 1 < wr.heap.size ∧ Below w.heap.size w wr) (fun _ t14 _ => K - (intOf t14).toNat)
  case atStart => exact ⟨0, Nat.zero_le _, rfl, a0, a1, b0, b1, p0, p1, by omega, hbw⟩
  case round =>
    clear hz1 hbw a0 a1 b0 b1 p0 p1
    obtain ⟨i, hi, rfl, a0, a1, b0, b1, p0, p1, hz, hbel⟩ := hrel
    have hb := rows4096 (N := N) (x := x) (g := g) (j := i) (by omega) h2
    by_cases hlt : i < K
    · have c1 : i * g ≤ 144 := by have := Nat.mul_le_mul (show i ≤ 12 by omega) (show g ≤ 12 by omega); omega
      have c2 : (0 : Int) ≤ (i : Int) * (g : Int) := by rw [← Int.natCast_mul]; omega
      have c3 : (i : Int) * (g : Int) ≤ 144 := by rw [← Int.natCast_mul]; omega
      obtain ⟨p, hp⟩ : ∃ p : Int, (i : Int) * (g : Int) = p := ⟨_, rfl⟩
      have hs1 : IntKind.i64.wrap ((i : Int) * (g : Int)) = p := by rw [hp] at c2 c3 ⊢; exact IntWalk.i64_in p (by omega)
      have hs2 : IntKind.i64.wrap ((x : Int) + p) = (x : Int) + p := by rw [hp] at c2 c3; exact IntWalk.i64_in _ (by omega)
      rw [hp] at c2 c3
      have HP := Lib.hid hp
      clear hp c1
      go_wp2_with fail
      refine (with_any _ _ _ _ (by omega) (by omega) (Int.natCast_nonneg _) (by omega) (by omega) (by omega)).mono ?_; rintro e w2 ⟨rfl, hb2⟩
      rw [Int.toNat_natCast, ← HP.out, rowT_int, show Tic.rowS N x g i ||| 2 ^ Tic.rowT N x g i = Tic.rowS N x g (i + 1) from rfl]
      obtain ⟨hc2, hf2⟩ := bcell hb2
      have s0 := (hc2 w.heap.size 0 (by omega)).trans a0
      have s1 := (hc2 w.heap.size 1 (by omega)).trans a1
      have t0 := (hc2 (w.heap.size + 1) 0 hz).trans b0
      have t1 := (hc2 (w.heap.size + 1) 1 hz).trans b1
      have u0 := (hf2 (w.heap.size + 1) 0 hz).trans p0
      have u1 := (hf2 (w.heap.size + 1) 1 hz).trans p1
      have hz3 := Nat.lt_of_lt_of_le hz hb2.size
      have hbel2 := hbel.trans (hb2.mono (by omega))
      clear hc2 hf2 hb2 hbel a0 a1 b0 b1 p0 p1 hz c2 c3 hs1 hs2
      go_wp2
      obtain ⟨y0, y1⟩ := pair_back (x := .int .i64 N) (y := .int .i64 (Tic.rowS N x g (i + 1) : Int)) t0 t1
      go_roundw
      case rel => exact ⟨i + 1, by omega, by go_num, by rw [World.cell?_setCell_other _ _ _ _ (by simp), World.cell?_setCell_other _ _ _ _ (by simp)]; exact s0, by rw [World.cell?_setCell_other _ _ _ _ (by simp), World.cell?_setCell_other _ _ _ _ (by simp)]; exact s1, y0, y1, by simpa using u0, by simpa using u1, by simpa using hz3, (hbel2.setCell (by simp) _).setCell (by simp) _⟩
      case measure => simp [intOf]; omega
    · have : i = K := by omega
      subst this
      go_wp2
      go_ret
      refine ⟨ret_bool ?_, hbel⟩
      rw [HE.out, Bool.eq_iff_iff]
      simp
      omega

/-- the numbers below k whose row is the set -/
theorem isRow_none {N S g : Nat} (h : ∀ x, x < N → S.testBit x = true → Tic.rowAt N S x g = false) : Tic.isRow N S g = false := by
  cases e : Tic.isRow N S g with
  | false => rfl
  | true =>
    obtain ⟨x, h1, h2, h3⟩ := (Tic.rowTo_iff N S g N).1 e
    rw [h x h1 h2] at h3; cases h3
theorem isRow_some {N S g x : Nat} (h1 : x < N) (h2 : S.testBit x = true) (h3 : Tic.rowAt N S x g = true) : Tic.isRow N S g = true := (Tic.rowTo_iff N S g N).2 ⟨x, h1, h2, h3⟩

set_option maxHeartbeats 1600000 in
set_option maxRecDepth 20000 in
theorem iRowsOf_valid (n s : Int) (w : World) (hv : Tic.Valid n s) :
    Calls Try.prog 39 #[.int .i64 n, .int .i64 s] w (Gives (tonesTo (Tic.rows n.toNat s.toNat) n.toNat) w) := by
  have hlt := hv.lt
  have g1 := hv.1
  have g2 := hv.2.1
  have HV := Lib.hid hv
  obtain ⟨N, rfl⟩ := Int.eq_ofNat_of_zero_le (show 0 ≤ n by omega)
  obtain ⟨S, rfl⟩ := Int.eq_ofNat_of_zero_le hv.2.2.1
  simp only [Int.toNat_natCast]
  have HS2 : Hid (S < 2 ^ N) := Lib.hid (by have := hv.lt_pow; simpa using this)
  have HZ := Lib.hid (Tic.rows_zero N S)
  go_enter Try.func39, Try.ntmps39
  go_wp2
  go_step3
  go_wp2_with fail
  refine (implValid_yes _ _ _ hv).mono ?_; rintro e w1 ⟨rfl, rfl⟩
  go_wp2
  go_step3
  go_wp2
  go_loopw [6, 7, 9] (fun t6 t7 _ wr => ∃ g : Nat, 1 ≤ g ∧ g ≤ N ∧ t7 = .int .i64 g ∧ Hid (Row wr (w.heap.size + 1) t6 (tonesTo (Tic.rows N S) g)) ∧
      wr.cell? ⟨w.heap.size, 0, none⟩ = some (.int .i64 N) ∧ wr.cell? ⟨w.heap.size, 1, none⟩ = some (.int .i64 S) ∧ w.heap.size < wr.heap.size ∧ Below w.heap.size w wr) (fun _ t7 _ _ => N - (intOf t7).toNat)
  case atStart => 
    refine ⟨1, by omega, by omega, rfl, ?_, by go_simp, by go_simp, by simp, (Below.refl _ _).alloc (Nat.le_refl _) _⟩
    rw [tonesTo_no HZ.out]; exact Row.nil _ _
  case round =>
    obtain ⟨g, hg1, hg2, rfl, HR, a0, a1, hz, hbel⟩ := hrel
    by_cases hltg : g < N
    · have HRA := Lib.hid (Tic.rows_at (n := N) (s := S) hg1 hltg)
      go_wp2_with fail
      refine (list_any _ _ _ HV.out).mono ?_; rintro e w1 ⟨v, rfl, hrow, hb1⟩
      simp only [Int.toNat_natCast] at hrow
      have hlen := tonesTo_len S N
      have hK12 : Tic.rk S N ≤ 12 := by have := tonesTo_le S N; omega
      have HC := Lib.hid (show ∀ i, i < Tic.rk S N → (tonesTo S N).getD i 0 = ((Tic.tn S N).getD i 0 : Nat) from fun i hi => tonesTo_getD S N i hi)
      have HAT := Lib.hid (show ∀ i, i < Tic.rk S N → ∃ x, x < N ∧ S.testBit x = true ∧ Tic.rk S x = i ∧ (Tic.tn S N).getD i 0 = x from fun i hi => Tic.tn_at S N i hi)
      have HRK := Lib.hid (show ∀ x, x < N → S.testBit x = true → Tic.rk S x < Tic.rk S N from fun x h1 h2 => Tic.rk_lt h2 h1)
      have HI := Lib.hid (show ∀ x y, S.testBit x = true → S.testBit y = true → Tic.rk S x = Tic.rk S y → x = y from fun x y h1 h2 h3 => Tic.rk_inj h1 h2 h3)
      have d0 := (hb1.cell (p := ⟨w.heap.size, 0, none⟩) hz).trans a0
      have d1 := (hb1.cell (p := ⟨w.heap.size, 1, none⟩) hz).trans a1
      have hz1 := hb1.size
      have hbel1 := hbel.trans (hb1.mono (by omega))
      have HR1 := Lib.hid (HR.out.kept hb1)
      have HROW := Lib.hid hrow
      obtain ⟨a, k, c, rfl⟩ := hrow.slice
      have hk : k = Tic.rk S N := by
        rw [← hlen]
        rcases hrow.cases with ⟨e, e2⟩ | ⟨g, cap, e, _⟩
        · injection e with _ e _; rw [e, e2]; rfl
        · injection e
      clear hrow hb1 hlen a0 a1 hbel HR
      have hk12 : k ≤ 12 := by omega
      rw [← hk] at HC HAT HRK
      have HKK := Lib.hid hk
      clear hk hK12
      have hzz : w.heap.size < w1.heap.size := by omega
      clear hz hz1
      go_wp2
      obtain ⟨wo, rfl⟩ : ∃ wo : World, wo = w1 := ⟨_, rfl⟩
      go_loopw [6, 9, 25] (fun t6 _ t25 wi => ∃ i : Nat, i ≤ k ∧ t25 = .int .i64 i ∧ Hid (Row wo (w.heap.size + 1) t6 (tonesTo (Tic.rows N S) g)) ∧ Hid (∀ x, x < N → S.testBit x = true → Tic.rk S x < i → Tic.rowAt N S x g = false) ∧ Hid (Below wo.heap.size wo wi)) (fun _ _ t25 _ => k - (intOf t25).toNat)
      case atStart => exact ⟨0, by omega, rfl, HR1, Lib.hid (fun x _ _ h => absurd h (Nat.not_lt_zero _)), Below.refl _ _⟩
      case round =>
        obtain ⟨i, hi, rfl, HR1, HN, HB⟩ := hrel
        by_cases hlti : i < k
        · obtain ⟨x, hx1, hx2, hx3, hx4⟩ := HAT.out i hlti
          have HX3 := Lib.hid hx3
          have hci := HC.out i hlti
          rw [hx4] at hci
          rcases HROW.out.cases with ⟨e, e2⟩ | ⟨gb, cap, e, hgb1, hgb2, hc, hf⟩
          · injection e with _ e _
            omega
          · injection e with e0 e1 e2
            subst e0
            subst e2
            have hcell : wr.cell? ⟨gb, i, none⟩ = some (.int .i64 x) := by
              rw [HB.out.cell (p := ⟨gb, i, none⟩) hgb2, hc i (by omega), hci]
            have f0 : wr.cell? ⟨w.heap.size, 0, none⟩ = some (.int .i64 N) := (HB.out.cell (p := ⟨w.heap.size, 0, none⟩) hzz).trans d0
            have f1 : wr.cell? ⟨w.heap.size, 1, none⟩ = some (.int .i64 S) := (HB.out.cell (p := ⟨w.heap.size, 1, none⟩) hzz).trans d1
            have hi2 : (i : Int) < (k : Int) := by omega
            clear hc hf hci hx3 hx4 e1 hgb1
            go_wp2_with fail
            refine (mrow_any N S x g _ (by omega) (by omega) HS2.out hx1 hltg).mono ?_; rintro e w2 ⟨rfl, hb2⟩
            have HB2 := Lib.hid (HB.out.trans (hb2.mono HB.out.size))
            clear hb2 hcell f0 f1
            cases hra : Tic.rowAt N S x g with
            | false =>
              have HN2 : Hid (∀ x, x < N → S.testBit x = true → Tic.rk S x < i + 1 → Tic.rowAt N S x g = false) := Lib.hid (by
                intro y hy1 hy2 hy3
                by_cases e : Tic.rk S y = i
                · have := HI.out y x hy2 hx2 (by rw [e, HX3.out])
                  rw [this]; exact hra
                · exact HN.out y hy1 hy2 (by omega))
              clear hra
              go_wp2
              go_roundw
              case rel => exact ⟨i + 1, by omega, by go_num, HR1, HN2, HB2⟩
              case measure => simp [intOf]; omega
            | true =>
              have HBT : Hid ((Tic.rows N S).testBit g = true) := Lib.hid (by rw [HRA.out]; exact isRow_some hx1 hx2 hra)
              have hl9 := tonesTo_le (Tic.rows N S) g
              have HR2 := Lib.hid (HR1.out.kept HB2.out)
              have hzb := HB2.out.size
              have e0 : w2.cell? ⟨w.heap.size, 0, none⟩ = some (.int .i64 N) := (HB2.out.cell (p := ⟨w.heap.size, 0, none⟩) hzz).trans d0
              have e1 : w2.cell? ⟨w.heap.size, 1, none⟩ = some (.int .i64 S) := (HB2.out.cell (p := ⟨w.heap.size, 1, none⟩) hzz).trans d1
              have hbel2 := Lib.hid (hbel1.trans (HB2.out.mono (by omega)))
              clear hra d0 d1 hbel1
              go_wp2_with (at_builtin; refine wpList_append_int rfl _ _ rfl (w.heap.size + 1) _ (tonesTo (Tic.rows N S) g) rfl (HR2.out.alloc _) w2.heap.size 1 g rfl ?c1 ?c2 ?c3 ?_)
              case c1 => go_simp
              case c2 => omega
              case c3 => simp; omega
              intro v' w4 hrow hb4
              have HR4 := Lib.hid hrow
              have hb5 : Below (w.heap.size + 1) w2 w4 := ((Below.refl _ _).alloc (by omega) _).trans hb4
              have f0 := (hb5.cell (p := ⟨w.heap.size, 0, none⟩) (by show w.heap.size < _; omega)).trans e0
              have f1 := (hb5.cell (p := ⟨w.heap.size, 1, none⟩) (by show w.heap.size < _; omega)).trans e1
              have hz5 := hb5.size
              have hbel3 := hbel2.out.trans (hb5.mono (by omega))
              clear hrow hb4 hb5 e0 e1
              go_wp2
              go_roundw
              case rel => exact ⟨g + 1, by omega, by omega, by go_num, by rw [tonesTo_yes HBT.out]; exact HR4, f0, f1, by omega, hbel3⟩
              case measure => simp [intOf]; omega
        · have : i = k := by omega
          subst this
          have HBF : Hid ((Tic.rows N S).testBit g = false) := Lib.hid (by rw [HRA.out]; exact isRow_none fun x h1 h2 => HN.out x h1 h2 (HRK.out x h1 h2))
          have HR2 := Lib.hid (HR1.out.kept HB.out)
          have hzb := HB.out.size
          have e0 : wr.cell? ⟨w.heap.size, 0, none⟩ = some (.int .i64 N) := (HB.out.cell (p := ⟨w.heap.size, 0, none⟩) hzz).trans d0
          have e1 : wr.cell? ⟨w.heap.size, 1, none⟩ = some (.int .i64 S) := (HB.out.cell (p := ⟨w.heap.size, 1, none⟩) hzz).trans d1
          have hbel2 := hbel1.trans (HB.out.mono (by omega))
          clear d0 d1 hbel1
          go_wp2
          go_roundw
          case rel => exact ⟨g + 1, by omega, by omega, by go_num, by rw [tonesTo_no HBF.out]; exact HR2, e0, e1, by omega, hbel2⟩
          case measure => simp [intOf]; omega
    · have : g = N := by omega
      subst this
      have HR2 := Lib.hid (HR.out.mono (B' := w.heap.size) (by omega))
      go_wp2
      try rw [Exit.noGoto_ret]
      go_ret
      exact ⟨_, rfl, HR2.out, hbel⟩
theorem iRowsOf_no (n s : Int) (w : World) (h : ¬ Tic.Valid n s) :
    Calls Try.prog 39 #[.int .i64 n, .int .i64 s] w fun e w' => e = .returned (.slice none 0 0) ∧ w = w' := by
  go_enter Try.func39, Try.ntmps39
  go_wp2
  go_step3
  go_wp2_with fail
  refine (implValid_no _ _ _ h).mono ?_; rintro e w1 ⟨rfl, rfl⟩
  go_wp2
  try rw [Exit.noGoto_ret]
  go_ret
  exact ⟨rfl, rfl⟩
theorem or_nat {a b : Nat} (ha : a < 4611686018427387904) (hb : b < 4611686018427387904) : bits .or .i64 (a : Int) (b : Int) = ((a ||| b : Nat) : Int) := i64_or_nat _ _ ha hb

set_option maxHeartbeats 1600000 in
set_option maxRecDepth 20000 in
theorem srow_any (n s g : Int) (w : World) (hv : Tic.Valid n s) (h0 : s ≠ 0) (hg1 : 1 ≤ g) (hg2 : g < n) :
    Calls Try.prog 77 #[.int .i64 n, .int .i64 s, .int .i64 g] w fun e w' => e = .returned (.bool (Tic.isRow n.toNat s.toNat g.toNat)) ∧ w = w' := by
  have hlt := hv.lt
  have h1 := hv.1
  have h2 := hv.2.1
  have HS2 := Lib.hid hv.lt_pow
  have HW := Lib.hid (rk_valid hv)
  obtain ⟨N, rfl⟩ := Int.eq_ofNat_of_zero_le (show 0 ≤ n by omega)
  obtain ⟨S, rfl⟩ := Int.eq_ofNat_of_zero_le hv.2.2.1
  obtain ⟨G, rfl⟩ := Int.eq_ofNat_of_zero_le (show 0 ≤ g by omega)
  clear hv
  simp only [Int.toNat_natCast] at HS2 HW ⊢
  have hwt := Tic.wt_le 12 S
  have hkp : 0 < Tic.rk S N := by
    rcases Nat.eq_zero_or_pos (Tic.rk S N) with e | e
    · exfalso
      apply h0
      have : S = 0 := by
        apply Nat.eq_of_testBit_eq
        intro y
        cases hy : S.testBit y with
        | false => simp
        | true =>
          rcases Nat.lt_or_ge y N with hyn | hyn
          · have := Tic.rk_lt hy hyn; omega
          · rw [Nat.testBit_lt_two_pow (Nat.lt_of_lt_of_le HS2.out (Nat.pow_le_pow_right (by omega) hyn))] at hy; cases hy
      omega
    · exact e
  have HB := Lib.hid (show ∀ x, x < N → Tic.rowAt N S x G = true → Tic.isRow N S G = true from fun x a b => isRow_some a (Tic.rowAt_bit a hkp b) b)
  have HE := Lib.hid (show ∀ x, Tic.rowAt N S x G = (Tic.rowS N x G (Tic.rk S N) == S) from fun _ => rfl)
  rw [HW.out] at HE
  clear hkp h0 HW
  go_enter Try.func77, Try.ntmps77
  go_wp2_with fail
  refine (weight_any _ _ (by omega) (by omega)).mono ?_; rintro e w1 ⟨rfl, rfl⟩
  rw [Int.toNat_natCast]
  generalize Tic.wt 12 S = K at hwt HE ⊢
  go_wp2
  go_loop [8, 9, 10] (fun t8 _ _ => ∃ x : Nat, x ≤ N ∧ t8 = .int .i64 x ∧ Hid (∀ y, y < x → Tic.rowAt N S y G = false)) (fun t8 _ _ => N - (intOf t8).toNat)
  case atStart => exact ⟨0, by omega, rfl, Lib.hid (fun y h => absurd h (Nat.not_lt_zero _))⟩
  case round =>
    obtain ⟨x, hx, rfl, HN⟩ := hrel
    by_cases hltx : x < N
    · go_wp2
      go_loop [9, 10] (fun t9 t10 => ∃ i : Nat, i ≤ K ∧ t10 = .int .i64 i ∧ t9 = .int .i64 (Tic.rowS N x G i : Int)) (fun _ t10 => K - (intOf t10).toNat)
      case atStart => exact ⟨0, by omega, rfl, rfl⟩
      case round =>
        obtain ⟨i, hi, rfl, rfl⟩ := hrel
        have hb := rows4096 (N := N) (x := x) (g := G) (j := i) (by omega) (by omega)
        by_cases hlti : i < K
        · have c1 : i * G ≤ 144 := by have := Nat.mul_le_mul (show i ≤ 12 by omega) (show G ≤ 12 by omega); omega
          have c2 : (0 : Int) ≤ (i : Int) * (G : Int) := by rw [← Int.natCast_mul]; omega
          have c3 : (i : Int) * (G : Int) ≤ 144 := by rw [← Int.natCast_mul]; omega
          obtain ⟨p, hp⟩ : ∃ p : Int, (i : Int) * (G : Int) = p := ⟨_, rfl⟩
          have hs1 : IntKind.i64.wrap ((i : Int) * (G : Int)) = p := by rw [hp] at c2 c3 ⊢; exact IntWalk.i64_in p (by omega)
          rw [hp] at c2 c3
          have hs2 : IntKind.i64.wrap ((x : Int) + p) = (x : Int) + p := IntWalk.i64_in _ (by omega)
          have hs3 : ((x : Int) + p).tmod (N : Int) = ((Tic.rowT N x G i : Nat) : Int) := by
            rw [Int.tmod_eq_emod_of_nonneg (by omega), ← hp, ← rowT_int, Int.toNat_of_nonneg (Int.emod_nonneg _ (by omega))]
          have hs4 := IntWalk.i64_in ((Tic.rowT N x G i : Nat) : Int) (by have := Tic.rowT_lt (n := N) (by omega) x G i; omega)
          have hT : Tic.rowT N x G i < N := Tic.rowT_lt (by omega) x G i
          have hN0 : ¬ N = 0 := by omega
          have HNX : Hid (Tic.rowS N x G (i + 1) = Tic.rowS N x G i ||| 2 ^ Tic.rowT N x G i) := rfl
          clear hp c1
          generalize Tic.rowT N x G i = T at hs3 hs4 hT HNX
          go_wp2_with fail
          refine (power_any _ _ (by omega) (by omega)).mono ?_; rintro e w1 ⟨rfl, rfl⟩
          rw [Int.toNat_natCast]
          have hpw : 2 ^ T ≤ 4096 := by
            have : 2 ^ T ≤ 2 ^ 12 := Nat.pow_le_pow_right (by omega) (by omega)
            omega
          have HOR := Lib.hid (or_nat (a := Tic.rowS N x G i) (b := 2 ^ T) (by omega) (by omega))
          clear hs1 hs2 hs3 hs4 c2 c3
          generalize 2 ^ T = P at hpw HNX HOR ⊢
          go_wp2
          go_round
          case rel => exact ⟨i + 1, by omega, by go_num, by rw [HOR.out, HNX.out]⟩
          case measure => simp [intOf]; omega
        · have : i = K := by omega
          subst this
          cases hra : Tic.rowAt N S x G with
          | true =>
            have HT := Lib.hid (HB.out x hltx hra)
            have hee : (Tic.rowS N x G i : Int) = (S : Int) := by
              have := HE.out x
              rw [hra] at this
              have := (beq_iff_eq.1 this.symm)
              omega
            have HEE := Lib.hid hee
            clear hra
            rw [hee]
            clear hee
            go_wp2
            go_ret
            exact ⟨ret_bool HT.out.symm, rfl⟩
          | false =>
            have HN2 : Hid (∀ y, y < x + 1 → Tic.rowAt N S y G = false) := Lib.hid (fun y hy => by
              by_cases e : y = x
              · rw [e]; exact hra
              · exact HN.out y (by omega))
            have hee : ¬ (Tic.rowS N x G i : Int) = (S : Int) := by
              have := HE.out x
              rw [hra] at this
              have := beq_eq_false_iff_ne.1 this.symm
              omega
            clear hra
            generalize Tic.rowS N x G i = R at hb hee ⊢
            go_wp2
            go_round
            case rel => exact ⟨x + 1, by omega, by go_num, HN2⟩
            case measure => simp [intOf]; omega
    · have : x = N := by omega
      subst this
      have HF := Lib.hid (isRow_none (N := x) (S := S) (g := G) fun y hy _ => HN.out y hy)
      go_wp2
      go_ret
      exact ⟨ret_bool HF.out.symm, rfl⟩

set_option maxHeartbeats 800000 in
set_option maxRecDepth 20000 in
theorem sRowsOf_yes (n s : Int) (w : World) (hv : Tic.Valid n s) (h0 : s ≠ 0) :
    Calls Try.prog 40 #[.int .i64 n, .int .i64 s] w (Gives (tonesTo (Tic.rows n.toNat s.toNat) n.toNat) w) := by
  have hlt := hv.lt
  have g1 := hv.1
  have g2 := hv.2.1
  have g3 := hv.2.2.1
  have HV := Lib.hid hv
  obtain ⟨N, rfl⟩ := Int.eq_ofNat_of_zero_le (show 0 ≤ n by omega)
  obtain ⟨S, rfl⟩ := Int.eq_ofNat_of_zero_le hv.2.2.1
  simp only [Int.toNat_natCast]
  have HZ := Lib.hid (Tic.rows_zero N S)
  have hS0 : ((S : Int) == 0) = false := beq_eq_false_iff_ne.2 h0
  go_enter Try.func40, Try.ntmps40
  go_wp2_with fail
  refine (validSet_yes _ _ _ hv).mono ?_; rintro e w1 ⟨rfl, rfl⟩
  go_wp2
  go_loopw [5, 6] (fun t5 t6 wr => ∃ g : Nat, 1 ≤ g ∧ g ≤ N ∧ t6 = .int .i64 g ∧ Hid (Row wr w.heap.size t5 (tonesTo (Tic.rows N S) g)) ∧ Below w.heap.size w wr) (fun _ t6 _ => N - (intOf t6).toNat)
  case atStart =>
    refine ⟨1, by omega, by omega, rfl, ?_, (Below.refl _ _).alloc (Nat.le_refl _) _⟩
    rw [tonesTo_no HZ.out]
    exact ⟨World.ownsRow_made w #[] 0 (Nat.le_refl _) (by decide) rfl, Nat.zero_le _⟩
  case round =>
    obtain ⟨g, hg1, hg2, rfl, HR, hbel⟩ := hrel
    by_cases hltg : g < N
    · have HRA := Lib.hid (Tic.rows_at (n := N) (s := S) hg1 hltg)
      have hl9 := tonesTo_le (Tic.rows N S) g
      have hs := hbel.size
      go_wp2_with fail
      refine (srow_any _ _ _ _ HV.out (by omega) (by omega) (by omega)).mono ?_; rintro e w1 ⟨rfl, rfl⟩
      simp only [Int.toNat_natCast]
      cases hr : Tic.isRow N S g with
      | true =>
        have HBT : Hid ((Tic.rows N S).testBit g = true) := Lib.hid (by rw [HRA.out]; exact hr)
        clear hr
        go_wp2_with (at_builtin; refine wpList_append_int rfl _ _ rfl w.heap.size _ (tonesTo (Tic.rows N S) g) rfl (HR.out.alloc _) wr.heap.size 1 g rfl ?c1 ?c2 ?c3 ?_)
        case c1 => go_simp
        case c2 => omega
        case c3 => simp; omega
        intro v' w1 hrow hb1
        have HR1 := Lib.hid hrow
        have hbel1 := (hbel.alloc hs _).trans hb1
        clear hrow hb1
        go_wp2
        go_roundw
        case rel => exact ⟨g + 1, by omega, by omega, by go_num, by rw [tonesTo_yes HBT.out]; exact HR1, hbel1⟩
        case measure => simp [intOf]; omega
      | false =>
        have HBF : Hid ((Tic.rows N S).testBit g = false) := Lib.hid (by rw [HRA.out]; exact hr)
        clear hr
        go_wp2
        go_roundw
        case rel => exact ⟨g + 1, by omega, by omega, by go_num, by rw [tonesTo_no HBF.out]; exact HR, hbel⟩
        case measure => simp [intOf]; omega
    · have : g = N := by omega
      subst this
      go_wp2
      go_ret
      exact ⟨_, rfl, HR, hbel⟩
theorem sRowsOf_no (n s : Int) (w : World) (h : ¬ (Tic.Valid n s ∧ s ≠ 0)) :
    Calls Try.prog 40 #[.int .i64 n, .int .i64 s] w fun e w' => e = .returned (.slice none 0 0) ∧ w = w' := by
  by_cases hv : Tic.Valid n s
  · have h0 : s = 0 := Decidable.byContradiction fun e => h ⟨hv, e⟩
    clear h
    subst h0
    go_enter Try.func40, Try.ntmps40
    go_wp2_with fail
    refine (validSet_yes _ _ _ hv).mono ?_; rintro e w1 ⟨rfl, rfl⟩
    go_wp2
    go_ret
    exact ⟨rfl, rfl⟩
  · clear h
    go_enter Try.func40, Try.ntmps40
    go_wp2_with fail
    refine (validSet_no _ _ _ hv).mono ?_; rintro e w1 ⟨rfl, rfl⟩
    go_wp2
    go_ret
    exact ⟨rfl, rfl⟩
end Go.Proofs.Ytpiaplnhiiiniaa
