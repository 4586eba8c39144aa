/-
  The walks of the laws of sizes, of sets of two sizes and of rows.
-/
import Derived.Test.YtpiaplnhiiiniaaLaws6
import Derived.Test.YtpiaplnhiiiniaaRowsOf
import Derived.Test.YtpiaplnhiiiniaaEq
import Derived.Test.YtpiaplnhiiiniaaExact2D
namespace Go.Proofs.Ytpiaplnhiiiniaa
open Go.RowKit
set_option linter.unusedVariables false

set_option maxHeartbeats 400000 in
theorem isIn_yes (v : Value) (B : Nat) (L : List Int) (i : Nat) (x : Int) (w : World) (h : Row w B v L) (hi : i < L.length) (hx : L.getD i 0 = x) :
    Calls Try.prog 42 #[v, .int .i64 x] w fun e w' => e = .returned (.bool true) ∧ Below w.heap.size w w' := by
  have hl := h.2
  rcases h.cases with ⟨rfl, rfl⟩ | ⟨g, cap, rfl, _, _, hc, _⟩
  · simp at hi
  · have HC := Lib.hid hc
    have HX := Lib.hid hx
    clear hc h hx
    go_enter Try.func42, Try.ntmps42
    go_wp2
    go_loopw [5] (fun t5 wr => ∃ k : Nat, k ≤ i ∧ t5 = .int .i64 k ∧ wr = w) (fun t5 _ => i + 1 - (intOf t5).toNat)
    case atStart => exact ⟨0, by omega, rfl, rfl⟩
    case round =>
      obtain ⟨k, hk, rfl, rfl⟩ := hrel
      have hck := HC.out k (by omega)
      have hk2 : (k : Int) < (L.length : Int) := by omega
      by_cases he : L.getD k 0 = x
      · rw [he] at hck
        clear he
        go_wp2
        go_ret
        exact ⟨rfl, Below.refl _ _⟩
      · have hki : k ≠ i := fun e => he (by rw [e]; exact HX.out)
        generalize L.getD k 0 = y at hck he
        go_wp2
        go_roundw
        case rel => exact ⟨k + 1, by omega, by go_num, trivial⟩
        case measure => simp [intOf]; omega
set_option maxHeartbeats 400000 in
theorem ascends_yes (v : Value) (B : Nat) (L : List Int) (w : World) (h : Row w B v L) (ha : ∀ i, i + 1 < L.length → L.getD i 0 < L.getD (i + 1) 0) :
    Calls Try.prog 30 #[v] w fun e w' => e = .returned (.bool true) ∧ Below w.heap.size w w' := by
  have hl := h.2
  rcases h.cases with ⟨rfl, rfl⟩ | ⟨g, cap, rfl, _, _, hc, _⟩
  · go_enter Try.func30, Try.ntmps30
    go_wp2
    refine wp_loop_rounds 1 ?_
    rw [rounds_succ]
    go_wp2
    go_ret
    exact ⟨rfl, Below.refl _ _⟩
  · have HC := Lib.hid hc
    have HA := Lib.hid ha
    clear hc h ha
    go_enter Try.func30, Try.ntmps30
    go_wp2
    go_loopw [3] (fun t3 wr => ∃ i : Nat, 1 ≤ i ∧ (i ≤ L.length ∨ i = 1) ∧ t3 = .int .i64 i ∧ ∃ q, Hid (wr = w.drewN q)) (fun t3 _ => L.length + 1 - (intOf t3).toNat)
    case atStart => exact ⟨1, by omega, .inr rfl, rfl, 0, rfl⟩
    case round =>
      obtain ⟨i, hi1, hi2, rfl, q, HQ⟩ := hrel
      by_cases hlt : i < L.length
      · have c1 : wr.cell? ⟨g, i, none⟩ = some (.int .i64 (L.getD i 0)) := by rw [HQ.out]; exact HC.out i hlt
        have c2 : wr.cell? ⟨g, i - 1, none⟩ = some (.int .i64 (L.getD (i - 1) 0)) := by rw [HQ.out]; exact HC.out (i - 1) (by omega)
        have hlt2 := HA.out (i - 1) (by omega)
        rw [show i - 1 + 1 = i by omega] at hlt2
        have hi3 : (i : Int) < (L.length : Int) := by omega
        have e1 : (i : Int) - 1 = ((i - 1 : Nat) : Int) := by omega
        have e2 : ((i - 1 : Nat) : Int) < (L.length : Int) := by omega
        generalize L.getD i 0 = x at c1 hlt2
        generalize L.getD (i - 1) 0 = y at c2 hlt2
        have hxy : ¬ x ≤ y := by omega
        go_wp2_with fail
        go_quiet (fail)
        clear e1 e2
        go_wp2
        go_roundw
        case rel => exact ⟨i + 1, by omega, .inl (by omega), by go_num, q + nq, Lib.hid (by rw [HQ.out, World.drewN_drewN])⟩
        case measure => simp [intOf]; omega
      · go_wp2
        go_ret
        exact ⟨rfl, by rw [HQ.out]; exact below_drewN (Below.refl _ _) _⟩
theorem tonesTo_asc (D N : Nat) : ∀ i, i + 1 < (tonesTo D N).length → (tonesTo D N).getD i 0 < (tonesTo D N).getD (i + 1) 0 := by
  intro i hi
  rw [tonesTo_len] at hi
  rw [tonesTo_getD D N i (by omega), tonesTo_getD D N (i + 1) hi]
  obtain ⟨x, h1, h2, h3, h4⟩ := Tic.tn_at D N i (by omega)
  obtain ⟨y, k1, k2, k3, k4⟩ := Tic.tn_at D N (i + 1) hi
  rw [h4, k4]
  have : x < y := by
    rcases Nat.lt_or_ge x y with h | h
    · exact h
    · have := Tic.rk_mono D y x h; omega
  omega
theorem tonesTo_get (D N i : Nat) (hi : i < (tonesTo D N).length) : ∃ x, x < N ∧ D.testBit x = true ∧ Tic.rk D x = i ∧ (tonesTo D N).getD i 0 = (x : Int) := by
  rw [tonesTo_len] at hi
  obtain ⟨x, h1, h2, h3, h4⟩ := Tic.tn_at D N i hi
  exact ⟨x, h1, h2, h3, by rw [tonesTo_getD D N i hi, h4]⟩
theorem tonesTo_put (D N x : Nat) (hx : x < N) (hb : D.testBit x = true) : Tic.rk D x < (tonesTo D N).length ∧ (tonesTo D N).getD (Tic.rk D x) 0 = (x : Int) := by
  have h := Tic.rk_lt hb hx
  refine ⟨by rw [tonesTo_len]; exact h, ?_⟩
  rw [tonesTo_getD D N _ h, Tic.tn_rk hb N hx]
/-- a set and its image in the circle: the ranks -/
theorem rk_mirror {D E n : Nat} (hD : D.testBit 0 = false) (hE : E.testBit 0 = false) (h : ∀ d, 0 < d → d < n → E.testBit d = D.testBit (n - d)) : ∀ k, 1 ≤ k → k ≤ n → Tic.rk E k + Tic.rk D (n - k + 1) = Tic.rk D n
  | 0, h1, _ => by omega
  | k + 1, _, h2 => by
    by_cases e : k = 0
    · subst e
      rw [Tic.rk_no hE, show n - (0 + 1) + 1 = n by omega]
      simp [Tic.rk, Tic.tn]
    · have ih := rk_mirror hD hE h k (by omega) (by omega)
      have hb := h k (by omega) (by omega)
      rw [show n - (k + 1) + 1 = n - k by omega]
      cases hk : D.testBit (n - k) with
      | true => rw [Tic.rk_yes (by rw [hb, hk])]; rw [Tic.rk_yes hk] at ih; omega
      | false => rw [Tic.rk_no (by rw [hb, hk])]; rw [Tic.rk_no hk] at ih; omega

set_option maxRecDepth 20000 in
set_option maxHeartbeats 1600000 in
theorem FnIsDouble_walk (x : Option Addr) (len cap : Nat) (w : World) (h : Code w x len cap) :
    Calls Try.prog 10 #[.slice x len cap] w fun e w' => e = .returned (.bool true) ∧ Below w.heap.size w w' := by
  by_cases hl : 1048576 < len
  · go_enter Try.func10, Try.ntmps10
    go_wp2_with fail
    go_ret
    exact ⟨rfl, Below.refl _ _⟩
  · go_enter Try.func10, Try.ntmps10
    go_wp2_with fail
    refine (drawIsDouble _ _ _ _ h).mono ?_; rintro e w1 ⟨n, s, rfl, n0, n1, s0, s1, hb⟩
    have HB := Lib.hid hb
    clear hb h hl
    by_cases hva : Tic.Valid n s
    · have HVA := Lib.hid hva
      have a1 := hva.1
      have a2 := hva.2.1
      have hs := hva.lt_pow
      have hlt := hva.lt
      obtain ⟨N, rfl⟩ := Int.eq_ofNat_of_zero_le (show 0 ≤ n by omega)
      obtain ⟨S, rfl⟩ := Int.eq_ofNat_of_zero_le hva.2.2.1
      simp only [Int.toNat_natCast] at hs
      have HW := Lib.hid (Tic.rk_wt hs (by omega))
      have hwt := Tic.wt_le 12 S
      by_cases hv : DbOk (N : Int) (S : Int)
      · have hv2 := hv.2
        rw [Int.toNat_natCast] at hv2
        have HA := Lib.hid (allL_dbl (n := N) (s := S) (by omega) (by omega))
        go_wp2_with fail
        refine (iIsDouble_yes _ _ _ hv).mono ?_; rintro e w2 ⟨rfl, hb⟩
        simp only [Int.toNat_natCast]
        rw [HA.out]
        replace HB := Lib.hid (HB.out.trans (hb.mono HB.out.size))
        clear hb
        go_wp2_with fail
        refine (sIsDouble_yes _ _ _ hv).mono ?_; rintro e w2 ⟨rfl, hb⟩
        simp only [Int.toNat_natCast]
        rw [HA.out]
        replace HB := Lib.hid (HB.out.trans (hb.mono HB.out.size))
        clear hb
        cases hd : Tic.dbl N S with
        | false =>
          clear hs hd
          go_wp2_with fail
          refine (implValid_yes _ _ _ HVA.out).mono ?_; rintro e w2 ⟨rfl, rfl⟩
          go_wp2
          refine wp_loop_rounds 1 ?_
          rw [rounds_succ]
          go_wp2_with fail
          refine (lweight_any _ _ (by omega) (by omega)).mono ?_; rintro e w2 ⟨rfl, rfl⟩
          go_wp2
          all_goals
            go_ret
            exact ⟨rfl, HB.out⟩
        | true =>
          have HR := Lib.hid (Tic.db_rows (n := N) (s := S) (by omega) hs (by rw [HW.out]; exact hv2) hd)
          have HL : Hid (∀ i, 1 ≤ i → i < Tic.wt 12 S → (Tic.tn (Tic.dset N S i) N).length = 2) := Lib.hid (fun i h1 h2 => by
            have := (Tic.allTo_at Tic.okD2 N S (Tic.rk S N - 1)).1 hd i h1 (by rw [HW.out]; omega)
            rw [← (Tic.okL_tn (Tic.dset_lt (by omega) S i) (by omega) (Tic.dset_pos (by rw [HW.out]; omega))).2] at this
            simpa using this)
          clear hs hd
          go_wp2_with fail
          refine (implValid_yes _ _ _ HVA.out).mono ?_; rintro e w2 ⟨rfl, rfl⟩
          go_wp2
          go_loopw [6] (fun t6 wr => ∃ i : Nat, 1 ≤ i ∧ i ≤ Tic.wt 12 S ∧ t6 = .int .i64 i ∧ Hid (Below w.heap.size w wr)) (fun t6 _ => 13 - (intOf t6).toNat)
          case atStart => exact ⟨1, by omega, by omega, rfl, HB⟩
          case round =>
            obtain ⟨i, hi1, hi2, rfl, HB⟩ := hrel
            go_wp2_with fail
            refine (lweight_any _ _ (by omega) (by omega)).mono ?_; rintro e w2 ⟨rfl, rfl⟩
            rw [Int.toNat_natCast]
            by_cases hlt2 : i < Tic.wt 12 S
            · have hsz : SzOk (N : Int) (S : Int) (i : Int) := ⟨HVA.out, by omega, by rw [Int.toNat_natCast, Int.toNat_natCast, HW.out]; omega⟩
              go_wp2_with fail
              refine (iSizesOf_yes _ _ _ _ hsz).mono ?_; rintro e w2 ⟨v, rfl, hr, hb⟩
              simp only [Int.toNat_natCast] at hr
              replace HB := Lib.hid (HB.out.trans (hb.mono HB.out.size))
              obtain ⟨a, k, c, rfl⟩ := hr.slice
              have hk : k = 2 := by
                have h2 := HL.out i hi1 hlt2
                have h3 : (tonesTo (Tic.dset N S i) N).length = 2 := by rw [tonesTo_len]; exact h2
                rcases hr.cases with ⟨e, e2⟩ | ⟨g, cap, e, _⟩
                · rw [e2] at h3; simp at h3
                · injection e with _ e _; rw [e, h3]
              subst hk
              clear hb hr hsz
              go_wp2
              go_roundw
              case rel => exact ⟨i + 1, by omega, by omega, by go_num, HB⟩
              case measure => simp [intOf]; omega
            · go_wp2_with fail
              refine (iRowsOf_valid _ _ _ HVA.out).mono ?_; rintro e w2 ⟨v, rfl, hr, hb⟩
              simp only [Int.toNat_natCast] at hr
              replace HB := Lib.hid (HB.out.trans (hb.mono HB.out.size))
              obtain ⟨a, k, c, rfl⟩ := hr.slice
              have hk : 0 < k := by
                have h3 : 0 < (tonesTo (Tic.rows N S) N).length := by
                  rw [tonesTo_len]; exact Tic.rk_pos_of Tic.rows_lt HR.out
                rcases hr.cases with ⟨e, e2⟩ | ⟨g, cap, e, _⟩
                · rw [e2] at h3; simp at h3
                · injection e with _ e _; rw [e]; exact h3
              clear hb hr
              go_wp2
              go_ret
              exact ⟨ret_bool (by simp), HB.out⟩
      · clear hs
        go_wp2_with fail
        refine (iIsDouble_no _ _ _ hv).mono ?_; rintro e w2 ⟨rfl, hb⟩
        replace HB := Lib.hid (HB.out.trans (hb.mono HB.out.size))
        clear hb
        go_wp2_with fail
        refine (sIsDouble_no _ _ _ hv).mono ?_; rintro e w2 ⟨rfl, rfl⟩
        go_wp2_with fail
        refine (implValid_yes _ _ _ HVA.out).mono ?_; rintro e w2 ⟨rfl, rfl⟩
        go_wp2
        refine wp_loop_rounds 1 ?_
        rw [rounds_succ]
        go_wp2_with fail
        refine (lweight_any _ _ (by omega) (by omega)).mono ?_; rintro e w2 ⟨rfl, rfl⟩
        go_wp2
        all_goals
          go_ret
          exact ⟨rfl, HB.out⟩
    · have hv : ¬ DbOk n s := fun h => hva h.1
      go_wp2_with fail
      refine (iIsDouble_no _ _ _ hv).mono ?_; rintro e w2 ⟨rfl, hb⟩
      replace HB := Lib.hid (HB.out.trans (hb.mono HB.out.size))
      clear hb
      go_wp2_with fail
      refine (sIsDouble_no _ _ _ hv).mono ?_; rintro e w2 ⟨rfl, rfl⟩
      go_wp2_with fail
      refine (implValid_no _ _ _ hva).mono ?_; rintro e w2 ⟨rfl, rfl⟩
      go_wp2_with fail
      refine (sIsDouble_no _ _ _ hv).mono ?_; rintro e w2 ⟨rfl, rfl⟩
      go_wp2_with fail
      go_ret
      exact ⟨rfl, HB.out⟩
set_option maxRecDepth 20000 in
set_option maxHeartbeats 1600000 in
theorem FnRowsOf_walk (x : Option Addr) (len cap : Nat) (w : World) (h : Code w x len cap) :
    Calls Try.prog 12 #[.slice x len cap] w fun e w' => e = .returned (.bool true) ∧ Below w.heap.size w w' := by
  by_cases hl : 1048576 < len
  · go_enter Try.func12, Try.ntmps12
    go_wp2_with fail
    go_ret
    exact ⟨rfl, Below.refl _ _⟩
  · go_enter Try.func12, Try.ntmps12
    go_wp2_with fail
    refine (drawRowsOf _ _ _ _ h).mono ?_; rintro e w1 ⟨n, s, rfl, n0, n1, s0, s1, hb⟩
    have HB := Lib.hid hb
    clear hb h hl
    by_cases hc : Tic.Valid n s ∧ s ≠ 0
    · have HC := Lib.hid hc
      obtain ⟨hva, hs0⟩ := hc
      have HVA := Lib.hid hva
      have a1 := hva.1
      have a2 := hva.2.1
      have hs := hva.lt_pow
      obtain ⟨N, rfl⟩ := Int.eq_ofNat_of_zero_le (show 0 ≤ n by omega)
      obtain ⟨S, rfl⟩ := Int.eq_ofNat_of_zero_le hva.2.2.1
      simp only [Int.toNat_natCast] at hs
      have HVS := Lib.hid (Tic.valid_shf hva 1)
      have HVT := Lib.hid (Tic.valid_tur hva 0)
      have HRS := Lib.hid (Tic.rows_shf (n := N) (s := S) (by omega) (by omega) hs)
      have HRT := Lib.hid (Tic.rows_tur (n := N) (s := S) (by omega) (by omega) hs)
      have HBK : Hid (∀ i, i < (tonesTo (Tic.rows N S) N).length → ∃ j, j < (tonesTo (Tic.rows N S) N).length ∧ (tonesTo (Tic.rows N S) N).getD j 0 = (N : Int) - (tonesTo (Tic.rows N S) N).getD i 0) := Lib.hid (fun i hi => by
        obtain ⟨g, h1, h2, h3, h4⟩ := tonesTo_get _ _ _ hi
        have hg0 : g ≠ 0 := by
          intro e
          rw [e, Tic.rows_zero] at h2; cases h2
        have hb2 := Tic.rows_back (n := N) (s := S) (g := g) (by omega) (by omega) h1
        rw [h2] at hb2
        obtain ⟨k1, k2⟩ := tonesTo_put (Tic.rows N S) N (N - g) (by omega) hb2
        exact ⟨_, k1, by rw [k2, h4]; omega⟩)
      have HAS := Lib.hid (tonesTo_asc (Tic.rows N S) N)
      have HBD : Hid (∀ i, i < (tonesTo (Tic.rows N S) N).length → 0 ≤ (tonesTo (Tic.rows N S) N).getD i 0 ∧ (tonesTo (Tic.rows N S) N).getD i 0 ≤ 12) := Lib.hid (fun i hi => by
        obtain ⟨g, h1, h2, h3, h4⟩ := tonesTo_get _ _ _ hi
        rw [h4]; omega)
      have hS0 : ((S : Int) == 0) = false := beq_eq_false_iff_ne.2 hs0
      clear hs
      go_wp2_with fail
      refine (iRowsOf_valid _ _ _ HVA.out).mono ?_; rintro e w2 ⟨v, rfl, hr, hb⟩
      simp only [Int.toNat_natCast] at hr
      have R0 := Lib.hid hr
      replace HB := Lib.hid (HB.out.trans (hb.mono HB.out.size))
      clear hb hr
      go_wp2_with fail
      refine (sRows_y _ _ _ HC.out).mono ?_; rintro e w3 ⟨v1, rfl, hr, hb⟩
      simp only [Int.toNat_natCast] at hr
      have R1 := Lib.hid hr
      replace R0 := Lib.hid (R0.out.kept hb)
      replace HB := Lib.hid (HB.out.trans (hb.mono HB.out.size))
      clear hb hr
      go_wp2_with fail
      refine (equalInts_yes _ _ _ _ _ _ R0.out R1.out).mono ?_; rintro e w4 ⟨rfl, hb⟩
      replace R0 := Lib.hid (R0.out.kept hb)
      replace HB := Lib.hid (HB.out.trans (hb.mono HB.out.size))
      clear hb R1
      go_wp2_with fail
      refine (implValid_yes _ _ _ HVA.out).mono ?_; rintro e w5 ⟨rfl, rfl⟩
      generalize hL : tonesTo (Tic.rows N S) N = L at R0 HBK HAS HBD
      have HL := Lib.hid hL
      clear hL
      have hl := R0.out.2
      obtain ⟨a, k, c, rfl⟩ := R0.out.slice
      have hk : k = L.length := by
        rcases R0.out.cases with ⟨e, e2⟩ | ⟨g, cap, e, _⟩
        · injection e with _ e _; rw [e, e2]; rfl
        · injection e
      subst hk
      go_wp2
      go_loopw [6] (fun t6 wr => ∃ i : Nat, i ≤ L.length ∧ t6 = .int .i64 i ∧ Hid (Row wr w1.heap.size (.slice a L.length c) L) ∧ Hid (Below w.heap.size w wr)) (fun t6 _ => L.length - (intOf t6).toNat)
      case atStart => exact ⟨0, Nat.zero_le _, rfl, R0, HB⟩
      case round =>
        obtain ⟨i, hi, rfl, R0, HB⟩ := hrel
        by_cases hlti : i < L.length
        · obtain ⟨j, hj, hje⟩ := HBK.out i hlti
          have hbd := HBD.out i hlti
          rcases R0.out.cases with ⟨e, e2⟩ | ⟨g, cap, e, _, _, hcel, _⟩
          · rw [e2] at hlti; simp at hlti
          · injection e with e0 e1 e2
            subst e0
            subst e2
            have hci := hcel i hlti
            have hi2 : (i : Int) < (L.length : Int) := by omega
            have HJ := Lib.hid hje
            clear hcel e1 hje
            generalize L.getD i 0 = y at hci hbd HJ
            have hs2 := IntWalk.i64_in ((N : Int) - y) (by omega)
            go_wp2_with fail
            refine (isIn_yes _ _ L j _ _ R0.out hj HJ.out).mono ?_; rintro e w6 ⟨rfl, hb⟩
            replace R0 := Lib.hid (R0.out.kept hb)
            replace HB := Lib.hid (HB.out.trans (hb.mono HB.out.size))
            clear hb hs2
            go_wp2
            go_roundw
            case rel => exact ⟨i + 1, by omega, by go_num, R0, HB⟩
            case measure => simp [intOf]; omega
        · go_wp2_with fail
          refine (ascends_yes _ _ L _ R0.out HAS.out).mono ?_; rintro e w6 ⟨rfl, hb⟩
          replace R0 := Lib.hid (R0.out.kept hb)
          replace HB := Lib.hid (HB.out.trans (hb.mono HB.out.size))
          clear hb
          go_wp2_with fail
          refine (iShiftSet_yes _ _ _ _ HVA.out ⟨by omega, by omega⟩).mono ?_; rintro e w7 ⟨rfl, hb⟩
          replace R0 := Lib.hid (R0.out.kept hb)
          replace HB := Lib.hid (HB.out.trans (hb.mono HB.out.size))
          clear hb
          go_wp2_with fail
          refine (iRowsOf_valid _ _ _ HVS.out).mono ?_; rintro e w8 ⟨v8, rfl, hr, hb⟩
          simp only [Int.toNat_natCast] at hr
          rw [HRS.out, HL.out] at hr
          have R1 := Lib.hid hr
          replace R0 := Lib.hid (R0.out.kept hb)
          replace HB := Lib.hid (HB.out.trans (hb.mono HB.out.size))
          clear hb hr
          go_wp2_with fail
          refine (equalInts_yes _ _ _ _ _ _ R1.out R0.out).mono ?_; rintro e w9 ⟨rfl, hb⟩
          replace R0 := Lib.hid (R0.out.kept hb)
          replace HB := Lib.hid (HB.out.trans (hb.mono HB.out.size))
          clear hb R1
          go_wp2_with fail
          refine (iTurnSet_yes _ _ _ _ HVA.out ⟨by omega, by omega⟩).mono ?_; rintro e w10 ⟨rfl, hb⟩
          replace R0 := Lib.hid (R0.out.kept hb)
          replace HB := Lib.hid (HB.out.trans (hb.mono HB.out.size))
          clear hb
          go_wp2_with fail
          refine (iRowsOf_valid _ _ _ HVT.out).mono ?_; rintro e w11 ⟨v11, rfl, hr, hb⟩
          simp only [Int.toNat_natCast] at hr
          rw [HRT.out, HL.out] at hr
          have R1 := Lib.hid hr
          replace R0 := Lib.hid (R0.out.kept hb)
          replace HB := Lib.hid (HB.out.trans (hb.mono HB.out.size))
          clear hb hr
          go_wp2_with fail
          refine (equalInts_yes _ _ _ _ _ _ R1.out R0.out).mono ?_; rintro e w12 ⟨rfl, hb⟩
          replace HB := Lib.hid (HB.out.trans (hb.mono HB.out.size))
          clear hb R1
          go_wp2_with fail
          go_ret
          exact ⟨rfl, HB.out⟩
    · have HC := Lib.hid hc
      go_wp2_with fail
      refine (iRows_n _ _ _ hc).mono ?_; rintro e w2 ⟨v, rfl, hr, hb⟩
      have R0 := Lib.hid hr
      replace HB := Lib.hid (HB.out.trans (hb.mono HB.out.size))
      clear hb hr
      go_wp2_with fail
      refine (sRowsOf_no _ _ _ HC.out).mono ?_; rintro e w3 ⟨rfl, rfl⟩
      go_wp2_with fail
      refine (equalInts_yes _ _ _ 0 [] _ R0.out (Row.nil _ _)).mono ?_; rintro e w4 ⟨rfl, hb⟩
      replace R0 := Lib.hid (R0.out.kept hb)
      replace HB := Lib.hid (HB.out.trans (hb.mono HB.out.size))
      clear hb
      by_cases hva : Tic.Valid n s
      · have hs0 : s = 0 := Decidable.byContradiction fun e => hc ⟨hva, e⟩
        subst hs0
        go_wp2_with fail
        refine (implValid_yes _ _ _ hva).mono ?_; rintro e w5 ⟨rfl, rfl⟩
        go_wp2_with fail
        refine (sRowsOf_no _ _ _ HC.out).mono ?_; rintro e w3 ⟨rfl, rfl⟩
        go_wp2_with fail
        refine (equalInts_yes _ _ _ 0 [] _ R0.out (Row.nil _ _)).mono ?_; rintro e w4 ⟨rfl, hb⟩
        replace HB := Lib.hid (HB.out.trans (hb.mono HB.out.size))
        clear hb
        go_wp2_with fail
        go_ret
        exact ⟨rfl, HB.out⟩
      · go_wp2_with fail
        refine (implValid_no _ _ _ hva).mono ?_; rintro e w5 ⟨rfl, rfl⟩
        go_wp2_with fail
        refine (sRowsOf_no _ _ _ HC.out).mono ?_; rintro e w3 ⟨rfl, rfl⟩
        go_wp2_with fail
        refine (equalInts_yes _ _ _ 0 [] _ R0.out (Row.nil _ _)).mono ?_; rintro e w4 ⟨rfl, hb⟩
        replace HB := Lib.hid (HB.out.trans (hb.mono HB.out.size))
        clear hb
        go_wp2_with fail
        go_ret
        exact ⟨rfl, HB.out⟩
end Go.Proofs.Ytpiaplnhiiiniaa
