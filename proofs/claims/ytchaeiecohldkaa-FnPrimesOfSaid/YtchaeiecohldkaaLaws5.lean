/-
  The law of PrimesOf.
-/
import Derived.Test.YtchaeiecohldkaaLaws2
import Derived.Test.YtchaeiecohldkaaMoves
import Derived.Test.YtchaeiecohldkaaPrimes
import Derived.Test.YtchaeiecohldkaaPrimesTab
namespace Go.Proofs.Ytchaeiecohldkaa
open Go.RowKit
set_option linter.unusedVariables false

/-- one of the numbers of a list just written out -/
theorem one_mem (L : List Int) (cs : Array Value) (n : Nat) (B p : Nat) (w : World) (hcs : cs = (L.map (Value.int .i64)).toArray) (hn : n = L.length) (h : Rd w B p) (hp : p ≤ 10000) (hl : L.length ≤ 4096) (hne : L ≠ []) :
    Calls Try.prog 77 #[.pointer (some ⟨B, 0, none⟩), .slice (some ⟨w.heap.size, 0, none⟩) n n] (w.alloc (.cells cs 3)) (Ones L B p w) := by
  subst hcs hn
  refine (one_any _ _ L B p _ (h.alloc _) hp (row_lit w L hl) ?_ hne).mono ?_
  · intro e
    have := h.lt
    simp [Value.ownBlock] at e
    omega
  · rintro e w' ⟨y, hy, rfl, hr, hg⟩
    exact ⟨y, hy, rfl, hr, grown_trans (grown_alloc _ _ _) hg⟩
/-- a circle and a number of tones are drawn -/
def DrN (w : World) (e : Ending) (w' : World) : Prop := ∃ n k : Int, e = .returned (.tuple #[.int .i64 n, .int .i64 k]) ∧ n ∈ [8, 6, 7, 9, 5, 4, 3, 2, 13] ∧ k ∈ [3, 4, 2, 5, 1, 0, 6, -1] ∧ Below w.heap.size w w'
theorem drawPrimesOf (x : Option Addr) (len cap : Nat) (w : World) (h : Code w x len cap) : Calls Try.prog 44 #[.slice x len cap] w (DrN w) := by
  obtain ⟨zs, h1, h2, h3⟩ := h
  go_enter Try.func44, Try.ntmps44
  go_wp2_with fail
  refine (newReader_any _ _ _ _ _ h1 h2 h3).mono ?_; rintro e w1 ⟨rfl, hrd, hb, _⟩
  have HB := Lib.hid hb
  clear hb h1
  go_wp2_with fail
  refine (one_mem [8, 6, 7, 9, 5, 4, 3, 2, 13] _ _ _ _ _ rfl rfl hrd (by omega) (by simp) (by simp)).mono ?_
  rintro e w2 ⟨n, hn, rfl, hrd2, hg⟩
  have HN := Lib.hid hn
  replace HB := Lib.hid (below_grown HB.out hg)
  have H2 := Lib.hid hrd2
  clear hn hg hrd hrd2
  go_wp2_with fail
  refine (one_mem [3, 4, 2, 5, 1, 0, 6, -1] _ _ _ _ _ rfl rfl H2.out (by omega) (by simp) (by simp)).mono ?_
  rintro e w3 ⟨k, hk, rfl, hrd3, hg⟩
  have HK := Lib.hid hk
  replace HB := Lib.hid (below_grown HB.out hg)
  clear hk hg hrd3
  go_wp2_with fail
  go_ret2
  exact ⟨n, k, rfl, HN.out, HK.out, HB.out⟩

theorem lchoose_any (N K : Nat) (w : World) (h1 : N ≤ 12) (h2 : K ≤ 6) (h3 : K ≤ N) :
    Calls Try.prog 48 #[.int .i64 N, .int .i64 K] w fun e w' => e = .returned (.int .i64 (chs N K : Int)) ∧ w = w' := by
  go_enter Try.func48, Try.ntmps48
  go_wp2
  go_loop [5, 6] (fun t5 t6 => ∃ i : Nat, i ≤ K ∧ t6 = .int .i64 i ∧ t5 = .int .i64 (chs N i : Int)) (fun _ t6 => K - (intOf t6).toNat)
  case atStart => exact ⟨0, Nat.zero_le _, rfl, rfl⟩
  case round =>
    obtain ⟨i, hi, rfl, rfl⟩ := hrel
    have hc := chs_le (n := N) (i := i) h1 (by omega)
    by_cases hlt : i < K
    · have e1 : (chs N i : Int) * ((N : Int) - (i : Int)) = ((chs N i * (N - i) : Nat) : Int) := by rw [Int.natCast_mul, Int.ofNat_sub (by omega)]
      have e2 : (((chs N i * (N - i) : Nat) : Int) / ((i : Int) + 1)) = ((chs N (i + 1) : Nat) : Int) := by
        show _ = (((chs N i * (N - i) / (i + 1) : Nat)) : Int)
        rw [Int.natCast_ediv]; rfl
      have hb : chs N i * (N - i) ≤ 1000 * 12 := Nat.mul_le_mul hc (by omega)
      generalize hm : chs N i * (N - i) = m at e1 e2 hb
      have hc2 := chs_le (n := N) (i := i + 1) h1 (by omega)
      go_wp2
      go_round
      case rel => exact ⟨i + 1, by omega, by go_num, by go_num⟩
      case measure => simp [intOf]; omega
    · have : i = K := by omega
      subst this
      go_wp2
      go_ret
      exact ⟨rfl, rfl⟩

theorem lascends_any (L : List Int) (v : Value) (B : Nat) (w : World) (h : Row w B v L) (hp : L.Pairwise (· < ·)) (hb : ∀ y, y ∈ L → 0 ≤ y ∧ y ≤ 5000) :
    Calls Try.prog 23 #[v] w fun e w' => e = .returned (.bool true) ∧ Below w.heap.size w w' := by
  have hl2 := h.2
  rcases h.cases with ⟨rfl, _⟩ | ⟨g, c, rfl, _, hg, hc, _⟩
  · go_enter Try.func23, Try.ntmps23
    go_wp2
    refine wp_loop_rounds 1 ?_
    rw [rounds_succ]
    go_wp2
    go_ret
    exact ⟨rfl, Below.refl _ _⟩
  · have HX : Hid (∀ i, 1 ≤ i → i < L.length → ∃ x y : Nat, L.getD (i - 1) 0 = (x : Int) ∧ L.getD i 0 = (y : Int) ∧ x < y) := fun i h1 hi => by
      have q := List.pairwise_iff_getElem.1 hp (i - 1) i (by omega) hi (by omega)
      have b1 := hb _ (List.getElem_mem (show i - 1 < L.length by omega))
      have b2 := hb _ (List.getElem_mem hi)
      refine ⟨(L.getD (i - 1) 0).toNat, (L.getD i 0).toNat, ?_⟩
      rw [List.getD_eq_getElem?_getD, List.getD_eq_getElem?_getD, List.getElem?_eq_getElem hi, List.getElem?_eq_getElem (show i - 1 < L.length by omega)]
      simp only [Option.getD_some]
      omega
    generalize hn : L.length = n at hl2 hc HX
    have HC := Lib.hid hc
    clear hn hc h hp hb
    by_cases hn0 : n = 0
    · subst hn0
      go_enter Try.func23, Try.ntmps23
      go_wp2
      refine wp_loop_rounds 1 ?_
      rw [rounds_succ]
      go_wp2
      go_ret
      exact ⟨rfl, Below.refl _ _⟩
    · go_enter Try.func23, Try.ntmps23
      go_wp2
      go_loopw [3] (fun t3 wr => ∃ k : Nat, 1 ≤ k ∧ k ≤ n ∧ t3 = .int .i64 k ∧ Below w.heap.size w wr) (fun t3 _ => n - (intOf t3).toNat)
      case atStart => exact ⟨1, Nat.le_refl _, by omega, rfl, Below.refl _ _⟩
      case round =>
        obtain ⟨k, hk0, hk, rfl, hbel⟩ := hrel
        by_cases hlt : k < n
        · obtain ⟨x, y, hx, hy, hxy⟩ := HX.out k hk0 hlt
          have d1 := (hbel.cell (p := ⟨g, k, none⟩) hg).trans (HC.out k hlt)
          have d2 := (hbel.cell (p := ⟨g, k - 1, none⟩) hg).trans (HC.out (k - 1) (by omega))
          rw [hy] at d1
          rw [hx] at d2
          clear hx hy
          have hi0 : (0 : Int) ≤ (k : Int) - 1 := by omega
          have hi1 : (k : Int) - 1 < (n : Int) := by omega
          have hi2 : (k : Int) < (n : Int) := by omega
          go_wp2
          go_region
          all_goals
            go_wp2
            go_roundw
            case rel => exact ⟨k + 1, by omega, by omega, by go_num, hbel.drew⟩
            case measure => simp [intOf]; omega
        · have : k = n := by omega
          subst this
          go_wp2
          go_ret
          exact ⟨rfl, hbel⟩

/-- what a list of least sets is like -/
def Told (N K : Nat) (L : List Int) : Prop := L.Pairwise (· < ·) ∧ (∀ y, y ∈ L → 0 ≤ y ∧ y ≤ 5000) ∧ part' N L L.length = chs N K ∧
  ∀ i, i < L.length → ∃ s a b : Nat, L.getD i 0 = (s : Int) ∧ Tic.Valid N s ∧ Tic.wt 12 s = K ∧ Tic.shs N s N = a ∧ Tic.trs N s N = b ∧ a ≤ N ∧ b ≤ N ∧ 1 ≤ a + b ∧ 2 * (N : Int) % ((a : Int) + (b : Int)) = 0 ∧ 2 * (N : Int) / ((a : Int) + (b : Int)) = (tm N (s : Int) : Int)
theorem told_primes {N K : Nat} (h1 : 3 ≤ N) (h2 : N ≤ 9) (h3 : K ≤ 6) (h4 : K ≤ N) : Told N K (primesTo N K (2 ^ N)) := by
  have hp := Tic.pow_le_12 (n := (N : Int)) (by omega)
  rw [Int.toNat_natCast] at hp
  obtain ⟨t1, t2⟩ := tab h1 h2 h3 h4
  have hin : ∀ y, y ∈ primesTo N K (2 ^ N) → ∃ s : Nat, y = (s : Int) ∧ s < 2 ^ N := fun y hy => by
    obtain ⟨s, q1, _, q3⟩ := (primesTo_mem N K y _).1 hy
    exact ⟨s, q3, q1⟩
  refine ⟨primesTo_asc _ _ _, fun y hy => ?_, by rw [part_all]; exact t2, fun i hi => ?_⟩
  · obtain ⟨s, rfl, q⟩ := hin y hy
    omega
  · have hy := List.getElem_mem hi
    obtain ⟨s, q1, q2⟩ := hin _ hy
    have ok := t1 _ hy
    rw [q1] at ok
    unfold setOk mv at ok
    rw [Bool.and_eq_true, Bool.and_eq_true, Int.toNat_natCast] at ok
    have o1 := of_decide_eq_true ok.1
    have o2 := of_decide_eq_true ok.2.1
    have o3 := of_decide_eq_true ok.2.2
    refine ⟨s, _, _, ?_, ⟨by omega, by omega, by omega, by rw [Int.toNat_natCast]; omega⟩, o1, rfl, rfl, Tic.shs_le _ _ _, Tic.trs_le _ _ _, o2, ?_, ?_⟩
    · rw [List.getD_eq_getElem?_getD, List.getElem?_eq_getElem hi]; exact q1
    · have := congrArg Int.ofNat o3
      simpa using this
    · unfold tm mv
      rw [Int.toNat_natCast, Int.natCast_ediv]
      simp

set_option maxRecDepth 20000 in
set_option maxHeartbeats 1000000 in
theorem FnPrimesOf_walk (x : Option Addr) (len cap : Nat) (w : World) (h : Code w x len cap) :
    Calls Try.prog 11 #[.slice x len cap] w fun e w' => e = .returned (.bool true) ∧ Below w.heap.size w w' := by
  by_cases hl : 1048576 < len
  · go_enter Try.func11, Try.ntmps11
    go_wp2_with fail
    go_ret
    exact ⟨rfl, Below.refl _ _⟩
  · go_enter Try.func11, Try.ntmps11
    go_wp2_with fail
    refine (drawPrimesOf _ _ _ _ h).mono ?_; rintro e w1 ⟨n, k, rfl, hn, hk, hb⟩
    have HB := Lib.hid hb
    clear hb h hl
    have hL : ∃ L, Hid (∀ w, Calls Try.prog 45 #[.int .i64 n, .int .i64 k] w (Gives L w)) ∧ Hid (∀ w, Calls Try.prog 46 #[.int .i64 n, .int .i64 k] w (Gives L w)) ∧ (L = [] ∨ ∃ N K : Nat, n = (N : Int) ∧ k = (K : Int) ∧ 3 ≤ N ∧ N ≤ 9 ∧ K ≤ 6 ∧ K ≤ N ∧ Hid (Told N K L)) := by
      by_cases hc : Counts n k
      · refine ⟨_, fun w => iPrimesOf_yes _ _ w hc, fun w => sPrimesOf_yes _ _ w hc, .inr ?_⟩
        obtain ⟨c1, c2, c3, c4⟩ := hc
        have hn9 : n ≤ 9 := by simp at hn; omega
        have hk6 : k ≤ 6 := by simp at hk; omega
        exact ⟨n.toNat, k.toNat, by omega, by omega, by omega, by omega, by omega, by omega, told_primes (by omega) (by omega) (by omega) (by omega)⟩
      · exact ⟨[], fun w => iPrimesOf_no _ _ w hc, fun w => sPrimesOf_no _ _ w hc, .inl rfl⟩
    clear hn hk
    obtain ⟨L, HI, HS, hcase⟩ := hL
    go_wp2_with fail
    refine (HI.out _).mono ?_; rintro e w2 ⟨v1, rfl, hr, hb⟩
    have R1 := Lib.hid hr
    replace HB := Lib.hid (HB.out.trans (hb.mono HB.out.size))
    clear hr hb
    go_wp2_with fail
    refine (HS.out _).mono ?_; rintro e w3 ⟨v2, rfl, hr, hb⟩
    have R2 := Lib.hid hr
    replace R1 := Lib.hid (R1.out.kept hb)
    replace HB := Lib.hid (HB.out.trans (hb.mono HB.out.size))
    clear hr hb
    go_wp2_with fail
    refine (equalInts_yes _ _ _ _ _ _ R1.out R2.out).mono ?_; rintro e w4 ⟨rfl, hb⟩
    replace R1 := Lib.hid (R1.out.kept hb)
    replace HB := Lib.hid (HB.out.trans (hb.mono HB.out.size))
    clear hb R2
    by_cases hL0 : L = []
    · subst hL0
      have HR := R1
      rcases R1.out.cases with ⟨rfl, _⟩ | ⟨g, c, rfl, _⟩
      all_goals
        go_wp2_with fail
        refine (HS.out _).mono ?_; rintro e w3 ⟨v2, rfl, hr, hb⟩
        have R2 := Lib.hid hr
        replace HR := Lib.hid (HR.out.kept hb)
        replace HB := Lib.hid (HB.out.trans (hb.mono HB.out.size))
        clear hr hb
        go_wp2_with fail
        refine (equalInts_yes _ _ _ _ _ _ HR.out R2.out).mono ?_; rintro e w4 ⟨rfl, hb⟩
        replace HB := Lib.hid (HB.out.trans (hb.mono HB.out.size))
        clear hb
        go_wp2_with fail
        go_ret
        exact ⟨rfl, HB.out⟩
    · rcases hcase with e | ⟨N, K, rfl, rfl, h1, h2, h3, h4, HT⟩
      · exact absurd e hL0
      have hm0 := List.length_pos_iff.2 hL0
      have hm2 := R1.out.2
      have HR := R1
      rcases R1.out.cases with ⟨_, e⟩ | ⟨g, c, rfl, _, hg, hc, _⟩
      · exact absurd e hL0
      have HX := Lib.hid HT.out.2.2.2
      have HE := Lib.hid HT.out.2.2.1
      clear R1
      generalize hm : L.length = m at hm0 hm2 hc HX HE HR
      have HM := Lib.hid hm
      have HC := Lib.hid hc
      clear hc hm hL0
      have hne1 : ((m : Int) == 0) = false := beq_eq_false_iff_ne.2 (by omega)
      have hne2 : decide ((m : Int) = 0) = false := decide_eq_false (by omega)
      have hne3 : ¬ ((m : Int) = 0) := by omega
      go_wp2
      go_loopw [6, 7] (fun t6 t7 wr => ∃ i : Nat, i ≤ m ∧ t7 = .int .i64 i ∧ t6 = .int .i64 (part' N L i : Int) ∧ part' N L i ≤ 24 * i ∧ Hid (Below w4.heap.size w4 wr)) (fun _ t7 _ => m - (intOf t7).toNat)
      case atStart => exact ⟨0, Nat.zero_le _, rfl, rfl, Nat.le_refl _, Below.refl _ _⟩
      case round =>
        obtain ⟨i, hi, rfl, rfl, hP, HW⟩ := hrel
        by_cases hlt : i < m
        · obtain ⟨s, a, b, hs, hv, hwt, ha, hb, ha2, hb2, hab, e1, e2⟩ := HX.out i hlt
          have d1 := (HW.out.cell (p := ⟨g, i, none⟩) hg).trans (HC.out i hlt)
          rw [hs] at d1
          have hpn := part_next (n := N) (i := i) (L := L) (by rw [HM.out]; exact hlt)
          rw [hs] at hpn
          have htm := tm_le N (s : Int)
          have hs12 := hv.lt
          have HA := Lib.hid ha
          have HB2 := Lib.hid hb
          have HWT := Lib.hid hwt
          have HPN := Lib.hid hpn
          generalize tm N (s : Int) = q at e2 htm HPN
          clear ha hb hwt hs hpn
          have hi0 : (0 : Int) ≤ (i : Int) := by omega
          have hi1 : (i : Int) < (m : Int) := by omega
          go_wp2_with fail
          refine (iMovesOf_yes _ _ _ hv).mono ?_; rintro e w5 ⟨rfl, hb⟩
          rw [Int.toNat_natCast, Int.toNat_natCast, HA.out, HB2.out]
          have d2 := (hb.cell (p := ⟨g, i, none⟩) (Nat.lt_of_lt_of_le hg HW.out.size)).trans d1
          replace HW := Lib.hid (HW.out.trans (hb.mono HW.out.size))
          clear hb d1
          go_wp2_with fail
          refine (lweight_any _ _ (by omega) (by omega)).mono ?_; rintro e w6 ⟨rfl, rfl⟩; rw [Int.toNat_natCast, HWT.out]
          go_wp2
          go_roundw
          case rel => exact ⟨i + 1, by omega, by go_num, by rw [HPN.out]; go_num, by rw [HPN.out]; omega, HW⟩
          case measure => simp [intOf]; omega
        · have : i = m := by omega
          subst this
          go_wp2_with fail
          refine (lascends_any L _ _ _ (HR.out.kept HW.out) HT.out.1 HT.out.2.1).mono ?_; rintro e w5 ⟨rfl, hb⟩
          replace HW := Lib.hid (HW.out.trans (hb.mono HW.out.size))
          rw [HE.out]
          go_wp2_with fail
          refine (lchoose_any N K _ (by omega) (by omega) (by omega)).mono ?_; rintro e w6 ⟨rfl, rfl⟩
          go_wp2_with fail
          go_ret
          exact ⟨rfl, HB.out.trans (HW.out.mono HB.out.size)⟩
end Go.Proofs.Ytchaeiecohldkaa
