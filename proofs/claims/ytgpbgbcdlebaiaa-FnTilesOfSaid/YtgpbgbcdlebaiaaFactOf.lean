/-
  Contracts of FactorsOf, of the program and of the model.
-/
import Derived.Test.YtgpbgbcdlebaiaaFact
import Derived.Test.YtgpbgbcdlebaiaaArrEq
import Derived.Test.YtgpbgbcdlebaiaaSetEq
import Derived.Test.YtgpbgbcdlebaiaaGaps
import Derived.Test.YtgpbgbcdlebaiaaOnes
namespace Go.Proofs.Ytgpbgbcdlebaiaa
open Go.RowKit
set_option linter.unusedVariables false

theorem quo_part {P q d : Nat} (hq : 1 ≤ q) (h : q * d = P) (hP : P ≤ 12) : (P : Int) / (q : Int) = (d : Int) := by
  rw [← Int.natCast_ediv, ← h, Nat.mul_div_cancel_left d (by omega)]
set_option maxRecDepth 20000 in
set_option maxHeartbeats 1000000 in
theorem hasFactor_any (n s p q : Int) (d : Nat) (w : World) (hv : Tic.Valid n s) (hp : 1 ≤ p) (hp2 : p ≤ n) (hpn : p.toNat ∣ n.toNat) (hq : 1 ≤ q) (hqd : q.toNat * d = p.toNat) :
    Calls Try.prog 69 #[.agg #[.int .i64 n, .int .i64 s], .int .i64 p, .int .i64 q] w fun e w' => e = .returned (.bool (Tic.fac n.toNat s.toNat p.toNat d)) ∧ Below w.heap.size w w' := by
  have hlt := hv.lt
  have g1 := hv.1
  have g2 := hv.2.1
  obtain ⟨N, rfl⟩ := Int.eq_ofNat_of_zero_le (show 0 ≤ n by omega)
  obtain ⟨S, rfl⟩ := Int.eq_ofNat_of_zero_le hv.2.2.1
  obtain ⟨P, rfl⟩ := Int.eq_ofNat_of_zero_le (show 0 ≤ p by omega)
  obtain ⟨Q, rfl⟩ := Int.eq_ofNat_of_zero_le (show 0 ≤ q by omega)
  simp only [Int.toNat_natCast] at *
  have hd0 : 0 < d := by rcases d with _ | d <;> simp_all; omega
  have hdP : d ∣ P := ⟨Q, by rw [← hqd, Nat.mul_comm]⟩
  have hdle : d ≤ P := Nat.le_of_dvd (by omega) hdP
  have HV := Lib.hid hv
  have ht : Tic.Turn (d : Int) := ⟨by omega, by omega⟩
  have HV2 := Lib.hid (Tic.valid_shf hv (d : Int))
  have HF := Lib.hid (Tic.fac_shift (n := N) (p := P) (d := d) (by omega) (by omega) hd0 hdP (by omega) hpn S)
  have HE : Hid (eqAt (fun r => Tic.wnd S P r N) (fun r => Tic.wnd (Tic.shf N d S) P r N) (List.range 12) = Tic.fac N S P d) := Lib.hid (by
    rw [Bool.eq_iff_iff, eqAt_all]; exact HF.out)
  have hquo := quo_part (by omega) hqd (by omega)
  have hwr : IntKind.i64.wrap (d : Int) = (d : Int) := by rw [IntKind.wrap_i64]; omega
  have hQ0 : ¬ Q = 0 := by omega
  have hia := eql_arr (fun r => Tic.wnd S P r N) (fun r => Tic.wnd (Tic.shf N d S) P r N)
  rw [HE.out] at hia
  have hgu := eqGuard_arr
  clear hv hqd
  go_enter Try.func69, Try.ntmps69
  go_wp2
  have hk0 : Below (w.heap.size + 1) (w.alloc (.cells #[.int .i64 N, .int .i64 S] 45)) (w.alloc (.cells #[.int .i64 N, .int .i64 S] 45)) := Below.refl _ _
  obtain ⟨W, hW⟩ : ∃ W, W = w.alloc (.cells #[.int .i64 N, .int .i64 S] 45) := ⟨_, rfl⟩
  have c0 : W.cell? ⟨w.heap.size, 0, none⟩ = some (.int .i64 N) := by rw [hW]; go_simp
  have c1 : W.cell? ⟨w.heap.size, 1, none⟩ = some (.int .i64 S) := by rw [hW]; go_simp
  have hWs : W.heap.size = w.heap.size + 1 := by rw [hW]; simp
  have HB2 : Hid (Below w.heap.size w W) := by rw [hW]; exact Lib.hid ((Below.refl _ _).alloc (Nat.le_refl _) _)
  rw [← hW]
  clear hW hk0
  have hk0 : Below W.heap.size W W := Below.refl _ _
  have hz3 : w.heap.size < W.heap.size := by omega
  go_region_held3 (fun w' => w'.cell? ⟨w.heap.size, 0, none⟩ = some (.int .i64 N) ∧ w'.cell? ⟨w.heap.size, 1, none⟩ = some (.int .i64 S))
    (exact ⟨(hk0.cell hz3).trans c0, (hk0.cell hz3).trans c1⟩)
    (first
      | (go_at_call 48; (try rw [hwr]); refine (mshift_any _ _ _ _ HV.out ht).mono ?_; rintro e w3 ⟨rfl, hb⟩; replace hk0 : Below W.heap.size W w3 := (by first | exact grow1 hk0 hb | exact grow0 hk0 hb); clear hb)
      | (go_at_call_of 62 (Value.agg #[Value.int IntKind.i64 (N : Int), Value.int IntKind.i64 (S : Int)]); refine (wound_any _ _ _ _ HV.out (by omega) (by omega)).mono ?_; rintro e w3 ⟨rfl, hb⟩; replace hk0 : Below W.heap.size W w3 := (by first | exact grow1 hk0 hb | exact grow0 hk0 hb); clear hb)
      | (go_at_call 62; refine (wound_any _ _ _ _ HV2.out (by omega) (by omega)).mono ?_; rintro e w3 ⟨rfl, hb⟩; replace hk0 : Below W.heap.size W w3 := (by first | exact grow1 hk0 hb | exact grow0 hk0 hb); clear hb))
  all_goals
    have hb3 := HB2.out.trans (hk0.mono HB2.out.size)
    go_wp2
    go_ret
    exact ⟨rfl, hb3⟩
theorem cts_add {m i : Nat} (C C' : Nat → Nat) (b : Nat) (h : i < m) (hC : ∀ d, C' d = C d + if d = i then b else 0) : (Tic.cts m C).set i ((C i : Int) + (b : Int)) = Tic.cts m C' := by
  apply List.ext_getElem
  · simp [Tic.cts]
  · intro j h1 h2
    rw [List.getElem_set]
    simp only [Tic.cts, List.getElem_map, List.getElem_range]
    rw [hC j]
    by_cases e : i = j
    · subst e; simp
    · rw [if_neg e, if_neg (Ne.symm e)]; rfl
theorem Row.add {w : World} {B g m cap : Nat} {C C' : Nat → Nat} (h : Row w B (.slice (some ⟨g, 0, none⟩) m cap) (Tic.cts m C)) {i : Nat} (b : Nat) (hi : i < m) (hC : ∀ d, C' d = C d + if d = i then b else 0) :
    Row (w.setCell ⟨g, i, none⟩ (.int .i64 ((C i : Int) + (b : Int)))) B (.slice (some ⟨g, 0, none⟩) m cap) (Tic.cts m C') := by
  have := (Row.set (by rw [Tic.cts_length]; exact h) i ((C i : Int) + (b : Int))).1
  rw [Tic.cts_length, cts_add C C' b hi hC] at this
  exact this
theorem bitI_nat (s j : Nat) : Tic.bitI s j = ((Tic.b2 (s.testBit j) : Nat) : Int) := by
  unfold Tic.bitI Tic.b2; split <;> rfl
theorem wnd_add (s p k : Nat) (r : Nat) : Tic.wnd s p r (k + 1) = Tic.wnd s p r k + if r = k % p then Tic.b2 (s.testBit k) else 0 := by
  rw [Tic.wnd_next]
  by_cases e : r = k % p
  · subst e; simp
  · rw [if_neg e, beq_eq_false_iff_ne.2 (Ne.symm e), Bool.and_false]; rfl
theorem fac_no {n s p d x : Nat} (hx : x < p) (h : Tic.wnd s p x n ≠ Tic.wnd s p (x % d) n) : Tic.fac n s p d = false := by
  cases e : Tic.fac n s p d with
  | false => rfl
  | true => exact absurd ((Tic.fac_iff n s p d).1 e x hx) h
set_option maxRecDepth 20000 in
set_option maxHeartbeats 1000000 in
theorem divides_any (n s p : Int) (w : World) (hv : Tic.Valid n s) (hp : 2 ≤ p) (hp2 : p ≤ n) (hpw : Tic.pw p.toNat = true) :
    Calls Try.prog 71 #[.int .i64 n, .int .i64 s, .int .i64 p] w fun e w' => e = .returned (.bool (Tic.fac n.toNat s.toNat p.toNat (p.toNat / Tic.lp p.toNat))) ∧ Below w.heap.size w w' := by
  have hlt := hv.lt
  have g1 := hv.1
  have g2 := hv.2.1
  obtain ⟨N, rfl⟩ := Int.eq_ofNat_of_zero_le (show 0 ≤ n by omega)
  obtain ⟨S, rfl⟩ := Int.eq_ofNat_of_zero_le hv.2.2.1
  obtain ⟨P, rfl⟩ := Int.eq_ofNat_of_zero_le (show 0 ≤ p by omega)
  simp only [Int.toNat_natCast] at *
  obtain ⟨l1, l2, l3, l4, l5, l6⟩ := Tic.lp_spec (p := P) (by omega) (by omega)
  have HPO := Lib.hid (primeOf_any (P : Int) w hp (by omega))
  rw [Int.toNat_natCast, hpw] at HPO
  generalize Tic.lp P = Q at *
  obtain ⟨d, hd⟩ : ∃ d, d = P / Q := ⟨_, rfl⟩
  rw [← hd] at l4 l5 l6 ⊢
  have hquo := quo_part (by omega) l6 (by omega)
  have hdle : d ≤ P := Nat.le_of_dvd (by omega) l5
  clear hv hd l3 l5 l6
  go_enter Try.func71, Try.ntmps71
  go_wp2_with fail
  refine HPO.out.mono ?_; rintro e w1 ⟨rfl, rfl⟩
  rw [if_pos trivial]
  go_wp2_with (at_make; refine wpList_make_ints rfl _ _ rfl w.heap.size _ _ P rfl rfl ?c1 ?c2 ?c3 (Nat.le_refl _) ?_)
  case c1 => omega
  case c2 => omega
  case c3 => omega
  intro w2 hrow hb1
  have HR0 : Hid (Row w2 w.heap.size (.slice (some ⟨w.heap.size, 0, none⟩) P P) (Tic.cts P fun r => Tic.wnd S P r 0)) := Lib.hid hrow
  clear hrow HPO
  go_wp2
  go_loopw [9] (fun t9 wr => ∃ x : Nat, x ≤ N ∧ t9 = .int .i64 x ∧ Hid (Row wr w.heap.size (.slice (some ⟨w.heap.size, 0, none⟩) P P) (Tic.cts P fun r => Tic.wnd S P r x)) ∧ Below w.heap.size w wr) (fun t9 _ => N - (intOf t9).toNat)
  case atStart => exact ⟨0, Nat.zero_le _, rfl, HR0, hb1⟩
  case round =>
    clear HR0 hb1
    obtain ⟨x, hx, rfl, HR, hbel⟩ := hrel
    by_cases hltx : x < N
    · have hi2 : x % P < P := Nat.mod_lt _ (by omega)
      have hmm : ((x : Int)) % (P : Int) = ((x % P : Nat) : Int) := by rw [Int.natCast_emod]
      have htm : (x : Int).tmod (P : Int) = ((x % P : Nat) : Int) := by rw [Int.tmod_eq_emod_of_nonneg (by omega), hmm]
      have hP0 : ¬ P = 0 := by omega
      have hsh := HR.out.shape
      have hc := hsh.2.2.2.1 (x % P) hi2
      have hf := hsh.2.2.2.2 (x % P)
      rw [Tic.cts_getD _ hi2] at hc
      have hcl := Tic.wnd_le S P (x % P) x
      have HP := Lib.hid (HR.out.add (C' := fun r => Tic.wnd S P r (x + 1)) (Tic.b2 (S.testBit x)) hi2 (wnd_add S P x))
      have hbl := Tic.b2_le (S.testBit x)
      clear hsh
      have HBI := Lib.hid (fun w' => bit_any (S : Int) (x : Int) w' (by omega) (by omega) (by omega) (by omega))
      simp only [Int.toNat_natCast, bitI_nat] at HBI
      generalize Tic.b2 (S.testBit x) = bv at HBI HP hbl
      generalize Tic.wnd S P (x % P) x = ct at hc hcl HP
      generalize x % P = q at hc hf hi2 HP hmm htm
      go_wp2
      refine wp_region_still_tail 15 (by kernel_rfl) (by kernel_rfl) ?_
      simp only [List.take_succ_cons, List.take_zero, List.drop_succ_cons, List.drop_zero]
      still_step
      still_step
      still_step
      still_step
      still_step
      still_step
      still_step
      still_step
      still_step
      still_step
      still_step
      still_step
      still_call (still_of (HBI.out _))
      still_step
      still_step
      refine wpStill_nil ?_
      change wpList _ _ _ _ _ wr.drew
      go_wp2
      go_roundw
      case rel => exact ⟨x + 1, by omega, by go_num, HP, (hbel.setCell (Nat.le_refl _) _).drew⟩
      case measure => simp [intOf]; omega
    · obtain rfl : x = N := by omega
      go_wp2
      obtain ⟨wo, rfl⟩ : ∃ wo : World, wo = wr := ⟨_, rfl⟩
      go_loopw [10] (fun t10 wr => ∃ y : Nat, y ≤ P ∧ t10 = .int .i64 y ∧ Hid (∀ r, r < y → Tic.wnd S P r x = Tic.wnd S P (r % d) x) ∧ Hid (Row wr w.heap.size (.slice (some ⟨w.heap.size, 0, none⟩) P P) (Tic.cts P fun r => Tic.wnd S P r x)) ∧ Below w.heap.size w wr) (fun t10 _ => P - (intOf t10).toNat)
      case atStart => exact ⟨0, Nat.zero_le _, rfl, Lib.hid (fun r hr => by omega), HR, hbel⟩
      case round =>
        clear HR hbel
        obtain ⟨y, hy, rfl, HA, HR, hbel⟩ := hrel
        by_cases hlty : y < P
        · have hi2 : y % d < P := by have := Nat.mod_lt y (y := d) (by omega); omega
          have hmm : ((y : Int)) % (d : Int) = ((y % d : Nat) : Int) := by rw [Int.natCast_emod]
          have htm : (y : Int).tmod (d : Int) = ((y % d : Nat) : Int) := by rw [Int.tmod_eq_emod_of_nonneg (by omega), hmm]
          have htd : (P : Int).tdiv (Q : Int) = (d : Int) := by rw [Int.tdiv_eq_ediv_of_nonneg (by omega), hquo]
          have hd0 : ¬ d = 0 := by omega
          have hQ0 : ¬ Q = 0 := by omega
          have hwr : IntKind.i64.wrap ((P : Int) / (Q : Int)) = (d : Int) := by rw [hquo, IntKind.wrap_i64]; omega
          have hsh := HR.out.shape
          have hc1 := hsh.2.2.2.1 (y % d) hi2
          have hc2 := hsh.2.2.2.1 y hlty
          rw [Tic.cts_getD _ hi2] at hc1
          rw [Tic.cts_getD _ hlty] at hc2
          have hy0 : (0 : Int) ≤ (y : Int) := by omega
          have hy1 : (y : Int) < (P : Int) := by omega
          have hm0 : (0 : Int) ≤ ((y % d : Nat) : Int) := by omega
          have hm1 : ((y % d : Nat) : Int) < (P : Int) := by omega
          clear hsh
          by_cases he : Tic.wnd S P y x = Tic.wnd S P (y % d) x
          · have HA2 : Hid (∀ r, r < y + 1 → Tic.wnd S P r x = Tic.wnd S P (r % d) x) := Lib.hid (fun r hr => by
              by_cases e : r = y
              · subst e; exact he
              · exact HA.out r (by omega))
            rw [he] at hc2
            clear he
            have hcl := Tic.wnd_le S P (y % d) x
            generalize Tic.wnd S P (y % d) x = ct at hc1 hc2 hcl
            generalize y % d = q at *
            go_wp2
            go_region
            all_goals
              go_wp2
              go_roundw
              case rel => exact ⟨y + 1, by omega, by go_num, HA2, HR, hbel.drew⟩
              case measure => simp [intOf]; omega
          · have HE := Lib.hid (fac_no (n := x) (d := d) hlty he)
            have he2 : ¬ ((Tic.wnd S P y x : Nat) : Int) = ((Tic.wnd S P (y % d) x : Nat) : Int) := by omega
            generalize ((Tic.wnd S P (y % d) x : Nat) : Int) = c1 at hc1 he2
            generalize ((Tic.wnd S P y x : Nat) : Int) = c2 at hc2 he2
            generalize y % d = q at *
            clear he
            have he3 : (c2 != c1) = true := by simpa using he2
            have he4 : (c2 == c1) = false := by simpa using he2
            go_wp2
            go_region
            all_goals
              go_wp2
              go_ret
              exact ⟨ret_bool HE.out.symm, hbel.drew⟩
        · obtain rfl : y = P := by omega
          have HE : Hid (Tic.fac x S y d = true) := Lib.hid ((Tic.fac_iff x S y d).2 HA.out)
          go_wp2
          go_ret
          exact ⟨ret_bool HE.out.symm, hbel⟩
end Go.Proofs.Ytgpbgbcdlebaiaa
