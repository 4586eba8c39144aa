/-
  Contract of the program's goBack: the voice that begins last is taken back.
-/
import Derived.Test.YtgpbgbcdlebaiaaSearch2
import Derived.Test.YtgpbgbcdlebaiaaWithout
import Derived.Test.YtgpbgbcdlebaiaaShelves
import Derived.Lib.ItoaNum
namespace Go.Proofs.Ytgpbgbcdlebaiaa
open Go.RowKit Go.Maps
set_option linter.unusedVariables false

theorem nd_last {T l : Nat} (h : T < 2 ^ (l + 1)) : Tic.nd T (2 ^ l) = T % 2 ^ l := by
  apply Nat.eq_of_testBit_eq
  intro i
  rw [Tic.nd_bit, Nat.testBit_mod_two_pow, Nat.testBit_two_pow]
  by_cases h1 : i < l
  · simp [h1]; omega
  · by_cases h2 : l = i
    · subst h2; simp
    · rw [Tic.bit_big h (by omega)]; simp
theorem bitLen_last {T l : Nat} (h : T < 2 ^ (l + 1)) (hb : T.testBit l = true) (hl : l < 12) : Lib.bitLen T = l + 1 := by
  have h1 : 2 ^ l ≤ T := Nat.ge_two_pow_of_testBit hb
  have h3 : 2 ^ (l + 1) ≤ 2 ^ 12 := Nat.pow_le_pow_right (by omega) (by omega)
  have h4 := Nat.two_pow_pos l
  have h2 := Lib.bitLenAux_bounds 64 T (by omega) (by omega)
  have e : Lib.bitLen T = Lib.bitLenAux 64 T := rfl
  rw [← e] at h2
  have a1 : Lib.bitLen T ≤ l + 1 := by
    rcases Nat.lt_or_ge (l + 1) (Lib.bitLen T) with g | g
    · have := Nat.pow_le_pow_right (n := 2) (by omega) (show l + 1 ≤ Lib.bitLen T - 1 by omega)
      omega
    · exact g
  have a2 : l + 1 ≤ Lib.bitLen T := by
    rcases Nat.lt_or_ge (Lib.bitLen T) (l + 1) with g | g
    · have := Nat.pow_le_pow_right (n := 2) (by omega) (show Lib.bitLen T ≤ l by omega)
      omega
    · exact g
  omega
theorem bitsLen_any (T l : Nat) (w : World) (h : T < 2 ^ (l + 1)) (hb : T.testBit l = true) (hl : l < 12) :
    Calls Try.prog 95 #[.int .u64 T] w fun e w' => e = .returned (.int .i64 ((l + 1 : Nat) : Int)) ∧ w = w' := by
  have h3 : 2 ^ (l + 1) ≤ 2 ^ 12 := Nat.pow_le_pow_right (by omega) (by omega)
  have HL := Lib.hid (bitLen_last h hb hl)
  have hT : T < 4096 := by omega
  clear h hb h3
  go_enter Try.func95, Try.ntmps95
  go_wp2_with fail
  refine (Try.bits_Len64 _ _ (by omega) (by omega)).mono ?_; rintro e w1 ⟨rfl, rfl⟩
  rw [Int.toNat_natCast, HL.out]
  go_wp2_with fail
  go_ret
  exact ⟨rfl, rfl⟩
theorem u64_small2 {P : Nat} (h : P < 4096) : IntKind.u64.wrap (P : Int) = P := by rw [IntKind.wrap_u64]; omega
set_option maxRecDepth 20000 in
set_option maxHeartbeats 800000 in
theorem goBack_any (p b N A T l : Nat) (q : Nat → Bool) (w : World) (hv : Tic.Valid N A) (hl : l < N) (hT : T < 2 ^ (l + 1)) (hbt : T.testBit l = true) (hS : Srch w p b N A T q) :
    Calls Try.prog 87 #[.pointer (some ⟨p, 0, none⟩)] w fun e w' => e = .returned (.int .i64 (l : Int)) ∧ Srch w' p b N A (T % 2 ^ l) (fun t => q t || (Tic.shf N l A).testBit t) ∧ Keeps w w' p b := by
  have HS := Lib.hid hS
  have HV := Lib.hid hv
  have hnd := nd_last hT
  obtain ⟨U, hU⟩ : ∃ U, U = T % 2 ^ l := ⟨_, rfl⟩
  rw [← hU] at hnd ⊢
  have g1 := hv.1
  have g2 := hv.2.1
  have h3 : 2 ^ (l + 1) ≤ 2 ^ 12 := Nat.pow_le_pow_right (by omega) (by omega)
  have hT2 : T < 4096 := by omega
  have HND := Lib.hid hnd
  clear hnd hU
  have HBL := Lib.hid (fun w => bitsLen_any T l w hT hbt (by omega))
  obtain ⟨⟨c0, c1, c2, c3, c4, f2, f3⟩, hp, hne, hm⟩ := hS
  have ht : Tic.Turn (l : Int) := ⟨by omega, by omega⟩
  clear hv hm hT hbt h3
  go_enter Try.func87, Try.ntmps87
  go_wp2_with fail
  refine (HBL.out _).mono ?_; rintro e w1 ⟨rfl, rfl⟩
  go_wp2_with fail
  refine (without_any _ _ _ _ (by omega) (by omega)).mono ?_; rintro e w1 ⟨rfl, hb1⟩
  rw [HND.out]
  have HS1 := Lib.hid (HS.out.kept hb1)
  have HK1 := Lib.hid (Keeps.of_below hb1 p b)
  clear hb1 c0 c1 c2 c3 c4 f2 f3 HS
  obtain ⟨⟨c0, c1, c2, c3, c4, f2, f3⟩, hp1, _, _⟩ := HS1.out
  have HS2 := Lib.hid (HS1.out.store U)
  have HK2 := Lib.hid (HK1.out.trans ((Keeps.cell w1 p 2 (.int .i64 N) b).trans (Keeps.cell _ p 3 (.int .i64 ((U : Nat) : Int)) b)))
  have d0 := HS2.out.1.1
  have d1 := HS2.out.1.2.1
  clear c0 c1 c4
  go_wp2_with fail
  refine (mshift_any _ _ _ _ HV.out ht).mono ?_; rintro e w2 ⟨rfl, hb2⟩
  go_wp2_with fail
  refine (list_any _ _ _ (Tic.valid_shf HV.out (l : Int))).mono ?_; rintro e w3 ⟨v, rfl, hr, hb3⟩
  simp only [Int.toNat_natCast] at hr
  have hb4 := hb2.trans (hb3.mono hb2.size)
  have HS3 := Lib.hid (HS2.out.kept hb4)
  have HK3 := Lib.hid (HK2.out.trans (Keeps.of_below hb4 p b))
  have hsz : p < w2.heap.size ∧ b < w2.heap.size := ⟨Nat.lt_of_lt_of_le HS2.out.2.1 hb2.size, Nat.lt_of_lt_of_le HS2.out.2.2.2.lt hb2.size⟩
  have HR := Lib.hid hr
  clear hb2 hb3 hb4 hr d0 d1 c2 c3 f2 f3 HS2 HK2 HS1 HK1 hp1
  obtain ⟨a, c, rfl, hvw⟩ := HR.out.view
  have hll : (tonesTo (Tic.shf N l A) N).length ≤ 12 := by have := tonesTo_le (Tic.shf N l A) N; omega
  have HEL := Lib.hid (fun i hi => tonesTo_el (S := Tic.shf N l A) (N := N) (i := i) hi)
  have HON := Lib.hid (fun t (ht : t < N) => onL_tones (S := Tic.shf N l A) ht)
  generalize tonesTo (Tic.shf N l A) N = L at HR hvw hll HEL HON ⊢
  clear hvw
  go_wp2
  go_loopw [5, 31] (fun t5 t31 wr => ∃ i : Nat, i ≤ L.length ∧ t31 = .int .i64 i ∧ Hid (Srch wr p b N A U (fun t => q t || onL (L.take i) t)) ∧
      Hid (Row wr w2.heap.size (.slice a L.length c) L) ∧ Hid (Keeps w wr p b)) (fun _ t31 _ => L.length - (intOf t31).toNat)
  case atStart => exact ⟨0, Nat.zero_le _, rfl, Lib.hid (HS3.out.congr fun t _ => by simp [onL]), HR, HK3⟩
  case round =>
    clear HS3 HR HK3
    obtain ⟨i, hi, rfl, HS, HR, HK⟩ := hrel
    by_cases hli : i < L.length
    · obtain ⟨y, hy, hyb, hyv⟩ := HEL.out i hli
      obtain ⟨a', c', e, hvw⟩ := HR.out.view
      injection e with e1 _ e2
      subst e1 e2
      obtain ⟨g, rfl, hg1, hg2, hcel⟩ := hvw (by omega)
      have hcl := hcel i hli
      rw [hyv] at hcl
      have c4 := HS.out.1.2.2.2.2.1
      have HYV := Lib.hid hyv
      clear hcel hvw hyb hyv
      go_wp2_with (at_mapUpdate; refine wpList_put_time rfl _ _ rfl rfl rfl HS.out.2.2.2 hy (by omega) ?_; intro w4 hm4 hg4)
      have HS4 : Hid (Srch w4 p b N A U (fun t => q t || onL (L.take (i + 1)) t)) := Lib.hid (HS.out.turned hg4 (hm4.congr fun t _ => by
        rw [onL_next hli HYV.out]
        by_cases e : t = y
        · subst e; simp
        · simp [e]))
      have HK4 := Lib.hid (HK.out.trans (Keeps.map hg4 p))
      have HR4 := Lib.hid ((Keeps.map hg4 p).row HR.out (by intro e; injection e with e; have h9 : g = p := e; omega) (by intro e; injection e with e; have h9 : g = b := e; omega))
      clear hm4 hg4 HS HR HK
      go_roundw
      case rel => exact ⟨i + 1, by omega, by go_num, HS4, HR4, HK4⟩
      case measure => simp [intOf]; omega
    · obtain rfl : i = L.length := by omega
      have HF := Lib.hid (HS.out.congr (q' := fun t => q t || (Tic.shf N l A).testBit t) fun t ht => by rw [List.take_length, HON.out t ht])
      go_wp2
      go_ret
      exact ⟨rfl, HF.out, HK.out⟩
end Go.Proofs.Ytgpbgbcdlebaiaa
