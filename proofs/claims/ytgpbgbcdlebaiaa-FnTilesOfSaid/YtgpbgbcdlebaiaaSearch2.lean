/-
  Contracts of the program's search: newSearch, fits, begin.
-/
import Derived.Test.YtgpbgbcdlebaiaaSearch
namespace Go.Proofs.Ytgpbgbcdlebaiaa
open Go.RowKit Go.Maps
set_option linter.unusedVariables false

theorem mem_tones (S : Nat) (y : Int) : ∀ k, y ∈ tonesTo S k ↔ ∃ x, x < k ∧ S.testBit x = true ∧ y = (x : Int)
  | 0 => by simp [tonesTo]
  | k + 1 => by
    have ih := mem_tones S y k
    cases h : S.testBit k with
    | false =>
      rw [tonesTo_no h, ih]
      constructor
      · rintro ⟨x, hx, h1⟩; exact ⟨x, by omega, h1⟩
      · rintro ⟨x, hx, h1, h2⟩
        by_cases e : x = k
        · subst e; rw [h] at h1; cases h1
        · exact ⟨x, by omega, h1, h2⟩
    | true =>
      rw [tonesTo_yes h, List.mem_append, ih, List.mem_singleton]
      constructor
      · rintro (⟨x, hx, h1⟩ | h1)
        · exact ⟨x, by omega, h1⟩
        · exact ⟨k, by omega, h, h1⟩
      · rintro ⟨x, hx, h1, h2⟩
        by_cases e : x = k
        · subst e; exact .inr h2
        · exact .inl ⟨x, by omega, h1, h2⟩
/-- is the time on the list -/
def onL (L : List Int) (t : Nat) : Bool := L.any fun z => z == (t : Int)
theorem onL_next {L : List Int} {i y : Nat} (h : i < L.length) (hy : L.getD i 0 = (y : Int)) (t : Nat) : onL (L.take (i + 1)) t = (onL (L.take i) t || decide (t = y)) := by
  unfold onL
  rw [List.take_succ_eq_append_getElem h, List.any_append]
  have : L[i] = (y : Int) := by rw [← hy]; simp [List.getD_eq_getElem?_getD, List.getElem?_eq_getElem h]
  rw [this]
  congr 1
  by_cases e : t = y
  · subst e; simp
  · simp [e]; omega
theorem onL_tones {S N t : Nat} (ht : t < N) : onL (tonesTo S N) t = S.testBit t := by
  rw [Bool.eq_iff_iff]
  unfold onL
  rw [List.any_eq_true]
  constructor
  · rintro ⟨y, hy, e⟩
    obtain ⟨x, _, h1, rfl⟩ := (mem_tones S y N).1 hy
    rw [beq_iff_eq] at e
    have : x = t := by omega
    subst this; exact h1
  · intro h
    exact ⟨(t : Int), (mem_tones S _ N).2 ⟨t, ht, h, rfl⟩, by simp⟩
/-- a voice that begins at x has only times with q -/
def fitB (n a x : Nat) (q : Nat → Bool) : Bool := (List.range n).all fun t => !(Tic.shf n x a).testBit t || q t
theorem fitB_iff (n a x : Nat) (q : Nat → Bool) : fitB n a x q = true ↔ ∀ t, t < n → (Tic.shf n x a).testBit t = true → q t = true := by
  unfold fitB
  rw [List.all_eq_true]
  constructor
  · intro h t ht h1
    have := h t (List.mem_range.2 ht)
    rw [h1] at this; simpa using this
  · intro h t ht
    have := h t (List.mem_range.1 ht)
    cases e : (Tic.shf n x a).testBit t with
    | false => rfl
    | true => rw [this e]; rfl
theorem fitB_no {n a x t : Nat} {q : Nat → Bool} (ht : t < n) (h1 : (Tic.shf n x a).testBit t = true) (h2 : q t = false) : fitB n a x q = false := by
  cases e : fitB n a x q with
  | false => rfl
  | true => rw [(fitB_iff n a x q).1 e t ht h1] at h2; cases h2

set_option maxRecDepth 20000 in
set_option maxHeartbeats 400000 in
theorem newSearch_any (N A : Nat) (w : World) (h2 : N ≤ 12) :
    Calls Try.prog 84 #[.agg #[.int .i64 N, .int .i64 A]] w fun e w' => ∃ p b, e = .returned (.pointer (some ⟨p, 0, none⟩)) ∧ w.heap.size ≤ p ∧ w.heap.size ≤ b ∧ Srch w' p b N A 0 (fun _ => true) ∧ Below w.heap.size w w' := by
  have hmm := @run_makeMap Try.prog
  go_enter Try.func84, Try.ntmps84
  go_wp2
  clear hmm
  go_loopw [4, 8] (fun t4 t8 wr => ∃ k : Nat, k ≤ N ∧ t8 = .int .i64 k ∧ Hid (MS wr (w.heap.size + 1) N (fun t => decide (t < k))) ∧
      wr.cell? ⟨w.heap.size, 0, none⟩ = some (.int .i64 N) ∧ wr.cell? ⟨w.heap.size, 1, none⟩ = some (.int .i64 A) ∧ w.heap.size < wr.heap.size ∧ Below w.heap.size w wr) (fun _ t8 _ => N - (intOf t8).toNat)
  case atStart =>
    refine ⟨0, Nat.zero_le _, rfl, Lib.hid ?_, ?_, ?_, ?_, ?_⟩
    · have := MS.made (w.alloc (.cells #[.int .i64 N, .int .i64 A] 45)) N
      rw [World.size_alloc] at this
      exact this.congr fun t _ => by simp
    all_goals first | exact ((Below.refl _ _).alloc (Nat.le_refl _) _).alloc (by simp) _ | go_simp
  case round =>
    obtain ⟨k, hk, rfl, HM, c0, c1, hz, hbel⟩ := hrel
    by_cases hlt2 : k < N
    · go_wp2_with (at_mapUpdate; refine wpList_put_time rfl _ _ rfl rfl rfl HM.out hlt2 (by omega) ?_; intro w2 hm2 hg2)
      have e0 : w2.cell? ⟨w.heap.size, 0, none⟩ = some (.int .i64 N) := by unfold World.cell?; rw [hg2.block _ hz (by simp)]; exact c0
      have e1 : w2.cell? ⟨w.heap.size, 1, none⟩ = some (.int .i64 A) := by unfold World.cell?; rw [hg2.block _ hz (by simp)]; exact c1
      have hz2 := hg2.size
      have hbel2 := hbel.grown hg2 (by omega) (fun j hj => by cases hj; omega)
      have HM2 : Hid (MS w2 (w.heap.size + 1) N (fun t => decide (t < k + 1))) := Lib.hid (hm2.congr fun t _ => by
        by_cases e : t = k
        · subst e; simp
        · rw [if_neg e]; exact decide_eq_decide.2 (by omega))
      clear hm2 hg2 HM
      go_roundw
      case rel => exact ⟨k + 1, by omega, by go_num, HM2, e0, e1, by omega, hbel2⟩
      case measure => simp [intOf]; omega
    · obtain rfl : k = N := by omega
      have hzz := HM.out.lt
      go_wp2
      go_ret
      have hb3 : Below wr.heap.size wr (wr.alloc (.cells #[.int .i64 k, .int .i64 A, .int .i64 k, .int .i64 0, .map (some (w.heap.size + 1))] 71)) := (Below.refl _ _).alloc (Nat.le_refl _) _
      refine ⟨wr.heap.size, w.heap.size + 1, rfl, by omega, by omega, ⟨⟨?_, ?_, ?_, ?_, ?_, ?_, ?_⟩, by simp, by omega, (HM.out.congr fun t ht => by simp [ht]).kept hb3⟩, hbel.trans (hb3.mono (by omega))⟩
      all_goals go_simp
set_option maxRecDepth 20000 in
set_option maxHeartbeats 800000 in
theorem fits_any (p b N A T x : Nat) (q : Nat → Bool) (w : World) (hv : Tic.Valid N A) (hx : x < N) (hS : Srch w p b N A T q) :
    Calls Try.prog 85 #[.pointer (some ⟨p, 0, none⟩), .int .i64 x] w fun e w' => e = .returned (.bool (fitB N A x q)) ∧ Below w.heap.size w w' := by
  have HS := Lib.hid hS
  have HV := Lib.hid hv
  have g1 := hv.1
  have g2 := hv.2.1
  obtain ⟨⟨c0, c1, c2, c3, c4, f2, f3⟩, hp, hne, hm⟩ := hS
  have ht : Tic.Turn (x : Int) := ⟨by omega, by omega⟩
  clear hv c2 c3 f2 f3 hm
  go_enter Try.func85, Try.ntmps85
  go_wp2_with fail
  refine (mshift_any _ _ _ _ HV.out ht).mono ?_; rintro e w1 ⟨rfl, hb1⟩
  go_wp2_with fail
  refine (list_any _ _ _ (Tic.valid_shf HV.out (x : Int))).mono ?_; rintro e w2 ⟨v, rfl, hr, hb2⟩
  simp only [Int.toNat_natCast] at hr
  have hb : Below w.heap.size w w2 := hb1.trans (hb2.mono hb1.size)
  have HR := Lib.hid (hr.mono (B' := w.heap.size) hb1.size)
  have HB := Lib.hid hb
  have HS2 := Lib.hid (HS.out.kept hb)
  clear hb1 hb2 hr hb c0 c1 c4
  obtain ⟨a, c, rfl, hvw⟩ := HR.out.view
  have hll : (tonesTo (Tic.shf N x A) N).length ≤ 12 := by have := tonesTo_le (Tic.shf N x A) N; omega
  have HEL := Lib.hid (fun i hi => tonesTo_el (S := Tic.shf N x A) (N := N) (i := i) hi)
  have HON := Lib.hid (fun t (ht : t < N) => onL_tones (S := Tic.shf N x A) ht)
  generalize tonesTo (Tic.shf N x A) N = L at HR hvw hll HEL HON ⊢
  clear hvw
  go_wp2
  go_loopw [6, 15] (fun t6 t15 wr => ∃ i : Nat, i ≤ L.length ∧ t15 = .int .i64 i ∧ Hid (∀ t, onL (L.take i) t = true → q t = true) ∧
      Hid (Srch wr p b N A T q) ∧ Hid (Row wr w.heap.size (.slice a L.length c) L) ∧ Hid (Below w.heap.size w wr)) (fun _ t15 _ => L.length - (intOf t15).toNat)
  case atStart => exact ⟨0, Nat.zero_le _, rfl, Lib.hid (fun t h => by simp [onL] at h), HS2, HR, HB⟩
  case round =>
    clear HS2 HR HB
    obtain ⟨i, hi, rfl, HQ, HS2, HR, HB⟩ := hrel
    by_cases hli : i < L.length
    · obtain ⟨y, hy, hyb, hyv⟩ := HEL.out i hli
      obtain ⟨a', c', e, hvw⟩ := HR.out.view
      injection e with e1 _ e2
      subst e1 e2
      obtain ⟨g, rfl, hg1, hg2, hcel⟩ := hvw (by omega)
      have hcl := hcel i hli
      rw [hyv] at hcl
      have hlook := HS2.out.2.2.2.look hy (by omega)
      have c4 := HS2.out.1.2.2.2.2.1
      have HYB := Lib.hid hyb
      have HYV := Lib.hid hyv
      clear hcel hvw hyb hyv
      cases hq : q y with
      | false =>
        rw [hq] at hlook
        have HF := Lib.hid (fitB_no (q := q) hy HYB.out hq)
        clear hq
        go_wp2
        go_ret
        exact ⟨ret_bool HF.out.symm, HB.out⟩
      | true =>
        rw [hq] at hlook
        have HQ2 : Hid (∀ t, onL (L.take (i + 1)) t = true → q t = true) := Lib.hid (fun t h => by
          rw [onL_next hli HYV.out, Bool.or_eq_true] at h
          rcases h with h | h
          · exact HQ.out t h
          · have := of_decide_eq_true h; subst this; exact hq)
        clear hq
        go_wp2
        go_roundw
        case rel => exact ⟨i + 1, by omega, by go_num, HQ2, HS2, HR, HB⟩
        case measure => simp [intOf]; omega
    · obtain rfl : i = L.length := by omega
      have HF : Hid (fitB N A x q = true) := Lib.hid ((fitB_iff N A x q).2 fun t ht h1 => HQ.out t (by rw [List.take_length, HON.out t ht]; exact h1))
      go_wp2
      go_ret
      exact ⟨ret_bool HF.out.symm, HB.out⟩
theorem Srch.store {w : World} {p b N A T : Nat} {q : Nat → Bool} (h : Srch w p b N A T q) (T' : Nat) : Srch ((w.setCell ⟨p, 2, none⟩ (.int .i64 N)).setCell ⟨p, 3, none⟩ (.int .i64 T')) p b N A T' q := by
  obtain ⟨⟨c0, c1, c2, c3, c4, f2, f3⟩, hp, hne, hm⟩ := h
  refine ⟨⟨?_, ?_, ?_, ?_, ?_, ?_, ?_⟩, by simpa using hp, hne, (hm.setCell (by simpa using Ne.symm hne) _).setCell (by simpa using Ne.symm hne) _⟩
  · rw [World.cell?_setCell_other _ _ _ _ (by simp), World.cell?_setCell_other _ _ _ _ (by simp)]; exact c0
  · rw [World.cell?_setCell_other _ _ _ _ (by simp), World.cell?_setCell_other _ _ _ _ (by simp)]; exact c1
  · rw [World.cell?_setCell_other _ _ _ _ (by simp)]; exact World.cell?_setCell_same _ _ _ c2
  · exact World.cell?_setCell_same _ _ _ (u := .int .i64 T) (by rw [World.cell?_setCell_other _ _ _ _ (by simp)]; exact c3)
  · rw [World.cell?_setCell_other _ _ _ _ (by simp), World.cell?_setCell_other _ _ _ _ (by simp)]; exact c4
  · simpa using f2
  · simpa using f3
set_option maxRecDepth 20000 in
set_option maxHeartbeats 800000 in
theorem begin_any (p b N A T x : Nat) (q : Nat → Bool) (w : World) (hv : Tic.Valid N A) (hx : x < N) (hT : T < 2 ^ N) (hS : Srch w p b N A T q) :
    Calls Try.prog 86 #[.pointer (some ⟨p, 0, none⟩), .int .i64 x] w fun e w' => e = .returned (.tuple #[]) ∧ Srch w' p b N A (T ||| 2 ^ x) (fun t => q t && !(Tic.shf N x A).testBit t) ∧ Keeps w w' p b := by
  have HS := Lib.hid hS
  have HV := Lib.hid hv
  have g1 := hv.1
  have g2 := hv.2.1
  have hT2 := Tic.pow_le_12 g2
  rw [Int.toNat_natCast] at hT2
  obtain ⟨⟨c0, c1, c2, c3, c4, f2, f3⟩, hp, hne, hm⟩ := hS
  have ht : Tic.Turn (x : Int) := ⟨by omega, by omega⟩
  have HX : Hid (((x : Int) % (N : Int)).toNat = x) := Lib.hid (by rw [Int.emod_eq_of_lt (by omega) (by omega)]; rfl)
  clear hv hm
  go_enter Try.func86, Try.ntmps86
  go_wp2_with fail
  refine (with_any _ _ _ _ (by omega) (by omega) (by omega) (by omega) (by omega) (by omega)).mono ?_; rintro e w1 ⟨rfl, hb1⟩
  rw [Int.toNat_natCast, HX.out]
  have HS1 := Lib.hid (HS.out.kept hb1)
  have HK1 := Lib.hid (Keeps.of_below hb1 p b)
  clear hb1 c0 c1 c2 c3 c4 f2 f3 HS
  obtain ⟨⟨c0, c1, c2, c3, c4, f2, f3⟩, hp1, _, _⟩ := HS1.out
  have HS2 := Lib.hid (HS1.out.store (T ||| 2 ^ x))
  have HK2 := Lib.hid (HK1.out.trans ((Keeps.cell w1 p 2 (.int .i64 N) b).trans (Keeps.cell _ p 3 (.int .i64 ((T ||| 2 ^ x : Nat) : Int)) b)))
  have d0 := HS2.out.1.1
  have d1 := HS2.out.1.2.1
  clear c0 c1 c4
  go_wp2_with fail
  refine (mshift_any _ _ _ _ HV.out ht).mono ?_; rintro e w2 ⟨rfl, hb2⟩
  go_wp2_with fail
  refine (list_any _ _ _ (Tic.valid_shf HV.out (x : Int))).mono ?_; rintro e w3 ⟨v, rfl, hr, hb3⟩
  simp only [Int.toNat_natCast] at hr
  have hb4 := hb2.trans (hb3.mono hb2.size)
  have HS3 := Lib.hid (HS2.out.kept hb4)
  have HK3 := Lib.hid (HK2.out.trans (Keeps.of_below hb4 p b))
  have hsz : p < w2.heap.size ∧ b < w2.heap.size := ⟨Nat.lt_of_lt_of_le HS2.out.2.1 hb2.size, Nat.lt_of_lt_of_le HS2.out.2.2.2.lt hb2.size⟩
  have hlt := Lib.hid (fun k hk => (hr.lt k hk).1)
  have HR := Lib.hid hr
  clear hb2 hb3 hb4 hr d0 d1 c2 c3 f2 f3 HS2 HK2 HS1 HK1 hp1
  obtain ⟨a, c, rfl, hvw⟩ := HR.out.view
  have hll : (tonesTo (Tic.shf N x A) N).length ≤ 12 := by have := tonesTo_le (Tic.shf N x A) N; omega
  have HEL := Lib.hid (fun i hi => tonesTo_el (S := Tic.shf N x A) (N := N) (i := i) hi)
  have HON := Lib.hid (fun t (ht : t < N) => onL_tones (S := Tic.shf N x A) ht)
  generalize tonesTo (Tic.shf N x A) N = L at HR hvw hll HEL HON ⊢
  clear hvw
  go_wp2
  go_loopw [5, 23] (fun t5 t23 wr => ∃ i : Nat, i ≤ L.length ∧ t23 = .int .i64 i ∧ Hid (Srch wr p b N A (T ||| 2 ^ x) (fun t => q t && !onL (L.take i) t)) ∧
      Hid (Row wr w2.heap.size (.slice a L.length c) L) ∧ Hid (Keeps w wr p b)) (fun _ t23 _ => L.length - (intOf t23).toNat)
  case atStart => exact ⟨0, Nat.zero_le _, rfl, Lib.hid (HS3.out.congr fun t _ => by simp [onL]), HR, HK3⟩
  case round =>
    clear HS3 HR HK3
    obtain ⟨i, hi, rfl, HS, HR, HK⟩ := hrel
    by_cases hli : i < L.length
    · obtain ⟨y, hy, hyb, hyv⟩ := HEL.out i hli
      obtain ⟨a', c', e, hvw⟩ := HR.out.view
      injection e with e1 _ e2
      subst e1 e2
      obtain ⟨g, rfl, hg1, hg2, hcel⟩ := hvw (by omega)
      have hcl := hcel i hli
      rw [hyv] at hcl
      have c4 := HS.out.1.2.2.2.2.1
      have HYV := Lib.hid hyv
      clear hcel hvw hyb hyv
      go_wp2_with (at_delete; refine wpList_drop_time rfl _ _ rfl rfl rfl HS.out.2.2.2 hy (by omega) ?_; intro w4 hm4 hg4)
      have HS4 : Hid (Srch w4 p b N A (T ||| 2 ^ x) (fun t => q t && !onL (L.take (i + 1)) t)) := Lib.hid (HS.out.turned hg4 (hm4.congr fun t _ => by
        rw [onL_next hli HYV.out]
        by_cases e : t = y
        · subst e; simp
        · simp [e]))
      have HK4 := Lib.hid (HK.out.trans (Keeps.map hg4 p))
      have HR4 := Lib.hid ((Keeps.map hg4 p).row HR.out (by intro e; injection e with e; have h9 : g = p := e; omega) (by intro e; injection e with e; have h9 : g = b := e; omega))
      clear hm4 hg4 HS HR HK
      go_roundw
      case rel => exact ⟨i + 1, by omega, by go_num, HS4, HR4, HK4⟩
      case measure => simp [intOf]; omega
    · obtain rfl : i = L.length := by omega
      have HF := Lib.hid (HS.out.congr (q' := fun t => q t && !(Tic.shf N x A).testBit t) fun t ht => by rw [List.take_length, HON.out t ht])
      go_wp2
      refine bodyPost_end (results_none rfl _ _ _) rfl ?_
      exact ⟨rfl, HF.out, HK.out⟩
end Go.Proofs.Ytgpbgbcdlebaiaa
