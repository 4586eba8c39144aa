/-
  The model's beats.
-/
import Derived.Test.YtahpjfdecjfpcaaJoined
import Derived.Test.YtahpjfdecjfpcaaDraw
namespace Go.Proofs.Ytahpjfdecjfpcaa
open Go.RowKit
set_option linter.unusedVariables false

theorem wpList_append_row {ops : Array Oper} {rest : List Oper} {o : Oper} {a : Act} {Q : Exit → Act → World → Prop} {w : World} (hgd : o.guard = none) (s x : Operand)
    (ho : o.op = .call { callee := .builtin .append, args := #[s, x], argTypes := #[29, 29] })
    (B : Nat) (v : Value) (L : List Int) (hs : a.eval s = v) (hrow : Row w B v L) (Bx : Nat) (vx : Value) (M : List Int) (hx : a.eval x = vx) (hrx : Row w Bx vx M) (hM : 1 ≤ M.length) (hlen : L.length + M.length ≤ 4096) (hB : B ≤ w.heap.size)
    (h : ∀ v' w', Row w' B v' (L ++ M) → Below B w w' → w.grownBy w' v.ownBlock → wpList Try.prog ops Q rest (a.put o.dst v') w') : wpList Try.prog ops Q (o :: rest) a w := by
  obtain ⟨i0, hi, hz0, hz1, hz2⟩ := info_parts info_int
  rcases hrx.cases with ⟨rfl, rfl⟩ | ⟨g, cap, rfl, _, _, hc, _⟩
  · simp at hM
  · refine wpList_append_own w hgd s x 29 ho B 3 i0 (.int .i64 0) 1 8 Try.underlying29 hi hz0 hz1 hz2 rfl (by decide) v L.length _ hs hrow.1 ⟨g, 0, none⟩ M.length cap (M.map (Value.int .i64)) hx (by simp) ?_ (ones_list M) ?_ ?_ hB ?_
    · intro j u hj
      have hj2 : j < M.length := by have := (List.getElem?_eq_some_iff.1 hj).1; simpa using this
      rw [show (⟨g, 0, none⟩ : Addr).add j = ⟨g, j, none⟩ by unfold Addr.add; split <;> simp_all, hc j hj2]
      rw [List.getElem?_map, List.getElem?_eq_getElem hj2] at hj
      rw [List.getD_eq_getElem?_getD, List.getElem?_eq_getElem hj2]
      simpa using hj
    · unfold maxLen; omega
    · omega
    · intro v' w' hown hg _
      refine h v' w' ⟨?_, by simp; omega⟩ ((Below.refl B w).grown hg hB fun k hk => (hrow.lt k hk).1) hg
      rw [List.map_append, List.length_append]
      exact hown

theorem Row.ne_empty {w : World} {B g : Nat} {v : Value} {L : List Int} {t : TypeId} (h : Row w B v L) (hl : 1 ≤ L.length) (hg : w.heap[g]? = some (.cells #[] t (0, 0))) : v.ownBlock ≠ some g := by
  intro e
  rcases h.cases with ⟨rfl, rfl⟩ | ⟨g', cap, rfl, _, _, hc, _⟩
  · cases e
  · have e2 : g' = g := by simpa [Value.ownBlock] using e
    subst e2
    have := hc 0 (by omega)
    simp [World.cell?, hg] at this
theorem Row.grown {w w' : World} {B : Nat} {v : Value} {L : List Int} {r : Option Nat} (h : Row w B v L) (hg : w.grownBy w' r) (hne : v.ownBlock ≠ r) : Row w' B v L := ⟨h.1.kept hg (.inr hne), h.2⟩
theorem row_made (w : World) : Row (w.alloc (.cells #[] 3)) w.heap.size (.slice (some ⟨w.heap.size, 0, none⟩) 0 0) [] := ⟨World.ownsRow_made w #[] 0 (Nat.le_refl _) (by decide) rfl, Nat.zero_le _⟩

set_option maxHeartbeats 3000000 in
set_option maxRecDepth 20000 in
theorem sbeats_any (n k : Int) (w : World) (h1 : 3 ≤ n) (h2 : n ≤ 12) (h3 : 1 ≤ k) (h4 : k ≤ n) :
    Calls Try.prog 43 #[.int .i64 n, .int .i64 k] w (Gives (Tic.beats n.toNat k.toNat) w) := by
  obtain ⟨N, rfl⟩ := Int.eq_ofNat_of_zero_le (show 0 ≤ n by omega)
  obtain ⟨K, rfl⟩ := Int.eq_ofNat_of_zero_le (show 0 ≤ k by omega)
  simp only [Int.toNat_natCast]
  have HST := Lib.hid (Tic.bt_start (n := N) (k := K) (by omega) (by omega) (by omega))
  generalize Tic.beats N K = T at HST ⊢
  have hnk : (N : Int) - (K : Int) = ((N - K : Nat) : Int) := by omega
  go_enter Try.func43, Try.ntmps43
  go_wp2_with (at_builtin; refine wpList_append_row rfl _ _ rfl w.heap.size _ [] rfl (((row_made w).alloc _).alloc _) 0 (.slice (some ⟨w.heap.size + 1 + 1, 0, none⟩) 1 1) [1] rfl ?r2 (by decide) (by decide) ?c3 ?_)
  case r2 =>
    have := row_lit ((w.alloc (.cells #[] 3)).alloc (.cells #[] 3)) [1] (by decide)
    simpa using this.mono (Nat.zero_le _)
  case c3 => simp; omega
  intro va w1 hra hb1 hg1
  have hz1 : w.heap.size + 1 + 1 + 1 ≤ w1.heap.size := by simpa using hb1.size
  have hbw : Below w.heap.size w w1 := ((((Below.refl _ _).alloc (Nat.le_refl _) _).alloc (by simp) _).alloc (by simp; omega) _).trans hb1
  have hbB : Row w1 (w.heap.size + 1) (.slice (some ⟨w.heap.size + 1, 0, none⟩) 0 0) [] := by
    have h0 := ((row_made (w.alloc (.cells #[] 3))).alloc (.cells #[.int .i64 1] 3))
    have h1 : Row (((w.alloc (.cells #[] 3)).alloc (.cells #[] 3)).alloc (.cells #[.int .i64 1] 3)) (w.heap.size + 1) (.slice (some ⟨w.heap.size + 1, 0, none⟩) 0 0) [] := by simpa using h0
    exact h1.grown hg1 (by simp [Value.ownBlock])
  have hne : va.ownBlock ≠ some (w.heap.size + 1) := by
    refine hra.ne_empty (t := 3) (by simp) ?_
    rw [hg1.block (w.heap.size + 1) (by simp) (by simp [Value.ownBlock])]
    rw [heap_alloc_old _ _ (by simp)]
    have := heap_alloc_new (w.alloc (.cells #[] 3)) (.cells #[] 3)
    rwa [show (w.alloc (.cells #[] 3)).heap.size = w.heap.size + 1 by simp] at this
  have HRA := Lib.hid hra
  have HBB := Lib.hid hbB
  have HBW := Lib.hid hbw
  clear hra hb1 hg1 hbB hbw
  go_wp2_with (at_builtin; refine wpList_append_row rfl _ _ rfl (w.heap.size + 1) _ [] rfl (HBB.out.alloc _) w1.heap.size (.slice (some ⟨w1.heap.size, 0, none⟩) 1 1) [0] rfl (row_lit w1 [0] (by decide)) (by decide) (by decide) ?c3 ?_)
  case c3 => simp; omega
  intro vb w2 hrb hb2 hg2
  have HRA2 := Lib.hid ((HRA.out.alloc (.cells #[.int .i64 0] 3)).grown hg2 hne)
  have HRB2 := Lib.hid (hrb.mono (B' := w.heap.size) (by omega))
  have HBW2 := Lib.hid ((HBW.out.alloc (by omega) _).trans (hb2.mono (by omega)))
  clear hne hrb hb2 hg2 HRA HBB HBW hz1
  have HRA3 : Hid (Row w2 w.heap.size va [1]) := HRA2
  have HRB3 : Hid (Row w2 w.heap.size vb [0]) := HRB2
  clear HRA2 HRB2
  have hs0 := IntWalk.i64_in ((N : Int) - (K : Int)) (by omega)
  rw [hnk] at hs0
  go_wp2
  go_loopw [5, 6, 7, 8, 9, 10] (fun t5 t6 t7 t8 _ _ wr => ∃ (A B : List Int) (x y : Nat), t7 = .int .i64 x ∧ t8 = .int .i64 y ∧ Hid (Tic.Bt N T A B x y) ∧ Hid (1 ≤ A.length ∧ 1 ≤ B.length) ∧ Hid (Row wr w.heap.size t5 A) ∧ Hid (Row wr w.heap.size t6 B) ∧ Hid (Below w.heap.size w wr)) (fun _ _ t7 t8 _ _ _ => (intOf t7).toNat + (intOf t8).toNat)
  case atStart => exact ⟨[1], [0], K, N - K, rfl, rfl, HST, Lib.hid (by decide), HRA3, HRB3, HBW2⟩
  case round =>
    obtain ⟨A, B, x, y, rfl, rfl, HBT, HAB, HRA, HRB, HB⟩ := hrel
    have hx1 := HBT.out.1
    have hx2 := HBT.out.2.1
    have hy2 := HBT.out.2.2.1
    by_cases hy : 1 < y
    · have HSUM := Lib.hid (Tic.bt_sum (by omega) HBT.out hy)
      have hx0 : (0 : Int) < (x : Int) := by omega
      have hzw := HB.out.size
      have HAlt := Lib.hid (fun k hk => (HRA.out.lt k hk).2)
      have HBlt := Lib.hid (fun k hk => (HRB.out.lt k hk).2)
      go_wp2_with (at_builtin; refine wpList_append_row rfl _ _ rfl wr.heap.size (.slice (some ⟨wr.heap.size, 0, none⟩) 0 0) [] rfl (row_made wr) w.heap.size _ A rfl (HRA.out.alloc _) HAB.out.1 ?c1 ?c3 ?_)
      case c1 => have := HSUM.out; simp; omega
      case c3 => simp
      intro v1 w3 hr1 hb1 _
      have HR1 : Hid (Row w3 wr.heap.size v1 A) := Lib.hid hr1
      have HRA2 := Lib.hid ((HRA.out.alloc (.cells #[] 3)).low hb1 HAlt.out)
      have HRB2 := Lib.hid ((HRB.out.alloc (.cells #[] 3)).low hb1 HBlt.out)
      have HB1 : Hid (Below wr.heap.size wr w3) := Lib.hid (((Below.refl _ _).alloc (Nat.le_refl _) _).trans hb1)
      clear hr1 hb1
      go_wp2_with (at_builtin; refine wpList_append_row rfl _ _ rfl wr.heap.size _ A rfl HR1.out w.heap.size _ B rfl HRB2.out HAB.out.2 ?c1 ?c3 ?_)
      case c1 => have := HSUM.out; omega
      case c3 => exact HB1.out.size
      intro v2 w4 hr2 hb2 _
      have HRA3 := Lib.hid (HRA2.out.low hb2 HAlt.out)
      have HRB3 := Lib.hid (HRB2.out.low hb2 HBlt.out)
      have HR2 := Lib.hid (hr2.mono (B' := w.heap.size) hzw)
      have HB2 := Lib.hid (HB.out.trans ((HB1.out.trans hb2).mono hzw))
      clear hr2 hb2 HRA2 HRB2 HR1 HB1 HAlt HBlt HRA HRB HB
      by_cases hxy : x < y
      · have HBT2 := Lib.hid (Tic.bt_less (by omega) HBT.out hy hxy)
        have hs1 := IntWalk.i64_in ((y : Int) - (x : Int)) (by omega)
        have hyx : (y : Int) - (x : Int) = ((y - x : Nat) : Int) := by omega
        rw [hyx] at hs1
        go_wp2
        go_roundw
        case rel => exact ⟨A ++ B, B, x, y - x, rfl, rfl, HBT2, Lib.hid (by have := HAB.out; simp; omega), HR2, HRB3, HB2⟩
        case measure => simp [intOf]; omega
      · have HBT2 := Lib.hid (Tic.bt_more (by omega) HBT.out hy hxy)
        have hs1 := IntWalk.i64_in ((x : Int) - (y : Int)) (by omega)
        have hyx : (x : Int) - (y : Int) = ((x - y : Nat) : Int) := by omega
        rw [hyx] at hs1
        go_wp2
        go_roundw
        case rel => exact ⟨A ++ B, A, y, x - y, rfl, rfl, HBT2, Lib.hid (by have := HAB.out; simp; omega), HR2, HRA3, HB2⟩
        case measure => simp [intOf]; omega
    · have HEND := Lib.hid (Tic.bt_end HBT.out (by omega))
      have hA12 := HBT.out.2.2.2.1
      have hB12 := HBT.out.2.2.2.2.1
      have HNA : Hid (∀ i, Tic.rep (i + 1) A = Tic.rep i A ++ A) := Lib.hid (fun _ => rfl)
      have HNB : Hid (∀ i, Tic.rep (i + 1) B = Tic.rep i B ++ B) := Lib.hid (fun _ => rfl)
      have HLA : Hid (∀ i, i ≤ 12 → (Tic.rep i A).length + A.length ≤ 1000) := Lib.hid (fun i hi => by
        rw [Tic.rep_length]
        have := Nat.mul_le_mul hi hA12
        omega)
      have HLB : Hid (∀ i, i ≤ 12 → (Tic.rep i B).length + B.length ≤ 1000) := Lib.hid (fun i hi => by
        rw [Tic.rep_length]
        have := Nat.mul_le_mul hi hB12
        omega)
      have hzw := HB.out.size
      have HAlt := Lib.hid (fun k hk => (HRA.out.lt k hk).2)
      have HBlt := Lib.hid (fun k hk => (HRB.out.lt k hk).2)
      clear HBT HST
      go_wp2
      obtain ⟨wo, rfl⟩ : ∃ wo : World, wo = wr := ⟨_, rfl⟩
      go_loopw [7, 11] (fun t7 t11 wi => ∃ i : Nat, i ≤ x ∧ t7 = .int .i64 ((x - i : Nat) : Int) ∧ Hid (Row wi wo.heap.size t11 (Tic.rep i A)) ∧ Hid (Below wo.heap.size wo wi)) (fun t7 _ _ => (intOf t7).toNat)
      case atStart => exact ⟨0, Nat.zero_le _, rfl, row_made wo, (Below.refl _ _).alloc (Nat.le_refl _) _⟩
      case round =>
        obtain ⟨i, hi, rfl, HO, HBO⟩ := hrel
        by_cases hlt : i < x
        · have h0 : (0 : Int) < ((x - i : Nat) : Int) := by omega
          have hsub : ((x - i : Nat) : Int) - 1 = ((x - (i + 1) : Nat) : Int) := by omega
          have hs1 := IntWalk.i64_in (((x - i : Nat) : Int) - 1) (by omega)
          go_wp2_with (at_builtin; refine wpList_append_row rfl _ _ rfl wo.heap.size _ (Tic.rep i A) rfl HO.out w.heap.size _ A rfl (HRA.out.low HBO.out HAlt.out) HAB.out.1 ?c1 ?c3 ?_)
          case c1 => have := HLA.out i (by omega); omega
          case c3 => exact HBO.out.size
          intro v1 w3 hr1 hb1 _
          rw [← HNA.out] at hr1
          have HO2 := Lib.hid hr1
          have HBO2 := Lib.hid (HBO.out.trans hb1)
          clear hr1 hb1
          go_wp2
          go_roundw
          case rel => exact ⟨i + 1, by omega, by rw [← hsub], HO2, HBO2⟩
          case measure => simp [intOf]; omega
        · have : i = x := by omega
          subst this
          have hii : ((i - i : Nat) : Int) = 0 := by omega
          rw [hii]
          clear hii
          go_wp2
          obtain ⟨w5, rfl⟩ : ∃ w5 : World, w5 = wr := ⟨_, rfl⟩
          go_loopw [8, 11] (fun t8 t11 wi => ∃ j : Nat, j ≤ y ∧ t8 = .int .i64 ((y - j : Nat) : Int) ∧ Hid (Row wi wo.heap.size t11 (Tic.rep i A ++ Tic.rep j B)) ∧ Hid (Below wo.heap.size wo wi)) (fun t8 _ _ => (intOf t8).toNat)
          case atStart => exact ⟨0, Nat.zero_le _, rfl, Lib.hid (by rw [show Tic.rep 0 B = [] from rfl, List.append_nil]; exact HO.out), HBO⟩
          case round =>
            obtain ⟨j, hj, rfl, HO, HBO⟩ := hrel
            by_cases hltj : j < y
            · have h0 : (0 : Int) < ((y - j : Nat) : Int) := by omega
              have hsub : ((y - j : Nat) : Int) - 1 = ((y - (j + 1) : Nat) : Int) := by omega
              have hs1 := IntWalk.i64_in (((y - j : Nat) : Int) - 1) (by omega)
              go_wp2_with (at_builtin; refine wpList_append_row rfl _ _ rfl wo.heap.size _ (Tic.rep i A ++ Tic.rep j B) rfl HO.out w.heap.size _ B rfl (HRB.out.low HBO.out HBlt.out) HAB.out.2 ?c1 ?c3 ?_)
              case c1 => have := HLB.out j (by omega); have := HLA.out i (by omega); simp; omega
              case c3 => exact HBO.out.size
              intro v1 w3 hr1 hb1 _
              rw [← HNB.out] at hr1
              have HO2 := Lib.hid hr1
              have HBO2 := Lib.hid (HBO.out.trans hb1)
              clear hr1 hb1
              go_wp2
              go_roundw
              case rel => exact ⟨j + 1, by omega, by rw [← hsub], HO2, HBO2⟩
              case measure => simp [intOf]; omega
            · have : j = y := by omega
              subst this
              have hjj : ((j - j : Nat) : Int) = 0 := by omega
              have hres := HO.out.mono (B' := w.heap.size) hzw
              rw [HEND.out] at hres
              have HRES := Lib.hid hres
              have HBR := Lib.hid (HB.out.trans (HBO.out.mono hzw))
              rw [hjj]
              clear hjj hres
              go_wp2
              go_ret
              exact ⟨_, rfl, HRES.out, HBR.out⟩
/-- the numbers for which BeatsOf is asked -/
def BOk (n k : Int) : Prop := 3 ≤ n ∧ n ≤ 12 ∧ 1 ≤ k ∧ k ≤ n
theorem sBeatsOf_yes (n k : Int) (w : World) (h : BOk n k) :
    Calls Try.prog 19 #[.int .i64 n, .int .i64 k] w (Gives (Tic.beats n.toNat k.toNat) w) := by
  obtain ⟨h1, h2, h3, h4⟩ := h
  go_enter Try.func19, Try.ntmps19
  go_wp2_with fail
  refine (inRange_yes _ _ _ _ h1 h2).mono ?_; rintro e w1 ⟨rfl, rfl⟩
  go_wp2_with fail
  refine (inRange_yes _ _ _ _ h3 h4).mono ?_; rintro e w1 ⟨rfl, rfl⟩
  go_wp2_with fail
  refine (sbeats_any _ _ _ h1 h2 h3 h4).mono ?_; rintro e w1 ⟨v, rfl, hr, hb⟩
  go_wp2_with fail
  go_ret
  exact ⟨_, rfl, hr, hb⟩
theorem sBeatsOf_no (n k : Int) (w : World) (h : ¬ BOk n k) :
    Calls Try.prog 19 #[.int .i64 n, .int .i64 k] w fun e w' => e = .returned (.slice none 0 0) ∧ w = w' := by
  by_cases h1 : 3 ≤ n ∧ n ≤ 12
  · have h3 : k < 1 ∨ n < k := by
      unfold BOk at h
      omega
    clear h
    go_enter Try.func19, Try.ntmps19
    go_wp2_with fail
    refine (inRange_yes _ _ _ _ h1.1 h1.2).mono ?_; rintro e w1 ⟨rfl, rfl⟩
    go_wp2_with fail
    refine (inRange_no _ _ _ _ h3).mono ?_; rintro e w1 ⟨rfl, rfl⟩
    go_wp2_with fail
    go_ret
    exact ⟨rfl, rfl⟩
  · have h3 : n < 3 ∨ 12 < n := by omega
    clear h
    go_enter Try.func19, Try.ntmps19
    go_wp2_with fail
    refine (inRange_no _ _ _ _ h3).mono ?_; rintro e w1 ⟨rfl, rfl⟩
    go_wp2_with fail
    go_ret
    exact ⟨rfl, rfl⟩
end Go.Proofs.Ytahpjfdecjfpcaa
