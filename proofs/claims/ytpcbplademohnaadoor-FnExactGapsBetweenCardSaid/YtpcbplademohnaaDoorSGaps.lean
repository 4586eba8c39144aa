/-
  The contract of the model's GapsBetween.
-/
import Derived.Test.YtpcbplademohnaaDoorSOrder
import Derived.Test.YtpcbplademohnaaDoorGapNum
import Derived.Test.YtpcbplademohnaaDoorListsEq
import Derived.Test.YtpcbplademohnaaDoorSame
import Derived.Test.YtpcbplademohnaaDoorInto
namespace Go.Proofs.YtpcbplademohnaaDoor
open Go.RowKit
set_option linter.unusedVariables false
set_option maxRecDepth 20000

theorem Lists.vw {w : World} {B : Nat} {v : Value} {vs : List Value} {LL : List (List Int)} (h : Lists w B v vs LL) : ∃ p c, v = .slice p LL.length c ∧
    (0 < LL.length → ∃ g, p = some ⟨g, 0, none⟩ ∧ B ≤ g ∧ g < w.heap.size ∧ ∀ i, i < LL.length → w.cell? ⟨g, i, none⟩ = some (vs.getD i undef)) := by
  rcases h.shape with ⟨rfl, rfl⟩ | ⟨g, c, rfl, h1, h2, h3⟩
  · exact ⟨none, 0, rfl, fun h => by simp at h⟩
  · exact ⟨_, c, rfl, fun _ => ⟨g, rfl, h1, h2, h3⟩⟩
theorem take_yes {L : List (List Int)} {x : List Int} {k : Nat} (h : decide (x ∈ L.take k) = true) : decide (x ∈ L.take (k + 1)) = true := by
  have h1 := of_decide_eq_true h
  refine decide_eq_true ?_
  rw [List.mem_take_iff_getElem] at h1 ⊢
  obtain ⟨i, hi, e⟩ := h1
  exact ⟨i, by omega, e⟩
theorem take_no {L : List (List Int)} {x y : List Int} {k : Nat} (hk : k < L.length) (hy : L[k]? = some y) (h : decide (x ∈ L.take k) = false) : decide (x ∈ L.take (k + 1)) = decide (y = x) := by
  have h1 := of_decide_eq_false h
  have e : L.take (k + 1) = L.take k ++ [y] := by
    rw [List.take_succ_eq_append_getElem hk]
    rw [List.getElem?_eq_getElem hk] at hy
    injection hy with hy
    rw [hy]
  rw [e]
  by_cases q : y = x
  · rw [decide_eq_true q]; exact decide_eq_true (List.mem_append.2 (.inr (by simp [q])))
  · rw [decide_eq_false q]
    refine decide_eq_false fun hm => ?_
    rcases List.mem_append.1 hm with m | m
    · exact h1 m
    · simp at m; exact q m.symm
set_option maxHeartbeats 2000000 in
theorem sGaps_yes (n : Nat) (w : World) (h1 : 1 ≤ n) (h2 : n ≤ 12) :
    Calls Tryd.prog 12 #[.int .i64 n] w (GivesLists (Tic.gps n n) w) := by
  have HS := Lib.hid (fun w => sFifths_yes n w h1 h2)
  have hcl := Tic.chain_len h2
  have hml : ((Tic.chain n).map vec3).length = n := by rw [List.length_map, hcl]
  go_enter Tryd.func12, Tryd.ntmps12
  go_wp2_with fail
  refine (HS.out _).mono ?_; rintro e w1 ⟨v, vs, rfl, hl, hb⟩
  have hz1 := hb.size
  have HB1 := Lib.hid hb
  have HR : Hid (∀ i, i < n → Row w1 w.heap.size (vs.getD i undef) (vec3 ((Tic.chain n).getD i 0))) := Lib.hid (fun i hi => by
    have := hl.row (i := i) (by rw [hml]; exact hi)
    rw [List.getD_eq_getElem?_getD (l := (Tic.chain n).map vec3), List.getElem?_map, List.getElem?_eq_getElem (by omega)] at this
    rw [List.getD_eq_getElem?_getD (l := Tic.chain n), List.getElem?_eq_getElem (by omega)]
    exact this)
  rcases hl.shape with ⟨_, e⟩ | ⟨g, c, rfl, _, hg, hcl2⟩
  · exact absurd (congrArg List.length e) (by rw [hml, List.length_nil]; omega)
  rw [hml] at hcl2 ⊢
  have HC := Lib.hid hcl2
  have hz0 : ((n : Int) == 0) = false := beq_eq_false_iff_ne.2 (by omega)
  have HO0 := Lib.hid (Lists.made w1)
  have HBA := Lib.hid ((Below.refl w1.heap.size w1).alloc (Nat.le_refl _) (.cells #[] 29))
  clear hl hb hcl2 HS
  go_wp2
  go_loopw [4, 5] (fun t4 t5 wr => ∃ (i : Nat) (us : List Value), i ≤ n ∧ t5 = .int .i64 i ∧ Hid (Lists wr w1.heap.size t4 us (Tic.gps n i)) ∧ Hid (Below w1.heap.size w1 wr)) (fun _ t5 _ => n - (intOf t5).toNat)
  case atStart => exact ⟨0, [], Nat.zero_le _, rfl, HO0, HBA⟩
  case round =>
    obtain ⟨i, us, hi, rfl, HO, HB⟩ := hrel
    clear HO0 HBA
    by_cases hlt : i < n
    · obtain ⟨p, co, rfl, hp⟩ := HO.out.vw
      have HPP := Lib.hid hp
      clear hp
      have hgl := Tic.gps_len n i
      have hzr := HB.out.size
      have hgw : g < wr.heap.size := by omega
      obtain ⟨X, hX⟩ : ∃ X, X = (Tic.chain n).getD i 0 := ⟨_, rfl⟩
      have hx := HR.out i hlt
      rw [← hX] at hx
      have d0 := (HB.out.cell (p := ⟨g, i, none⟩) hg).trans (HC.out i hlt)
      have hx1 := hx.kept HB.out
      generalize vs.getD i undef = ux at d0 hx1
      unfold vec3 at hx1
      obtain ⟨gx, mx, rfl, _, hgx, q0, q1, _⟩ := hx1.three
      by_cases hnx : i + 1 < n
      · obtain ⟨Y, hY⟩ : ∃ Y, Y = (Tic.chain n).getD (i + 1) 0 := ⟨_, rfl⟩
        have hy := HR.out (i + 1) hnx
        rw [← hY] at hy
        have e0 := (HB.out.cell (p := ⟨g, i + 1, none⟩) hg).trans (HC.out (i + 1) hnx)
        have hy1 := hy.kept HB.out
        generalize vs.getD (i + 1) undef = uy at e0 hy1
        unfold vec3 at hy1
        obtain ⟨gy, my, rfl, _, hgy, r0, r1, _⟩ := hy1.three
        go_upto_region 11 with fail
        have hbX := Tic.oc_bd X
        have hbY := Tic.oc_bd Y
        have hxl : 0 ≤ (X.val : Int) ∧ (X.val : Int) < 12 := by have := X.isLt; omega
        have hyl : 0 ≤ (Y.val : Int) ∧ (Y.val : Int) < 12 := by have := Y.isLt; omega
        have HG : Hid (Tic.gap n i = [Tic.oc Y - Tic.oc X, (Y.val : Int) - (X.val : Int), 0]) := Lib.hid (by unfold Tic.gap Tic.nxo Tic.nxt; rw [if_pos hnx, if_pos hnx, ← hX, ← hY])
        have hba := (Below.refl wr.heap.size wr).alloc (Nat.le_refl _) (.cells #[.int .i64 1, .int .i64 0, .int .i64 0] 3)
        have HBW := Lib.hid (HB.out.trans (hba.mono hzr))
        have HOW := Lib.hid (HO.out.kept hba)
        have HOB := Lib.hid HO.out.blocks
        replace d0 := (hba.cell (p := ⟨g, i, none⟩) hgw).trans d0
        replace q0 := (hba.cell (p := ⟨gx, 0, none⟩) hgx).trans q0
        replace q1 := (hba.cell (p := ⟨gx, 1, none⟩) hgx).trans q1
        replace r0 := (hba.cell (p := ⟨gy, 0, none⟩) hgy).trans r0
        replace r1 := (hba.cell (p := ⟨gy, 1, none⟩) hgy).trans r1
        replace hgw := Nat.lt_of_lt_of_le hgw hba.size
        replace hgx := Nat.lt_of_lt_of_le hgx hba.size
        have hgn := Nat.lt_of_lt_of_le hgy hba.size
        have hzw := hba.size
        clear hX hY hx hy hx1 hy1 hba e0 hgy
        generalize hWd : wr.alloc (.cells #[.int .i64 1, .int .i64 0, .int .i64 0] 3) = W at *
        clear hWd
        generalize Tic.oc X = OX at *
        generalize (X.val : Int) = XV at *
        have k1 := IntWalk.i64_in (Tic.oc Y - OX) (by omega)
        have k2 := IntWalk.i64_in ((Y.val : Int) - XV) (by omega)
        have i2 : (i : Int) < (n : Int) := by omega
        have hk0 : Below W.heap.size W W := Below.refl _ _
        go_wp2_with fail
        go_region_held3 (fun w' => w'.cell? ⟨g, i, none⟩ = some (.slice (some ⟨gx, 0, none⟩) 3 mx) ∧ w'.cell? ⟨gx, 0, none⟩ = some (.int .i64 OX) ∧ w'.cell? ⟨gx, 1, none⟩ = some (.int .i64 XV) ∧ w'.cell? ⟨gy, 0, none⟩ = some (.int .i64 (Tic.oc Y)) ∧ w'.cell? ⟨gy, 1, none⟩ = some (.int .i64 ((Y.val : Int))))
          (first
            | exact ⟨(hk0.cell (p := ⟨g, i, none⟩) hgw).trans d0, (hk0.cell (p := ⟨gx, 0, none⟩) hgx).trans q0, (hk0.cell (p := ⟨gx, 1, none⟩) hgx).trans q1, (hk0.cell (p := ⟨gy, 0, none⟩) hgn).trans r0, (hk0.cell (p := ⟨gy, 1, none⟩) hgn).trans r1⟩
            | exact ⟨((hk0.alloc (Nat.le_refl _) _).drew.cell (p := ⟨g, i, none⟩) hgw).trans d0, ((hk0.alloc (Nat.le_refl _) _).drew.cell (p := ⟨gx, 0, none⟩) hgx).trans q0, ((hk0.alloc (Nat.le_refl _) _).drew.cell (p := ⟨gx, 1, none⟩) hgx).trans q1, ((hk0.alloc (Nat.le_refl _) _).drew.cell (p := ⟨gy, 0, none⟩) hgn).trans r0, ((hk0.alloc (Nat.le_refl _) _).drew.cell (p := ⟨gy, 1, none⟩) hgn).trans r1⟩)
          (fail)
        have hbe := (hk0.alloc (Nat.le_refl _) (.cells #[.int .i64 (Tic.oc Y - OX), .int .i64 ((Y.val : Int) - XV), .int .i64 0] 3)).drew
        have hze : W.heap.size < ((W.alloc (.cells #[.int .i64 (Tic.oc Y - OX), .int .i64 ((Y.val : Int) - XV), .int .i64 0] 3)).drew).heap.size := by simp
        have HE : Hid (Row ((W.alloc (.cells #[.int .i64 (Tic.oc Y - OX), .int .i64 ((Y.val : Int) - XV), .int .i64 0] 3)).drew) W.heap.size (.slice (some ⟨W.heap.size, 0, none⟩) 3 3) (Tic.gap n i)) := Lib.hid (by rw [HG.out]; exact (Row.built3 W _ _ _ (Nat.le_refl _)).drew)
        have HOV := Lib.hid (HOW.out.kept hbe)
        have HBV := Lib.hid (HBW.out.trans (hbe.mono HBW.out.size))
        clear hbe hk0 HOW HBW HO HB d0 q0 q1 r0 r1 k1 k2 hgx hgw hgn HG HPP
        generalize ((W.alloc (.cells #[.int .i64 (Tic.oc Y - OX), .int .i64 ((Y.val : Int) - XV), .int .i64 0] 3)).drew) = V at *
        obtain ⟨p', co', ep, hp⟩ := HOV.out.vw
        simp only [Value.slice.injEq, true_and] at ep
        obtain ⟨rfl, rfl⟩ := ep
        have HPP := Lib.hid hp
        clear hp
        generalize hWz : W.heap.size = G at *
        obtain ⟨E, hE⟩ : ∃ E, E = Tic.gap n i := ⟨_, rfl⟩
        obtain ⟨L, hL⟩ : ∃ L, L = Tic.gps n i := ⟨_, rfl⟩
        have hE3 : E.length = 3 := by rw [hE]; rfl
        have HL3 : Hid (∀ x ∈ L, x.length = 3) := Lib.hid (by rw [hL]; exact Tic.gps_three n i)
        have HYES : Hid (E ∈ L → Tic.gps n (i + 1) = L) := Lib.hid (by rw [hE, hL]; exact Tic.gps_yes)
        have HNO : Hid (¬ E ∈ L → Tic.gps n (i + 1) = L ++ [E]) := Lib.hid (by rw [hE, hL]; exact Tic.gps_no)
        rw [← hE] at HE
        rw [← hL] at HOV HPP HOB hgl ⊢
        have HE3 := Lib.hid hE3
        clear hE hL hE3
        obtain ⟨m, hm⟩ : ∃ m, m = L.length := ⟨_, rfl⟩
        rw [← hm] at HPP hgl ⊢
        have HM := Lib.hid hm
        clear hm
        go_wp2
        go_loopw [8, 9] (fun t8 t9 wr => ∃ k : Nat, k ≤ m ∧ t9 = .int .i64 k ∧ t8 = .bool (decide (E ∈ L.take k)) ∧ Hid (Below V.heap.size V wr)) (fun _ t9 _ => m - (intOf t9).toNat)
        case atStart => exact ⟨0, Nat.zero_le _, rfl, by simp, Below.refl _ _⟩
        case round =>
          obtain ⟨k, hk, rfl, rfl, HBI⟩ := hrel
          by_cases hkm : k < m
          · obtain ⟨go, rfl, _, hgo, hcells⟩ := HPP.out (by omega)
            cases hb : decide (E ∈ L.take k) with
            | true =>
              have HT := Lib.hid (take_yes hb)
              clear hb hcells
              go_wp2
              go_roundw
              case rel => exact ⟨k + 1, by omega, by go_num, congrArg Value.bool HT.out.symm, HBI⟩
              case measure => simp [intOf]; omega
            | false =>
              have hkl : k < L.length := by rw [← HM.out]; exact hkm
              have hyl : L[k]? = some (L.getD k []) := by rw [List.getD_eq_getElem?_getD, List.getElem?_eq_getElem hkl]; rfl
              have HT := Lib.hid (take_no hkl hyl hb)
              have d1 := (HBI.out.cell (p := ⟨go, k, none⟩) hgo).trans (hcells k hkm)
              have HRK := Lib.hid ((HOV.out.row hkl).kept HBI.out)
              have HEK := Lib.hid (HE.out.kept HBI.out)
              have h3 : (L.getD k []).length = 3 := HL3.out _ (by rw [List.getD_eq_getElem?_getD, List.getElem?_eq_getElem hkl]; exact List.getElem_mem hkl)
              have H3 := Lib.hid h3
              have hzi := HBI.out.size
              clear hb hcells hkl hyl h3
              generalize us.getD k undef = u at d1 HRK
              generalize L.getD k [] = M at HRK HT H3
              by_cases he : M = E
              · subst he
                go_wp2_with fail
                refine (sameList_yes _ _ _ _ _ _ HRK.out HEK.out).mono ?_; rintro e w' ⟨rfl, bs⟩
                have HB2 := Lib.hid (HBI.out.trans (bs.mono hzi))
                clear bs d1
                go_wp2
                go_roundw
                case rel => exact ⟨k + 1, by omega, by go_num, congrArg Value.bool (by rw [HT.out]; simp), HB2⟩
                case measure => simp [intOf]; omega
              · have HNE := Lib.hid he
                clear he
                go_wp2_with fail
                refine (sameList_no _ _ _ _ _ _ _ HRK.out HEK.out (by rw [H3.out, HE3.out]) HNE.out).mono ?_; rintro e w' ⟨rfl, bs⟩
                have HB2 := Lib.hid (HBI.out.trans (bs.mono hzi))
                clear bs d1
                go_wp2
                go_roundw
                case rel => exact ⟨k + 1, by omega, by go_num, congrArg Value.bool (by rw [HT.out]; exact (decide_eq_false HNE.out).symm), HB2⟩
                case measure => simp [intOf]; omega
          · obtain rfl : k = m := by omega
            have htk : L.take k = L := by rw [HM.out]; exact List.take_length
            rw [htk]
            have hzv := HBV.out.size
            have HBO := Lib.hid (HBV.out.trans (HBI.out.mono hzv))
            have HOI := Lib.hid (HOV.out.kept HBI.out)
            have hzi := HBI.out.size
            clear htk
            by_cases hin : E ∈ L
            · rw [decide_eq_true hin]
              have HY := Lib.hid (HYES.out hin)
              rw [HM.out]
              clear hin
              go_wp2
              go_roundw
              case rel => exact ⟨i + 1, us, by omega, by go_num, by rw [HY.out]; exact HOI, HBO⟩
              case measure => simp [intOf]; omega
            · rw [decide_eq_false hin]
              have HN := Lib.hid (HNO.out hin)
              rw [HM.out] at hgl ⊢
              have HEI := Lib.hid (HE.out.kept HBI.out)
              have hoi := HOI.out
              have HOBv := Lib.hid HOB.out.1
              have HOBs := Lib.hid HOB.out.2
              clear hin
              go_wp2_with (at_builtin; refine wpList_append_list rfl _ _ rfl w1.heap.size _ us _ rfl (hoi.alloc _) wr.heap.size 1 (.slice (some ⟨G, 0, none⟩) 3 3) E rfl ?c0 ?c1 ?c2 ?c3 ?c4 ?c5 ?c6 ?_)
              case c0 => go_simp
              case c1 => exact (HEI.out.alloc _).mono (by omega)
              case c2 => rfl
              case c3 => intro q hq e; have h2 := HOBv.out q e; simp [Value.ownBlock] at hq; omega
              case c4 => intro q1 q hq1 hq e; have h2 := HOBs.out q1 q hq1 hq; simp [Value.ownBlock] at e; omega
              case c5 => omega
              case c6 => simp; omega
              intro v' w5 hl5 hb5 hg5 hk5
              have HL5 := Lib.hid hl5
              have HB5 : Hid (Below w1.heap.size w1 w5) := Lib.hid ((HBO.out.alloc HBO.out.size (.cells #[.slice (some ⟨G, 0, none⟩) 3 3] 29)).trans hb5)
              clear hl5 hb5 hg5 hk5 hoi
              go_wp2
              go_roundw
              case rel => exact ⟨i + 1, _, by omega, by go_num, by rw [HN.out]; exact HL5, HB5⟩
              case measure => simp [intOf]; omega
      · have hbX := Tic.oc_bd X
        have hxl : 0 ≤ (X.val : Int) ∧ (X.val : Int) < 12 := by have := X.isLt; omega
        have HG : Hid (Tic.gap n i = [1 - Tic.oc X, -(X.val : Int), 0]) := Lib.hid (by unfold Tic.gap Tic.nxo Tic.nxt; rw [if_neg hnx, if_neg hnx, ← hX, Int.zero_sub])
        have hba := (Below.refl wr.heap.size wr).alloc (Nat.le_refl _) (.cells #[.int .i64 1, .int .i64 0, .int .i64 0] 3)
        have HBW := Lib.hid (HB.out.trans (hba.mono hzr))
        have HOW := Lib.hid (HO.out.kept hba)
        have HOB := Lib.hid HO.out.blocks
        replace d0 := (hba.cell (p := ⟨g, i, none⟩) hgw).trans d0
        replace q0 := (hba.cell (p := ⟨gx, 0, none⟩) hgx).trans q0
        replace q1 := (hba.cell (p := ⟨gx, 1, none⟩) hgx).trans q1
        have r0 : (wr.alloc (.cells #[.int .i64 1, .int .i64 0, .int .i64 0] 3)).cell? ⟨wr.heap.size, 0, none⟩ = some (.int .i64 1) := by rw [World.cell?_alloc_at _ _ _ _ rfl]; rfl
        have r1 : (wr.alloc (.cells #[.int .i64 1, .int .i64 0, .int .i64 0] 3)).cell? ⟨wr.heap.size, 1, none⟩ = some (.int .i64 0) := by rw [World.cell?_alloc_at _ _ _ _ rfl]; rfl
        have hgn : wr.heap.size < (wr.alloc (.cells #[.int .i64 1, .int .i64 0, .int .i64 0] 3)).heap.size := by simp
        replace hgw := Nat.lt_of_lt_of_le hgw hba.size
        replace hgx := Nat.lt_of_lt_of_le hgx hba.size
        have hzw := hba.size
        have hnl : ¬ ((i : Int) + 1 < (n : Int)) := by omega
        have hnd : decide ((i : Int) + 1 < (n : Int)) = false := decide_eq_false hnl
        clear hX hx hx1 hba
        go_upto_region 11 with fail
        generalize hWd : wr.alloc (.cells #[.int .i64 1, .int .i64 0, .int .i64 0] 3) = W at *
        clear hWd
        generalize Tic.oc X = OX at *
        generalize (X.val : Int) = XV at *
        have k1 := IntWalk.i64_in (1 - OX) (by omega)
        have k2 := IntWalk.i64_in (-XV) (by omega)
        have i2 : (i : Int) < (n : Int) := by omega
        have hk0 : Below W.heap.size W W := Below.refl _ _
        go_wp2_with fail
        go_region_held3 (fun w' => w'.cell? ⟨g, i, none⟩ = some (.slice (some ⟨gx, 0, none⟩) 3 mx) ∧ w'.cell? ⟨gx, 0, none⟩ = some (.int .i64 OX) ∧ w'.cell? ⟨gx, 1, none⟩ = some (.int .i64 XV) ∧ w'.cell? ⟨wr.heap.size, 0, none⟩ = some (.int .i64 1) ∧ w'.cell? ⟨wr.heap.size, 1, none⟩ = some (.int .i64 0))
          (first
            | exact ⟨(hk0.cell (p := ⟨g, i, none⟩) hgw).trans d0, (hk0.cell (p := ⟨gx, 0, none⟩) hgx).trans q0, (hk0.cell (p := ⟨gx, 1, none⟩) hgx).trans q1, (hk0.cell (p := ⟨wr.heap.size, 0, none⟩) hgn).trans r0, (hk0.cell (p := ⟨wr.heap.size, 1, none⟩) hgn).trans r1⟩
            | exact ⟨((hk0.alloc (Nat.le_refl _) _).drew.cell (p := ⟨g, i, none⟩) hgw).trans d0, ((hk0.alloc (Nat.le_refl _) _).drew.cell (p := ⟨gx, 0, none⟩) hgx).trans q0, ((hk0.alloc (Nat.le_refl _) _).drew.cell (p := ⟨gx, 1, none⟩) hgx).trans q1, ((hk0.alloc (Nat.le_refl _) _).drew.cell (p := ⟨wr.heap.size, 0, none⟩) hgn).trans r0, ((hk0.alloc (Nat.le_refl _) _).drew.cell (p := ⟨wr.heap.size, 1, none⟩) hgn).trans r1⟩)
          (fail)
        have hbe := (hk0.alloc (Nat.le_refl _) (.cells #[.int .i64 (1 - OX), .int .i64 (-XV), .int .i64 0] 3)).drew
        have hze : W.heap.size < ((W.alloc (.cells #[.int .i64 (1 - OX), .int .i64 (-XV), .int .i64 0] 3)).drew).heap.size := by simp
        have HE : Hid (Row ((W.alloc (.cells #[.int .i64 (1 - OX), .int .i64 (-XV), .int .i64 0] 3)).drew) W.heap.size (.slice (some ⟨W.heap.size, 0, none⟩) 3 3) (Tic.gap n i)) := Lib.hid (by rw [HG.out]; exact (Row.built3 W _ _ _ (Nat.le_refl _)).drew)
        have HOV := Lib.hid (HOW.out.kept hbe)
        have HBV := Lib.hid (HBW.out.trans (hbe.mono HBW.out.size))
        clear hbe hk0 HOW HBW HO HB d0 q0 q1 r0 r1 k1 k2 hgx hgw hgn HG HPP
        generalize ((W.alloc (.cells #[.int .i64 (1 - OX), .int .i64 (-XV), .int .i64 0] 3)).drew) = V at *
        obtain ⟨p', co', ep, hp⟩ := HOV.out.vw
        simp only [Value.slice.injEq, true_and] at ep
        obtain ⟨rfl, rfl⟩ := ep
        have HPP := Lib.hid hp
        clear hp
        generalize hWz : W.heap.size = G at *
        obtain ⟨E, hE⟩ : ∃ E, E = Tic.gap n i := ⟨_, rfl⟩
        obtain ⟨L, hL⟩ : ∃ L, L = Tic.gps n i := ⟨_, rfl⟩
        have hE3 : E.length = 3 := by rw [hE]; rfl
        have HL3 : Hid (∀ x ∈ L, x.length = 3) := Lib.hid (by rw [hL]; exact Tic.gps_three n i)
        have HYES : Hid (E ∈ L → Tic.gps n (i + 1) = L) := Lib.hid (by rw [hE, hL]; exact Tic.gps_yes)
        have HNO : Hid (¬ E ∈ L → Tic.gps n (i + 1) = L ++ [E]) := Lib.hid (by rw [hE, hL]; exact Tic.gps_no)
        rw [← hE] at HE
        rw [← hL] at HOV HPP HOB hgl ⊢
        have HE3 := Lib.hid hE3
        clear hE hL hE3
        obtain ⟨m, hm⟩ : ∃ m, m = L.length := ⟨_, rfl⟩
        rw [← hm] at HPP hgl ⊢
        have HM := Lib.hid hm
        clear hm
        go_wp2
        go_loopw [8, 9] (fun t8 t9 wr => ∃ k : Nat, k ≤ m ∧ t9 = .int .i64 k ∧ t8 = .bool (decide (E ∈ L.take k)) ∧ Hid (Below V.heap.size V wr)) (fun _ t9 _ => m - (intOf t9).toNat)
        case atStart => exact ⟨0, Nat.zero_le _, rfl, by simp, Below.refl _ _⟩
        case round =>
          obtain ⟨k, hk, rfl, rfl, HBI⟩ := hrel
          by_cases hkm : k < m
          · obtain ⟨go, rfl, _, hgo, hcells⟩ := HPP.out (by omega)
            cases hb : decide (E ∈ L.take k) with
            | true =>
              have HT := Lib.hid (take_yes hb)
              clear hb hcells
              go_wp2
              go_roundw
              case rel => exact ⟨k + 1, by omega, by go_num, congrArg Value.bool HT.out.symm, HBI⟩
              case measure => simp [intOf]; omega
            | false =>
              have hkl : k < L.length := by rw [← HM.out]; exact hkm
              have hyl : L[k]? = some (L.getD k []) := by rw [List.getD_eq_getElem?_getD, List.getElem?_eq_getElem hkl]; rfl
              have HT := Lib.hid (take_no hkl hyl hb)
              have d1 := (HBI.out.cell (p := ⟨go, k, none⟩) hgo).trans (hcells k hkm)
              have HRK := Lib.hid ((HOV.out.row hkl).kept HBI.out)
              have HEK := Lib.hid (HE.out.kept HBI.out)
              have h3 : (L.getD k []).length = 3 := HL3.out _ (by rw [List.getD_eq_getElem?_getD, List.getElem?_eq_getElem hkl]; exact List.getElem_mem hkl)
              have H3 := Lib.hid h3
              have hzi := HBI.out.size
              clear hb hcells hkl hyl h3
              generalize us.getD k undef = u at d1 HRK
              generalize L.getD k [] = M at HRK HT H3
              by_cases he : M = E
              · subst he
                go_wp2_with fail
                refine (sameList_yes _ _ _ _ _ _ HRK.out HEK.out).mono ?_; rintro e w' ⟨rfl, bs⟩
                have HB2 := Lib.hid (HBI.out.trans (bs.mono hzi))
                clear bs d1
                go_wp2
                go_roundw
                case rel => exact ⟨k + 1, by omega, by go_num, congrArg Value.bool (by rw [HT.out]; simp), HB2⟩
                case measure => simp [intOf]; omega
              · have HNE := Lib.hid he
                clear he
                go_wp2_with fail
                refine (sameList_no _ _ _ _ _ _ _ HRK.out HEK.out (by rw [H3.out, HE3.out]) HNE.out).mono ?_; rintro e w' ⟨rfl, bs⟩
                have HB2 := Lib.hid (HBI.out.trans (bs.mono hzi))
                clear bs d1
                go_wp2
                go_roundw
                case rel => exact ⟨k + 1, by omega, by go_num, congrArg Value.bool (by rw [HT.out]; exact (decide_eq_false HNE.out).symm), HB2⟩
                case measure => simp [intOf]; omega
          · obtain rfl : k = m := by omega
            have htk : L.take k = L := by rw [HM.out]; exact List.take_length
            rw [htk]
            have hzv := HBV.out.size
            have HBO := Lib.hid (HBV.out.trans (HBI.out.mono hzv))
            have HOI := Lib.hid (HOV.out.kept HBI.out)
            have hzi := HBI.out.size
            clear htk
            by_cases hin : E ∈ L
            · rw [decide_eq_true hin]
              have HY := Lib.hid (HYES.out hin)
              rw [HM.out]
              clear hin
              go_wp2
              go_roundw
              case rel => exact ⟨i + 1, us, by omega, by go_num, by rw [HY.out]; exact HOI, HBO⟩
              case measure => simp [intOf]; omega
            · rw [decide_eq_false hin]
              have HN := Lib.hid (HNO.out hin)
              rw [HM.out] at hgl ⊢
              have HEI := Lib.hid (HE.out.kept HBI.out)
              have hoi := HOI.out
              have HOBv := Lib.hid HOB.out.1
              have HOBs := Lib.hid HOB.out.2
              clear hin
              go_wp2_with (at_builtin; refine wpList_append_list rfl _ _ rfl w1.heap.size _ us _ rfl (hoi.alloc _) wr.heap.size 1 (.slice (some ⟨G, 0, none⟩) 3 3) E rfl ?c0 ?c1 ?c2 ?c3 ?c4 ?c5 ?c6 ?_)
              case c0 => go_simp
              case c1 => exact (HEI.out.alloc _).mono (by omega)
              case c2 => rfl
              case c3 => intro q hq e; have h2 := HOBv.out q e; simp [Value.ownBlock] at hq; omega
              case c4 => intro q1 q hq1 hq e; have h2 := HOBs.out q1 q hq1 hq; simp [Value.ownBlock] at e; omega
              case c5 => omega
              case c6 => simp; omega
              intro v' w5 hl5 hb5 hg5 hk5
              have HL5 := Lib.hid hl5
              have HB5 : Hid (Below w1.heap.size w1 w5) := Lib.hid ((HBO.out.alloc HBO.out.size (.cells #[.slice (some ⟨G, 0, none⟩) 3 3] 29)).trans hb5)
              clear hl5 hb5 hg5 hk5 hoi
              go_wp2
              go_roundw
              case rel => exact ⟨i + 1, _, by omega, by go_num, by rw [HN.out]; exact HL5, HB5⟩
              case measure => simp [intOf]; omega
    · obtain rfl : i = n := by omega
      go_wp2
      go_ret
      exact ⟨_, us, rfl, HO.out.mono (by omega), HB1.out.trans (HB.out.mono hz1)⟩
theorem sGaps_no (n : Int) (w : World) (h : n < 1 ∨ 12 < n) : Calls Tryd.prog 12 #[.int .i64 n] w (GivesLists [] w) := by
  have HS := Lib.hid (fun w => sFifths_no n w h)
  go_enter Tryd.func12, Tryd.ntmps12
  go_wp2_with fail
  refine (HS.out _).mono ?_; rintro e w1 ⟨v, vs, rfl, hl, hb⟩
  have HB := Lib.hid hb
  rcases hl.shape with ⟨rfl, _⟩ | ⟨g, c, rfl, _⟩
  all_goals
    clear hl hb
    go_wp2_with fail
    go_ret
    exact ⟨_, _, rfl, Lists.nil _ _, HB.out⟩
end Go.Proofs.YtpcbplademohnaaDoor
