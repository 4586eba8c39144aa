/-
  The contract of the program's GapsBetween.
-/
import Derived.Test.YtpcbplademohnaaDoorGapsIn
import Derived.Test.YtpcbplademohnaaDoorChain
import Derived.Test.YtpcbplademohnaaDoorFifths
namespace Go.Proofs.YtpcbplademohnaaDoor
open Go.RowKit Go.Sort
set_option linter.unusedVariables false
set_option maxRecDepth 20000

/-- the octave, as a row -/
def octR : List Value := [.int .i64 1, .int .i64 0, .int .i64 0, .int .i64 2, .int .i64 1]
theorem chained_all {n : Nat} (h2 : n ≤ 12) : Chained n ((Tic.chain n).map encR ++ [octR]) := by
  have hcl := Tic.chain_len h2
  refine ⟨by simp [hcl], fun k hk => ?_⟩
  by_cases h : k < n
  · refine ⟨(Tic.fu ((Tic.chain n).getD k 0) : Int), (Tic.fd ((Tic.chain n).getD k 0) : Int), ?_⟩
    unfold Tic.pa Tic.pb
    rw [if_pos h, if_pos h, List.getD_eq_getElem?_getD, List.getElem?_append_left (by simp [hcl]; exact h), List.getElem?_map, List.getD_eq_getElem?_getD, List.getElem?_eq_getElem (by omega)]
    rfl
  · obtain rfl : k = n := by omega
    refine ⟨2, 1, ?_⟩
    unfold Tic.pa Tic.pb
    rw [if_neg h, if_neg h, List.getD_eq_getElem?_getD, List.getElem?_append_right (by simp [hcl])]
    simp [hcl, octR]
theorem Rats.mono {w : World} {B B' : Nat} {v : Value} {M : List (List Value)} (h : Rats w B v M) (hB : B' ≤ B) : Rats w B' v M := by
  obtain ⟨⟨h31, h3⟩, r⟩ := h
  refine ⟨⟨h31, ?_⟩, r⟩
  rcases h3 with h3 | ⟨g, cap, cur, e, hg, r⟩
  · exact .inl h3
  · exact .inr ⟨g, cap, cur, e, by omega, r⟩
theorem Rats.lt {w : World} {B : Nat} {v : Value} {M : List (List Value)} (h : Rats w B v M) : ∀ q, v.ownBlock = some q → B ≤ q ∧ q < w.heap.size := fun q hq => by
  rcases h.1.2 with ⟨e, _⟩ | ⟨g, cap, cur, e, hg, hb, _⟩
  · subst e; cases hq
  · subst e; simp [Value.ownBlock] at hq; subst hq; exact ⟨hg, (Array.getElem?_eq_some_iff.1 hb).1⟩
/-- a ratio is appended, at a step of a region that draws its order -/
theorem step_app_rat {ops : Array Oper} {o : Oper} {a : Act} {w : World} {K : Act → World → Prop} {Q : Exit → Act → World → Prop} {E : Prop} (hgd : o.guard = none) (s x : Operand)
    (ho : o.op = .call { callee := .builtin .append, args := #[s, x], argTypes := #[38, 38] })
    (V : World) (v : Value) (M : List (List Value)) (hs : a.eval s = v) (g c : Nat) (row : List Value) (hx : a.eval x = .slice (some ⟨g, 0, none⟩) 1 c)
    (hk : Below V.heap.size V w) (hr : Rats w V.heap.size v M) (h5 : row.length = 5) (hc : ∀ j u, row[j]? = some u → w.cell? ⟨g, j, none⟩ = some u) (h1 : ∀ u ∈ row, u.oneCell' = true) (hM : M.length < 16)
    (h : ∀ v' w', Rats w' V.heap.size v' (M ++ [row]) → Below V.heap.size V w' → K (a.put o.dst v') w') :
    if Region.wanted o (yielded ops a.tmps) = true then Oper.wp Tryd.prog o a w K Q else E := by
  have hw : Region.wanted o (yielded ops a.tmps) = true := by simp [Region.wanted, hgd]
  rw [if_pos hw]
  obtain ⟨i0, hi, hz0, hz1, hz2⟩ := info_partsT info_ratio
  obtain ⟨v', w', hr', h2, h3, h4, h5'⟩ := run_append_own_at (P := Tryd.prog) w V.heap.size 38 o.type 43 i0 _ 5 40 Tryd.underlying38 hi hz0 hz1 hz2 rfl (by decide) v M.length _ hr.1 ⟨g, 0, none⟩ 1 c row
    (by omega) (fun j u hj => by
      have e : (⟨g, 0, none⟩ : Addr).add j = ⟨g, j, none⟩ := by unfold Addr.add; split <;> simp_all
      rw [e]; exact hc j u hj) h1 (by unfold maxLen; omega) (by omega) hk.size
  unfold Oper.wp execOp
  simp only [ho, resolve, invoke, builtin, Sem.run_bind, Sem.run_pure, Result.andThen_ok, List.map_toArray, List.map_cons, List.map_nil, hs, hx, hr']
  refine h v' w' ⟨?_, by simp; omega, fun m hm => ?_⟩ (hk.grown h3 hk.size (fun q hq => (hr.lt q hq).1))
  · rw [List.length_append, List.flatten_append]
    simpa using h2
  · rcases List.mem_append.1 hm with q | q
    · exact hr.2.2 m q
    · simp at q; subst q; exact h5
/-- a block of five numbers just made -/
theorem oct_new (w : World) (t : TypeId) (g : Nat) (hg : g = w.heap.size) : ∀ j u, octR[j]? = some u → (w.alloc (.cells #[.int .i64 1, .int .i64 0, .int .i64 0, .int .i64 2, .int .i64 1] t)).cell? ⟨g, j, none⟩ = some u := fun j u hj => by
  rw [World.cell?_alloc_at _ _ _ _ hg, ← hj]
  unfold octR
  simp
set_option maxHeartbeats 2000000 in
theorem iGaps_yes (n : Nat) (w : World) (hp : Primes w) (h1 : 1 ≤ n) (h2 : n ≤ 12) :
    Calls Tryd.prog 13 #[.int .i64 n] w (GivesLists (Tic.gps n n) w) := by
  have HC := Lib.hid (fun w hw => chainOf_any n w hw h1 h2)
  have HRA : Hid (∀ w, Primes w → Calls Tryd.prog 31 #[.agg #[.int .i64 1, .int .i64 0, .int .i64 0]] w fun e w' => e = .returned (.agg #[.int .i64 1, .int .i64 0, .int .i64 0, .int .i64 2, .int .i64 1]) ∧ Below w.heap.size w w') := Lib.hid (fun w hw => ratio_any 1 0 0 w hw (Tic.Pws.fit (a := 1) (b := 0) (c := 0) ⟨by decide, by decide, by decide, by decide, by decide, by decide⟩))
  have HGI := Lib.hid (fun v B w h => gapsIn_any n v B _ w h1 h2 (chained_all h2) h)
  have hcl := Tic.chain_len h2
  have HP := Lib.hid (fun (W : World) hW => Primes.kept (w := w) (w' := W) hp hW)
  clear hp
  go_enter Tryd.func13, Tryd.ntmps13
  go_wp2_with fail
  refine (parts_yes _ _ (by omega) (by omega)).mono ?_; rintro e w' ⟨rfl, rfl⟩
  go_wp2_with fail
  refine (HRA.out _ (HP.out _ (Below.refl _ _))).mono ?_; rintro e w1 ⟨rfl, hb1⟩
  go_wp2_with fail
  obtain ⟨z0, z1, z2, z3, z4, _⟩ := Rt.new w1 1 0 0 2 1 43
  have hB2 := hb1.alloc hb1.size (.cells #[.int .i64 1, .int .i64 0, .int .i64 0, .int .i64 2, .int .i64 1] 43)
  have hsV : w1.heap.size < (w1.alloc (.cells #[.int .i64 1, .int .i64 0, .int .i64 0, .int .i64 2, .int .i64 1] 43)).heap.size := by simp
  have HB := Lib.hid hB2
  have hz := hB2.size
  clear hb1 hB2 HRA
  generalize (w1.alloc (.cells #[.int .i64 1, .int .i64 0, .int .i64 0, .int .i64 2, .int .i64 1] 43)) = V at *
  generalize w1.heap.size = s3 at *
  have HPK : Hid (∀ W, Below V.heap.size V W → Primes W) := Lib.hid (fun W hW => HP.out _ (HB.out.trans (hW.mono hz)))
  have HKC : Hid (∀ U, Below V.heap.size V U → U.cell? ⟨s3, 0, none⟩ = some (.int .i64 1) ∧ U.cell? ⟨s3, 1, none⟩ = some (.int .i64 0) ∧ U.cell? ⟨s3, 2, none⟩ = some (.int .i64 0) ∧ U.cell? ⟨s3, 3, none⟩ = some (.int .i64 2) ∧ U.cell? ⟨s3, 4, none⟩ = some (.int .i64 1)) := Lib.hid (fun U hk0 => ⟨(hk0.cell (p := ⟨s3, 0, none⟩) hsV).trans z0, (hk0.cell (p := ⟨s3, 1, none⟩) hsV).trans z1, (hk0.cell (p := ⟨s3, 2, none⟩) hsV).trans z2, (hk0.cell (p := ⟨s3, 3, none⟩) hsV).trans z3, (hk0.cell (p := ⟨s3, 4, none⟩) hsV).trans z4⟩)
  clear z0 z1 z2 z3 z4
  have hk0 : Below V.heap.size V V := Below.refl _ _
  have HM : Hid (((Tic.chain n).map encR).length < 16) := Lib.hid (by rw [List.length_map, hcl]; omega)
  have H1 : Hid (∀ u ∈ octR, u.oneCell' = true) := Lib.hid (by intro u hu; simp [octR] at hu; rcases hu with rfl | rfl | rfl | rfl <;> rfl)
  go_region_held3 (fun w' => w'.cell? ⟨s3, 0, none⟩ = some (.int .i64 1) ∧ w'.cell? ⟨s3, 1, none⟩ = some (.int .i64 0) ∧ w'.cell? ⟨s3, 2, none⟩ = some (.int .i64 0) ∧ w'.cell? ⟨s3, 3, none⟩ = some (.int .i64 2) ∧ w'.cell? ⟨s3, 4, none⟩ = some (.int .i64 1))
    (exact HKC.out _ (by first | exact hk0 | exact hk0.drew | exact hk0.alloc hk0.size _ | exact (hk0.alloc hk0.size _).drew))
    (first
      | (go_at_call 25; refine (HC.out _ (HPK.out _ (hk0.alloc hk0.size _).drew)).mono ?_; rintro e w5 ⟨v5, rfl, hr5, hb5⟩; have hq5 := hb5.mono (show V.heap.size ≤ _ from (hk0.alloc hk0.size (.cells #[.int .i64 1, .int .i64 0, .int .i64 0, .int .i64 2, .int .i64 1] 43)).drew.size); have hn5 : ∀ j u, octR[j]? = some u → w5.cell? ⟨V.heap.size, j, none⟩ = some u := fun j u hj => (hb5.cell (p := ⟨V.heap.size, j, none⟩) (by simp)).trans (oct_new V 43 _ rfl j u hj); replace hr5 := hr5.mono (show V.heap.size ≤ _ from (hk0.alloc hk0.size (.cells #[.int .i64 1, .int .i64 0, .int .i64 0, .int .i64 2, .int .i64 1] 43)).drew.size); replace hk0 := ((hk0.alloc hk0.size (.cells #[.int .i64 1, .int .i64 0, .int .i64 0, .int .i64 2, .int .i64 1] 43)).drew).trans hq5; clear hb5 hq5)
      | (go_at_call 25; refine (HC.out _ (HPK.out _ hk0.drew)).mono ?_; rintro e w5 ⟨v5, rfl, hr5, hb5⟩; replace hr5 : Rats w5 V.heap.size v5 ((Tic.chain n).map encR) := hr5; replace hk0 := hk0.drew.trans hb5; clear hb5)
      | (refine step_app_rat (by rfl) _ _ (by rfl) V v5 ((Tic.chain n).map encR) (by rfl) V.heap.size 1 octR (by rfl) ?_ ?_ ?_ ?_ ?_ ?_ ?_; exact hk0; exact hr5; rfl; exact hn5; exact H1.out; exact HM.out; (intro v6 w6 hr6 hk6; replace hk0 := hk6; clear hk6 hn5 hr5))
      | (refine step_app_rat (by rfl) _ _ (by rfl) V v5 ((Tic.chain n).map encR) (by rfl) w5.heap.size 1 octR (by rfl) ?_ ?_ ?_ ?_ ?_ ?_ ?_; exact hk0.alloc hk0.size _; exact hr5.kept ((Below.refl _ _).alloc (Nat.le_refl _) _); rfl; exact oct_new _ _ _ rfl; exact H1.out; exact HM.out; (intro v6 w6 hr6 hk6; replace hk0 := hk6; clear hk6 hr5))
      | (go_at_call 32; refine (HGI.out _ _ _ hr6).mono ?_; rintro e w7 ⟨v7, rfl, ht7, hb7⟩; replace ht7 := ht7; obtain ⟨p7, c7, rfl, _, hp7⟩ := ht7.vw; have hz6 := hk0.size; have HT7 := Lib.hid ht7; have HP7 := Lib.hid hp7; replace hk0 := hk0.trans (hb7.mono hz6); clear hb7 ht7 hp7 hr6)
      | fail)
  all_goals
    have HBW := Lib.hid (HB.out.trans (hk0.mono hz))
    have HL3 := Lib.hid HT7.out.2.2
    have hl7 := HT7.out.2.1
    clear hk0 HT7 HKC HPK HGI HC HB HM H1
    generalize Tic.gps n n = L at *
    obtain ⟨m, hm⟩ : ∃ m, m = L.length := ⟨_, rfl⟩
    rw [← hm] at HP7 hl7 ⊢
    have HM := Lib.hid hm
    clear hm
    have hz7 := HBW.out.size
    go_wp2
    go_loopw [4, 19] (fun t4 t19 wr => ∃ (i : Nat) (vs : List Value), i ≤ m ∧ t19 = .int .i64 i ∧ Hid (Lists wr w7.heap.size t4 vs (L.take i)) ∧ Hid (Below w7.heap.size w7 wr)) (fun _ t19 _ => m - (intOf t19).toNat)
    case atStart => exact ⟨0, [], Nat.zero_le _, rfl, by rw [List.take_zero]; exact Lists.nil _ _, Below.refl _ _⟩
    case round =>
      obtain ⟨i, vs, hi, rfl, HO1, HB1⟩ := hrel
      by_cases hlt : i < m
      · obtain ⟨g7, rfl, _, hg7, hcells⟩ := HP7.out (by omega)
        obtain ⟨x, y, z, hx, c0, c1, c2⟩ := hcells i hlt
        replace c0 := (HB1.out.cell (p := ⟨g7, i * 3, none⟩) hg7).trans c0
        replace c1 := (HB1.out.cell (p := ⟨g7, i * 3 + 1, none⟩) hg7).trans c1
        replace c2 := (HB1.out.cell (p := ⟨g7, i * 3 + 2, none⟩) hg7).trans c2
        have hzr := HB1.out.size
        have hgr : g7 < wr.heap.size := by omega
        have hlm : i < L.length := by rw [← HM.out]; exact hlt
        have HNX : Hid (L.take (i + 1) = L.take i ++ [[x, y, z]]) := Lib.hid (by
          rw [List.take_succ_eq_append_getElem hlm]
          rw [List.getD_eq_getElem?_getD, List.getElem?_eq_getElem hlm, Option.getD_some] at hx
          rw [hx])
        have htl : (L.take i).length ≤ 64 := by rw [List.length_take]; omega
        have i1 : (i : Int) < (m : Int) := by omega
        have i0 : (0 : Int) ≤ (i : Int) := by omega
        have hba := (Below.refl wr.heap.size wr).alloc (Nat.le_refl _) (.cells #[.int .i64 x, .int .i64 y, .int .i64 z] 41)
        obtain ⟨d0, d1, d2, _⟩ := Pw3.new wr x y z 41
        have HO2 := Lib.hid (HO1.out.kept hba)
        have HB2 := Lib.hid (HB1.out.trans (hba.mono hzr))
        have hz2 : (wr.alloc (.cells #[.int .i64 x, .int .i64 y, .int .i64 z] 41)).heap.size = wr.heap.size + 1 := by simp
        have HPL := Lib.hid (fun w => plist_any x y z w)
        unfold pwV at HPL
        clear hcells hx hlm hba HO1 HB1
        go_upto_region 8 with fail
        clear c0 c1 c2
        generalize wr.alloc (.cells #[.int .i64 x, .int .i64 y, .int .i64 z] 41) = W at *
        go_wp2_with fail
        refine (HPL.out _).mono ?_; rintro e w3 ⟨u, rfl, hu, hb3⟩
        have HO2b := Lib.hid (HO2.out.blocks)
        have HO3 := Lib.hid (HO2.out.kept hb3)
        have HB3 := Lib.hid (HB2.out.trans (hb3.mono HB2.out.size))
        have HU := Lib.hid hu
        have hz3 := hb3.size
        clear HO2 HB2 hu hb3 d0 d1 d2
        obtain ⟨p, mm, rfl⟩ := HU.out.len
        have huge : ∀ k, (Value.slice p 3 mm).ownBlock = some k → W.heap.size ≤ k ∧ k < w3.heap.size := HU.out.lt
        have HUG := Lib.hid huge
        clear huge
        go_wp2_with (at_builtin; refine wpList_append_list rfl _ _ rfl w7.heap.size _ vs _ rfl (HO3.out.alloc _) w3.heap.size 1 (.slice p 3 mm) [x, y, z] rfl ?c0 ?c1 ?c2 ?c3 ?c4 ?c5 ?c6 ?_)
        case c0 => go_simp
        case c1 => exact (HU.out.alloc _).mono (by omega)
        case c2 => rfl
        case c3 => intro q hq e; have h1 := HUG.out q hq; have h2 := HO2b.out.1 q e; omega
        case c4 => intro q1 q hq1 hq e; have h1 := HUG.out q e; have h2 := HO2b.out.2 q1 q hq1 hq; omega
        case c5 => omega
        case c6 => simp; omega
        intro v' w4 hl4 hb4 hg4 hk4
        have HL4 : Hid (Lists w4 w7.heap.size v' (vs ++ [.slice p 3 mm]) (L.take (i + 1))) := Lib.hid (by rw [HNX.out]; exact hl4)
        have HB4 : Hid (Below w7.heap.size w7 w4) := Lib.hid ((HB3.out.alloc HB3.out.size (.cells #[.slice p 3 mm] 29)).trans hb4)
        clear hl4 hb4 hg4 hk4 HO3 HB3
        go_wp2
        go_roundw
        case rel => exact ⟨i + 1, _, by omega, by go_num, HL4, HB4⟩
        case measure => simp [intOf]; omega
      · obtain rfl : i = m := by omega
        have HE : Hid (L.take i = L) := Lib.hid (by rw [HM.out]; exact List.take_length)
        go_wp2
        go_ret
        exact ⟨_, vs, rfl, by have := HO1.out; rw [HE.out] at this; exact this.mono (by omega), HBW.out.trans (HB1.out.mono hz7)⟩
theorem iGaps_no (n : Int) (w : World) (h : n < 1 ∨ 12 < n) : Calls Tryd.prog 13 #[.int .i64 n] w (GivesLists [] w) := by
  go_enter Tryd.func13, Tryd.ntmps13
  go_wp2_with fail
  refine (parts_no _ _ h).mono ?_; rintro e w' ⟨rfl, rfl⟩
  go_wp2
  go_ret
  exact ⟨_, _, rfl, Lists.nil _ _, Below.refl _ _⟩
end Go.Proofs.YtpcbplademohnaaDoor
