/-
  The walks of the laws of RatioOf, PowersOf, IntoOctave and StepsBy.
-/
import Derived.Test.YtlbmjpkkomdhhaaDoorTuneDraw
import Derived.Test.YtlbmjpkkomdhhaaDoorEqInts
import Derived.Test.YtlbmjpkkomdhhaaDoorInto2
import Derived.Test.YtlbmjpkkomdhhaaDoorPowOf2
import Derived.Test.YtlbmjpkkomdhhaaDoorStepsBy
import Derived.Test.YtlbmjpkkomdhhaaDoorExact6A
namespace Go.Proofs.YtlbmjpkkomdhhaaDoor
open Go.RowKit
set_option linter.unusedVariables false
set_option maxRecDepth 20000

/-- a list as a slice: its cells, if there are some -/
theorem Row.vw {w : World} {B : Nat} {v : Value} {L : List Int} (h : Row w B v L) : ∃ a c, v = .slice a L.length c ∧ (0 < L.length → ∃ g, a = some ⟨g, 0, none⟩ ∧ B ≤ g ∧ g < w.heap.size ∧ ∀ i, i < L.length → w.cell? ⟨g, i, none⟩ = some (.int .i64 (L.getD i 0))) := by
  rcases h.cases with ⟨rfl, rfl⟩ | ⟨g, c, rfl, h1, h2, h3, _⟩
  · exact ⟨none, 0, rfl, fun h => by simp at h⟩
  · exact ⟨_, c, rfl, fun _ => ⟨g, rfl, h1, h2, h3⟩⟩
set_option maxHeartbeats 400000 in
theorem turned_any (v : Value) (B : Nat) (L : List Int) (w : World) (hr : Row w B v L) (hl : L.length ≤ 3) (hb : ∀ x ∈ L, -24 ≤ x ∧ x ≤ 24) :
    Calls Tryd.prog 14 #[v] w (Gives (L.map fun x => -x) w) := by
  obtain ⟨p, m, rfl, hvw⟩ := hr.vw
  have HT : Hid (∀ k, k < L.length → (L.take (k + 1)).map (fun x => -x) = (L.take k).map (fun x => -x) ++ [-(L.getD k 0)]) := Lib.hid (fun k hk => by
    rw [List.take_succ_eq_append_getElem hk, List.map_append]
    simp [List.getD_eq_getElem?_getD, List.getElem?_eq_getElem hk])
  have HE : Hid ((L.take L.length).map (fun x => -x) = L.map fun x => -x) := Lib.hid (by rw [List.take_length])
  have HBD : Hid (∀ k, k < L.length → -24 ≤ L.getD k 0 ∧ L.getD k 0 ≤ 24) := Lib.hid (fun k hk => by
    rw [List.getD_eq_getElem?_getD, List.getElem?_eq_getElem hk]
    exact hb _ (List.getElem_mem hk))
  have HC := Lib.hid hvw
  have HLT : Hid (∀ k, ((L.take k).map fun x => -x).length ≤ 3) := Lib.hid (fun k => by rw [List.length_map, List.length_take]; omega)
  rw [← HE.out]
  generalize hn : L.length = n at *
  clear hn hvw hb hr
  go_enter Tryd.func14, Tryd.ntmps14
  go_wp2
  go_loopw [3, 4] (fun t3 t4 wr => ∃ k : Nat, k ≤ n ∧ t4 = .int .i64 k ∧ Hid (Row wr w.heap.size t3 ((L.take k).map fun x => -x)) ∧ Below w.heap.size w wr) (fun _ t4 _ => n - (intOf t4).toNat)
  case atStart => exact ⟨0, Nat.zero_le _, rfl, ⟨World.ownsRow_made w #[] 0 (Nat.le_refl _) (by decide) rfl, Nat.zero_le _⟩, (Below.refl _ _).alloc (Nat.le_refl _) _⟩
  case round =>
    obtain ⟨k, hk, rfl, HR, hbel⟩ := hrel
    have hs := hbel.size
    by_cases hlt : k < n
    · obtain ⟨g, rfl, hg, hg2, hcell⟩ := HC.out (by omega)
      have hc := (hbel.cell (p := ⟨g, k, none⟩) hg2).trans (hcell k hlt)
      have hbd := HBD.out k hlt
      have HN := Lib.hid (HT.out k hlt)
      have hll := HLT.out k
      generalize L.getD k 0 = y at *
      have hw := IntWalk.i64_in (-y) (by omega)
      go_wp2_with (at_builtin; refine wpList_append_int rfl _ _ rfl w.heap.size _ ((L.take k).map fun x => -x) rfl (HR.out.alloc _) wr.heap.size 1 (-y) rfl (by go_simp) (by omega) (by simp; omega) ?_)
      intro v' w4 hrow hb4
      have HR4 : Hid (Row w4 w.heap.size v' ((L.take (k + 1)).map fun x => -x)) := Lib.hid (by rw [HN.out, List.map_take]; exact hrow)
      have HB4 := (hbel.alloc hs _).trans hb4
      clear hrow hb4
      go_wp2
      go_roundw
      case rel => exact ⟨k + 1, by omega, by go_num, HR4, HB4⟩
      case measure => simp [intOf]; omega
    · obtain rfl : k = n := by omega
      go_wp2
      go_ret
      exact ⟨_, rfl, HR.out, hbel⟩
theorem ratL_yes {a b c : Int} (h : Tic.Pws a b c) : ratL [a, b, c] = ((Tic.rup a b c : Int), (Tic.rdn a b c : Int)) := by unfold ratL; simp only; rw [if_pos h]
theorem ratL_no {L : List Int} (h : ¬ PwsL L) : ratL L = (0, 0) := by
  have := ratLV_no h
  unfold ratLV at this
  simp only [Value.tuple.injEq, Array.mk.injEq, List.cons.injEq, Value.int.injEq, and_true, true_and] at this
  exact Prod.ext this.1 this.2
set_option maxHeartbeats 800000 in
theorem FnRatioOf_walk (x : Option Addr) (len cap : Nat) (w : World) (h : Code w x len cap) (hsh : Tabs w) :
    Calls Tryd.prog 3 #[.slice x len cap] w fun e w' => e = .returned (.bool true) ∧ Below w.heap.size w w' := by
  by_cases hl : len ≤ 1048576
  · have HD := Lib.hid (drawRatioOf x len cap w h)
    have HSH := Lib.hid hsh
    clear h hsh
    go_enter Tryd.func3, Tryd.ntmps3
    go_wp2_with fail
    refine HD.out.mono ?_; rintro e w1 ⟨v, L, rfl, hL, hr, hb⟩
    have HR := Lib.hid hr
    have HB := Lib.hid hb
    clear hr hb
    by_cases hp : PwsL L
    · obtain ⟨a, b, c, rfl, hpw⟩ := hp
      have HPW := Lib.hid hpw
      have HI := Lib.hid (fun v B w hs hr => iRatioOf_all v B [a, b, c] w hs hr)
      have HS := Lib.hid (fun v B w hr => sRatioOf_yes v B a b c w hr hpw)
      have HN := Lib.hid (fun v B w hs hp hr => iRatioOf_all v B [-a, -b, -c] w hs hp hr)
      have HTU := Lib.hid (fun v B w hr => turned_any v B [a, b, c] w hr (by simp) (by unfold Tic.Pws at hpw; intro x hx; simp at hx; omega))
      have HPO := Lib.hid (fun w hs hp => iPowers_all (Tic.rup a b c) (Tic.rdn a b c) w hs hp)
      rw [ratLV_yes hpw.neg] at HN
      unfold ratV at HS HN
      have hxp := Tic.rup_pos a b c
      have hyp := Tic.rdn_pos a b c
      have e1 : Tic.rup (-a) (-b) (-c) = Tic.rdn a b c := rfl
      have e2 : Tic.rdn (-a) (-b) (-c) = Tic.rup a b c := (Tic.rup_neg a b c).symm
      rw [e1, e2] at HN
      have HTO : Hid (Tic.rup a b c ≤ 1000000 → Tic.rdn a b c ≤ 1000000 → tolds (Tic.rup a b c) (Tic.rdn a b c) = some [a, b, c]) := Lib.hid (fun h1 h2 => by
        have n1 : Tic.Num (Tic.rup a b c) := ⟨hxp, h1⟩
        have n2 : Tic.Num (Tic.rdn a b c) := ⟨hyp, h2⟩
        obtain ⟨t1, t2, t3, t4⟩ := Tic.told_rup n1 n2
        rw [tolds_num n1 n2, if_pos (show Tic.Told _ _ from ⟨t1, by rw [t2, t3, t4]; exact hpw⟩), t2, t3, t4])
      have hxl := hpw.rup_lt
      have hyl := hpw.rdn_lt
      have HII := Lib.hid (fun v B w hs hr => (ratLV_yes hpw) ▸ iRatioOf_all v B [a, b, c] w hs hr)
      clear HI
      unfold ratV at HII
      clear e1 e2 hpw
      simp only [List.map_cons, List.map_nil] at HTU
      generalize Tic.rup a b c = X at *
      generalize Tic.rdn a b c = Y at *
      have TB := Lib.hid (HSH.out.kept HB.out)
      go_wp2_with fail
      refine (HII.out v _ w1 TB.out.1 TB.out.2 HR.out).mono ?_; rintro e w2 ⟨rfl, hb⟩
      have HR2 := Lib.hid (HR.out.kept hb)
      have HB2 := Lib.hid (HB.out.trans (hb.mono HB.out.size))
      clear hb HR HB TB
      go_wp2_with fail
      refine (HS.out _ _ _ HR2.out).mono ?_; rintro e w3 ⟨rfl, hb⟩
      have HR3 := Lib.hid (HR2.out.kept hb)
      have HB3 := Lib.hid (HB2.out.trans (hb.mono HB2.out.size))
      clear hb HR2 HB2
      go_wp2_with fail
      refine (HTU.out _ _ _ HR3.out).mono ?_; rintro e w4 ⟨v4, rfl, hr4, hb⟩
      have HR4 := Lib.hid (HR3.out.kept hb)
      have HT4 := Lib.hid hr4
      have HB4 := Lib.hid (HB3.out.trans (hb.mono HB3.out.size))
      clear hb hr4 HR3 HB3
      go_wp2_with fail
      refine (HN.out _ _ _ (HSH.out.kept HB4.out).1 (HSH.out.kept HB4.out).2 HT4.out).mono ?_; rintro e w5 ⟨rfl, hb⟩
      have HR5 := Lib.hid (HR4.out.kept hb)
      have HB5 := Lib.hid (HB4.out.trans (hb.mono HB4.out.size))
      clear hb HR4 HB4 HT4
      by_cases hb1 : X ≤ 1000000 ∧ Y ≤ 1000000
      · obtain ⟨b1, b2⟩ := hb1
        have HPO2 := HPO.out w5 (HSH.out.kept HB5.out).1 (HSH.out.kept HB5.out).2
        rw [HTO.out b1 b2] at HPO2
        have HP2 := Lib.hid HPO2
        clear HPO2
        go_wp2_with fail
        refine HP2.out.mono ?_; rintro e w6 ⟨v6, rfl, hr6, hb⟩
        have HR6 := Lib.hid (HR5.out.kept hb)
        have HV6 := Lib.hid hr6
        have HB6 := Lib.hid (HB5.out.trans (hb.mono HB5.out.size))
        clear hb hr6 HR5 HB5
        simp only [Option.isSome_some]
        go_wp2_with fail
        refine (equalInts_yes _ _ _ _ _ _ HV6.out HR6.out).mono ?_; rintro e w7 ⟨rfl, hb⟩
        have hB := HB6.out.trans (hb.mono HB6.out.size)
        go_wp2_with fail
        go_ret
        exact ⟨rfl, hB⟩
      · have HPO2 := HPO.out w5 (HSH.out.kept HB5.out).1 (HSH.out.kept HB5.out).2
        have HP2 := Lib.hid HPO2
        clear HPO2
        rcases (show 1000000 < X ∨ (X ≤ 1000000 ∧ 1000000 < Y) by omega) with hb2 | ⟨hb2, hb3⟩
        all_goals
          go_wp2_with fail
          refine HP2.out.mono ?_; rintro e w6 ⟨v6, rfl, hr6, hb⟩
          have HB6 := Lib.hid (HB5.out.trans (hb.mono HB5.out.size))
          clear hb hr6 HR5 HB5
          go_wp2_with fail
          go_ret
          exact ⟨rfl, HB6.out⟩
    · have hI := iRatioOf_all v _ L w1 (HSH.out.kept HB.out).1 (HSH.out.kept HB.out).2 HR.out
      rw [ratLV_no hp] at hI
      have HI := Lib.hid hI
      have HS := Lib.hid (fun W (hr : Row W w.heap.size v L) => sRatioOf_no v w.heap.size L W hr hp)
      clear hI hp
      go_wp2_with fail
      refine HI.out.mono ?_; rintro e w2 ⟨rfl, hb⟩
      have HR2 := Lib.hid (HR.out.kept hb)
      have HB2 := Lib.hid (HB.out.trans (hb.mono HB.out.size))
      clear hb HR HB
      go_wp2_with fail
      refine (HS.out _ HR2.out).mono ?_; rintro e w3 ⟨rfl, rfl⟩
      go_wp2_with fail
      go_ret
      exact ⟨rfl, HB2.out⟩
  · clear h
    go_enter Tryd.func3, Tryd.ntmps3
    go_wp2
    go_ret
    exact ⟨rfl, Below.refl _ _⟩
end Go.Proofs.YtlbmjpkkomdhhaaDoor
