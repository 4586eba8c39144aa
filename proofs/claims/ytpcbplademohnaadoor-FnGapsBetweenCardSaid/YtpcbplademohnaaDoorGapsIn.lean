/-
  The program's gaps in a list of ratios.
-/
import Derived.Test.YtpcbplademohnaaDoorHas
import Derived.Test.YtpcbplademohnaaDoorGapNum
import Derived.Test.YtpcbplademohnaaDoorOver
import Derived.Deep.RegionHeld3
import Derived.Deep.Cut
namespace Go.Proofs.YtpcbplademohnaaDoor
open Go.RowKit Go.Sort
set_option linter.unusedVariables false
set_option maxRecDepth 20000

namespace Tic
/-- the powers of the tones of a chain, the octave behind them -/
def pa (n k : Nat) : Int := if k < n then oc ((chain n).getD k 0) else 1
def pb (n k : Nat) : Int := if k < n then (((chain n).getD k 0).val : Int) else 0
theorem pab_bd (n k : Nat) : -24 ≤ pa n k ∧ pa n k ≤ 1 ∧ 0 ≤ pb n k ∧ pb n k ≤ 11 := by
  unfold pa pb
  split
  · have h := oc_bd ((chain n).getD k 0)
    have h2 := ((chain n).getD k 0).isLt
    omega
  · omega
theorem gap_pab {n k : Nat} (h : k < n) : gap n k = [pa n (k + 1) - pa n k, pb n (k + 1) - pb n k, 0] := by
  unfold gap nxo nxt pa pb
  rw [if_pos h, if_pos h]
end Tic
/-- the rows of a chain of fifths and of the octave behind it -/
def Chained (n : Nat) (M : List (List Value)) : Prop := M.length = n + 1 ∧ ∀ k, k ≤ n → ∃ u d : Int, M.getD k [] = [.int .i64 (Tic.pa n k), .int .i64 (Tic.pb n k), .int .i64 0, .int .i64 u, .int .i64 d]
set_option maxHeartbeats 2000000 in
theorem gapsIn_any (n : Nat) (v : Value) (B : Nat) (M : List (List Value)) (w : World) (h1 : 1 ≤ n) (h2 : n ≤ 12) (hM : Chained n M) (h : Rats w B v M) :
    Calls Tryd.prog 32 #[v] w fun e w' => ∃ v', e = .returned v' ∧ Trips w' w.heap.size v' (Tic.gps n n) ∧ Below w.heap.size w w' := by
  obtain ⟨hl, hrow⟩ := hM
  obtain ⟨g, cap, rfl, _, hg, hcap, hcell⟩ := h.cases (by omega)
  rw [hl] at hcap hcell ⊢
  have HC : Hid (∀ k, k ≤ n → ∃ u d : Int, w.cell? ⟨g, k * 5, none⟩ = some (.int .i64 (Tic.pa n k)) ∧ w.cell? ⟨g, k * 5 + 1, none⟩ = some (.int .i64 (Tic.pb n k)) ∧ w.cell? ⟨g, k * 5 + 2, none⟩ = some (.int .i64 0) ∧ w.cell? ⟨g, k * 5 + 3, none⟩ = some (.int .i64 u) ∧ w.cell? ⟨g, k * 5 + 4, none⟩ = some (.int .i64 d)) := Lib.hid (fun k hk => by
    obtain ⟨u, d, e⟩ := hrow k hk
    refine ⟨u, d, ?_⟩
    have hc : ∀ j, j < 5 → w.cell? ⟨g, k * 5 + j, none⟩ = ([.int .i64 (Tic.pa n k), .int .i64 (Tic.pb n k), .int .i64 0, .int .i64 u, .int .i64 d] : List Value)[j]? := fun j hj => by
      rw [(hcell k j (by omega) hj).1, e]
    exact ⟨hc 0 (by decide), hc 1 (by decide), hc 2 (by decide), hc 3 (by decide), hc 4 (by decide)⟩)
  have hc1 : ¬ cap = 1 := by omega
  have hc2 : (1 : Int) ≤ (cap : Int) := by omega
  have hc3 : (n : Int) + 1 ≤ (cap : Int) := by omega
  clear hcell hrow hl h
  go_enter Tryd.func32, Tryd.ntmps32
  go_wp2_with fail
  go_loopw [3, 10] (fun t3 t10 wr => ∃ k : Nat, k ≤ n ∧ t10 = .int .i64 k ∧ Hid (Trips wr w.heap.size t3 (Tic.gps n k)) ∧ Hid (Below w.heap.size w wr)) (fun _ t10 _ => n - (intOf t10).toNat)
  case atStart => exact ⟨0, Nat.zero_le _, rfl, Trips.nil _ _, Below.refl _ _⟩
  case round =>
    obtain ⟨k, hk, rfl, HT, HB⟩ := hrel
    by_cases hlt : k < n
    · obtain ⟨u, d, p0, p1, p2, p3, p4⟩ := HC.out k (by omega)
      obtain ⟨u', d', q0, q1, q2, q3, q4⟩ := HC.out (k + 1) (by omega)
      obtain ⟨b1, b2, b3, b4⟩ := Tic.pab_bd n k
      obtain ⟨b5, b6, b7, b8⟩ := Tic.pab_bd n (k + 1)
      have HG : Hid (Tic.gap n k = [Tic.pa n (k + 1) - Tic.pa n k, Tic.pb n (k + 1) - Tic.pb n k, 0]) := Lib.hid (Tic.gap_pab hlt)
      rw [show (k + 1) * 5 = 5 + k * 5 by omega] at q0 q1 q2 q3 q4
      have hz := HB.out.size
      replace p0 := (HB.out.cell (p := ⟨g, k * 5, none⟩) hg).trans p0
      replace p1 := (HB.out.cell (p := ⟨g, k * 5 + 1, none⟩) hg).trans p1
      replace p2 := (HB.out.cell (p := ⟨g, k * 5 + 2, none⟩) hg).trans p2
      replace q0 := (HB.out.cell (p := ⟨g, 5 + k * 5, none⟩) hg).trans q0
      replace q1 := (HB.out.cell (p := ⟨g, 5 + k * 5 + 1, none⟩) hg).trans q1
      replace q2 := (HB.out.cell (p := ⟨g, 5 + k * 5 + 2, none⟩) hg).trans q2
      replace q3 := (HB.out.cell (p := ⟨g, 5 + k * 5 + 3, none⟩) hg).trans q3
      replace q4 := (HB.out.cell (p := ⟨g, 5 + k * 5 + 4, none⟩) hg).trans q4
      have hgw : g < wr.heap.size := by omega
      have i1 : (k : Int) < (n : Int) := by omega
      have i0 : (0 : Int) ≤ (k : Int) := by omega
      clear p3 p4
      generalize Tic.pa n (k + 1) = A2 at *
      generalize Tic.pb n (k + 1) = B2 at *
      generalize Tic.pa n k = A1 at *
      generalize Tic.pb n k = B1 at *
      go_upto_region 5 with fail
      obtain ⟨z0, z1, z2, _, _, _⟩ := Rt.new wr A2 B2 0 u' d' 43
      have hba := (Below.refl wr.heap.size wr).alloc (Nat.le_refl _) (.cells #[.int .i64 A2, .int .i64 B2, .int .i64 0, .int .i64 u', .int .i64 d'] 43)
      have hzw : (wr.alloc (.cells #[.int .i64 A2, .int .i64 B2, .int .i64 0, .int .i64 u', .int .i64 d'] 43)).heap.size = wr.heap.size + 1 := by simp
      replace p0 := (hba.cell (p := ⟨g, k * 5, none⟩) hgw).trans p0
      replace p1 := (hba.cell (p := ⟨g, k * 5 + 1, none⟩) hgw).trans p1
      replace p2 := (hba.cell (p := ⟨g, k * 5 + 2, none⟩) hgw).trans p2
      have HTW := Lib.hid (HT.out.kept hba)
      have HBW := Lib.hid (HB.out.trans (hba.mono hz))
      have HOV := Lib.hid (fun w => over_any A2 B2 0 A1 B1 0 w ⟨by omega, by omega, by omega, by omega, by omega, by omega⟩ ⟨by omega, by omega, by omega, by omega, by omega, by omega⟩)
      unfold pwV at HOV
      rw [Int.sub_self] at HOV
      clear q0 q1 q2 q3 q4 hba HT HB
      generalize wr.alloc (.cells #[.int .i64 A2, .int .i64 B2, .int .i64 0, .int .i64 u', .int .i64 d'] 43) = W at *
      generalize wr.heap.size = s5 at *
      have hsW : s5 < W.heap.size := by omega
      have hgW : g < W.heap.size := by omega
      have HZW := Lib.hid hzw
      clear hzw
      have hk0 : Below W.heap.size W W := Below.refl _ _
      have HKC : Hid (∀ V, Below W.heap.size W V → V.cell? ⟨s5, 0, none⟩ = some (.int .i64 A2) ∧ V.cell? ⟨s5, 1, none⟩ = some (.int .i64 B2) ∧ V.cell? ⟨s5, 2, none⟩ = some (.int .i64 0) ∧ V.cell? ⟨g, k * 5, none⟩ = some (.int .i64 A1) ∧ V.cell? ⟨g, k * 5 + 1, none⟩ = some (.int .i64 B1) ∧ V.cell? ⟨g, k * 5 + 2, none⟩ = some (.int .i64 0)) := Lib.hid (fun V hk0 => ⟨(hk0.cell (p := ⟨s5, 0, none⟩) hsW).trans z0, (hk0.cell (p := ⟨s5, 1, none⟩) hsW).trans z1, (hk0.cell (p := ⟨s5, 2, none⟩) hsW).trans z2, (hk0.cell (p := ⟨g, k * 5, none⟩) hgW).trans p0, (hk0.cell (p := ⟨g, k * 5 + 1, none⟩) hgW).trans p1, (hk0.cell (p := ⟨g, k * 5 + 2, none⟩) hgW).trans p2⟩)
      have i3 : (k : Int) < (n : Int) + 1 := by omega
      have hs1 : (W.alloc (.cells #[.int .i64 0, .int .i64 0, .int .i64 0] 41)).drew.heap.size = W.heap.size + 1 := World.size_alloc _ _
      go_region_held3 (fun w' => w'.cell? ⟨s5, 0, none⟩ = some (.int .i64 A2) ∧ w'.cell? ⟨s5, 1, none⟩ = some (.int .i64 B2) ∧ w'.cell? ⟨s5, 2, none⟩ = some (.int .i64 0) ∧ w'.cell? ⟨g, k * 5, none⟩ = some (.int .i64 A1) ∧ w'.cell? ⟨g, k * 5 + 1, none⟩ = some (.int .i64 B1) ∧ w'.cell? ⟨g, k * 5 + 2, none⟩ = some (.int .i64 0))
        (exact HKC.out _ (by first | exact hk0 | exact hk0.drew | exact hk0.alloc hk0.size _ | exact (hk0.alloc hk0.size _).drew | exact ((hk0.setCell (Nat.le_refl _) _).setCell (Nat.le_refl _) _).setCell (Nat.le_refl _) _))
        (first
          | (go_at_call 44; refine (HOV.out _).mono ?_; rintro e w7 ⟨rfl, hb⟩; have hPZ := ((Pw3.new0 W 41).drew).kept hb (by omega); replace hk0 := ((hk0.alloc (Nat.le_refl _) (.cells #[.int .i64 0, .int .i64 0, .int .i64 0] 41)).drew).trans (hb.mono (by omega)); obtain ⟨y0, y1, y2, f0, f1, f2⟩ := hPZ; clear hb)
          | (go_at_call 44; refine (HOV.out _).mono ?_; rintro e w7 ⟨rfl, hb⟩; replace hk0 : Below W.heap.size W w7 := (by first | exact grow1p hk0 hb | exact grow0p hk0 hb); clear hb)
          | fail)
      · have hV := hk0.alloc hk0.size (.cells #[.int .i64 (A2 - A1), .int .i64 (B2 - B1), .int .i64 0] 41)
        obtain ⟨r0, r1, r2, _, _, _⟩ := Pw3.new w7 (A2 - A1) (B2 - B1) 0 41
        have hgb : w7.heap.size < (w7.alloc (.cells #[.int .i64 (A2 - A1), .int .i64 (B2 - B1), .int .i64 0] 41)).heap.size := by simp
        generalize hgw7 : w7.heap.size = gb at *
        have HTV := Lib.hid (HTW.out.kept hV)
        have HBV := Lib.hid (HBW.out.trans (hV.mono HBW.out.size))
        clear hV HTW HBW hk0 HKC p0 p1 p2 z0 z1 z2
        generalize A2 - A1 = GA at *
        generalize B2 - B1 = GB at *
        generalize w7.alloc (.cells #[.int .i64 GA, .int .i64 GB, .int .i64 0] 41) = V at *
        have HYES : Hid ([GA, GB, 0] ∈ Tic.gps n k → Tic.gps n (k + 1) = Tic.gps n k) := Lib.hid (by rw [← HG.out]; exact Tic.gps_yes)
        have HNO : Hid (¬ [GA, GB, 0] ∈ Tic.gps n k → Tic.gps n (k + 1) = Tic.gps n k ++ [[GA, GB, 0]]) := Lib.hid (by rw [← HG.out]; exact Tic.gps_no)
        have hgl := Tic.gps_len n k
        generalize Tic.gps n k = L at *
        have HCA := Lib.hid (contains_any _ _ L GA GB 0 V HTV.out)
        go_wp2_with fail
        refine HCA.out.mono ?_; rintro e w8 ⟨rfl, hb8⟩
        replace r0 := (hb8.cell (p := ⟨gb, 0, none⟩) hgb).trans r0
        replace r1 := (hb8.cell (p := ⟨gb, 1, none⟩) hgb).trans r1
        replace r2 := (hb8.cell (p := ⟨gb, 2, none⟩) hgb).trans r2
        have HT8 := Lib.hid (HTV.out.kept hb8)
        have HB8 := Lib.hid (HBV.out.trans (hb8.mono HBV.out.size))
        clear hb8 HTV HBV HCA
        by_cases hin : [GA, GB, 0] ∈ L
        · rw [decide_eq_true hin]
          have HY := Lib.hid (HYES.out hin)
          clear hin r0 r1 r2
          go_wp2
          go_roundw
          case rel => exact ⟨k + 1, by omega, by go_num, by rw [HY.out]; exact HT8, HB8⟩
          case measure => simp [intOf]; omega
        · rw [decide_eq_false hin]
          have HN := Lib.hid (HNO.out hin)
          have ht8 := HT8.out
          have hz8 := HB8.out.size
          clear hin
          go_wp2_with (at_builtin; refine wpList_append_trip rfl _ _ rfl w.heap.size _ L rfl (ht8.kept ((Below.refl _ _).alloc (Nat.le_refl _) (.cells #[.int .i64 GA, .int .i64 GB, .int .i64 0] 41))) w8.heap.size 1 GA GB 0 rfl ?c0 ?c1 ?c2 ?c3 ?c4 ?_)
          case c0 => go_simp
          case c1 => go_simp
          case c2 => go_simp
          case c3 => omega
          case c4 => simp; omega
          intro v' w9 hl9 hg9 hk9
          have HL9 := Lib.hid hl9
          have HB9 : Hid (Below w.heap.size w w9) := Lib.hid ((HB8.out.alloc hz8 (.cells #[.int .i64 GA, .int .i64 GB, .int .i64 0] 41)).grown hg9 (by simp; omega) (fun q hq => (ht8.lt q hq).1))
          clear hl9 hg9 hk9 ht8 r0 r1 r2
          go_wp2
          go_roundw
          case rel => exact ⟨k + 1, by omega, by go_num, by rw [HN.out]; exact HL9, HB9⟩
          case measure => simp [intOf]; omega
      · have hV := ((hk0.setCell (p := ⟨W.heap.size, 0, none⟩) (Nat.le_refl _) (.int .i64 (A2 - A1))).setCell (p := ⟨W.heap.size, 1, none⟩) (Nat.le_refl _) (.int .i64 (B2 - B1))).setCell (p := ⟨W.heap.size, 2, none⟩) (Nat.le_refl _) (.int .i64 0)
        obtain ⟨r0, r1, r2, _⟩ := three_back (a' := A2 - A1) (b' := B2 - B1) (c' := 0) (show Pw3 w7 W.heap.size 0 0 0 from ⟨y0, y1, y2, f0, f1, f2⟩)
        have hgb : W.heap.size < (((w7.setCell ⟨W.heap.size, 0, none⟩ (.int .i64 (A2 - A1))).setCell ⟨W.heap.size, 1, none⟩ (.int .i64 (B2 - B1))).setCell ⟨W.heap.size, 2, none⟩ (.int .i64 0)).heap.size := by
          have := block_lt_of_cell y0
          simpa using this
        clear y0 y1 y2 f0 f1 f2
        have HTV := Lib.hid (HTW.out.kept hV)
        have HBV := Lib.hid (HBW.out.trans (hV.mono HBW.out.size))
        clear hV HTW HBW hk0 HKC p0 p1 p2 z0 z1 z2
        generalize A2 - A1 = GA at *
        generalize B2 - B1 = GB at *
        generalize ((w7.setCell ⟨W.heap.size, 0, none⟩ (.int .i64 GA)).setCell ⟨W.heap.size, 1, none⟩ (.int .i64 GB)).setCell ⟨W.heap.size, 2, none⟩ (.int .i64 0) = V at *
        have HYES : Hid ([GA, GB, 0] ∈ Tic.gps n k → Tic.gps n (k + 1) = Tic.gps n k) := Lib.hid (by rw [← HG.out]; exact Tic.gps_yes)
        have HNO : Hid (¬ [GA, GB, 0] ∈ Tic.gps n k → Tic.gps n (k + 1) = Tic.gps n k ++ [[GA, GB, 0]]) := Lib.hid (by rw [← HG.out]; exact Tic.gps_no)
        have hgl := Tic.gps_len n k
        generalize Tic.gps n k = L at *
        have HCA := Lib.hid (contains_any _ _ L GA GB 0 V HTV.out)
        go_wp2_with fail
        refine HCA.out.mono ?_; rintro e w8 ⟨rfl, hb8⟩
        replace r0 := (hb8.cell (p := ⟨W.heap.size, 0, none⟩) hgb).trans r0
        replace r1 := (hb8.cell (p := ⟨W.heap.size, 1, none⟩) hgb).trans r1
        replace r2 := (hb8.cell (p := ⟨W.heap.size, 2, none⟩) hgb).trans r2
        have HT8 := Lib.hid (HTV.out.kept hb8)
        have HB8 := Lib.hid (HBV.out.trans (hb8.mono HBV.out.size))
        clear hb8 HTV HBV HCA
        by_cases hin : [GA, GB, 0] ∈ L
        · rw [decide_eq_true hin]
          have HY := Lib.hid (HYES.out hin)
          clear hin r0 r1 r2
          go_wp2
          go_roundw
          case rel => exact ⟨k + 1, by omega, by go_num, by rw [HY.out]; exact HT8, HB8⟩
          case measure => simp [intOf]; omega
        · rw [decide_eq_false hin]
          have HN := Lib.hid (HNO.out hin)
          have ht8 := HT8.out
          have hz8 := HB8.out.size
          clear hin
          go_wp2_with (at_builtin; refine wpList_append_trip rfl _ _ rfl w.heap.size _ L rfl (ht8.kept ((Below.refl _ _).alloc (Nat.le_refl _) (.cells #[.int .i64 GA, .int .i64 GB, .int .i64 0] 41))) w8.heap.size 1 GA GB 0 rfl ?c0 ?c1 ?c2 ?c3 ?c4 ?_)
          case c0 => go_simp
          case c1 => go_simp
          case c2 => go_simp
          case c3 => omega
          case c4 => simp; omega
          intro v' w9 hl9 hg9 hk9
          have HL9 := Lib.hid hl9
          have HB9 : Hid (Below w.heap.size w w9) := Lib.hid ((HB8.out.alloc hz8 (.cells #[.int .i64 GA, .int .i64 GB, .int .i64 0] 41)).grown hg9 (by simp; omega) (fun q hq => (ht8.lt q hq).1))
          clear hl9 hg9 hk9 ht8 r0 r1 r2
          go_wp2
          go_roundw
          case rel => exact ⟨k + 1, by omega, by go_num, by rw [HN.out]; exact HL9, HB9⟩
          case measure => simp [intOf]; omega
    · obtain rfl : k = n := by omega
      go_wp2
      go_ret
      exact ⟨_, rfl, HT.out, HB.out⟩
end Go.Proofs.YtpcbplademohnaaDoor
