/-
  slices.Contains at powers.
-/
import Derived.Test.YtpcbplademohnaaDoorTrips
namespace Go.Proofs.YtpcbplademohnaaDoor
open Go.RowKit Go.Sort
set_option linter.unusedVariables false
set_option maxRecDepth 20000

set_option maxHeartbeats 800000 in
theorem index_any (v : Value) (B : Nat) (L : List (List Int)) (a b c : Int) (w : World) (h : Trips w B v L) :
    Calls Tryd.prog 53 #[v, .agg #[.int .i64 a, .int .i64 b, .int .i64 c]] w fun e w' => ∃ k : Int, e = .returned (.int .i64 k) ∧ -1 ≤ k ∧ k ≤ 64 ∧ (0 ≤ k ↔ [a, b, c] ∈ L) ∧ Below w.heap.size w w' := by
  obtain ⟨p, cp, rfl, _, hp⟩ := h.vw
  have hl := h.2.1
  obtain ⟨m, hm⟩ : ∃ m, m = L.length := ⟨_, rfl⟩
  rw [← hm] at hp hl ⊢
  have HM := Lib.hid hm
  have HPP := Lib.hid hp
  obtain ⟨p0, p1, p2, _⟩ := Pw3.new w a b c 41
  have hB := (Below.refl w.heap.size w).alloc (Nat.le_refl _) (.cells #[.int .i64 a, .int .i64 b, .int .i64 c] 41)
  have hs : (w.alloc (.cells #[.int .i64 a, .int .i64 b, .int .i64 c] 41)).heap.size = w.heap.size + 1 := by simp
  have hgu := eqGuard_pow
  clear hm hp h
  go_enter Tryd.func53, Tryd.ntmps53
  go_wp2_with fail
  generalize w.alloc (.cells #[.int .i64 a, .int .i64 b, .int .i64 c] 41) = W at *
  go_wp2
  go_loopw [8] (fun t8 wr => ∃ k : Nat, k ≤ m ∧ t8 = .int .i64 k ∧ Hid (∀ j, j < k → L.getD j [] ≠ [a, b, c]) ∧ Hid (Below W.heap.size W wr)) (fun t8 _ => m - (intOf t8).toNat)
  case atStart => exact ⟨0, Nat.zero_le _, rfl, fun j hj => by omega, Below.refl _ _⟩
  case round =>
    obtain ⟨k, hk, rfl, HN, HB⟩ := hrel
    by_cases hlt : k < m
    · obtain ⟨g, rfl, _, hg, hcells⟩ := HPP.out (by omega)
      obtain ⟨x, y, z, hx, c0, c1, c2⟩ := hcells k hlt
      have hW : g < W.heap.size := by omega
      have hb2 := hB.trans (HB.out.mono (by omega))
      have d0 := (hb2.cell (p := ⟨g, k * 3, none⟩) hg).trans c0
      have d1 := (hb2.cell (p := ⟨g, k * 3 + 1, none⟩) hg).trans c1
      have d2 := (hb2.cell (p := ⟨g, k * 3 + 2, none⟩) hg).trans c2
      have e0 := (HB.out.cell (p := ⟨w.heap.size, 0, none⟩) (by show w.heap.size < _; omega)).trans p0
      have e1 := (HB.out.cell (p := ⟨w.heap.size, 1, none⟩) (by show w.heap.size < _; omega)).trans p1
      have e2 := (HB.out.cell (p := ⟨w.heap.size, 2, none⟩) (by show w.heap.size < _; omega)).trans p2
      have i1 : (k : Int) < (m : Int) := by omega
      have i0 : (0 : Int) ≤ (k : Int) := by omega
      obtain ⟨bb, hbb⟩ : ∃ bb, bb = decide ([a, b, c] = [x, y, z]) := ⟨_, rfl⟩
      have heq : ∀ W, (binOp .eql 41 (.agg #[.int .i64 a, .int .i64 b, .int .i64 c]) (.agg #[.int .i64 x, .int .i64 y, .int .i64 z])).run Tryd.prog W = .ok (.bool bb) W := fun W => by rw [eql_pow, hbb]
      have HBB := Lib.hid hbb
      have hlm : k < L.length := by rw [← HM.out]; exact hlt
      have HMEM : Hid (L.getD k [] ∈ L) := Lib.hid (by rw [List.getD_eq_getElem?_getD, List.getElem?_eq_getElem hlm]; exact List.getElem_mem hlm)
      have HX := Lib.hid hx
      clear hbb hlm
      clear hcells hx c0 c1 c2 hb2
      go_wp2_with fail
      go_quiet (fail)
      have HB2 : Hid (Below W.heap.size W (wr.drewN nq)) := Lib.hid (below_dn HB.out nq)
      cases bb with
      | true =>
        have HIN : Hid ([a, b, c] ∈ L) := Lib.hid (by rw [of_decide_eq_true HBB.out.symm, ← HX.out]; exact HMEM.out)
        clear heq
        go_wp2
        go_ret
        exact ⟨k, rfl, by omega, by omega, ⟨fun _ => HIN.out, fun _ => by omega⟩, hB.trans (HB2.out.mono (by omega))⟩
      | false =>
        have HN2 : Hid (∀ j, j < k + 1 → L.getD j [] ≠ [a, b, c]) := Lib.hid (fun j hj e => by
          by_cases q : j = k
          · subst q
            rw [HX.out] at e
            exact of_decide_eq_false HBB.out.symm e.symm
          · exact HN.out j (by omega) e)
        clear heq
        go_wp2
        go_roundw
        case rel => exact ⟨k + 1, by omega, by go_num, HN2, HB2⟩
        case measure => simp [intOf]; omega
    · obtain rfl : k = m := by omega
      go_wp2
      go_ret
      refine ⟨-1, rfl, by omega, by omega, ⟨fun q => by omega, fun q => ?_⟩, hB.trans (HB.out.mono (by omega))⟩
      obtain ⟨j, hj, e⟩ := List.getElem_of_mem q
      exact absurd (by rw [List.getD_eq_getElem?_getD, List.getElem?_eq_getElem hj]; exact e) (HN.out j (by rw [HM.out]; exact hj))
theorem contains_any (v : Value) (B : Nat) (L : List (List Int)) (a b c : Int) (w : World) (h : Trips w B v L) :
    Calls Tryd.prog 45 #[v, .agg #[.int .i64 a, .int .i64 b, .int .i64 c]] w fun e w' => e = .returned (.bool (decide ([a, b, c] ∈ L))) ∧ Below w.heap.size w w' := by
  obtain ⟨p0, p1, p2, _⟩ := Pw3.new w a b c 41
  have hB := (Below.refl w.heap.size w).alloc (Nat.le_refl _) (.cells #[.int .i64 a, .int .i64 b, .int .i64 c] 41)
  have hs : (w.alloc (.cells #[.int .i64 a, .int .i64 b, .int .i64 c] 41)).heap.size = w.heap.size + 1 := by simp
  have HI := Lib.hid (index_any v B L a b c _ (h.kept hB))
  clear h
  go_enter Tryd.func45, Tryd.ntmps45
  go_wp2_with fail
  generalize w.alloc (.cells #[.int .i64 a, .int .i64 b, .int .i64 c] 41) = W at *
  refine HI.out.mono ?_; rintro e w2 ⟨k, rfl, k0, k1, hk, hb⟩
  have HB2 := Lib.hid (hB.trans (hb.mono (by omega)))
  have HK := Lib.hid hk
  clear hk hb
  by_cases hk0 : 0 ≤ k
  · have HD : Hid (decide ([a, b, c] ∈ L) = true) := Lib.hid (decide_eq_true (HK.out.1 hk0))
    go_wp2
    go_ret
    exact ⟨ret_bool HD.out.symm, HB2.out⟩
  · have HD : Hid (decide ([a, b, c] ∈ L) = false) := Lib.hid (decide_eq_false (fun q => hk0 (HK.out.2 q)))
    go_wp2
    go_ret
    exact ⟨ret_bool (by rw [HD.out]; exact decide_eq_false (by omega)), HB2.out⟩
end Go.Proofs.YtpcbplademohnaaDoor
