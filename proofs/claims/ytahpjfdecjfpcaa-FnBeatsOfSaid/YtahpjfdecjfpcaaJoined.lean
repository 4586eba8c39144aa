/-
  Lists put behind each other: the program's joined, by make and copy, and a list so many times.
-/
import Derived.Test.YtahpjfdecjfpcaaInsert
import Derived.Test.YtahpjfdecjfpcaaGaps
import Derived.Test.YtahpjfdecjfpcaaBeatsNum
namespace Go.Proofs.Ytahpjfdecjfpcaa
open Go.RowKit
set_option linter.unusedVariables false

theorem copy_row {w : World} {Bx : Nat} {vx : Value} {M : List Int} (h : Row w Bx vx M) (ty : TypeId) (g o dl dc : Nat) (cur : Array Value) (hg : w.heap[g]? = some (.cells cur 3 (0, 0))) (hdl : M.length ≤ dl) (hc : o + M.length ≤ cur.size) :
    (Builtin.copy_ #[29, 29] ty #[.slice (some ⟨g, o, none⟩) dl dc, vx]).run Try.prog w = .ok (goInt M.length) (w.setCells g o (M.map (Value.int .i64))) := by
  have hsz : (Try.prog.info? 3).map (·.size) = some 1 := by
    obtain ⟨i0, hi, hz0, hz1, hz2⟩ := info_parts info_int
    rw [hi]; simp [hz1]
  rcases h.cases with ⟨rfl, rfl⟩ | ⟨gx, cap, rfl, _, _, hcx, _⟩
  · obtain ⟨i0, hi, hz0, hz1, hz2⟩ := info_parts info_int
    simp [Builtin.copy_, run_underlying Try.underlying29, sizeOf, typeInfo, hi, Builtin.lenOf, Builtin.firstCells, storeCells, World.setCells, goInt]
  · have hlen : (M.map (Value.int .i64)).length = M.length := by simp
    have key : (Builtin.copy_ #[29, 29] ty #[.slice (some ⟨g, o, none⟩) dl dc, .slice (some ⟨gx, 0, none⟩) M.length cap]).run Try.prog w = .ok (goInt (M.map (Value.int .i64)).length) (w.setCells g o (M.map (Value.int .i64))) := by
     refine run_copy_cells w _ _ ty 3 g o dl dc ⟨gx, 0, none⟩ M.length cap (M.map (Value.int .i64)) Try.underlying29 hsz ?_ ?_ ?_ ?_ (ones_list M)
     · rw [hlen]; simp only [Nat.min_def]; split <;> omega
     · intro j v hj
       have hj2 : j < M.length := by have := (List.getElem?_eq_some_iff.1 hj).1; simpa using this
       rw [show (⟨gx, 0, none⟩ : Addr).add j = ⟨gx, j, none⟩ by unfold Addr.add; split <;> simp_all, hcx j hj2]
       rw [List.getElem?_map, List.getElem?_eq_getElem hj2] at hj
       rw [List.getD_eq_getElem?_getD, List.getElem?_eq_getElem hj2]
       simpa using hj
     · intro j hj
       rw [hlen] at hj
       rw [cell_of_row w g (o + j) cur 3 (0, 0) hg, Array.getElem?_eq_getElem (by omega)]; rfl
     · intro j hj
       exact frozen_of_row w g (o + j) cur 3 hg
    rw [hlen] at key
    exact key

theorem copy_none {w : World} (ty : TypeId) (d a : Option Addr) (dl dc c : Nat) :
    (Builtin.copy_ #[29, 29] ty #[.slice d dl dc, .slice a 0 c]).run Try.prog w = .ok (goInt 0) w := by
  obtain ⟨i0, hi, hz0, hz1, hz2⟩ := info_parts info_int
  cases d <;> cases a <;> simp [Builtin.copy_, run_underlying Try.underlying29, sizeOf, typeInfo, hi, Builtin.lenOf, Builtin.firstCells, storeCells, goInt, loadCells, loadCellsFrom]

theorem Row.lens {w : World} {B : Nat} {v : Value} {L : List Int} (h : Row w B v L) : ∃ a c, v = .slice a L.length c := by
  rcases h.cases with ⟨e, e2⟩ | ⟨g, cap, e, _⟩
  · exact ⟨none, 0, by rw [e, e2]; rfl⟩
  · exact ⟨_, _, e⟩

set_option maxHeartbeats 1000000 in
set_option maxRecDepth 20000 in
theorem joined_any (v1 v2 : Value) (B1 B2 : Nat) (L M : List Int) (w : World) (h1 : Row w B1 v1 L) (h2 : Row w B2 v2 M) (hl : L.length + M.length ≤ 4096) :
    Calls Try.prog 41 #[v1, v2] w (Gives (L ++ M) w) := by
  obtain ⟨a1, c1, rfl⟩ := h1.lens
  obtain ⟨a2, c2, rfl⟩ := h2.lens
  have H1 := Lib.hid h1
  have H2 := Lib.hid h2
  clear h1 h2
  have hs1 := IntWalk.i64_in ((L.length : Int) + (M.length : Int)) (by omega)
  go_enter Try.func41, Try.ntmps41
  go_wp2_with (at_make; refine wpList_make_ints rfl _ _ rfl w.heap.size _ _ (L.length + M.length) rfl rfl ?c1 ?c2 ?c3 (Nat.le_refl _) ?_)
  case c1 => omega
  case c2 => omega
  case c3 => omega
  intro w1 hrow hb1
  obtain ⟨-, -, hg2, -, -, cur, hh, hcs, hat⟩ := hrow.block
  have hcp1 := fun ty : TypeId => copy_row (H1.out.kept hb1) ty w.heap.size 0 (L.length + M.length) (L.length + M.length) cur hh (by omega) (by omega)
  obtain ⟨W2, hW2⟩ : ∃ W2, W2 = w1.setCells w.heap.size 0 (L.map (Value.int .i64)) := ⟨_, rfl⟩
  have hb2 : Below w.heap.size w W2 := by rw [hW2]; exact below_put (Nat.le_refl _) _ _ hb1
  have hh2 : W2.heap[w.heap.size]? = some (.cells (putA cur 0 (L.map (Value.int .i64))) 3 (0, 0)) := by rw [hW2]; exact heap_setCells _ _ _ _ _ _ hh
  rw [← hW2] at hcp1
  have hcp2 := fun ty : TypeId => copy_row (H2.out.kept hb2) ty w.heap.size L.length M.length M.length _ hh2 (by omega) (by rw [putA_size]; omega)
  have HW2 := Lib.hid hW2
  have HR : Hid (Row (W2.setCells w.heap.size L.length (M.map (Value.int .i64))) w.heap.size (.slice (some ⟨w.heap.size, 0, none⟩) (L.length + M.length) (L.length + M.length)) (L ++ M)) := Lib.hid (by
    have := Row.of (L := L ++ M) (cap := L.length + M.length) (Nat.le_refl _) (heap_setCells _ _ (M.map (Value.int .i64)) L.length _ _ hh2) (by simp) (by unfold maxLen; omega) (by rw [putA_size, putA_size]; exact hcs) (by simp; omega) (fun j hj => by
      rw [List.length_append] at hj
      rw [putA_at _ _ _ _ (by rw [putA_size]; simp; omega), putA_at _ _ _ _ (by simp; omega), List.map_append]
      by_cases hj1 : j < L.length
      · rw [if_neg (by simp; omega), if_pos (by simp; omega), List.getElem?_append_left (by simpa using hj1)]; rfl
      · rw [if_pos (by simp; omega), List.getElem?_append_right (by simp; omega)]; simp)
    rwa [List.length_append] at this)
  have HB : Hid (Below w.heap.size w (W2.setCells w.heap.size L.length (M.map (Value.int .i64)))) := Lib.hid (below_put (Nat.le_refl _) _ _ hb2)
  clear hs1 hrow hW2 hat hcs hh hh2 hb1 hb2
  have hlm : (L.length : Int) ≤ (L.length : Int) + (M.length : Int) := by omega
  by_cases hM : M = []
  · subst hM
    have hcn := fun (ty : TypeId) (d : Option Addr) (dl dc : Nat) (W : World) => copy_none (w := W) ty d a2 dl dc c2
    clear hcp2
    simp only [List.length_nil, Nat.add_zero, List.append_nil] at hcp1 HR ⊢
    have HR2 : Row W2 w.heap.size (.slice (some ⟨w.heap.size, 0, none⟩) L.length L.length) L := HR.out
    have HB2 : Below w.heap.size w W2 := HB.out
    go_wp2
    go_ret
    exact ⟨_, rfl, by rw [List.append_nil]; exact HR2, HB2⟩
  · have hM1 : ¬ M.length = 0 := fun e => hM (List.eq_nil_of_length_eq_zero e)
    clear hM
    go_wp2
    go_ret
    exact ⟨_, rfl, HR.out, HB.out⟩

set_option maxHeartbeats 800000 in
set_option maxRecDepth 20000 in
theorem all_any (v : Value) (B : Nat) (L : List Int) (c : Nat) (w : World) (h : Row w B v L) (hc : c ≤ 12) (hl : L.length ≤ 12) :
    Calls Try.prog 42 #[.agg #[v, .int .i64 c]] w (Gives (Tic.rep c L) w) := by
  obtain ⟨a1, c1, rfl⟩ := h.lens
  have HV := Lib.hid h
  clear h
  have HN : Hid (∀ i, Tic.rep (i + 1) L = Tic.rep i L ++ L) := Lib.hid (fun _ => rfl)
  have HLN : Hid (∀ i, i ≤ 12 → (Tic.rep i L).length + L.length ≤ 4096) := Lib.hid (fun i hi => by
    rw [Tic.rep_length]
    have := Nat.mul_le_mul hi hl
    omega)
  go_enter Try.func42, Try.ntmps42
  go_wp2
  go_loopw [3, 6] (fun t3 t6 wr => ∃ i : Nat, i ≤ c ∧ t6 = .int .i64 i ∧ Hid (Row wr w.heap.size t3 (Tic.rep i L)) ∧ wr.cell? ⟨w.heap.size, 0, none⟩ = some (.slice a1 L.length c1) ∧ w.heap.size < wr.heap.size ∧ Hid (Below w.heap.size w wr)) (fun _ t6 _ => c - (intOf t6).toNat)
  case atStart => exact ⟨0, Nat.zero_le _, rfl, Row.nil _ _, by go_simp, by simp, (Below.refl _ _).alloc (Nat.le_refl _) _⟩
  case round =>
    obtain ⟨i, hi, rfl, HR, a0, hz, HB⟩ := hrel
    by_cases hlt : i < c
    · go_wp2_with fail
      refine (joined_any _ _ _ _ (Tic.rep i L) L _ HR.out (HV.out.kept HB.out) (HLN.out i (by omega))).mono ?_; rintro e w2 ⟨v2, rfl, hr, hb⟩
      rw [← HN.out] at hr
      have HR2 := Lib.hid (hr.mono (B' := w.heap.size) (by omega))
      have b0 := (hb.cell (p := ⟨w.heap.size, 0, none⟩) hz).trans a0
      have hz2 := hb.size
      have HB2 := Lib.hid (HB.out.trans (hb.mono HB.out.size))
      clear hr hb a0
      go_wp2
      go_roundw
      case rel => exact ⟨i + 1, by omega, by go_num, HR2, b0, by omega, HB2⟩
      case measure => simp [intOf]; omega
    · have : i = c := by omega
      subst this
      go_wp2
      go_ret
      exact ⟨_, rfl, HR.out, HB.out⟩
end Go.Proofs.Ytahpjfdecjfpcaa
