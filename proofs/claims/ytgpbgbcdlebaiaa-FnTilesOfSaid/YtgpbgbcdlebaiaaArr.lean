/-
  Arrays of twelve numbers in memory, and the contracts of the program's wound, canon and times.
-/
import Derived.Test.YtgpbgbcdlebaiaaTones
import Derived.Test.YtgpbgbcdlebaiaaGapsNum
import Derived.Test.YtgpbgbcdlebaiaaTileNum
namespace Go.Proofs.Ytgpbgbcdlebaiaa
open Go.RowKit
set_option linter.unusedVariables false

/-- the array of the numbers C -/
def cellsOf (C : Nat → Nat) : Array Value := ((Tic.cts 12 C).map (Value.int .i64)).toArray
/-- the block b holds the numbers C -/
def Arr (w : World) (b : Nat) (C : Nat → Nat) : Prop := w.heap[b]? = some (.cells (cellsOf C) 53 (0, 0))
theorem cellsOf_size (C : Nat → Nat) : (cellsOf C).size = 12 := by simp [cellsOf, Tic.cts_length]
theorem cellsOf_get (C : Nat → Nat) {i : Nat} (h : i < 12) : (cellsOf C)[i]? = some (.int .i64 (C i : Int)) := by
  simp [cellsOf, Tic.cts, h]
theorem cellsOf_one (C : Nat → Nat) : (cellsOf C).all (·.oneCell') = true := by
  rw [Array.all_eq_true_iff_forall_mem]
  intro x hx
  simp [cellsOf] at hx
  obtain ⟨l, _, rfl⟩ := hx
  rfl
theorem cellsOf_congr {C C' : Nat → Nat} (h : ∀ t, t < 12 → C t = C' t) : cellsOf C = cellsOf C' := by
  unfold cellsOf Tic.cts
  congr 2
  exact List.map_congr_left fun t ht => by rw [h t (List.mem_range.1 ht)]
theorem Arr.cell {w : World} {b : Nat} {C : Nat → Nat} (h : Arr w b C) {i : Nat} (hi : i < 12) : w.cell? ⟨b, i, none⟩ = some (.int .i64 (C i : Int)) := by
  rw [cell_of_row _ _ _ _ _ _ h, cellsOf_get C hi]
theorem Arr.free {w : World} {b : Nat} {C : Nat → Nat} (h : Arr w b C) (i : Nat) : w.frozen? ⟨b, i, none⟩ = false := frozen_of_row _ _ _ _ _ h
theorem Arr.lt {w : World} {b : Nat} {C : Nat → Nat} (h : Arr w b C) : b < w.heap.size := (Array.getElem?_eq_some_iff.1 h).1
theorem Arr.kept {w w' : World} {b : Nat} {C : Nat → Nat} (h : Arr w b C) {B : Nat} (hb : Below B w w') (hB : b < B) : Arr w' b C := (hb.block b hB).trans h
theorem Arr.alloc {w : World} {b : Nat} {C : Nat → Nat} (h : Arr w b C) (o : Obj) : Arr (w.alloc o) b C := (heap_alloc_old _ _ h.lt).trans h
theorem Arr.far {w : World} {b : Nat} {C : Nat → Nat} (h : Arr w b C) {a : Addr} (ha : b ≠ a.block) (v : Value) : Arr (w.setCell a v) b C := (heap_setCell_other _ _ _ _ ha).trans h
theorem Arr.congr {w : World} {b : Nat} {C C' : Nat → Nat} (h : Arr w b C) (hC : ∀ t, t < 12 → C t = C' t) : Arr w b C' := by unfold Arr at h ⊢; rw [← cellsOf_congr hC]; exact h
theorem Arr.put {w : World} {b : Nat} {C C' : Nat → Nat} (h : Arr w b C) {i : Nat} (hi : i < 12) (hC : ∀ d, C' d = C d + if d = i then 1 else 0) : Arr (w.setCell ⟨b, i, none⟩ (.int .i64 ((C i : Int) + 1))) b C' := by
  unfold Arr
  rw [heap_setCell_same _ _ _ _ _ _ h]
  unfold cellsOf
  rw [← Tic.cts_set C C' hi hC, List.map_set]
  simp
theorem Arr.new (w : World) : Arr (w.alloc (.cells #[.int .i64 0, .int .i64 0, .int .i64 0, .int .i64 0, .int .i64 0, .int .i64 0, .int .i64 0, .int .i64 0, .int .i64 0, .int .i64 0, .int .i64 0, .int .i64 0] 53)) w.heap.size (fun _ => 0) := heap_alloc_new _ _
theorem info_beats : (Try.prog.info? 53).map (·.size) = some 12 := by kernel_rfl
theorem Row.setb {w : World} {B b o : Nat} {v u : Value} {L : List Int} (h : Row w B v L) (hb : b < B) : Row (w.setCell ⟨b, o, none⟩ u) B v L := ⟨ownsRow_setCell_below h.1 (a := ⟨b, o, none⟩) hb _, h.2⟩
theorem below_row {B : Nat} {a w : World} (h : Below B a w) {g : Nat} (hg : B ≤ g) (cs : Array Value) : Below B a (w.setRow g cs) :=
  h.trans ⟨rfl, rfl, rfl, by simp, fun i hi => by
    simp only [World.setRow, Array.getElem?_modify]
    rw [if_neg (by omega)]⟩
/-- a list as a slice: its cells, if there are some -/
theorem Row.view {w : World} {B : Nat} {v : Value} {L : List Int} (h : Row w B v L) : ∃ a c, v = .slice a L.length c ∧ (0 < L.length → ∃ g, a = some ⟨g, 0, none⟩ ∧ B ≤ g ∧ g < w.heap.size ∧ ∀ i, i < L.length → w.cell? ⟨g, i, none⟩ = some (.int .i64 (L.getD i 0))) := by
  rcases h.cases with ⟨rfl, rfl⟩ | ⟨g, c, rfl, h1, h2, h3, _⟩
  · exact ⟨none, 0, rfl, fun h => by simp at h⟩
  · exact ⟨_, c, rfl, fun _ => ⟨g, rfl, h1, h2, h3⟩⟩
theorem tonesTo_el {S N i : Nat} (h : i < (tonesTo S N).length) : ∃ y, y < N ∧ S.testBit y = true ∧ (tonesTo S N).getD i 0 = (y : Int) := by
  obtain ⟨y, h1, h2, h3, _⟩ := tonesTo_at S N i h
  exact ⟨y, h1, h2, h3⟩

/-- how many of a list have q -/
def cL (q : Nat → Bool) (L : List Int) : Nat := (L.map fun z => Tic.b2 (q z.toNat)).sum
theorem cL_next (q : Nat → Bool) {L : List Int} {i y : Nat} (h : i < L.length) (hy : L.getD i 0 = (y : Int)) : cL q (L.take (i + 1)) = cL q (L.take i) + Tic.b2 (q y) := by
  unfold cL
  rw [List.take_succ_eq_append_getElem h, List.map_append, List.sum_append]
  have : L[i] = (y : Int) := by rw [← hy]; simp [List.getD_eq_getElem?_getD, List.getElem?_eq_getElem h]
  simp [this]
theorem cL_le (q : Nat → Bool) (L : List Int) (i : Nat) : cL q (L.take i) ≤ i := by
  have h : ∀ M : List Int, cL q M ≤ M.length := by
    intro M
    induction M with
    | nil => simp [cL]
    | cons a M ih => have := Tic.b2_le (q a.toNat); simp [cL] at ih ⊢; omega
  have := h (L.take i)
  simp at this; omega
theorem cL_all (q : Nat → Bool) (L : List Int) : cL q (L.take L.length) = cL q L := by rw [List.take_length]
theorem cL_tones (q : Nat → Bool) (S : Nat) : ∀ k, cL q (tonesTo S k) = Tic.sm (fun x => Tic.b2 (S.testBit x && q x)) k
  | 0 => rfl
  | k + 1 => by
    unfold Tic.sm
    cases h : S.testBit k with
    | false => rw [tonesTo_no h, cL_tones q S k]; simp [Tic.b2]
    | true =>
      rw [tonesTo_yes h, ← cL_tones q S k]
      simp [cL]
/-- a set of tones, each counted at itself -/
theorem cL_self {S N : Nat} (hs : S < 2 ^ N) (t : Nat) : cL (fun x => x == t) (tonesTo S N) = Tic.b2 (S.testBit t) := by
  rw [cL_tones]
  refine Tic.sm_eq_b2 (fun x => S.testBit x && x == t) _ N ?_ ?_
  · intro x y _ _ h1 h2
    simp only [Bool.and_eq_true, beq_iff_eq] at h1 h2
    omega
  · constructor
    · intro h
      have ht : t < N := by
        rcases Nat.lt_or_ge t N with g | g
        · exact g
        · rw [Tic.bit_big hs g] at h; cases h
      exact ⟨t, ht, by simp [h]⟩
    · rintro ⟨x, hx, h⟩
      simp only [Bool.and_eq_true, beq_iff_eq] at h
      rw [← h.2]; exact h.1

theorem b2_at (x d : Nat) : Tic.b2 (x == d) = if d = x then 1 else 0 := by
  unfold Tic.b2
  by_cases e : d = x
  · subst e; simp
  · rw [if_neg e, beq_eq_false_iff_ne.2 (Ne.symm e)]; rfl
set_option maxRecDepth 20000 in
set_option maxHeartbeats 400000 in
theorem wound_any (n s p : Int) (w : World) (hv : Tic.Valid n s) (hp1 : 1 ≤ p) (hp2 : p ≤ 12) :
    Calls Try.prog 62 #[.agg #[.int .i64 n, .int .i64 s], .int .i64 p] w fun e w' => e = .returned (.agg (cellsOf fun r => Tic.wnd s.toNat p.toNat r n.toNat)) ∧ Below w.heap.size w w' := by
  have hlt := hv.lt
  have g1 := hv.1
  have g2 := hv.2.1
  obtain ⟨N, rfl⟩ := Int.eq_ofNat_of_zero_le (show 0 ≤ n by omega)
  obtain ⟨S, rfl⟩ := Int.eq_ofNat_of_zero_le hv.2.2.1
  obtain ⟨P, rfl⟩ := Int.eq_ofNat_of_zero_le (show 0 ≤ p by omega)
  simp only [Int.toNat_natCast]
  go_enter Try.func62, Try.ntmps62
  go_wp2_with fail
  refine (list_any _ _ _ hv).mono ?_; rintro e w1 ⟨v, rfl, hr, hb⟩
  simp only [Int.toNat_natCast] at hr
  have A1 := Lib.hid ((((Arr.new (w.alloc (.cells #[.int .i64 N, .int .i64 S] 45))).alloc (.cells #[.int .i64 0, .int .i64 0, .int .i64 0, .int .i64 0, .int .i64 0, .int .i64 0, .int .i64 0, .int .i64 0, .int .i64 0, .int .i64 0, .int .i64 0, .int .i64 0] 53)).kept hb (by simp)))
  have A2 := Lib.hid ((Arr.new ((w.alloc (.cells #[.int .i64 N, .int .i64 S] 45)).alloc (.cells #[.int .i64 0, .int .i64 0, .int .i64 0, .int .i64 0, .int .i64 0, .int .i64 0, .int .i64 0, .int .i64 0, .int .i64 0, .int .i64 0, .int .i64 0, .int .i64 0] 53))).kept hb (by simp))
  have HB : Hid (Below w.heap.size w w1) := Lib.hid (((((Below.refl _ _).alloc (Nat.le_refl _) _).alloc (by simp) _).alloc (by simp; omega) _).trans (hb.mono (by simp; omega)))
  have HR := Lib.hid (hr.mono (B' := w.heap.size + 1 + 1 + 1) (by simp))
  simp only [World.size_alloc] at A1 A2
  clear hb hr
  obtain ⟨a, c, rfl, hvw⟩ := HR.out.view
  have hll : (tonesTo S N).length ≤ 12 := by have := tonesTo_le S N; omega
  have HEL := Lib.hid (fun i hi => tonesTo_el (S := S) (N := N) (i := i) hi)
  have HEN := Lib.hid (fun r => (cL_tones (fun x => x % P == r) S N))
  generalize tonesTo S N = L at HR hvw hll HEL HEN ⊢
  clear hvw
  go_wp2
  go_loopw [7, 11] (fun t7 t11 wr => ∃ i : Nat, i ≤ L.length ∧ t11 = .int .i64 i ∧
      Hid (Arr wr (w.heap.size + 1 + 1) (fun r => cL (fun x => x % P == r) (L.take i))) ∧ Hid (Arr wr (w.heap.size + 1) (fun _ => 0)) ∧
      Hid (Row wr (w.heap.size + 1 + 1 + 1) (.slice a L.length c) L) ∧ Hid (Below w.heap.size w wr)) (fun _ t11 _ => L.length - (intOf t11).toNat)
  case atStart => exact ⟨0, Nat.zero_le _, rfl, A2, A1, HR, HB⟩
  case round =>
    clear A1 A2 HR HB
    obtain ⟨i, hi, rfl, A2, A1, HR, HB⟩ := hrel
    by_cases hli : i < L.length
    · obtain ⟨y, hy, hyb, hyv⟩ := HEL.out i hli
      obtain ⟨a', c', e, hvw⟩ := HR.out.view
      injection e with e1 _ e2
      subst e1 e2
      obtain ⟨g, rfl, hg1, hg2, hcel⟩ := hvw (by omega)
      have hcl := hcel i hli
      rw [hyv] at hcl
      have hmod : y % P < 12 := by have := Nat.mod_lt y (y := P) (by omega); omega
      have hmm : ((y : Int) % (P : Int)) = ((y % P : Nat) : Int) := rfl
      have hca := A2.out.cell hmod
      have hfr := A2.out.free (y % P)
      have hlei := cL_le (fun x => x % P == y % P) L i
      have HP := Lib.hid (A2.out.put (C' := fun r => cL (fun x => x % P == r) (L.take (i + 1))) hmod (fun d => by rw [cL_next _ hli hyv]; unfold Tic.b2; by_cases e : d = y % P <;> simp [e]; omega))
      have A1' := Lib.hid (A1.out.far (a := ⟨w.heap.size + 1 + 1, y % P, none⟩) (by simp) (.int .i64 (((cL (fun x => x % P == y % P) (L.take i) : Nat) : Int) + 1)))
      have HR' := Lib.hid (HR.out.setb (b := w.heap.size + 1 + 1) (o := y % P) (u := (.int .i64 (((cL (fun x => x % P == y % P) (L.take i) : Nat) : Int) + 1))) (by omega))
      have HB' := Lib.hid (HB.out.setCell (show w.heap.size ≤ (⟨w.heap.size + 1 + 1, y % P, none⟩ : Addr).block by simp; omega) (.int .i64 (((cL (fun x => x % P == y % P) (L.take i) : Nat) : Int) + 1)))
      clear hcel hvw A1 A2 HR HB hyv
      generalize cL (fun x => x % P == y % P) (L.take i) = cv at hca hlei HP A1' HR' HB'
      generalize y % P = q at *
      go_wp2
      go_roundw
      case rel => exact ⟨i + 1, by omega, by go_num, HP, A1', HR', HB'⟩
      case measure => simp [intOf]; omega
    · obtain rfl : i = L.length := by omega
      have HC : Hid (cellsOf (fun r => cL (fun x => x % P == r) (L.take L.length)) = cellsOf (fun r => Tic.wnd S P r N)) := Lib.hid (cellsOf_congr fun t _ => by rw [cL_all, HEN.out]; rfl)
      go_wp2_with (first | refine wpList_load_row rfl 53 _ rfl (w.heap.size + 1 + 1) rfl 53 _ (0, 0) _ A2.out Try.underlying53 rfl (by rw [cellsOf_size]; exact info_beats) ?_ | refine wpList_store_row rfl 53 _ _ rfl (w.heap.size + 1) _ rfl rfl 53 _ A1.out (by rw [cellsOf_size]; exact info_beats) (by rw [cellsOf_size, cellsOf_size]) (cellsOf_one _) ?_)
      refine bodyPost_ret (v := .agg (cellsOf fun r => Tic.wnd S P r N)) ?_ rfl ⟨rfl, ?_⟩
      · refine (results_cell_row Try.results62 _ _ (w.heap.size + 1) 53 _ (0, 0) _ rfl (setRow_heap _ _ _ _ _ _ A1.out) Try.underlying53 rfl (by rw [cellsOf_size]; exact info_beats)).trans ?_
        rw [HC.out]
      · exact below_row HB.out (by omega) _
set_option maxRecDepth 20000 in
set_option maxHeartbeats 1000000 in
theorem canon_any (n s n2 b : Int) (w : World) (hv : Tic.Valid n s) (hv2 : Tic.Valid n b) (hn2 : n2 = n) :
    Calls Try.prog 60 #[.agg #[.int .i64 n, .int .i64 s], .agg #[.int .i64 n2, .int .i64 b]] w fun e w' => e = .returned (.agg (cellsOf fun t => Tic.cn n.toNat s.toNat b.toNat t n.toNat)) ∧ Below w.heap.size w w' := by
  subst hn2
  have hlt := hv.lt
  have g1 := hv.1
  have g2 := hv.2.1
  obtain ⟨N, rfl⟩ := Int.eq_ofNat_of_zero_le (show 0 ≤ n2 by omega)
  obtain ⟨S, rfl⟩ := Int.eq_ofNat_of_zero_le hv.2.2.1
  obtain ⟨B, rfl⟩ := Int.eq_ofNat_of_zero_le hv2.2.2.1
  have HV := Lib.hid hv
  have HV2 := Lib.hid hv2
  simp only [Int.toNat_natCast]
  go_enter Try.func60, Try.ntmps60
  go_wp2_with fail
  refine (list_any _ _ _ HV2.out).mono ?_; rintro e w1 ⟨v, rfl, hr, hb⟩
  simp only [Int.toNat_natCast] at hr
  obtain ⟨W, hW⟩ : ∃ W, W = (w.alloc (.cells #[.int .i64 N, .int .i64 S] 45)).alloc (.cells #[.int .i64 N, .int .i64 B] 45) := ⟨_, rfl⟩
  have hWs : W.heap.size = w.heap.size + 1 + 1 := by rw [hW]; simp
  have c0 : W.cell? ⟨w.heap.size, 0, none⟩ = some (.int .i64 N) := by rw [hW]; go_simp
  have c1 : W.cell? ⟨w.heap.size, 1, none⟩ = some (.int .i64 S) := by rw [hW]; go_simp
  have hWb : Below w.heap.size w W := by rw [hW]; exact ((Below.refl _ _).alloc (Nat.le_refl _) _).alloc (by simp) _
  rw [← hW] at hb hr
  have A1 := Lib.hid (((Arr.new W).alloc (.cells #[.int .i64 0, .int .i64 0, .int .i64 0, .int .i64 0, .int .i64 0, .int .i64 0, .int .i64 0, .int .i64 0, .int .i64 0, .int .i64 0, .int .i64 0, .int .i64 0] 53)).kept hb (by simp; omega))
  have A2 := Lib.hid ((Arr.new (W.alloc (.cells #[.int .i64 0, .int .i64 0, .int .i64 0, .int .i64 0, .int .i64 0, .int .i64 0, .int .i64 0, .int .i64 0, .int .i64 0, .int .i64 0, .int .i64 0, .int .i64 0] 53))).kept hb (by simp))
  have HB : Hid (Below w.heap.size w w1) := Lib.hid (((hWb.alloc hWb.size _).alloc (by simp; omega) _).trans (hb.mono (by simp; omega)))
  have HR := Lib.hid (hr.mono (B' := w.heap.size + 1 + 1 + 1 + 1) (by simp; omega))
  simp only [World.size_alloc, hWs] at A1 A2
  have b0 : Hid (w1.cell? ⟨w.heap.size, 0, none⟩ = some (.int .i64 N)) := Lib.hid ((hb.cell (p := ⟨w.heap.size, 0, none⟩) (by simp; omega)).trans (Lib.cell?_alloc_some _ (Lib.cell?_alloc_some _ c0)))
  have b1 : Hid (w1.cell? ⟨w.heap.size, 1, none⟩ = some (.int .i64 S)) := Lib.hid ((hb.cell (p := ⟨w.heap.size, 1, none⟩) (by simp; omega)).trans (Lib.cell?_alloc_some _ (Lib.cell?_alloc_some _ c1)))
  clear hb hr c0 c1 hWb hWs hW
  clear W
  obtain ⟨a, c, rfl, hvw⟩ := HR.out.view
  have hll : (tonesTo B N).length ≤ 12 := by have := tonesTo_le B N; omega
  have HEL := Lib.hid (fun i hi => tonesTo_el (S := B) (N := N) (i := i) hi)
  have HEN := Lib.hid (fun t => (cL_tones (fun y => (Tic.shf N y S).testBit t) B N))
  generalize tonesTo B N = L at HR hvw hll HEL HEN ⊢
  clear hvw
  go_wp2
  go_loopw [7, 9, 13, 19, 20, 21, 22] (fun t7 t9 t13 t19 t20 t21 t22 wr => ∃ i : Nat, i ≤ L.length ∧ t13 = .int .i64 i ∧
      Hid (Arr wr (w.heap.size + 1 + 1 + 1) (fun t => cL (fun y => (Tic.shf N y S).testBit t) (L.take i))) ∧ Hid (Arr wr (w.heap.size + 1 + 1) (fun _ => 0)) ∧
      Hid (Row wr (w.heap.size + 1 + 1 + 1 + 1) (.slice a L.length c) L) ∧ Hid (wr.cell? ⟨w.heap.size, 0, none⟩ = some (.int .i64 N)) ∧ Hid (wr.cell? ⟨w.heap.size, 1, none⟩ = some (.int .i64 S)) ∧ Hid (Below w.heap.size w wr)) (fun _ _ t13 _ _ _ _ _ => L.length - (intOf t13).toNat)
  case atStart => exact ⟨0, Nat.zero_le _, rfl, A2, A1, HR, b0, b1, HB⟩
  case round =>
    clear A1 A2 HR HB b0 b1
    obtain ⟨i, hi, rfl, A2, A1, HR, b0, b1, HB⟩ := hrel
    by_cases hli : i < L.length
    · obtain ⟨y, hy, hyb, hyv⟩ := HEL.out i hli
      obtain ⟨a', c', e, hvw⟩ := HR.out.view
      injection e with e1 _ e2
      subst e1 e2
      obtain ⟨g, rfl, hg1, hg2, hcel⟩ := hvw (by omega)
      have hcl := hcel i hli
      rw [hyv] at hcl
      have ht : Tic.Turn (y : Int) := ⟨by omega, by omega⟩
      have HYV := Lib.hid hyv
      have d0 := b0.out
      have d1 := b1.out
      clear hcel hvw hyv
      go_wp2_with fail
      refine (mshift_any _ _ _ _ HV.out ht).mono ?_; rintro e w2 ⟨rfl, hb⟩
      go_wp2_with fail
      refine (list_any _ _ _ (Tic.valid_shf HV.out (y : Int))).mono ?_; rintro e w3 ⟨v2, rfl, hr, hb2⟩
      simp only [Int.toNat_natCast] at hr
      have hb3 : Below wr.heap.size wr w3 := hb.trans (hb2.mono hb.size)
      have hs1 := A2.out.lt
      have B2 := Lib.hid (A2.out.kept hb3 hs1)
      have B1 := Lib.hid (A1.out.kept hb3 A1.out.lt)
      have HR1 := Lib.hid (HR.out.kept hb3)
      have e0 : Hid (w3.cell? ⟨w.heap.size, 0, none⟩ = some (.int .i64 N)) := Lib.hid ((hb3.cell (p := ⟨w.heap.size, 0, none⟩) (by show w.heap.size < wr.heap.size; omega)).trans b0.out)
      have e1 : Hid (w3.cell? ⟨w.heap.size, 1, none⟩ = some (.int .i64 S)) := Lib.hid ((hb3.cell (p := ⟨w.heap.size, 1, none⟩) (by show w.heap.size < wr.heap.size; omega)).trans b1.out)
      have HB3 := Lib.hid (HB.out.trans (hb3.mono HB.out.size))
      have HQ := Lib.hid (hr.mono (B' := w.heap.size + 1 + 1 + 1 + 1) (by have := hb.size; omega))
      clear hb hb2 hb3 hr d0 d1 A1 A2 HR b0 b1 HB hcl
      obtain ⟨a2, c2, rfl, hvw⟩ := HQ.out.view
      have hll2 : (tonesTo (Tic.shf N y S) N).length ≤ 12 := by have := tonesTo_le (Tic.shf N y S) N; omega
      have HEL2 := Lib.hid (fun i hi => tonesTo_el (S := Tic.shf N y S) (N := N) (i := i) hi)
      have HEN2 := Lib.hid (fun t => cL_self (Tic.shf_lt (n := N) (by omega) (y : Int) S) t)
      generalize tonesTo (Tic.shf N y S) N = M at HQ hvw hll2 HEL2 HEN2 ⊢
      have hbd := fun t => cL_le (fun y => (Tic.shf N y S).testBit t) L i
      have HNX : Hid (∀ t, cL (fun y => (Tic.shf N y S).testBit t) (L.take (i + 1)) = cL (fun y => (Tic.shf N y S).testBit t) (L.take i) + cL (fun x => x == t) M) := Lib.hid (fun t => by rw [cL_next _ hli HYV.out, HEN2.out])
      obtain ⟨C, hC⟩ : ∃ C : Nat → Nat, C = fun t => cL (fun y => (Tic.shf N y S).testBit t) (L.take i) := ⟨_, rfl⟩
      have HCC : Hid (∀ t, C t ≤ 12) := Lib.hid (fun t => by rw [hC]; have := hbd t; show cL _ _ ≤ 12; omega)
      have HNY : Hid (∀ t, cL (fun y => (Tic.shf N y S).testBit t) (L.take (i + 1)) = C t + cL (fun x => x == t) M) := Lib.hid (fun t => by rw [hC]; exact HNX.out t)
      rw [← hC] at B2
      clear hvw hbd hC HNX
      go_wp2
      obtain ⟨wo, rfl⟩ : ∃ wo : World, wo = w3 := ⟨_, rfl⟩
      go_loopw [9, 22] (fun t9 t22 wr => ∃ j : Nat, j ≤ M.length ∧ t22 = .int .i64 j ∧
          Hid (Arr wr (w.heap.size + 1 + 1 + 1) (fun t => C t + cL (fun x => x == t) (M.take j))) ∧ Hid (Arr wr (w.heap.size + 1 + 1) (fun _ => 0)) ∧
          Hid (Row wr (w.heap.size + 1 + 1 + 1 + 1) (.slice (some ⟨g, 0, none⟩) L.length c) L) ∧ Hid (Row wr (w.heap.size + 1 + 1 + 1 + 1) (.slice a2 M.length c2) M) ∧ Hid (wr.cell? ⟨w.heap.size, 0, none⟩ = some (.int .i64 N)) ∧ Hid (wr.cell? ⟨w.heap.size, 1, none⟩ = some (.int .i64 S)) ∧ Hid (Below w.heap.size w wr)) (fun _ t22 _ => M.length - (intOf t22).toNat)
      case atStart => exact ⟨0, Nat.zero_le _, rfl, B2, B1, HR1, HQ, e0, e1, HB3⟩
      case round =>
        clear B1 B2 HR1 HQ e0 e1 HB3
        obtain ⟨j, hj, rfl, A2, A1, HR, HQ, b0, b1, HB⟩ := hrel
        by_cases hlj : j < M.length
        · obtain ⟨x, hx, hxb, hxv⟩ := HEL2.out j hlj
          obtain ⟨a', c', e, hvw⟩ := HQ.out.view
          injection e with e1 _ e2
          subst e1 e2
          obtain ⟨g2, rfl, hg3, hg4, hcel⟩ := hvw (by omega)
          have hcl := hcel j hlj
          rw [hxv] at hcl
          have hx12 : x < 12 := by omega
          have hca := A2.out.cell hx12
          have hfr := A2.out.free x
          have hlej := cL_le (fun z => z == x) M j
          have hcx := HCC.out x
          have HP := Lib.hid (A2.out.put (C' := fun t => C t + cL (fun z => z == t) (M.take (j + 1))) hx12 (fun d => by rw [cL_next _ hlj hxv, b2_at, Nat.add_assoc]))
          have A1' := Lib.hid (A1.out.far (a := ⟨w.heap.size + 1 + 1 + 1, x, none⟩) (by simp) (.int .i64 (((C x + cL (fun z => z == x) (M.take j) : Nat) : Int) + 1)))
          have HR' := Lib.hid (HR.out.setb (b := w.heap.size + 1 + 1 + 1) (o := x) (u := (.int .i64 (((C x + cL (fun z => z == x) (M.take j) : Nat) : Int) + 1))) (by omega))
          have HQ' := Lib.hid (HQ.out.setb (b := w.heap.size + 1 + 1 + 1) (o := x) (u := (.int .i64 (((C x + cL (fun z => z == x) (M.take j) : Nat) : Int) + 1))) (by omega))
          have b0' : Hid ((wr.setCell ⟨w.heap.size + 1 + 1 + 1, x, none⟩ (.int .i64 (((C x + cL (fun z => z == x) (M.take j) : Nat) : Int) + 1))).cell? ⟨w.heap.size, 0, none⟩ = some (.int .i64 N)) := Lib.hid ((set_far (by simp; omega)).trans b0.out)
          have b1' : Hid ((wr.setCell ⟨w.heap.size + 1 + 1 + 1, x, none⟩ (.int .i64 (((C x + cL (fun z => z == x) (M.take j) : Nat) : Int) + 1))).cell? ⟨w.heap.size, 1, none⟩ = some (.int .i64 S)) := Lib.hid ((set_far (by simp; omega)).trans b1.out)
          have HB' := Lib.hid (HB.out.setCell (show w.heap.size ≤ (⟨w.heap.size + 1 + 1 + 1, x, none⟩ : Addr).block by simp; omega) (.int .i64 (((C x + cL (fun z => z == x) (M.take j) : Nat) : Int) + 1)))
          clear hcel hvw A1 A2 HR HQ HB b0 b1 hxv
          have hcv : C x + cL (fun z => z == x) (M.take j) ≤ 24 := by omega
          generalize C x + cL (fun z => z == x) (M.take j) = cv at hca hcv HP A1' HR' HQ' HB' b0' b1'
          go_wp2
          go_roundw
          case rel => exact ⟨j + 1, by omega, by go_num, HP, A1', HR', HQ', b0', b1', HB'⟩
          case measure => simp [intOf]; omega
        · obtain rfl : j = M.length := by omega
          have A2' : Hid (Arr wr (w.heap.size + 1 + 1 + 1) (fun t => cL (fun y => (Tic.shf N y S).testBit t) (L.take (i + 1)))) := Lib.hid (A2.out.congr fun t _ => by rw [cL_all, HNY.out])
          clear A2
          go_wp2
          go_roundw
          case rel => exact ⟨i + 1, by omega, by go_num, A2', A1, HR, b0, b1, HB⟩
          case measure => simp [intOf]; omega
    · obtain rfl : i = L.length := by omega
      have HC : Hid (cellsOf (fun t => cL (fun y => (Tic.shf N y S).testBit t) (L.take L.length)) = cellsOf (fun t => Tic.cn N S B t N)) := Lib.hid (cellsOf_congr fun t _ => by rw [cL_all, HEN.out]; rfl)
      go_wp2_with (first | refine wpList_load_row rfl 53 _ rfl (w.heap.size + 1 + 1 + 1) rfl 53 _ (0, 0) _ A2.out Try.underlying53 rfl (by rw [cellsOf_size]; exact info_beats) ?_ | refine wpList_store_row rfl 53 _ _ rfl (w.heap.size + 1 + 1) _ rfl rfl 53 _ A1.out (by rw [cellsOf_size]; exact info_beats) (by rw [cellsOf_size, cellsOf_size]) (cellsOf_one _) ?_)
      refine bodyPost_ret (v := .agg (cellsOf fun t => Tic.cn N S B t N)) ?_ rfl ⟨rfl, ?_⟩
      · refine (results_cell_row Try.results60 _ _ (w.heap.size + 1 + 1) 53 _ (0, 0) _ rfl (setRow_heap _ _ _ _ _ _ A1.out) Try.underlying53 rfl (by rw [cellsOf_size]; exact info_beats)).trans ?_
        rw [HC.out]
      · exact below_row HB.out (by omega) _
end Go.Proofs.Ytgpbgbcdlebaiaa
