/-
  The program's BeatsOf.
-/
import Derived.Test.YtahpjfdecjfpcaaBeats
namespace Go.Proofs.Ytahpjfdecjfpcaa
open Go.RowKit
set_option linter.unusedVariables false

theorem below_set4 {B b c : Nat} {a w : World} (h : Below B a w) (hb : B ≤ b) (hc : B ≤ c) (x0 x1 y0 y1 : Value) : Below B a ((((w.setCell ⟨b, 0, none⟩ x0).setCell ⟨b, 1, none⟩ x1).setCell ⟨c, 0, none⟩ y0).setCell ⟨c, 1, none⟩ y1) := (((h.setCell hb _).setCell hb _).setCell hc _).setCell hc _
theorem Row.seto {w : World} {B b o : Nat} {v u : Value} {L : List Int} (h : Row w B v L) (hne : v.ownBlock ≠ some b) : Row (w.setCell ⟨b, o, none⟩ u) B v L := ⟨ownsRow_setCell_other h.1 (a := ⟨b, o, none⟩) hne _, h.2⟩
set_option maxHeartbeats 3000000 in
set_option maxRecDepth 20000 in
theorem iBeatsOf_yes (n k : Int) (w : World) (h : BOk n k) :
    Calls Try.prog 17 #[.int .i64 n, .int .i64 k] w (Gives (Tic.beats n.toNat k.toNat) w) := by
  obtain ⟨h1, h2, h3, h4⟩ := h
  obtain ⟨N, rfl⟩ := Int.eq_ofNat_of_zero_le (show 0 ≤ n by omega)
  obtain ⟨K, rfl⟩ := Int.eq_ofNat_of_zero_le (show 0 ≤ k by omega)
  simp only [Int.toNat_natCast]
  have HST := Lib.hid (Tic.bt_start (n := N) (k := K) (by omega) (by omega) (by omega))
  generalize Tic.beats N K = T at HST ⊢
  have hnk : (N : Int) - (K : Int) = ((N - K : Nat) : Int) := by omega
  have hs0 := IntWalk.i64_in ((N : Int) - (K : Int)) (by omega)
  rw [hnk] at hs0
  have hK1 : ¬ (K : Int) < 1 := by omega
  have hNK : ¬ N < K := by omega
  go_enter Try.func17, Try.ntmps17
  go_wp2_with fail
  refine (circle_yes _ _ h1 h2).mono ?_; rintro e w1 ⟨rfl, rfl⟩
  go_wp2
  go_loopw [30, 31, 32, 33, 34, 35] (fun _ _ _ _ _ _ wr => ∃ (A B : List Int) (x y : Nat) (va vb : Value), Hid (Tic.Bt N T A B x y) ∧ Hid (1 ≤ A.length ∧ 1 ≤ B.length) ∧ Hid (Row wr w.heap.size va A) ∧ Hid (Row wr w.heap.size vb B) ∧
      Hid (∀ g, va.ownBlock = some g → g ≠ w.heap.size + 1 + 1 ∧ g ≠ w.heap.size + 1 + 1 + 1) ∧ Hid (∀ g, vb.ownBlock = some g → g ≠ w.heap.size + 1 + 1 ∧ g ≠ w.heap.size + 1 + 1 + 1) ∧
      wr.cell? ⟨w.heap.size + 1 + 1, 0, none⟩ = some va ∧ wr.cell? ⟨w.heap.size + 1 + 1, 1, none⟩ = some (.int .i64 x) ∧ wr.cell? ⟨w.heap.size + 1 + 1 + 1, 0, none⟩ = some vb ∧ wr.cell? ⟨w.heap.size + 1 + 1 + 1, 1, none⟩ = some (.int .i64 y) ∧
      wr.frozen? ⟨w.heap.size + 1 + 1, 0, none⟩ = false ∧ wr.frozen? ⟨w.heap.size + 1 + 1, 1, none⟩ = false ∧ wr.frozen? ⟨w.heap.size + 1 + 1 + 1, 0, none⟩ = false ∧ wr.frozen? ⟨w.heap.size + 1 + 1 + 1, 1, none⟩ = false ∧
      w.heap.size + 1 + 1 + 1 < wr.heap.size ∧ Hid (Below w.heap.size w wr)) (fun _ _ _ _ _ _ wr => (intOf ((wr.cell? ⟨w.heap.size + 1 + 1, 1, none⟩).getD (.int .i64 0))).toNat + (intOf ((wr.cell? ⟨w.heap.size + 1 + 1 + 1, 1, none⟩).getD (.int .i64 0))).toNat)
  case atStart =>
    refine ⟨[1], [0], K, N - K, .slice (some ⟨w.heap.size, 0, none⟩) 1 1, .slice (some ⟨w.heap.size + 1, 0, none⟩) 1 1, HST, Lib.hid (by decide), Lib.hid ?_, Lib.hid ?_, Lib.hid ?_, Lib.hid ?_, ?_, ?_, ?_, ?_, ?_, ?_, ?_, ?_, ?_, Lib.hid ?_⟩
    · exact (((row_lit w [1] (by decide)).alloc _).alloc _).alloc _
    · have := (((row_lit (w.alloc (.cells #[.int .i64 1] 3)) [0] (by decide)).alloc (.cells #[.slice (some ⟨w.heap.size, 0, none⟩) 1 1, .int .i64 K] 49)).alloc (.cells #[.slice (some ⟨w.heap.size + 1, 0, none⟩) 1 1, .int .i64 (N - K : Nat)] 49)).mono (B' := w.heap.size) (by simp)
      simpa using this
    · intro g hg
      have : w.heap.size = g := by simpa [Value.ownBlock] using hg
      omega
    · intro g hg
      have : w.heap.size + 1 = g := by simpa [Value.ownBlock] using hg
      omega
    all_goals first | exact ((((Below.refl _ _).alloc (Nat.le_refl _) _).alloc (by simp) _).alloc (by simp; omega) _).alloc (by simp; omega) _ | go_simp
  case round =>
    obtain ⟨A, B, x, y, va, vb, HBT, HAB, HRA, HRB, HNA, HNB, a0, a1, b0, b1, p0, p1, q0, q1, hz, HB⟩ := hrel
    have hx1 := HBT.out.1
    have hx2 := HBT.out.2.1
    have hy2 := HBT.out.2.2.1
    have hA12 := HBT.out.2.2.2.1
    have hB12 := HBT.out.2.2.2.2.1
    obtain ⟨pa, ca, rfl⟩ := HRA.out.lens
    obtain ⟨pb, cb, rfl⟩ := HRB.out.lens
    by_cases hy : 1 < y
    · by_cases hxy : x < y
      · have HBT2 := Lib.hid (Tic.bt_less (by omega) HBT.out hy hxy)
        have hyx : (1 : Int) < (y : Int) := by omega
        go_wp2_with fail
        refine (paired_lt _ _ _ _ A B x y _ HRA.out HRB.out hA12 hB12 hx2 hy2 hxy).mono ?_; rintro e w2 ⟨v, hr, hb, rfl⟩
        obtain ⟨pv, cv, rfl⟩ := hr.lens
        have c0 := (hb.cell (p := ⟨w.heap.size + 1 + 1, 0, none⟩) (by show w.heap.size + 1 + 1 < _; omega)).trans a0
        have c1 := (hb.cell (p := ⟨w.heap.size + 1 + 1, 1, none⟩) (by show w.heap.size + 1 + 1 < _; omega)).trans a1
        have d0 := (hb.cell (p := ⟨w.heap.size + 1 + 1 + 1, 0, none⟩) hz).trans b0
        have d1 := (hb.cell (p := ⟨w.heap.size + 1 + 1 + 1, 1, none⟩) hz).trans b1
        have r0 := (hb.frozen (p := ⟨w.heap.size + 1 + 1, 0, none⟩) (by show w.heap.size + 1 + 1 < _; omega)).trans p0
        have r1 := (hb.frozen (p := ⟨w.heap.size + 1 + 1, 1, none⟩) (by show w.heap.size + 1 + 1 < _; omega)).trans p1
        have s0 := (hb.frozen (p := ⟨w.heap.size + 1 + 1 + 1, 0, none⟩) hz).trans q0
        have s1 := (hb.frozen (p := ⟨w.heap.size + 1 + 1 + 1, 1, none⟩) hz).trans q1
        have HNV : Hid (∀ g, (Value.slice pv (A ++ B).length cv).ownBlock = some g → g ≠ w.heap.size + 1 + 1 ∧ g ≠ w.heap.size + 1 + 1 + 1) := Lib.hid (fun g hg => by have := (hr.lt g hg).1; omega)
        have HRV := Lib.hid (hr.mono (B' := w.heap.size) (by omega))
        have HRO := Lib.hid (HRB.out.kept hb)
        have hz2 := Nat.lt_of_lt_of_le hz hb.size
        have HB2 := Lib.hid (HB.out.trans (hb.mono HB.out.size))
        have HMN : Hid (((min x y : Nat) : Int) = (x : Int)) := Lib.hid (by omega)
        clear hr hb a0 b0 p0 p1 q0 q1 HRA HRB HB
        go_wp2
        have hmn : min x y = x := by omega
        rw [hmn]
        obtain ⟨f0, f1, f2, f3⟩ := quad (.slice pv (A.length + B.length) cv) (.int .i64 x) (.slice pb B.length cb) (.int .i64 (y - x : Nat)) (show w.heap.size + 1 + 1 ≠ w.heap.size + 1 + 1 + 1 by omega) c0 c1 d0 d1
        have HV1 := Lib.hid (HRV.out.seto (b := w.heap.size + 1 + 1) (o := 0) (u := .slice pv (A.length + B.length) cv) (fun e => (HNV.out _ e).1 rfl) |>.seto (b := w.heap.size + 1 + 1) (o := 1) (u := .int .i64 x) (fun e => (HNV.out _ e).1 rfl) |>.seto (b := w.heap.size + 1 + 1 + 1) (o := 0) (u := (.slice pb B.length cb)) (fun e => (HNV.out _ e).2 rfl) |>.seto (b := w.heap.size + 1 + 1 + 1) (o := 1) (u := .int .i64 (y - x : Nat)) (fun e => (HNV.out _ e).2 rfl))
        have HO1 := Lib.hid (HRO.out.seto (b := w.heap.size + 1 + 1) (o := 0) (u := .slice pv (A.length + B.length) cv) (fun e => (HNB.out _ e).1 rfl) |>.seto (b := w.heap.size + 1 + 1) (o := 1) (u := .int .i64 x) (fun e => (HNB.out _ e).1 rfl) |>.seto (b := w.heap.size + 1 + 1 + 1) (o := 0) (u := (.slice pb B.length cb)) (fun e => (HNB.out _ e).2 rfl) |>.seto (b := w.heap.size + 1 + 1 + 1) (o := 1) (u := .int .i64 (y - x : Nat)) (fun e => (HNB.out _ e).2 rfl))
        have HB3 := Lib.hid (below_set4 HB2.out (b := w.heap.size + 1 + 1) (c := w.heap.size + 1 + 1 + 1) (by omega) (by omega) (.slice pv (A.length + B.length) cv) (.int .i64 x) (.slice pb B.length cb) (.int .i64 (y - x : Nat)))
        rw [List.length_append] at HV1 HNV
        refine ⟨⟨A ++ B, B, x, y - x, _, _, HBT2, Lib.hid (by have := HAB.out; simp; omega), HV1, HO1, HNV, HNB, f0, f1, f2, f3, by simpa using r0, by simpa using r1, by simpa using s0, by simpa using s1, by simpa using hz2, HB3⟩, ?_⟩
        rw [f1, f3, a1, b1]
        simp [intOf]
        omega
      · have HBT2 := Lib.hid (Tic.bt_more (by omega) HBT.out hy hxy)
        have hyx : (1 : Int) < (y : Int) := by omega
        go_wp2_with fail
        refine (paired_ge _ _ _ _ A B x y _ HRA.out HRB.out hA12 hB12 hx2 hy2 hxy).mono ?_; rintro e w2 ⟨v, hr, hb, rfl⟩
        obtain ⟨pv, cv, rfl⟩ := hr.lens
        have c0 := (hb.cell (p := ⟨w.heap.size + 1 + 1, 0, none⟩) (by show w.heap.size + 1 + 1 < _; omega)).trans a0
        have c1 := (hb.cell (p := ⟨w.heap.size + 1 + 1, 1, none⟩) (by show w.heap.size + 1 + 1 < _; omega)).trans a1
        have d0 := (hb.cell (p := ⟨w.heap.size + 1 + 1 + 1, 0, none⟩) hz).trans b0
        have d1 := (hb.cell (p := ⟨w.heap.size + 1 + 1 + 1, 1, none⟩) hz).trans b1
        have r0 := (hb.frozen (p := ⟨w.heap.size + 1 + 1, 0, none⟩) (by show w.heap.size + 1 + 1 < _; omega)).trans p0
        have r1 := (hb.frozen (p := ⟨w.heap.size + 1 + 1, 1, none⟩) (by show w.heap.size + 1 + 1 < _; omega)).trans p1
        have s0 := (hb.frozen (p := ⟨w.heap.size + 1 + 1 + 1, 0, none⟩) hz).trans q0
        have s1 := (hb.frozen (p := ⟨w.heap.size + 1 + 1 + 1, 1, none⟩) hz).trans q1
        have HNV : Hid (∀ g, (Value.slice pv (A ++ B).length cv).ownBlock = some g → g ≠ w.heap.size + 1 + 1 ∧ g ≠ w.heap.size + 1 + 1 + 1) := Lib.hid (fun g hg => by have := (hr.lt g hg).1; omega)
        have HRV := Lib.hid (hr.mono (B' := w.heap.size) (by omega))
        have HRO := Lib.hid (HRA.out.kept hb)
        have hz2 := Nat.lt_of_lt_of_le hz hb.size
        have HB2 := Lib.hid (HB.out.trans (hb.mono HB.out.size))
        have HMN : Hid (((min x y : Nat) : Int) = (y : Int)) := Lib.hid (by omega)
        clear hr hb a0 b0 p0 p1 q0 q1 HRA HRB HB
        go_wp2
        have hmn : min x y = y := by omega
        rw [hmn]
        obtain ⟨f0, f1, f2, f3⟩ := quad (.slice pv (A.length + B.length) cv) (.int .i64 y) (.slice pa A.length ca) (.int .i64 (x - y : Nat)) (show w.heap.size + 1 + 1 ≠ w.heap.size + 1 + 1 + 1 by omega) c0 c1 d0 d1
        have HV1 := Lib.hid (HRV.out.seto (b := w.heap.size + 1 + 1) (o := 0) (u := .slice pv (A.length + B.length) cv) (fun e => (HNV.out _ e).1 rfl) |>.seto (b := w.heap.size + 1 + 1) (o := 1) (u := .int .i64 y) (fun e => (HNV.out _ e).1 rfl) |>.seto (b := w.heap.size + 1 + 1 + 1) (o := 0) (u := (.slice pa A.length ca)) (fun e => (HNV.out _ e).2 rfl) |>.seto (b := w.heap.size + 1 + 1 + 1) (o := 1) (u := .int .i64 (x - y : Nat)) (fun e => (HNV.out _ e).2 rfl))
        have HO1 := Lib.hid (HRO.out.seto (b := w.heap.size + 1 + 1) (o := 0) (u := .slice pv (A.length + B.length) cv) (fun e => (HNA.out _ e).1 rfl) |>.seto (b := w.heap.size + 1 + 1) (o := 1) (u := .int .i64 y) (fun e => (HNA.out _ e).1 rfl) |>.seto (b := w.heap.size + 1 + 1 + 1) (o := 0) (u := (.slice pa A.length ca)) (fun e => (HNA.out _ e).2 rfl) |>.seto (b := w.heap.size + 1 + 1 + 1) (o := 1) (u := .int .i64 (x - y : Nat)) (fun e => (HNA.out _ e).2 rfl))
        have HB3 := Lib.hid (below_set4 HB2.out (b := w.heap.size + 1 + 1) (c := w.heap.size + 1 + 1 + 1) (by omega) (by omega) (.slice pv (A.length + B.length) cv) (.int .i64 y) (.slice pa A.length ca) (.int .i64 (x - y : Nat)))
        rw [List.length_append] at HV1 HNV
        refine ⟨⟨A ++ B, A, y, x - y, _, _, HBT2, Lib.hid (by have := HAB.out; simp; omega), HV1, HO1, HNV, HNA, f0, f1, f2, f3, by simpa using r0, by simpa using r1, by simpa using s0, by simpa using s1, by simpa using hz2, HB3⟩, ?_⟩
        rw [f1, f3, a1, b1]
        simp [intOf]
        omega
    · have HEND := Lib.hid (Tic.bt_end HBT.out (by omega))
      have HLEN := Lib.hid (Tic.bt_len HBT.out)
      have hyx : ¬ (1 : Int) < (y : Int) := by omega
      have hz0 : w.heap.size + 1 + 1 < wr.heap.size := by omega
      have hk0 : Below wr.heap.size wr wr := Below.refl _ _
      clear p0 p1 q0 q1 HNA HNB
      go_wp2_with fail
      go_region_held3 (fun w' => w'.cell? ⟨w.heap.size + 1 + 1, 0, none⟩ = some (.slice pa A.length ca) ∧ w'.cell? ⟨w.heap.size + 1 + 1, 1, none⟩ = some (.int .i64 x) ∧ w'.cell? ⟨w.heap.size + 1 + 1 + 1, 0, none⟩ = some (.slice pb B.length cb) ∧ w'.cell? ⟨w.heap.size + 1 + 1 + 1, 1, none⟩ = some (.int .i64 y))
        (first | go_keep | (refine ⟨?_, ?_, ?_, ?_⟩ <;> ((refine (hk0.cell ?_).trans ?_) <;> assumption)))
        (first
          | (go_at_call_of 42 (Value.agg #[Value.slice pa A.length ca, Value.int IntKind.i64 x]); refine (all_any _ w.heap.size A x wr.drew HRA.out hx2 hA12).mono ?_; rintro e w1 ⟨v1, rfl, hr, bx⟩; have RA := Lib.hid hr; clear hr; replace hk0 : Below wr.heap.size wr w1 := (by first | exact grow1b hk0 bx | exact grow0b hk0 bx); clear bx; have RB0 := Lib.hid (HRB.out.kept hk0); have k0 := (hk0.cell (p := ⟨w.heap.size + 1 + 1, 0, none⟩) hz0).trans a0; have k1 := (hk0.cell (p := ⟨w.heap.size + 1 + 1, 1, none⟩) hz0).trans a1; have k2 := (hk0.cell (p := ⟨w.heap.size + 1 + 1 + 1, 0, none⟩) hz).trans b0; have k3 := (hk0.cell (p := ⟨w.heap.size + 1 + 1 + 1, 1, none⟩) hz).trans b1)
          | (go_at_call_of 42 (Value.agg #[Value.slice pb B.length cb, Value.int IntKind.i64 y]); refine (all_any _ w.heap.size B y _ RB0.out hy2 hB12).mono ?_; rintro e w1 ⟨v2, rfl, hr, bx⟩; have RB := Lib.hid hr; clear hr; replace RA := Lib.hid (show Row w1 _ v1 _ from by first | exact RA.out.kept bx | exact Row.kept (w := World.drew _) RA.out bx); replace hk0 : Below wr.heap.size wr w1 := (by first | exact grow1b hk0 bx | exact grow0b hk0 bx); clear bx; have k0 := (hk0.cell (p := ⟨w.heap.size + 1 + 1, 0, none⟩) hz0).trans a0; have k1 := (hk0.cell (p := ⟨w.heap.size + 1 + 1, 1, none⟩) hz0).trans a1; have k2 := (hk0.cell (p := ⟨w.heap.size + 1 + 1 + 1, 0, none⟩) hz).trans b0; have k3 := (hk0.cell (p := ⟨w.heap.size + 1 + 1 + 1, 1, none⟩) hz).trans b1)
          | (go_at_call 41; refine (joined_any _ _ _ _ _ _ _ RA.out RB.out (by have := HLEN.out; omega)).mono ?_; rintro e w1 ⟨v3, rfl, hr, bx⟩; have RC := Lib.hid (hr.mono (B' := wr.heap.size) (by first | exact hk0.size | exact hk0.size)); clear hr; replace hk0 : Below wr.heap.size wr w1 := (by first | exact grow1b hk0 bx | exact grow0b hk0 bx); clear bx; have k0 := (hk0.cell (p := ⟨w.heap.size + 1 + 1, 0, none⟩) hz0).trans a0; have k1 := (hk0.cell (p := ⟨w.heap.size + 1 + 1, 1, none⟩) hz0).trans a1; have k2 := (hk0.cell (p := ⟨w.heap.size + 1 + 1 + 1, 0, none⟩) hz).trans b0; have k3 := (hk0.cell (p := ⟨w.heap.size + 1 + 1 + 1, 1, none⟩) hz).trans b1))
      all_goals
        go_wp2
        go_ret
        refine ⟨_, rfl, ?_, ?_⟩
        · have hres := RC.out.mono (B' := w.heap.size) (by omega)
          rw [HEND.out] at hres
          exact hres
        · exact HB.out.trans (hk0.mono (by omega))
theorem iBeatsOf_no (n k : Int) (w : World) (h : ¬ BOk n k) :
    Calls Try.prog 17 #[.int .i64 n, .int .i64 k] w fun e w' => e = .returned (.slice none 0 0) ∧ w = w' := by
  by_cases h1 : 3 ≤ n ∧ n ≤ 12
  · rcases (show k < 1 ∨ (1 ≤ k ∧ n < k) by unfold BOk at h; omega) with h4 | h4
    all_goals
      clear h
      go_enter Try.func17, Try.ntmps17
      go_wp2_with fail
      refine (circle_yes _ _ h1.1 h1.2).mono ?_; rintro e w1 ⟨rfl, rfl⟩
      go_wp2
      go_ret
      exact ⟨rfl, rfl⟩
  · have h3 : n < 3 ∨ 12 < n := by omega
    clear h
    go_enter Try.func17, Try.ntmps17
    go_wp2_with fail
    refine (circle_no _ _ h3).mono ?_; rintro e w1 ⟨rfl, rfl⟩
    go_wp2
    go_ret
    exact ⟨rfl, rfl⟩
end Go.Proofs.Ytahpjfdecjfpcaa
