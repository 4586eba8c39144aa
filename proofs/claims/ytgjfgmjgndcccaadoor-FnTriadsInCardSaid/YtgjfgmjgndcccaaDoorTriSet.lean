/-
  Contracts of TriadSet and TriadOf, of the program and of the model. The program's table of shapes is a package-level variable: its cells are a hypothesis.
-/
import Derived.Test.YtgjfgmjgndcccaaDoorTri
import Derived.Test.YtgjfgmjgndcccaaDoorTriSetNum
import Derived.Test.YtgjfgmjgndcccaaDoorShift
namespace Go.Proofs.YtgjfgmjgndcccaaDoor
open Go.RowKit
set_option linter.unusedVariables false

/-- the table of shapes lies as the program's text lays it -/
def Shapes (w : World) : Prop := ∀ s k : Nat, s < 2 → k < 3 → w.cell? ⟨0, s * 3 + k, none⟩ = some (.int .i64 (Tic.abv s k))
theorem Shapes.kept {w w' : World} (h : Shapes w) (hb : Below w.heap.size w w') : Shapes w' := fun s k hs hk =>
  (hb.cell (p := ⟨0, s * 3 + k, none⟩) (block_lt_of_cell (h s k hs hk))).trans (h s k hs hk)
theorem Shapes.pos {w : World} (h : Shapes w) : 0 < w.heap.size := block_lt_of_cell (h 0 0 (by omega) (by omega))

theorem index_shape (s k : Nat) (hs : s < 2) (hk : k < 3) (w : World) :
    (Instr.index 45 (.agg #[.int .i64 (Tic.abv s 0), .int .i64 (Tic.abv s 1), .int .i64 (Tic.abv s 2)]) (.int .i64 (k : Int))).run Tryd.prog w = .ok (.int .i64 (Tic.abv s k)) w := by
  obtain rfl | rfl | rfl : k = 0 ∨ k = 1 ∨ k = 2 := by omega
  all_goals kernel_rfl

set_option maxHeartbeats 400000 in
set_option maxRecDepth 20000 in
theorem set_any (t : Int) (w : World) (h : Tic.Tri t) (hsh : Shapes w) :
    Calls Tryd.prog 20 #[.int .i64 t] w fun e w' => e = .returned (.agg #[.int .i64 12, .int .i64 (Tic.triSet t : Int)]) ∧ Below w.heap.size w w' := by
  have h1 := h.1
  have h2 := h.2
  obtain ⟨s, hs⟩ : ∃ s : Nat, t % 2 = (s : Int) := ⟨(t % 2).toNat, by omega⟩
  have hs2 : s < 2 := by omega
  have HIX := Lib.hid (fun k hk w => index_shape s k hs2 hk w)
  have HC := Lib.hid (fun k hk => hsh s k hs2 hk)
  have hpos := hsh.pos
  have HSS := Lib.hid (show (t % 2).toNat = s by omega)
  have HS := Lib.hid hs
  clear hs hsh
  go_enter Tryd.func20, Tryd.ntmps20
  go_wp2_with fail
  refine (shape_any _ _ h).mono ?_; rintro e w1 ⟨rfl, rfl⟩
  rw [HS.out]
  have hc0 : w.cell? ⟨0, s * 3, none⟩ = some (.int .i64 (Tic.abv s 0)) := HC.out 0 (by omega)
  have hc1 := HC.out 1 (by omega)
  have hc2 := HC.out 2 (by omega)
  have hsi : (s : Int) < 2 := by omega
  go_wp2_with fail
  clear hc0 hc1 hc2
  go_loopw [11] (fun t11 wr => ∃ k : Nat, k ≤ 3 ∧ t11 = .int .i64 k ∧
      wr.cell? ⟨w.heap.size, 0, none⟩ = some (.int .i64 0) ∧ wr.cell? ⟨w.heap.size, 1, none⟩ = some (.int .i64 0) ∧ wr.frozen? ⟨w.heap.size, 0, none⟩ = false ∧ wr.frozen? ⟨w.heap.size, 1, none⟩ = false ∧
      wr.cell? ⟨w.heap.size + 1, 0, none⟩ = some (.int .i64 12) ∧ wr.cell? ⟨w.heap.size + 1, 1, none⟩ = some (.int .i64 (Tic.prt t k : Int)) ∧ wr.frozen? ⟨w.heap.size + 1, 0, none⟩ = false ∧ wr.frozen? ⟨w.heap.size + 1, 1, none⟩ = false ∧
      w.heap.size + 1 < wr.heap.size ∧ Below w.heap.size w wr) (fun t11 _ => 3 - (intOf t11).toNat)
  case atStart =>
    refine ⟨0, by omega, rfl, ?_, ?_, ?_, ?_, ?_, ?_, ?_, ?_, ?_, ((Below.refl _ _).alloc (Nat.le_refl _) _).alloc (by simp) _⟩
    all_goals first | (go_simp; done) | (go_simp; rfl) | (simp; done)
  case round =>
    obtain ⟨k, hk, rfl, r0, r1, q0, q1, a0, a1, p0, p1, hz, hbel⟩ := hrel
    by_cases hlt : k < 3
    · have hix := HIX.out k hlt
      have hab := Tic.abv_bd s k (by omega)
      have hpl := Tic.prt_lt t k
      have HN := Lib.hid (show Tic.prt t (k + 1) = Tic.prt t k ||| 2 ^ ((t / 2 + Tic.abv s k) % 12).toNat by rw [← HSS.out]; rfl)
      obtain ⟨ab1, ab2⟩ := hab
      have hw1 := IntWalk.i64_in (t / 2 + Tic.abv s k) (by omega)
      generalize Tic.abv s k = ab at hix ab1 ab2 HN hw1
      generalize Tic.prt t k = P at a1 hpl HN
      go_wp2_with fail
      refine wp_region_still_tail 5 (by kernel_rfl) (by kernel_rfl) ?_
      simp only [List.take_succ_cons, List.take_zero, List.drop_succ_cons, List.drop_zero]
      still_step
      still_step
      still_call (still_of (root_any _ _ h))
      still_step
      still_step
      refine wpStill_nil ?_
      change wpList _ _ _ _ _ wr.drew
      have hbd : Below w.heap.size w wr.drew := hbel.drew
      have hzd : w.heap.size + 1 < wr.drew.heap.size := hz
      have dr0 : wr.drew.cell? ⟨w.heap.size, 0, none⟩ = some (.int .i64 0) := r0
      have dr1 : wr.drew.cell? ⟨w.heap.size, 1, none⟩ = some (.int .i64 0) := r1
      have dq0 : wr.drew.frozen? ⟨w.heap.size, 0, none⟩ = false := q0
      have dq1 : wr.drew.frozen? ⟨w.heap.size, 1, none⟩ = false := q1
      have da0 : wr.drew.cell? ⟨w.heap.size + 1, 0, none⟩ = some (.int .i64 12) := a0
      have da1 : wr.drew.cell? ⟨w.heap.size + 1, 1, none⟩ = some (.int .i64 (P : Int)) := a1
      have dp0 : wr.drew.frozen? ⟨w.heap.size + 1, 0, none⟩ = false := p0
      have dp1 : wr.drew.frozen? ⟨w.heap.size + 1, 1, none⟩ = false := p1
      clear r0 r1 q0 q1 a0 a1 p0 p1 hz hbel hw1
      generalize wr.drew = wd at dr0 dr1 dq0 dq1 da0 da1 dp0 dp1 hzd hbd ⊢
      go_wp2_with fail
      refine (with_any _ _ _ _ (by omega) (by omega) (by omega) (by omega) (by omega) (by omega)).mono ?_; rintro e w2 ⟨rfl, hb2⟩
      rw [Int.toNat_natCast, ← HN.out]
      obtain ⟨hc2, hf2⟩ := bcell hb2
      have s0 := (hc2 _ 0 (show w.heap.size < wd.heap.size by omega)).trans dr0
      have s1 := (hc2 _ 1 (show w.heap.size < wd.heap.size by omega)).trans dr1
      have u0 := (hf2 _ 0 (show w.heap.size < wd.heap.size by omega)).trans dq0
      have u1 := (hf2 _ 1 (show w.heap.size < wd.heap.size by omega)).trans dq1
      have t0 := (hc2 _ 0 hzd).trans da0
      have t1 := (hc2 _ 1 hzd).trans da1
      have v0 := (hf2 _ 0 hzd).trans dp0
      have v1 := (hf2 _ 1 hzd).trans dp1
      have hz2 := hb2.size
      have hbel2 := hbd.trans (hb2.mono (by omega))
      clear hc2 hf2 hb2 dr0 dr1 dq0 dq1 da0 da1 dp0 dp1 hbd
      go_wp2
      obtain ⟨y0, y1⟩ := pair_back (x := .int .i64 12) (y := .int .i64 (Tic.prt t (k + 1) : Int)) t0 t1
      go_roundw
      case rel =>
        refine ⟨k + 1, by omega, by go_num, ?_, ?_, ?_, ?_, y0, y1, ?_, ?_, ?_, (hbel2.setCell (by simp) _).setCell (by simp) _⟩
        all_goals try simp only [World.frozen?_setCell]
        all_goals first | assumption | (rw [World.cell?_setCell_other _ _ _ _ (by simp), World.cell?_setCell_other _ _ _ _ (by simp)]; assumption) | (simp; omega)
      case measure => simp [intOf]; omega
    · obtain rfl : k = 3 := by omega
      go_wp2
      obtain ⟨y0, y1⟩ := pair_back (x := .int .i64 12) (y := .int .i64 (Tic.prt t 3 : Int)) r0 r1
      refine bodyPost_ret (v := .agg #[.int .i64 12, .int .i64 (Tic.prt t 3 : Int)]) (by simp [results, Tryd.results20, go_sem, y0, y1]) rfl ⟨rfl, ?_⟩
      exact (hbel.setCell (by simp) _).setCell (by simp) _

theorem tri_field (a b : Int) (w : World) : (Instr.field 37 (.agg #[.int .i64 a, .int .i64 b]) 1).run Tryd.prog w = .ok (.int .i64 b) w := by kernel_rfl
theorem iTriadSet_yes (t : Int) (w : World) (h : Tic.Tri t) (hsh : Shapes w) :
    Calls Tryd.prog 9 #[.int .i64 t] w fun e w' => e = .returned (.int .i64 (Tic.triSet t : Int)) ∧ Below w.heap.size w w' := by
  have hfd := tri_field
  have HSH := Lib.hid hsh
  clear hsh
  go_enter Tryd.func9, Tryd.ntmps9
  go_wp2_with fail
  refine (vTri_yes _ _ h).mono ?_; rintro e w1 ⟨rfl, rfl⟩
  go_wp2_with fail
  refine (set_any _ _ h HSH.out).mono ?_; rintro e w1 ⟨rfl, hb⟩
  go_wp2_with fail
  go_ret
  exact ⟨rfl, hb⟩
theorem iTriadSet_no (t : Int) (w : World) (h : ¬ Tic.Tri t) :
    Calls Tryd.prog 9 #[.int .i64 t] w fun e w' => e = .returned (.int .i64 (-1)) ∧ w = w' := by
  go_enter Tryd.func9, Tryd.ntmps9
  go_wp2_with fail
  refine (vTri_no _ _ h).mono ?_; rintro e w1 ⟨rfl, rfl⟩
  go_wp2_with fail
  go_ret
  exact ⟨rfl, rfl⟩
theorem striadSet_any (n : Nat) (w : World) (h : n < 24) :
    Calls Tryd.prog 15 #[.int .i64 n] w fun e w' => e = .returned (.int .i64 (Tic.triSet n : Int)) ∧ w = w' := by
  have HS := Lib.hid (Tic.triSet_sum ⟨n, h⟩)
  have b1 := Int.emod_nonneg ((n : Int) / 2 + 4 - (n : Int) % 2) (b := 12) (by omega)
  have b2 := Int.emod_lt_of_pos ((n : Int) / 2 + 4 - (n : Int) % 2) (b := 12) (by omega)
  have b3 := Int.emod_nonneg ((n : Int) / 2 + 7) (b := 12) (by omega)
  have b4 := Int.emod_lt_of_pos ((n : Int) / 2 + 7) (b := 12) (by omega)
  have p1 : 2 ^ ((n : Int) / 2).toNat ≤ 4096 := Tic.pow_le_12 (by omega)
  have p2 : 2 ^ (((n : Int) / 2 + 4 - (n : Int) % 2) % 12).toNat ≤ 4096 := Tic.pow_le_12 (by omega)
  have p3 : 2 ^ (((n : Int) / 2 + 7) % 12).toNat ≤ 4096 := Tic.pow_le_12 (by omega)
  have HP1 := Lib.hid (fun w => power_any ((n : Int) / 2) w (by omega) (by omega))
  have HP2 := Lib.hid (fun w => power_any (((n : Int) / 2 + 4 - (n : Int) % 2) % 12) w (by omega) (by omega))
  have HP3 := Lib.hid (fun w => power_any (((n : Int) / 2 + 7) % 12) w (by omega) (by omega))
  generalize 2 ^ ((n : Int) / 2).toNat = q1 at HS p1 HP1
  generalize 2 ^ (((n : Int) / 2 + 4 - (n : Int) % 2) % 12).toNat = q2 at HS p2 HP2
  generalize 2 ^ (((n : Int) / 2 + 7) % 12).toNat = q3 at HS p3 HP3
  go_enter Tryd.func15, Tryd.ntmps15
  go_wp2_with fail
  refine (HP1.out _).mono ?_; rintro e w1 ⟨rfl, rfl⟩
  go_wp2_with fail
  refine (HP2.out _).mono ?_; rintro e w1 ⟨rfl, rfl⟩
  go_wp2_with fail
  refine (HP3.out _).mono ?_; rintro e w1 ⟨rfl, rfl⟩
  go_wp2_with fail
  go_ret
  exact ⟨ret_int HS.out, rfl⟩

/-- what TriadOf tells -/
def ofV (o : Option Nat) : Value := .tuple #[.int .i64 ((o.getD 0 : Nat) : Int), .bool o.isSome]
end Go.Proofs.YtgjfgmjgndcccaaDoor
