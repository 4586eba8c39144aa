/-
  Contracts of AreTwins, of the program and of the model.
-/
import Derived.Test.YtmofhhffkppelaaEq
import Derived.Test.YtmofhhffkppelaaKind
import Derived.Deep.RegionWith
namespace Go.Proofs.Ytmofhhffkppelaa
open Go.RowKit
set_option linter.unusedVariables false

theorem fieldsKind : (Try.prog.fieldsOf 45).toList = [⟨"size", 3, 0, false, "", "loop.example/tonesincircles/impl", 0⟩, ⟨"least", 3, 1, false, "", "loop.example/tonesincircles/impl", 8⟩] := by kernel_rfl
theorem neq_kind (a b c d : Int) (w : World) : (binOp .neq 45 (.agg #[.int .i64 a, .int .i64 b]) (.agg #[.int .i64 c, .int .i64 d])).run Try.prog w = .ok (.bool (!(a == c && b == d))) w := by
  rw [run_neq_struct, run_equalIn_struct w _ _ _ _ (by kernel_rfl) (by kernel_rfl), fieldsKind]
  simp [Op.eqFields, part]
  rw [run_equalIn_int w _ 3 .i64 .i64 a c Try.underlying3]
  by_cases h : a = c
  · subst h
    simp
    rw [run_equalIn_int w _ 3 .i64 .i64 b d Try.underlying3]
    by_cases h2 : b = d
    · subst h2; simp
    · simp [h2]
  · simp [h]
theorem eqGuard_kind (op : BinOp) (x y : Operand) (xs ys : Array Value) (w : World) : (eqGuard op 45 x y (.agg xs) (.agg ys)).run Try.prog w = .ok () w :=
  run_eqGuard_agg w op _ x y xs ys (by kernel_rfl)

theorem beq_cast (a b : Nat) : ((a : Int) == (b : Int)) = (a == b) := by
  by_cases h : a = b
  · subst h; simp
  · have : (a : Int) ≠ b := fun e => h (Int.ofNat.inj e)
    rw [beq_eq_false_iff_ne.2 this, beq_eq_false_iff_ne.2 h]
/-- two sets of one circle are twins -/
def twins (n a b : Nat) : Bool := decide (Tic.gapsOf n a = Tic.gapsOf n b) && !(Tic.prm n a == Tic.prm n b)



theorem below_undrew {w w1 : World} (h : Below w.drew.heap.size w.drew w1) : Below w.heap.size w w1 := ⟨h.os, h.tape, h.output, h.size, h.block⟩

theorem keep01 {w w1 : World} {B : Nat} {v : Value} {L : List Int} (h : Row w B v L) (hb : Below w.drew.heap.size w.drew w1) : Row w1 B v L := h.kept (below_undrew hb)
theorem keep00 {w w1 : World} {B : Nat} {v : Value} {L : List Int} (h : Row w B v L) (hb : Below w.heap.size w w1) : Row w1 B v L := h.kept hb

set_option maxRecDepth 20000 in
set_option maxHeartbeats 1000000 in
theorem iAreTwins_yes (n a b : Int) (w : World) (ha : Tic.Valid n a) (hb : Tic.Valid n b) :
    Calls Try.prog 11 #[.int .i64 n, .int .i64 a, .int .i64 b] w fun e w' => e = .returned (.bool (twins n.toNat a.toNat b.toNat)) ∧ Below w.heap.size w w' := by
  have hl : (Tic.gapsOf n.toNat a.toNat).length = (Tic.gapsOf n.toNat b.toNat).length := by simp [Tic.gapsOf, Tic.cts_length]
  have hnk := neq_kind
  have hgu := eqGuard_kind
  by_cases hg : Tic.gapsOf n.toNat a.toNat = Tic.gapsOf n.toNat b.toNat
  · have HT : Hid ((!((Tic.prm n.toNat a.toNat : Int) == (Tic.prm n.toNat b.toNat : Int))) = twins n.toNat a.toNat b.toNat) := by
      show _ = _
      unfold twins
      rw [hg]
      simp only [decide_true, Bool.true_and]
      rw [beq_cast]
    have HG := Lib.hid hg
    clear hg hl
    go_enter Try.func11, Try.ntmps11
    go_wp2_with fail
    refine (implValid_yes _ _ _ ha).mono ?_; rintro e w1 ⟨rfl, rfl⟩
    go_wp2_with fail
    refine (implValid_yes _ _ _ hb).mono ?_; rintro e w1 ⟨rfl, rfl⟩
    go_wp2_with fail
    obtain ⟨W, hW⟩ : ∃ W : World, W = (w.alloc (.cells #[.int .i64 n, .int .i64 a] 42)).alloc (.cells #[.int .i64 n, .int .i64 b] 42) := ⟨_, rfl⟩
    have c0 : W.cell? ⟨w.heap.size, 0, none⟩ = some (.int .i64 n) := by rw [hW]; go_simp
    have c1 : W.cell? ⟨w.heap.size, 1, none⟩ = some (.int .i64 a) := by rw [hW]; go_simp
    have c2 : W.cell? ⟨w.heap.size + 1, 0, none⟩ = some (.int .i64 n) := by rw [hW]; go_simp
    have c3 : W.cell? ⟨w.heap.size + 1, 1, none⟩ = some (.int .i64 b) := by rw [hW]; go_simp
    have hz : w.heap.size + 1 < W.heap.size := by rw [hW]; simp
    have hz0 : w.heap.size < W.heap.size := by omega
    have hbel : Below w.heap.size w W := by rw [hW]; exact ((Below.refl _ _).alloc (Nat.le_refl _) _).alloc (by simp) _
    rw [← hW]
    clear hW
    have hk0 : Below W.heap.size W W := Below.refl _ _
    go_region_held3 (fun w' => w'.cell? ⟨w.heap.size, 0, none⟩ = some (.int .i64 n) ∧ w'.cell? ⟨w.heap.size, 1, none⟩ = some (.int .i64 a) ∧ w'.cell? ⟨w.heap.size + 1, 0, none⟩ = some (.int .i64 n) ∧ w'.cell? ⟨w.heap.size + 1, 1, none⟩ = some (.int .i64 b))
      (first | go_keep | (refine ⟨?_, ?_, ?_, ?_⟩ <;> ((refine (hk0.cell ?_).trans ?_) <;> assumption)))
      (first
        | (go_at_call_of 31 (Value.agg #[Value.int IntKind.i64 n, Value.int IntKind.i64 a]); refine (gaps_any _ _ _ ha).mono ?_; rintro e w1 ⟨v1, rfl, ra, bx⟩; have RA := Lib.hid ra; clear ra; replace hk0 : Below W.heap.size W w1 := (by first | exact grow1 hk0 bx | exact grow0 hk0 bx); clear bx)
        | (go_at_call_of 31 (Value.agg #[Value.int IntKind.i64 n, Value.int IntKind.i64 b]); refine (gaps_any _ _ _ hb).mono ?_; rintro e w1 ⟨v2, rfl, rb, bx⟩; have RB := Lib.hid rb; clear rb; replace RA := Lib.hid (show Row w1 _ v1 _ from by first | exact keep01 RA.out bx | exact keep00 RA.out bx); replace hk0 : Below W.heap.size W w1 := (by first | exact grow1 hk0 bx | exact grow0 hk0 bx); clear bx)
        | (go_at_call 30; refine (equal_yes _ _ _ _ _ _ RA.out (by rw [HG.out]; exact RB.out)).mono ?_; rintro e w1 ⟨rfl, bx⟩; replace hk0 : Below W.heap.size W w1 := (by first | exact grow1 hk0 bx | exact grow0 hk0 bx); clear bx)
        | (go_at_call_of 32 (Value.agg #[Value.int IntKind.i64 n, Value.int IntKind.i64 a]); refine (kind_any _ _ _ ha).mono ?_; rintro e w1 ⟨rfl, bx⟩; replace hk0 : Below W.heap.size W w1 := (by first | exact grow1 hk0 bx | exact grow0 hk0 bx); clear bx)
        | (go_at_call_of 32 (Value.agg #[Value.int IntKind.i64 n, Value.int IntKind.i64 b]); refine (kind_any _ _ _ hb).mono ?_; rintro e w1 ⟨rfl, bx⟩; replace hk0 : Below W.heap.size W w1 := (by first | exact grow1 hk0 bx | exact grow0 hk0 bx); clear bx))
    go_wp2
    go_ret
    refine ⟨ret_bool HT.out, ?_⟩
    have hk1 := hbel.trans (hk0.mono (by omega))
    first | exact hk1 | exact hk1.drew
  · have HT : Hid (false = twins n.toNat a.toNat b.toNat) := by
      show _ = _
      unfold twins
      simp [hg]
    have HG := Lib.hid hg
    have HL := Lib.hid hl
    clear hg hl
    go_enter Try.func11, Try.ntmps11
    go_wp2_with fail
    refine (implValid_yes _ _ _ ha).mono ?_; rintro e w1 ⟨rfl, rfl⟩
    go_wp2_with fail
    refine (implValid_yes _ _ _ hb).mono ?_; rintro e w1 ⟨rfl, rfl⟩
    go_wp2_with fail
    obtain ⟨W, hW⟩ : ∃ W : World, W = (w.alloc (.cells #[.int .i64 n, .int .i64 a] 42)).alloc (.cells #[.int .i64 n, .int .i64 b] 42) := ⟨_, rfl⟩
    have c0 : W.cell? ⟨w.heap.size, 0, none⟩ = some (.int .i64 n) := by rw [hW]; go_simp
    have c1 : W.cell? ⟨w.heap.size, 1, none⟩ = some (.int .i64 a) := by rw [hW]; go_simp
    have c2 : W.cell? ⟨w.heap.size + 1, 0, none⟩ = some (.int .i64 n) := by rw [hW]; go_simp
    have c3 : W.cell? ⟨w.heap.size + 1, 1, none⟩ = some (.int .i64 b) := by rw [hW]; go_simp
    have hz : w.heap.size + 1 < W.heap.size := by rw [hW]; simp
    have hz0 : w.heap.size < W.heap.size := by omega
    have hbel : Below w.heap.size w W := by rw [hW]; exact ((Below.refl _ _).alloc (Nat.le_refl _) _).alloc (by simp) _
    rw [← hW]
    clear hW
    have hk0 : Below W.heap.size W W := Below.refl _ _
    go_region_with (first
        | (go_at_call_of 31 (Value.agg #[Value.int IntKind.i64 n, Value.int IntKind.i64 a]); refine (gaps_any _ _ _ ha).mono ?_; rintro e w1 ⟨v1, rfl, ra, bx⟩; have RA := Lib.hid ra; clear ra; replace hk0 : Below W.heap.size W w1 := (by first | exact grow1 hk0 bx | exact grow0 hk0 bx); clear bx; have d0 := (hk0.cell (p := ⟨w.heap.size, 0, none⟩) hz0).trans c0; have d1 := (hk0.cell (p := ⟨w.heap.size, 1, none⟩) hz0).trans c1; have d2 := (hk0.cell (p := ⟨w.heap.size + 1, 0, none⟩) hz).trans c2; have d3 := (hk0.cell (p := ⟨w.heap.size + 1, 1, none⟩) hz).trans c3)
        | (go_at_call_of 31 (Value.agg #[Value.int IntKind.i64 n, Value.int IntKind.i64 b]); refine (gaps_any _ _ _ hb).mono ?_; rintro e w1 ⟨v2, rfl, rb, bx⟩; have RB := Lib.hid rb; clear rb; replace RA := Lib.hid (show Row w1 _ v1 _ from by first | exact keep01 RA.out bx | exact keep00 RA.out bx); replace hk0 : Below W.heap.size W w1 := (by first | exact grow1 hk0 bx | exact grow0 hk0 bx); clear bx; have d0 := (hk0.cell (p := ⟨w.heap.size, 0, none⟩) hz0).trans c0; have d1 := (hk0.cell (p := ⟨w.heap.size, 1, none⟩) hz0).trans c1; have d2 := (hk0.cell (p := ⟨w.heap.size + 1, 0, none⟩) hz).trans c2; have d3 := (hk0.cell (p := ⟨w.heap.size + 1, 1, none⟩) hz).trans c3)
        | (go_at_call 30; refine (equal_no _ _ _ _ _ _ _ RA.out RB.out HL.out HG.out).mono ?_; rintro e w1 ⟨rfl, bx⟩; replace hk0 : Below W.heap.size W w1 := (by first | exact grow1 hk0 bx | exact grow0 hk0 bx); clear bx; have d0 := (hk0.cell (p := ⟨w.heap.size, 0, none⟩) hz0).trans c0; have d1 := (hk0.cell (p := ⟨w.heap.size, 1, none⟩) hz0).trans c1; have d2 := (hk0.cell (p := ⟨w.heap.size + 1, 0, none⟩) hz).trans c2; have d3 := (hk0.cell (p := ⟨w.heap.size + 1, 1, none⟩) hz).trans c3))
    all_goals
      go_wp2
      go_ret
      refine ⟨ret_bool HT.out, ?_⟩
      have hk1 := hbel.trans (hk0.mono (by omega))
      first | exact hk1 | exact hk1.drew

theorem iAreTwins_no (n a b : Int) (w : World) (h : ¬ (Tic.Valid n a ∧ Tic.Valid n b)) :
    Calls Try.prog 11 #[.int .i64 n, .int .i64 a, .int .i64 b] w fun e w' => e = .returned (.bool false) ∧ w = w' := by
  by_cases ha : Tic.Valid n a
  · have hb : ¬ Tic.Valid n b := fun hb => h ⟨ha, hb⟩
    clear h
    go_enter Try.func11, Try.ntmps11
    go_wp2_with fail
    refine (implValid_yes _ _ _ ha).mono ?_; rintro e w1 ⟨rfl, rfl⟩
    go_wp2_with fail
    refine (implValid_no _ _ _ hb).mono ?_; rintro e w1 ⟨rfl, rfl⟩
    go_wp2_with fail
    go_ret
    exact ⟨rfl, rfl⟩
  · clear h
    go_enter Try.func11, Try.ntmps11
    go_wp2_with fail
    refine (implValid_no _ _ _ ha).mono ?_; rintro e w1 ⟨rfl, rfl⟩
    go_wp2_with fail
    go_ret
    exact ⟨rfl, rfl⟩
end Go.Proofs.Ytmofhhffkppelaa
