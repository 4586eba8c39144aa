/-
  Contracts of TurnTriad and TriadsIn, of the program and of the model.
-/
import Derived.Test.YtjlbgccffpkmiaaDoorTriSet
import Derived.Test.YtjlbgccffpkmiaaDoorTones
namespace Go.Proofs.YtjlbgccffpkmiaaDoor
open Go.RowKit
set_option linter.unusedVariables false

theorem valid12 {s : Nat} (h : s < 4096) : Tic.Valid 12 (s : Int) := ⟨by omega, by omega, by omega, by show (s : Int) < ((4096 : Nat) : Int); omega⟩
theorem and_bits (a b : Nat) (ha : a < 4096) (hb : b < 4096) : bits .and .i64 (a : Int) (b : Int) = ((a &&& b : Nat) : Int) := i64_and_nat a b (by omega) (by omega)
/-- the triad turned by k, 0 if it were none -/
def trnT (t k : Int) : Nat := (Tic.triOf (Tic.tur 12 k (Tic.triSet t) : Int)).getD 0

theorem sturnTriad_any (n : Nat) (k : Int) (w : World) (h : n < 24) (hk : Tic.Turn k) :
    Calls Tryd.prog 49 #[.int .i64 n, .int .i64 k] w fun e w' => e = .returned (.int .i64 (trnT n k : Int)) ∧ w = w' := by
  have HV := Lib.hid (valid12 (Tic.triSet_lt (n : Int)))
  have HT := Lib.hid (fun w => sturn_any 12 (Tic.triSet n : Int) k w HV.out hk)
  have HO := Lib.hid (fun w => sTriadOf_any (Tic.tur 12 k (Tic.triSet n) : Int) w)
  have HR := Lib.hid (show trnT n k = (Tic.triOf (Tic.tur 12 k (Tic.triSet n) : Int)).getD 0 from rfl)
  have HT2 : Hid (∀ w, Calls Tryd.prog 60 #[.int .i64 12, .int .i64 (Tic.triSet n : Int), .int .i64 k] w fun e w' => e = .returned (.int .i64 (Tic.tur 12 k (Tic.triSet n) : Int)) ∧ w = w') := HT
  clear HT
  generalize Tic.tur 12 k (Tic.triSet n) = y at HT2 HO HR
  generalize Tic.triOf (y : Int) = o at HO HR
  unfold ofV at HO
  go_enter Tryd.func49, Tryd.ntmps49
  go_wp2_with fail
  refine (striadSet_any _ _ h).mono ?_; rintro e w1 ⟨rfl, rfl⟩
  go_wp2_with fail
  refine (HT2.out _).mono ?_; rintro e w1 ⟨rfl, rfl⟩
  go_wp2_with fail
  refine (HO.out _).mono ?_; rintro e w1 ⟨rfl, rfl⟩
  go_wp2_with fail
  go_ret
  exact ⟨ret_int (by rw [HR.out]), rfl⟩
theorem sTurnTriad_yes (n : Nat) (k : Int) (w : World) (h : n < 24) (hk : Tic.Turn k) :
    Calls Tryd.prog 28 #[.int .i64 n, .int .i64 k] w fun e w' => e = .returned (.int .i64 (trnT n k : Int)) ∧ w = w' := by
  go_enter Tryd.func28, Tryd.ntmps28
  go_wp2_with fail
  refine (inRange_yes _ _ _ _ (by omega) (by omega)).mono ?_; rintro e w1 ⟨rfl, rfl⟩
  go_wp2_with fail
  refine (inRange_yes _ _ _ _ hk.1 hk.2).mono ?_; rintro e w1 ⟨rfl, rfl⟩
  go_wp2_with fail
  refine (sturnTriad_any _ _ _ h hk).mono ?_; rintro e w1 ⟨rfl, rfl⟩
  go_wp2_with fail
  go_ret
  exact ⟨rfl, rfl⟩
theorem sTurnTriad_no (t k : Int) (w : World) (h : ¬ (Tic.Tri t ∧ Tic.Turn k)) :
    Calls Tryd.prog 28 #[.int .i64 t, .int .i64 k] w fun e w' => e = .returned (.int .i64 (-1)) ∧ w = w' := by
  by_cases ht : Tic.Tri t
  · have hk : k < -50 ∨ 50 < k := by
      have : ¬ Tic.Turn k := fun hk => h ⟨ht, hk⟩
      unfold Tic.Turn at this
      omega
    have h1 := ht.1
    have h2 : t ≤ 23 := by have := ht.2; omega
    clear h
    go_enter Tryd.func28, Tryd.ntmps28
    go_wp2_with fail
    refine (inRange_yes _ _ _ _ h1 h2).mono ?_; rintro e w1 ⟨rfl, rfl⟩
    go_wp2_with fail
    refine (inRange_no _ _ _ _ hk).mono ?_; rintro e w1 ⟨rfl, rfl⟩
    go_wp2_with fail
    go_ret
    exact ⟨rfl, rfl⟩
  · have h2 : t < 0 ∨ 23 < t := by unfold Tic.Tri at ht; omega
    clear h
    go_enter Tryd.func28, Tryd.ntmps28
    go_wp2_with fail
    refine (inRange_no _ _ _ _ h2).mono ?_; rintro e w1 ⟨rfl, rfl⟩
    go_wp2_with fail
    go_ret
    exact ⟨rfl, rfl⟩
theorem iTurnTriad_yes (n : Nat) (k : Int) (w : World) (h : n < 24) (hk : Tic.Turn k) (hsh : Shapes w) :
    Calls Tryd.prog 27 #[.int .i64 n, .int .i64 k] w fun e w' => e = .returned (.int .i64 (trnT n k : Int)) ∧ Below w.heap.size w w' := by
  have hfd := tri_field
  have ht : Tic.Tri (n : Int) := ⟨by omega, by omega⟩
  have HSH := Lib.hid hsh
  have HV := Lib.hid (valid12 (Tic.triSet_lt (n : Int)))
  have HT : Hid (∀ w, Calls Tryd.prog 48 #[.agg #[.int .i64 12, .int .i64 (Tic.triSet n : Int)], .int .i64 k] w fun e w' => e = .returned (.agg #[.int .i64 12, .int .i64 (Tic.tur 12 k (Tic.triSet n) : Int)]) ∧ Below w.heap.size w w') :=
    Lib.hid (fun w => mturn_any 12 (Tic.triSet n : Int) k w HV.out hk)
  have HO := Lib.hid (fun w => iTriadOf_any (Tic.tur 12 k (Tic.triSet n) : Int) w)
  have HR := Lib.hid (show trnT n k = (Tic.triOf (Tic.tur 12 k (Tic.triSet n) : Int)).getD 0 from rfl)
  clear hsh
  generalize Tic.tur 12 k (Tic.triSet n) = y at HT HO HR
  generalize Tic.triOf (y : Int) = o at HO HR
  unfold ofV at HO
  go_enter Tryd.func27, Tryd.ntmps27
  go_wp2_with fail
  refine (vTri_yes _ _ ht).mono ?_; rintro e w1 ⟨rfl, rfl⟩
  go_wp2_with fail
  refine (shiftOk_yes _ _ hk).mono ?_; rintro e w1 ⟨rfl, rfl⟩
  go_wp2_with fail
  refine (set_any _ _ ht HSH.out).mono ?_; rintro e w1 ⟨rfl, hb1⟩
  have HS1 := Lib.hid (HSH.out.kept hb1)
  go_wp2_with fail
  refine (HT.out _).mono ?_; rintro e w2 ⟨rfl, hb2⟩
  have HS2 := Lib.hid (HS1.out.kept hb2)
  have hb12 := hb1.trans (hb2.mono hb1.size)
  clear hb1 hb2
  go_wp2_with fail
  refine (HO.out _ HS2.out).mono ?_; rintro e w3 ⟨rfl, hb3⟩
  have hb13 := hb12.trans (hb3.mono hb12.size)
  clear hb12 hb3
  go_wp2_with fail
  go_ret
  exact ⟨ret_int (by rw [HR.out]), hb13⟩
theorem iTurnTriad_no (t k : Int) (w : World) (h : ¬ (Tic.Tri t ∧ Tic.Turn k)) :
    Calls Tryd.prog 27 #[.int .i64 t, .int .i64 k] w fun e w' => e = .returned (.int .i64 (-1)) ∧ w = w' := by
  by_cases ht : Tic.Tri t
  · have hk : ¬ Tic.Turn k := fun hk => h ⟨ht, hk⟩
    clear h
    go_enter Tryd.func27, Tryd.ntmps27
    go_wp2_with fail
    refine (vTri_yes _ _ ht).mono ?_; rintro e w1 ⟨rfl, rfl⟩
    go_wp2_with fail
    refine (shiftOk_no _ _ hk).mono ?_; rintro e w1 ⟨rfl, rfl⟩
    go_wp2_with fail
    go_ret
    exact ⟨rfl, rfl⟩
  · clear h
    go_enter Tryd.func27, Tryd.ntmps27
    go_wp2_with fail
    refine (vTri_no _ _ ht).mono ?_; rintro e w1 ⟨rfl, rfl⟩
    go_wp2_with fail
    go_ret
    exact ⟨rfl, rfl⟩
end Go.Proofs.YtjlbgccffpkmiaaDoor
