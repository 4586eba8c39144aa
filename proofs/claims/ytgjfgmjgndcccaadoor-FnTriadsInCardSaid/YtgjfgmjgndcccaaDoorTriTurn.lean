/-
  Contracts of TurnTriad and TriadsIn, of the program and of the model.
-/
import Derived.Test.YtgjfgmjgndcccaaDoorTriSet
import Derived.Test.YtgjfgmjgndcccaaDoorTones
namespace Go.Proofs.YtgjfgmjgndcccaaDoor
open Go.RowKit
set_option linter.unusedVariables false

theorem valid12 {s : Nat} (h : s < 4096) : Tic.Valid 12 (s : Int) := ⟨by omega, by omega, by omega, by show (s : Int) < ((4096 : Nat) : Int); omega⟩
theorem and_bits (a b : Nat) (ha : a < 4096) (hb : b < 4096) : bits .and .i64 (a : Int) (b : Int) = ((a &&& b : Nat) : Int) := i64_and_nat a b (by omega) (by omega)
/-- the triad turned by k, 0 if it were none -/
def trnT (t k : Int) : Nat := (Tic.triOf (Tic.tur 12 k (Tic.triSet t) : Int)).getD 0

theorem gives_nil_ {P : Program} {f : Nat} {args : Array Value} {w : World} (h : Calls P f args w fun e w' => e = .returned (.slice none 0 0) ∧ w = w') : Calls P f args w (Gives [] w) :=
  h.mono fun _ _ ⟨a, b⟩ => ⟨_, a, Row.nil _ _, by rw [← b]; exact Below.refl _ _⟩
theorem sTriadsIn_no (set : Int) (w : World) (h : ¬ Tic.Valid 12 set) :
    Calls Tryd.prog 7 #[.int .i64 set] w (Gives [] w) := by
  refine gives_nil_ ?_
  go_enter Tryd.func7, Tryd.ntmps7
  go_wp2_with fail
  refine (validSet_no _ _ _ h).mono ?_; rintro e w1 ⟨rfl, rfl⟩
  go_wp2_with fail
  go_ret
  exact ⟨rfl, rfl⟩
theorem iTriadsIn_no (set : Int) (w : World) (h : ¬ Tic.Valid 12 set) :
    Calls Tryd.prog 5 #[.int .i64 set] w (Gives [] w) := by
  refine gives_nil_ ?_
  go_enter Tryd.func5, Tryd.ntmps5
  go_wp2_with fail
  refine (implValid_no _ _ _ h).mono ?_; rintro e w1 ⟨rfl, rfl⟩
  go_wp2_with fail
  go_ret
  exact ⟨rfl, rfl⟩
theorem sTriadsIn_yes (S : Nat) (w : World) (hS : S < 4096) :
    Calls Tryd.prog 7 #[.int .i64 S] w (Gives (Tic.trisIn S 24) w) := by
  have HV := Lib.hid (valid12 hS)
  go_enter Tryd.func7, Tryd.ntmps7
  go_wp2_with fail
  refine (validSet_yes _ _ _ HV.out).mono ?_; rintro e w1 ⟨rfl, rfl⟩
  go_wp2
  go_loopw [3, 4] (fun t3 t4 wr => ∃ k : Nat, k ≤ 24 ∧ t4 = .int .i64 k ∧ Hid (Row wr w.heap.size t3 (Tic.trisIn S k)) ∧ Below w.heap.size w wr) (fun _ t4 _ => 24 - (intOf t4).toNat)
  case atStart => exact ⟨0, Nat.zero_le _, rfl, ⟨World.ownsRow_made w #[] 0 (Nat.le_refl _) (by decide) rfl, Nat.zero_le _⟩, (Below.refl _ _).alloc (Nat.le_refl _) _⟩
  case round =>
    obtain ⟨k, hk, rfl, HR, hbel⟩ := hrel
    have hl := Tic.trisIn_le S k
    have hs := hbel.size
    by_cases hlt : k < 24
    · have HI := Lib.hid (striadSet_any k wr hlt)
      have hab := and_bits (Tic.triSet k) S (Tic.triSet_lt _) hS
      have HY := Lib.hid (Tic.trisIn_yes (set := S) (k := k))
      have HN := Lib.hid (Tic.trisIn_no (set := S) (k := k))
      generalize Tic.triSet k = x at HI hab HY HN
      by_cases e : x &&& S = x
      · have hq : (((x &&& S : Nat) : Int) == (x : Int)) = true := by rw [e]; simp
        have HY2 := Lib.hid (HY.out e)
        clear e
        generalize x &&& S = y at hab hq
        go_wp2_with fail
        refine HI.out.mono ?_; rintro e w1 ⟨rfl, rfl⟩
        go_wp2_with fail
        refine HI.out.mono ?_; rintro e w1 ⟨rfl, rfl⟩
        go_wp2_with (at_builtin; refine wpList_append_int rfl _ _ rfl w.heap.size _ (Tic.trisIn S k) rfl (HR.out.alloc _) wr.heap.size 1 k rfl ?c1 ?c2 ?c3 ?_)
        case c1 => go_simp
        case c2 => omega
        case c3 => simp; omega
        intro v' w1 hrow hb1
        have HR1 := Lib.hid hrow
        clear hrow
        go_wp2
        go_roundw
        case rel => exact ⟨k + 1, by omega, by go_num, by rw [HY2.out]; exact HR1, (hbel.alloc hs _).trans hb1⟩
        case measure => simp [intOf]; omega
      · have hq : (((x &&& S : Nat) : Int) == (x : Int)) = false := by rw [beq_eq_false_iff_ne]; exact fun h => e (Int.ofNat.inj h)
        have HN2 := Lib.hid (HN.out e)
        clear e
        generalize x &&& S = y at hab hq
        go_wp2_with fail
        refine HI.out.mono ?_; rintro e w1 ⟨rfl, rfl⟩
        go_wp2_with fail
        refine HI.out.mono ?_; rintro e w1 ⟨rfl, rfl⟩
        go_wp2
        go_roundw
        case rel => exact ⟨k + 1, by omega, by go_num, by rw [HN2.out]; exact HR, hbel⟩
        case measure => simp [intOf]; omega
    · obtain rfl : k = 24 := by omega
      go_wp2
      go_ret
      exact ⟨_, rfl, HR, hbel⟩
theorem iTriadsIn_yes (S : Nat) (w : World) (hS : S < 4096) (hsh : Shapes w) :
    Calls Tryd.prog 5 #[.int .i64 S] w (Gives (Tic.trisIn S 24) w) := by
  have HV := Lib.hid (valid12 hS)
  have HSH := Lib.hid hsh
  clear hsh
  go_enter Tryd.func5, Tryd.ntmps5
  go_wp2_with fail
  refine (implValid_yes _ _ _ HV.out).mono ?_; rintro e w1 ⟨rfl, rfl⟩
  go_wp2
  go_loopw [3, 9] (fun t3 t9 wr => ∃ k : Nat, k ≤ 24 ∧ t9 = .int .i64 k ∧ Hid (Row wr w.heap.size t3 (Tic.trisIn S k)) ∧ Below w.heap.size w wr) (fun _ t9 _ => 24 - (intOf t9).toNat)
  case atStart => exact ⟨0, Nat.zero_le _, rfl, Lib.hid (Row.nil _ _), Below.refl _ _⟩
  case round =>
    obtain ⟨k, hk, rfl, HR, hbel⟩ := hrel
    have hl := Tic.trisIn_le S k
    have hs := hbel.size
    by_cases hlt : k < 24
    · have HI := Lib.hid (iTriadSet_yes (k : Int) wr ⟨by omega, by omega⟩ (HSH.out.kept hbel))
      have hab := and_bits (Tic.triSet k) S (Tic.triSet_lt _) hS
      have HY := Lib.hid (Tic.trisIn_yes (set := S) (k := k))
      have HN := Lib.hid (Tic.trisIn_no (set := S) (k := k))
      generalize Tic.triSet k = x at HI hab HY HN
      by_cases e : x &&& S = x
      · have hq : (((x &&& S : Nat) : Int) == (x : Int)) = true := by rw [e]; simp
        have HY2 := Lib.hid (HY.out e)
        clear e
        generalize x &&& S = y at hab hq
        go_wp2_with fail
        refine HI.out.mono ?_; rintro e w1 ⟨rfl, hb⟩
        have HR0 := Lib.hid (HR.out.kept hb)
        have hbel0 := hbel.trans (hb.mono hs)
        have hs0 := hbel0.size
        clear hb
        go_wp2_with (at_builtin; refine wpList_append_int rfl _ _ rfl w.heap.size _ (Tic.trisIn S k) rfl (HR0.out.alloc _) w1.heap.size 1 k rfl ?c1 ?c2 ?c3 ?_)
        case c1 => go_simp
        case c2 => omega
        case c3 => simp; omega
        intro v' w2 hrow hb1
        have HR1 := Lib.hid hrow
        clear hrow
        go_wp2
        go_roundw
        case rel => exact ⟨k + 1, by omega, by go_num, by rw [HY2.out]; exact HR1, (hbel0.alloc hs0 _).trans hb1⟩
        case measure => simp [intOf]; omega
      · have hq : (((x &&& S : Nat) : Int) == (x : Int)) = false := by rw [beq_eq_false_iff_ne]; exact fun h => e (Int.ofNat.inj h)
        have HN2 := Lib.hid (HN.out e)
        clear e
        generalize x &&& S = y at hab hq
        go_wp2_with fail
        refine HI.out.mono ?_; rintro e w1 ⟨rfl, hb⟩
        have HR0 := Lib.hid (HR.out.kept hb)
        have hbel0 := hbel.trans (hb.mono hs)
        clear hb
        go_wp2
        go_roundw
        case rel => exact ⟨k + 1, by omega, by go_num, by rw [HN2.out]; exact HR0, hbel0⟩
        case measure => simp [intOf]; omega
    · obtain rfl : k = 24 := by omega
      go_wp2
      go_ret
      exact ⟨_, rfl, HR, hbel⟩
end Go.Proofs.YtgjfgmjgndcccaaDoor
