/-
  The contract of the model's PrimesOf: all sets of so many tones that are the least of their kind, ascending.
-/
import Derived.Test.YtmofhhffkppelaaTones
import Derived.Test.YtmofhhffkppelaaKind
namespace Go.Proofs.Ytmofhhffkppelaa
open Go.RowKit
set_option linter.unusedVariables false

/-- the set s is told -/
def told (n k s : Nat) : Bool := decide (Tic.wt 12 s = k ∧ Tic.prm n s = s)
/-- the sets below m that are told, ascending -/
def primesTo (n k : Nat) : Nat → List Int
  | 0 => []
  | s + 1 => if told n k s then primesTo n k s ++ [(s : Int)] else primesTo n k s
theorem primesTo_le (n k : Nat) : ∀ m, (primesTo n k m).length ≤ m
  | 0 => Nat.le_refl _
  | m + 1 => by unfold primesTo; have := primesTo_le n k m; split <;> simp <;> omega
theorem primesTo_yes {n k s : Nat} (h : told n k s = true) : primesTo n k (s + 1) = primesTo n k s ++ [(s : Int)] := by conv => lhs; unfold primesTo; rw [if_pos h]
theorem primesTo_no {n k s : Nat} (h : told n k s = false) : primesTo n k (s + 1) = primesTo n k s := by conv => lhs; unfold primesTo; rw [if_neg (by simp [h])]

/-- the numbers of tones of circles -/
def Counts (n k : Int) : Prop := 3 ≤ n ∧ n ≤ 12 ∧ 0 ≤ k ∧ k ≤ n

theorem sPrimesOf_no (n k : Int) (w : World) (h : ¬ Counts n k) :
    Calls Try.prog 27 #[.int .i64 n, .int .i64 k] w (Gives [] w) := by
  by_cases h1 : n < 3 ∨ 12 < n
  · go_enter Try.func27, Try.ntmps27
    go_wp2_with fail
    refine (inRange_no _ _ _ _ h1).mono ?_; rintro e w1 ⟨rfl, rfl⟩
    go_wp2_with fail
    go_ret
    exact ⟨_, rfl, Row.nil _ _, Below.refl _ _⟩
  · have h2 : 3 ≤ n ∧ n ≤ 12 := by omega
    have h3 : k < 0 ∨ n < k := by unfold Counts at h; omega
    clear h h1
    go_enter Try.func27, Try.ntmps27
    go_wp2_with fail
    refine (inRange_yes _ _ _ _ h2.1 h2.2).mono ?_; rintro e w1 ⟨rfl, rfl⟩
    go_wp2_with fail
    refine (inRange_no _ _ _ _ h3).mono ?_; rintro e w1 ⟨rfl, rfl⟩
    go_wp2_with fail
    go_ret
    exact ⟨_, rfl, Row.nil _ _, Below.refl _ _⟩

set_option maxHeartbeats 1000000 in
theorem sPrimesOf_yes (n k : Int) (w : World) (h : Counts n k) :
    Calls Try.prog 27 #[.int .i64 n, .int .i64 k] w (Gives (primesTo n.toNat k.toNat (2 ^ n.toNat)) w) := by
  obtain ⟨h1, h2, h3, h4⟩ := h
  obtain ⟨N, rfl⟩ := Int.eq_ofNat_of_zero_le (show 0 ≤ n by omega)
  obtain ⟨K, rfl⟩ := Int.eq_ofNat_of_zero_le h3
  have hp := Tic.pow_le_12 (n := (N : Int)) h2
  rw [Int.toNat_natCast, Int.toNat_natCast]
  rw [Int.toNat_natCast] at hp
  generalize hg : 2 ^ N = p at hp
  have HP := Lib.hid hg
  have HV : Hid (∀ s : Nat, s < p → Tic.Valid N s) := fun s hs => ⟨h1, h2, by omega, by rw [Int.toNat_natCast, hg]; omega⟩
  clear hg
  go_enter Try.func27, Try.ntmps27
  go_wp2_with fail
  refine (inRange_yes _ _ _ _ h1 h2).mono ?_; rintro e w1 ⟨rfl, rfl⟩
  go_wp2_with fail
  refine (inRange_yes _ _ _ _ h3 h4).mono ?_; rintro e w1 ⟨rfl, rfl⟩
  go_wp2
  go_loopw [5, 6] (fun t5 t6 wr => ∃ s : Nat, s ≤ p ∧ t6 = .int .i64 s ∧ Hid (Row wr w.heap.size t5 (primesTo N K s)) ∧ Below w.heap.size w wr) (fun _ t6 _ => p - (intOf t6).toNat)
  case atStart => exact ⟨0, Nat.zero_le _, rfl, ⟨World.ownsRow_made w #[] 0 (Nat.le_refl _) (by decide) rfl, Nat.zero_le _⟩, (Below.refl _ _).alloc (Nat.le_refl _) _⟩
  case round =>
    obtain ⟨s, hs, rfl, HR, hbel⟩ := hrel
    have hl := primesTo_le N K s
    have hsz := hbel.size
    by_cases hlt : s < p
    · have hv := HV.out s hlt
      have hw := Tic.wt_le 12 s
      by_cases hwk : Tic.wt 12 s = K
      · have hq : (Tic.prm N s = s ∧ told N K s = true) ∨ (Tic.prm N s ≠ s ∧ told N K s = false) := by
          unfold told
          by_cases q : Tic.prm N s = s
          · exact .inl ⟨q, by simp [hwk, q]⟩
          · exact .inr ⟨q, by simp [q]⟩
        have HW := Lib.hid hwk
        clear hwk hw
        rcases hq with ⟨q, qt⟩ | ⟨q, qt⟩
        · have HQ := Lib.hid q
          have HT := Lib.hid qt
          clear q qt
          go_wp2_with fail
          refine (power_any _ _ (by omega) (by omega)).mono ?_; rintro e w1 ⟨rfl, rfl⟩; rw [Int.toNat_natCast, HP.out]
          go_wp2_with fail
          refine (weight_any _ _ (by omega) (by omega)).mono ?_; rintro e w1 ⟨rfl, rfl⟩; rw [Int.toNat_natCast, HW.out]
          go_wp2_with fail
          refine (prime_any _ _ _ hv).mono ?_; rintro e w1 ⟨rfl, rfl⟩; rw [Int.toNat_natCast, Int.toNat_natCast, HQ.out]
          go_wp2_with (at_builtin; refine wpList_append_int rfl _ _ rfl w.heap.size _ (primesTo N K s) rfl (HR.out.alloc _) wr.heap.size 1 s rfl ?c1 ?c2 ?c3 ?_)
          case c1 => go_simp
          case c2 => omega
          case c3 => simp; omega
          intro v' w1 hrow hb1
          have HR1 := Lib.hid hrow
          clear hrow
          go_wp2
          go_roundw
          case rel => exact ⟨s + 1, by omega, by go_num, by rw [primesTo_yes HT.out]; exact HR1, (hbel.alloc hsz _).trans hb1⟩
          case measure => simp [intOf]; omega
        · have q2 : ((Tic.prm N s : Int) == (s : Int)) = false := beq_eq_false_iff_ne.2 (fun e => q (Int.ofNat.inj e))
          have HT := Lib.hid qt
          clear q qt
          go_wp2_with fail
          refine (power_any _ _ (by omega) (by omega)).mono ?_; rintro e w1 ⟨rfl, rfl⟩; rw [Int.toNat_natCast, HP.out]
          go_wp2_with fail
          refine (weight_any _ _ (by omega) (by omega)).mono ?_; rintro e w1 ⟨rfl, rfl⟩; rw [Int.toNat_natCast, HW.out]
          go_wp2_with fail
          refine (prime_any _ _ _ hv).mono ?_; rintro e w1 ⟨rfl, rfl⟩; rw [Int.toNat_natCast, Int.toNat_natCast]
          generalize Tic.prm N s = pp at q2
          go_wp2
          go_roundw
          case rel => exact ⟨s + 1, by omega, by go_num, by rw [primesTo_no HT.out]; exact HR, hbel⟩
          case measure => simp [intOf]; omega
      · have HT : Hid (told N K s = false) := by show _ = _; unfold told; simp [hwk]
        have hwk2 : ((Tic.wt 12 s : Int) == (K : Int)) = false := beq_eq_false_iff_ne.2 (fun e => hwk (Int.ofNat.inj e))
        generalize hm : Tic.wt 12 s = m at hwk2 hw
        have HM := Lib.hid hm
        clear hm hwk
        go_wp2_with fail
        refine (power_any _ _ (by omega) (by omega)).mono ?_; rintro e w1 ⟨rfl, rfl⟩; rw [Int.toNat_natCast, HP.out]
        go_wp2_with fail
        refine (weight_any _ _ (by omega) (by omega)).mono ?_; rintro e w1 ⟨rfl, rfl⟩; rw [Int.toNat_natCast, HM.out]
        go_wp2
        go_roundw
        case rel => exact ⟨s + 1, by omega, by go_num, by rw [primesTo_no HT.out]; exact HR, hbel⟩
        case measure => simp [intOf]; omega
    · have : s = p := by omega
      subst this
      go_wp2_with fail
      refine (power_any _ _ (by omega) (by omega)).mono ?_; rintro e w1 ⟨rfl, rfl⟩; rw [Int.toNat_natCast, HP.out]
      go_wp2_with fail
      go_ret
      exact ⟨_, rfl, HR, hbel⟩

end Go.Proofs.Ytmofhhffkppelaa
