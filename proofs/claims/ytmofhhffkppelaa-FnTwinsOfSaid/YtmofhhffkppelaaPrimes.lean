/-
  The contract of the program's PrimesOf: the kinds of a map, their least sets, sorted.
-/
import Derived.Test.YtmofhhffkppelaaPrimesNum
import Derived.Test.YtmofhhffkppelaaSortRow
namespace Go.Proofs.Ytmofhhffkppelaa
open Go.RowKit Go.Maps
set_option linter.unusedVariables false

theorem iPrimesOf_no (n k : Int) (w : World) (h : ¬ Counts n k) :
    Calls Try.prog 24 #[.int .i64 n, .int .i64 k] w (Gives [] w) := by
  by_cases h1 : n < 3 ∨ 12 < n
  · go_enter Try.func24, Try.ntmps24
    go_wp2_with fail
    refine (circle_no _ _ h1).mono ?_; rintro e w1 ⟨rfl, rfl⟩
    go_wp2_with fail
    go_ret
    exact ⟨_, rfl, Row.nil _ _, Below.refl _ _⟩
  · have h2 : 3 ≤ n ∧ n ≤ 12 := by omega
    rcases (show k < 0 ∨ (¬ k < 0 ∧ n < k) by unfold Counts at h; omega) with h3 | ⟨h3, h4⟩
    all_goals
      clear h h1
      go_enter Try.func24, Try.ntmps24
      go_wp2_with fail
      refine (circle_yes _ _ h2.1 h2.2).mono ?_; rintro e w1 ⟨rfl, rfl⟩
      go_wp2_with fail
      go_ret
      exact ⟨_, rfl, Row.nil _ _, Below.refl _ _⟩

set_option maxRecDepth 20000 in
set_option maxHeartbeats 1000000 in
theorem iPrimesOf_yes (n k : Int) (w : World) (h : Counts n k) :
    Calls Try.prog 24 #[.int .i64 n, .int .i64 k] w (Gives (primesTo n.toNat k.toNat (2 ^ n.toNat)) w) := by
  obtain ⟨h1, h2, h3, h4⟩ := h
  obtain ⟨N, rfl⟩ := Int.eq_ofNat_of_zero_le (show 0 ≤ n by omega)
  obtain ⟨K, rfl⟩ := Int.eq_ofNat_of_zero_le h3
  rw [Int.toNat_natCast, Int.toNat_natCast]
  have HP : Hid (∀ s, s < 2 ^ N → Tic.prm N s ≤ 5000) := fun s hs => by
    have h5 := Tic.prm_le (n := N) (s := s)
    have h6 := Tic.pow_le_12 (n := (N : Int)) (by omega)
    rw [Int.toNat_natCast] at h6
    omega
  go_enter Try.func24, Try.ntmps24
  go_wp2_with fail
  refine (circle_yes _ _ h1 h2).mono ?_; rintro e w1 ⟨rfl, rfl⟩
  go_wp2_with fail
  refine (kindsOf_any N K _ (by omega) (by omega) (by omega)).mono ?_; rintro e w1 ⟨b, rfl, hb, hown, hbel⟩
  have HM := Lib.hid hown
  have HB := Lib.hid hbel
  clear hown
  go_wp2_with (first | (at_range; refine wpList_range_own _ rfl _ 55 rfl 45 4 kindKeyed Try.underlying55 _ b 5000 _ rfl HM.out ?_; intro w0 hrg0 hg0 hs0) | go_in)
  go_frame
  have hb1 := HM.out.lt
  have hsz := kindMap_size (H := Unit) (k := K) (by omega) HP.out
  have hp := Tic.pow_le_12 (n := (N : Int)) h2
  rw [Int.toNat_natCast] at hp
  have hw1 := hbel.size
  have HR0 := Lib.hid hrg0
  have HB0 := Lib.hid (hbel.grown hg0 hw1 (fun j hj => by cases hj))
  clear hrg0 hg0 hbel
  go_loopw [5] (fun t5 wr => ∃ (left : Lit → Bool) (cnt : Nat) (L : List Int), Hid (wr.ranges Try.prog 45 (plainElem Try.prog 4) b w1.heap.size 5000 (kindMap (H := Unit) N K (2 ^ N)) left cnt) ∧ L.length + cnt ≤ 4096 ∧ Hid (Row wr (w1.heap.size + 1) t5 L) ∧ Hid (Come N K (2 ^ N) left L) ∧ w1.heap.size < wr.heap.size ∧ Hid (Below w.heap.size w wr)) (fun _ wr => wr.rangeLeft b w1.heap.size)
  case atStart => exact ⟨_, _, [], HR0, by simp; omega, Row.nil _ _, come_start _ _ _, by omega, HB0⟩
  case round =>
    obtain ⟨left, cnt, L, HR, hlen, HL, HC, hbig, HB⟩ := hrel
    go_wp2_with (first
      | (at_next; refine wpList_next_ranges _ rfl _ rfl 45 kindKeyed (plainElem Try.prog 4) (fun v : Value => v) (fun v : Value => v) (fun key _ _ => ⟨key, rfl⟩) (fun v _ _ => ⟨v, rfl⟩) b w1.heap.size 5000 _ _ _ rfl HR.out ?_ ?_)
      | go_in)
    · intro hc0 hl0
      subst hc0
      have HE := Lib.hid (come_end (by omega) (by omega) HC.out hl0 HP.out)
      go_wp2_with fail
      refine (sort_row _ _ _ _ HL.out).mono ?_; rintro e w2 ⟨rfl, hrow, hg⟩
      rw [HE.out] at hrow
      have HL2 := Lib.hid hrow
      have HB2 := Lib.hid (HB.out.grown hg (by omega) (fun j hj => by have := HL.out.own_ge hj; omega))
      clear hrow hg
      go_wp2_with fail
      go_ret
      exact ⟨_, rfl, HL2.out.mono (by omega), HB2.out⟩
    · intro x c kl0 y1 y2 w2 cnt1 hkey hlk hv hat hrg1 hlt hg1 hs1 hen
      have hhas := has_true_of_atKey hat
      obtain ⟨s, hs, hwt, rfl⟩ := (kindMap_has (by omega) _ _ HP.out).1 hhas
      have hps := HP.out s hs
      have ex := kindKeyed.inj hkey (kl_of (by omega) hps)
      subst ex
      have HC2 := Lib.hid (come_step (by omega) HC.out hps hhas hlk)
      have HR1 := Lib.hid hrg1
      have HL1 := Lib.hid (HL.out.but hg1 (Nat.lt_succ_self _))
      have HB1 := Lib.hid (HB.out.grown hg1 (by omega) (fun j hj => by cases hj; omega))
      clear hkey hlk hv hat hrg1 hhas hwt
      go_wp2_with (at_builtin; refine wpList_append_int rfl _ _ rfl (w1.heap.size + 1) _ L rfl ?row _ 1 (Tic.prm N s : Int) rfl ?c1 ?c2 ?c3 ?_)
      case row => exact (HL1.out.alloc _).alloc _
      case c1 => rw [← hs1]; go_simp
      case c2 => omega
      case c3 => simp; omega
      intro v' w3 hrow hb3
      have HL3 := Lib.hid hrow
      have hz3 := hb3.size
      simp at hz3
      have hb2 : Below (w1.heap.size + 1) w2 w3 := (((Below.refl (w1.heap.size + 1) w2).alloc (by omega) _).alloc (by simp; omega) _).trans hb3
      have HR3 := Lib.hid (ranges_below HR1.out hb2 (by omega) (by omega))
      have HB3 := Lib.hid (HB1.out.trans (hb2.mono (by omega)))
      clear hrow hb3 hb2 HL1 HR1 HB1
      go_wp2
      go_roundw
      case rel => exact ⟨_, cnt1, _, HR3, by simp; omega, HL3, HC2, by omega, HB3⟩
      case measure => rw [HR3.out.left_eq, HR.out.left_eq]; exact hlt
end Go.Proofs.Ytmofhhffkppelaa
