/-
  Contracts of the model's search for a way.
-/
import Derived.Test.YtjlbgccffpkmiaaTriWalk
import Derived.Test.YtjlbgccffpkmiaaWayNum
namespace Go.Proofs.Ytjlbgccffpkmiaa
open Go.RowKit
set_option linter.unusedVariables false

/-- a text of bytes -/
def str (l : List UInt8) : ByteArray := ⟨l.toArray⟩
theorem str_append (l m : List UInt8) : str l ++ str m = str (l ++ m) := by
  apply ByteArray.ext
  simp [str]
/-- what the search tells -/
def wfV (o : Option (List UInt8)) : Value := .tuple #[.string (str (o.getD [])), .bool o.isSome]

theorem ltrL : Tic.Ltr 76 := .inl rfl
theorem ltrP : Tic.Ltr 80 := .inr (.inl rfl)
theorem ltrR : Tic.Ltr 82 := .inr (.inr rfl)
theorem wayFrom_0 (a b : Nat) (w : World) (ha : a < 24) (hb : b < 24) :
    Calls Try.prog 27 #[.int .i64 a, .int .i64 b, .int .i64 0] w fun e w' => e = .returned (wfV (Tic.wf 0 a b)) ∧ Below w.heap.size w w' := by
  have HW := Lib.hid (show wfV (Tic.wf 0 a b) = .tuple #[.string (str []), .bool ((a : Int) == (b : Int))] by
    unfold Tic.wf wfV
    by_cases e : a = b
    · subst e; simp [str]
    · have : ((a : Int) == (b : Int)) = false := by simp; omega
      simp [e, this])
  go_enter Try.func27, Try.ntmps27
  go_wp2
  go_ret2
  exact ⟨by rw [HW.out]; rfl, Below.refl _ _⟩
set_option maxRecDepth 20000 in
theorem wayFrom_s (n : Nat) (ih : ∀ (a b : Nat) (w : World), a < 24 → b < 24 → Calls Try.prog 27 #[.int .i64 a, .int .i64 b, .int .i64 n] w fun e w' => e = .returned (wfV (Tic.wf n a b)) ∧ Below w.heap.size w w')
    (hn : n ≤ 5) (a b : Nat) (w : World) (ha : a < 24) (hb : b < 24) :
    Calls Try.prog 27 #[.int .i64 a, .int .i64 b, .int .i64 (n + 1 : Nat)] w fun e w' => e = .returned (wfV (Tic.wf (n + 1) a b)) ∧ Below w.heap.size w w' := by
  have HL := Lib.hid (show ∀ w, Calls Try.prog 21 #[.int .i64 a, .int .u8 76] w fun e w' => e = .returned (.int .i64 (Tic.stN a 76)) ∧ w = w' from fun w => by
    rw [← Tic.stN_eq ha ltrL]; exact sstep_yes _ _ _ ⟨by omega, by omega⟩ ltrL)
  have HP := Lib.hid (show ∀ w, Calls Try.prog 21 #[.int .i64 a, .int .u8 80] w fun e w' => e = .returned (.int .i64 (Tic.stN a 80)) ∧ w = w' from fun w => by
    rw [← Tic.stN_eq ha ltrP]; exact sstep_yes _ _ _ ⟨by omega, by omega⟩ ltrP)
  have HR := Lib.hid (show ∀ w, Calls Try.prog 21 #[.int .i64 a, .int .u8 82] w fun e w' => e = .returned (.int .i64 (Tic.stN a 82)) ∧ w = w' from fun w => by
    rw [← Tic.stN_eq ha ltrR]; exact sstep_yes _ _ _ ⟨by omega, by omega⟩ ltrR)
  have IL := Lib.hid (fun w => ih _ b w (Tic.stN_lt ha ltrL) hb)
  have IP := Lib.hid (fun w => ih _ b w (Tic.stN_lt ha ltrP) hb)
  have IR := Lib.hid (fun w => ih _ b w (Tic.stN_lt ha ltrR) hb)
  clear ih
  have HW := Lib.hid (Tic.wf_succ n a b)
  generalize Tic.stN a 76 = tL at HL IL HW
  generalize Tic.stN a 80 = tP at HP IP HW
  generalize Tic.stN a 82 = tR at HR IR HW
  have LL := Lib.hid (Tic.wf_len n tL b)
  have LP := Lib.hid (Tic.wf_len n tP b)
  have LR := Lib.hid (Tic.wf_len n tR b)
  have hn0 : ((n : Int) + 1 == 0) = false := by simp; omega
  generalize Tic.wf n tL b = oL at IL HW LL
  generalize Tic.wf n tP b = oP at IP HW LP
  generalize Tic.wf n tR b = oR at IR HW LR
  cases oL with
  | some x =>
    have hx : (str x).size ≤ 5 := by show x.length ≤ 5; rw [LL.out x rfl]; exact hn
    have JL := Lib.hid (show ∀ w, Calls Try.prog 27 #[.int .i64 tL, .int .i64 b, .int .i64 n] w fun e w' => e = .returned (.tuple #[.string (str x), .bool true]) ∧ Below w.heap.size w w' from IL.out)
    go_enter Try.func27, Try.ntmps27
    go_wp2
    refine wp_loop_rounds 1 ?_
    rw [rounds_succ]
    go_wp2_with fail
    refine (HL.out _).mono ?_; rintro e wx1 ⟨rfl, rfl⟩
    go_wp2_with fail
    refine (JL.out _).mono ?_; rintro e w1 ⟨rfl, hb1⟩
    have c10 : w1.cell? ⟨w.heap.size, 0, none⟩ = some (.string { data := #[76] }) := (hb1.cell (p := ⟨w.heap.size, 0, none⟩) (by simp)).trans (by go_simp)
    have c11 : w1.cell? ⟨w.heap.size, 1, none⟩ = some (.string { data := #[80] }) := (hb1.cell (p := ⟨w.heap.size, 1, none⟩) (by simp)).trans (by go_simp)
    have c12 : w1.cell? ⟨w.heap.size, 2, none⟩ = some (.string { data := #[82] }) := (hb1.cell (p := ⟨w.heap.size, 2, none⟩) (by simp)).trans (by go_simp)
    have hz1 : w.heap.size < w1.heap.size := (by have := hb1.size; simp at this; omega)
    have hB1 : Below w.heap.size w w1 := ((Below.refl _ _).alloc (Nat.le_refl _) _).trans (hb1.mono (by simp))
    clear hb1
    go_wp2
    go_ret2
    exact ⟨by rw [HW.out]; show _ = Ending.returned (wfV (some (76 :: x))); rfl, hB1⟩
  | none =>
    cases oP with
    | some x =>
      have hx : (str x).size ≤ 5 := by show x.length ≤ 5; rw [LP.out x rfl]; exact hn
      have JL := Lib.hid (show ∀ w, Calls Try.prog 27 #[.int .i64 tL, .int .i64 b, .int .i64 n] w fun e w' => e = .returned (.tuple #[.string (str []), .bool false]) ∧ Below w.heap.size w w' from IL.out)
      have JP := Lib.hid (show ∀ w, Calls Try.prog 27 #[.int .i64 tP, .int .i64 b, .int .i64 n] w fun e w' => e = .returned (.tuple #[.string (str x), .bool true]) ∧ Below w.heap.size w w' from IP.out)
      go_enter Try.func27, Try.ntmps27
      go_wp2
      refine wp_loop_rounds 2 ?_
      rw [rounds_succ]
      go_wp2_with fail
      refine (HL.out _).mono ?_; rintro e wx1 ⟨rfl, rfl⟩
      go_wp2_with fail
      refine (JL.out _).mono ?_; rintro e w1 ⟨rfl, hb1⟩
      have c10 : w1.cell? ⟨w.heap.size, 0, none⟩ = some (.string { data := #[76] }) := (hb1.cell (p := ⟨w.heap.size, 0, none⟩) (by simp)).trans (by go_simp)
      have c11 : w1.cell? ⟨w.heap.size, 1, none⟩ = some (.string { data := #[80] }) := (hb1.cell (p := ⟨w.heap.size, 1, none⟩) (by simp)).trans (by go_simp)
      have c12 : w1.cell? ⟨w.heap.size, 2, none⟩ = some (.string { data := #[82] }) := (hb1.cell (p := ⟨w.heap.size, 2, none⟩) (by simp)).trans (by go_simp)
      have hz1 : w.heap.size < w1.heap.size := (by have := hb1.size; simp at this; omega)
      have hB1 : Below w.heap.size w w1 := ((Below.refl _ _).alloc (Nat.le_refl _) _).trans (hb1.mono (by simp))
      clear hb1
      go_wp2
      rw [rounds_succ]
      go_wp2_with fail
      refine (HP.out _).mono ?_; rintro e wx2 ⟨rfl, rfl⟩
      go_wp2_with fail
      refine (JP.out _).mono ?_; rintro e w2 ⟨rfl, hb2⟩
      have c20 : w2.cell? ⟨w.heap.size, 0, none⟩ = some (.string { data := #[76] }) := (hb2.cell (p := ⟨w.heap.size, 0, none⟩) (by omega)).trans c10
      have c21 : w2.cell? ⟨w.heap.size, 1, none⟩ = some (.string { data := #[80] }) := (hb2.cell (p := ⟨w.heap.size, 1, none⟩) (by omega)).trans c11
      have c22 : w2.cell? ⟨w.heap.size, 2, none⟩ = some (.string { data := #[82] }) := (hb2.cell (p := ⟨w.heap.size, 2, none⟩) (by omega)).trans c12
      have hz2 : w.heap.size < w2.heap.size := (by have := hb2.size; omega)
      have hB2 : Below w.heap.size w w2 := hB1.trans (hb2.mono (by omega))
      clear hb2
      clear c10 c11 c12 hz1
      go_wp2
      go_ret2
      exact ⟨by rw [HW.out]; show _ = Ending.returned (wfV (some (80 :: x))); rfl, hB2⟩
    | none =>
      cases oR with
      | some x =>
        have hx : (str x).size ≤ 5 := by show x.length ≤ 5; rw [LR.out x rfl]; exact hn
        have JL := Lib.hid (show ∀ w, Calls Try.prog 27 #[.int .i64 tL, .int .i64 b, .int .i64 n] w fun e w' => e = .returned (.tuple #[.string (str []), .bool false]) ∧ Below w.heap.size w w' from IL.out)
        have JP := Lib.hid (show ∀ w, Calls Try.prog 27 #[.int .i64 tP, .int .i64 b, .int .i64 n] w fun e w' => e = .returned (.tuple #[.string (str []), .bool false]) ∧ Below w.heap.size w w' from IP.out)
        have JR := Lib.hid (show ∀ w, Calls Try.prog 27 #[.int .i64 tR, .int .i64 b, .int .i64 n] w fun e w' => e = .returned (.tuple #[.string (str x), .bool true]) ∧ Below w.heap.size w w' from IR.out)
        go_enter Try.func27, Try.ntmps27
        go_wp2
        refine wp_loop_rounds 3 ?_
        rw [rounds_succ]
        go_wp2_with fail
        refine (HL.out _).mono ?_; rintro e wx1 ⟨rfl, rfl⟩
        go_wp2_with fail
        refine (JL.out _).mono ?_; rintro e w1 ⟨rfl, hb1⟩
        have c10 : w1.cell? ⟨w.heap.size, 0, none⟩ = some (.string { data := #[76] }) := (hb1.cell (p := ⟨w.heap.size, 0, none⟩) (by simp)).trans (by go_simp)
        have c11 : w1.cell? ⟨w.heap.size, 1, none⟩ = some (.string { data := #[80] }) := (hb1.cell (p := ⟨w.heap.size, 1, none⟩) (by simp)).trans (by go_simp)
        have c12 : w1.cell? ⟨w.heap.size, 2, none⟩ = some (.string { data := #[82] }) := (hb1.cell (p := ⟨w.heap.size, 2, none⟩) (by simp)).trans (by go_simp)
        have hz1 : w.heap.size < w1.heap.size := (by have := hb1.size; simp at this; omega)
        have hB1 : Below w.heap.size w w1 := ((Below.refl _ _).alloc (Nat.le_refl _) _).trans (hb1.mono (by simp))
        clear hb1
        go_wp2
        rw [rounds_succ]
        go_wp2_with fail
        refine (HP.out _).mono ?_; rintro e wx2 ⟨rfl, rfl⟩
        go_wp2_with fail
        refine (JP.out _).mono ?_; rintro e w2 ⟨rfl, hb2⟩
        have c20 : w2.cell? ⟨w.heap.size, 0, none⟩ = some (.string { data := #[76] }) := (hb2.cell (p := ⟨w.heap.size, 0, none⟩) (by omega)).trans c10
        have c21 : w2.cell? ⟨w.heap.size, 1, none⟩ = some (.string { data := #[80] }) := (hb2.cell (p := ⟨w.heap.size, 1, none⟩) (by omega)).trans c11
        have c22 : w2.cell? ⟨w.heap.size, 2, none⟩ = some (.string { data := #[82] }) := (hb2.cell (p := ⟨w.heap.size, 2, none⟩) (by omega)).trans c12
        have hz2 : w.heap.size < w2.heap.size := (by have := hb2.size; omega)
        have hB2 : Below w.heap.size w w2 := hB1.trans (hb2.mono (by omega))
        clear hb2
        clear c10 c11 c12 hz1
        go_wp2
        rw [rounds_succ]
        go_wp2_with fail
        refine (HR.out _).mono ?_; rintro e wx3 ⟨rfl, rfl⟩
        go_wp2_with fail
        refine (JR.out _).mono ?_; rintro e w3 ⟨rfl, hb3⟩
        have c30 : w3.cell? ⟨w.heap.size, 0, none⟩ = some (.string { data := #[76] }) := (hb3.cell (p := ⟨w.heap.size, 0, none⟩) (by omega)).trans c20
        have c31 : w3.cell? ⟨w.heap.size, 1, none⟩ = some (.string { data := #[80] }) := (hb3.cell (p := ⟨w.heap.size, 1, none⟩) (by omega)).trans c21
        have c32 : w3.cell? ⟨w.heap.size, 2, none⟩ = some (.string { data := #[82] }) := (hb3.cell (p := ⟨w.heap.size, 2, none⟩) (by omega)).trans c22
        have hz3 : w.heap.size < w3.heap.size := (by have := hb3.size; omega)
        have hB3 : Below w.heap.size w w3 := hB2.trans (hb3.mono (by omega))
        clear hb3
        clear c20 c21 c22 hz2
        go_wp2
        go_ret2
        exact ⟨by rw [HW.out]; show _ = Ending.returned (wfV (some (82 :: x))); rfl, hB3⟩
      | none =>
        have JL := Lib.hid (show ∀ w, Calls Try.prog 27 #[.int .i64 tL, .int .i64 b, .int .i64 n] w fun e w' => e = .returned (.tuple #[.string (str []), .bool false]) ∧ Below w.heap.size w w' from IL.out)
        have JP := Lib.hid (show ∀ w, Calls Try.prog 27 #[.int .i64 tP, .int .i64 b, .int .i64 n] w fun e w' => e = .returned (.tuple #[.string (str []), .bool false]) ∧ Below w.heap.size w w' from IP.out)
        have JR := Lib.hid (show ∀ w, Calls Try.prog 27 #[.int .i64 tR, .int .i64 b, .int .i64 n] w fun e w' => e = .returned (.tuple #[.string (str []), .bool false]) ∧ Below w.heap.size w w' from IR.out)
        go_enter Try.func27, Try.ntmps27
        go_wp2
        refine wp_loop_rounds 4 ?_
        rw [rounds_succ]
        go_wp2_with fail
        refine (HL.out _).mono ?_; rintro e wx1 ⟨rfl, rfl⟩
        go_wp2_with fail
        refine (JL.out _).mono ?_; rintro e w1 ⟨rfl, hb1⟩
        have c10 : w1.cell? ⟨w.heap.size, 0, none⟩ = some (.string { data := #[76] }) := (hb1.cell (p := ⟨w.heap.size, 0, none⟩) (by simp)).trans (by go_simp)
        have c11 : w1.cell? ⟨w.heap.size, 1, none⟩ = some (.string { data := #[80] }) := (hb1.cell (p := ⟨w.heap.size, 1, none⟩) (by simp)).trans (by go_simp)
        have c12 : w1.cell? ⟨w.heap.size, 2, none⟩ = some (.string { data := #[82] }) := (hb1.cell (p := ⟨w.heap.size, 2, none⟩) (by simp)).trans (by go_simp)
        have hz1 : w.heap.size < w1.heap.size := (by have := hb1.size; simp at this; omega)
        have hB1 : Below w.heap.size w w1 := ((Below.refl _ _).alloc (Nat.le_refl _) _).trans (hb1.mono (by simp))
        clear hb1
        go_wp2
        rw [rounds_succ]
        go_wp2_with fail
        refine (HP.out _).mono ?_; rintro e wx2 ⟨rfl, rfl⟩
        go_wp2_with fail
        refine (JP.out _).mono ?_; rintro e w2 ⟨rfl, hb2⟩
        have c20 : w2.cell? ⟨w.heap.size, 0, none⟩ = some (.string { data := #[76] }) := (hb2.cell (p := ⟨w.heap.size, 0, none⟩) (by omega)).trans c10
        have c21 : w2.cell? ⟨w.heap.size, 1, none⟩ = some (.string { data := #[80] }) := (hb2.cell (p := ⟨w.heap.size, 1, none⟩) (by omega)).trans c11
        have c22 : w2.cell? ⟨w.heap.size, 2, none⟩ = some (.string { data := #[82] }) := (hb2.cell (p := ⟨w.heap.size, 2, none⟩) (by omega)).trans c12
        have hz2 : w.heap.size < w2.heap.size := (by have := hb2.size; omega)
        have hB2 : Below w.heap.size w w2 := hB1.trans (hb2.mono (by omega))
        clear hb2
        clear c10 c11 c12 hz1
        go_wp2
        rw [rounds_succ]
        go_wp2_with fail
        refine (HR.out _).mono ?_; rintro e wx3 ⟨rfl, rfl⟩
        go_wp2_with fail
        refine (JR.out _).mono ?_; rintro e w3 ⟨rfl, hb3⟩
        have c30 : w3.cell? ⟨w.heap.size, 0, none⟩ = some (.string { data := #[76] }) := (hb3.cell (p := ⟨w.heap.size, 0, none⟩) (by omega)).trans c20
        have c31 : w3.cell? ⟨w.heap.size, 1, none⟩ = some (.string { data := #[80] }) := (hb3.cell (p := ⟨w.heap.size, 1, none⟩) (by omega)).trans c21
        have c32 : w3.cell? ⟨w.heap.size, 2, none⟩ = some (.string { data := #[82] }) := (hb3.cell (p := ⟨w.heap.size, 2, none⟩) (by omega)).trans c22
        have hz3 : w.heap.size < w3.heap.size := (by have := hb3.size; omega)
        have hB3 : Below w.heap.size w w3 := hB2.trans (hb3.mono (by omega))
        clear hb3
        clear c20 c21 c22 hz2
        go_wp2
        rw [rounds_succ]
        go_wp2
        go_ret2
        exact ⟨by rw [HW.out]; rfl, hB3⟩
theorem wayFrom_any : ∀ (n : Nat), n ≤ 6 → ∀ (a b : Nat) (w : World), a < 24 → b < 24 → Calls Try.prog 27 #[.int .i64 a, .int .i64 b, .int .i64 n] w fun e w' => e = .returned (wfV (Tic.wf n a b)) ∧ Below w.heap.size w w'
  | 0, _, a, b, w, ha, hb => wayFrom_0 a b w ha hb
  | n + 1, hn, a, b, w, ha, hb => wayFrom_s n (wayFrom_any n (by omega)) (by omega) a b w ha hb
set_option maxRecDepth 20000 in
theorem wayTo_any (a b : Nat) (w : World) (ha : a < 24) (hb : b < 24) :
    Calls Try.prog 24 #[.int .i64 a, .int .i64 b] w fun e w' => e = .returned (.string (str (Tic.way a b))) ∧ Below w.heap.size w w' := by
  obtain ⟨d1, d2, d3⟩ := Tic.dist_ok ⟨a, ha⟩ ⟨b, hb⟩
  have HN := Lib.hid (fun k (hk : k < Tic.dist a b) => show ∀ w, Calls Try.prog 27 #[.int .i64 a, .int .i64 b, .int .i64 k] w fun e w' => e = .returned (.tuple #[.string (str []), .bool false]) ∧ Below w.heap.size w w' from fun w => by
    have d2' : Tic.dist a b ≤ 5 := d2
    have := wayFrom_any k (by omega) a b w ha hb
    rw [show Tic.wf k a b = none from d3 ⟨k, by omega⟩ hk] at this
    exact this)
  have HY := Lib.hid (show ∀ w, Calls Try.prog 27 #[.int .i64 a, .int .i64 b, .int .i64 (Tic.dist a b)] w fun e w' => e = .returned (.tuple #[.string (str (Tic.way a b)), .bool true]) ∧ Below w.heap.size w w' from fun w => by
    have d2' : Tic.dist a b ≤ 5 := d2
    have := wayFrom_any (Tic.dist a b) (by omega) a b w ha hb
    refine this.mono fun e w' ⟨h1, h2⟩ => ⟨h1.trans ?_, h2⟩
    have e1 : (Tic.wf (Tic.dist a b) a b).isSome = true := d1
    unfold wfV Tic.way
    rw [e1])
  have hN : Tic.dist a b ≤ 5 := d2
  clear d1 d2 d3
  generalize Tic.way a b = W at HY ⊢
  generalize Tic.dist a b = N at HN HY hN
  go_enter Try.func24, Try.ntmps24
  go_wp2
  go_loopw [5] (fun t5 wr => ∃ k : Nat, k ≤ N ∧ t5 = .int .i64 k ∧ Below w.heap.size w wr) (fun t5 _ => 6 - (intOf t5).toNat)
  case atStart => exact ⟨0, Nat.zero_le _, rfl, Below.refl _ _⟩
  case round =>
    obtain ⟨k, hk, rfl, hbel⟩ := hrel
    by_cases hlt : k < N
    · have HK := Lib.hid (HN.out k hlt)
      go_wp2_with fail
      refine (HK.out _).mono ?_; rintro e w1 ⟨rfl, hb1⟩
      have hbel1 := hbel.trans (hb1.mono hbel.size)
      clear hb1
      go_wp2
      go_roundw
      case rel => exact ⟨k + 1, by omega, by go_num, hbel1⟩
      case measure => simp [intOf]; omega
    · have : k = N := by omega
      subst this
      go_wp2_with fail
      refine (HY.out _).mono ?_; rintro e w1 ⟨rfl, hb1⟩
      have hbel1 := hbel.trans (hb1.mono hbel.size)
      clear hb1
      go_wp2
      go_ret
      exact ⟨rfl, hbel1⟩
theorem sWayOf_yes (a b : Nat) (w : World) (ha : a < 24) (hb : b < 24) :
    Calls Try.prog 12 #[.int .i64 a, .int .i64 b] w fun e w' => e = .returned (.tuple #[.string (str (Tic.way a b)), .bool true]) ∧ Below w.heap.size w w' := by
  go_enter Try.func12, Try.ntmps12
  go_wp2_with fail
  refine (inRange_yes _ _ _ _ (by omega) (by omega)).mono ?_; rintro e w1 ⟨rfl, rfl⟩
  go_wp2_with fail
  refine (inRange_yes _ _ _ _ (by omega) (by omega)).mono ?_; rintro e w1 ⟨rfl, rfl⟩
  go_wp2_with fail
  refine (wayTo_any _ _ _ ha hb).mono ?_; rintro e w1 ⟨rfl, hb1⟩
  go_wp2_with fail
  go_ret2
  exact ⟨rfl, hb1⟩
theorem sWayOf_no (a b : Int) (w : World) (h : ¬ (Tic.Tri a ∧ Tic.Tri b)) :
    Calls Try.prog 12 #[.int .i64 a, .int .i64 b] w fun e w' => e = .returned (.tuple #[.string ByteArray.empty, .bool false]) ∧ w = w' := by
  by_cases ha : Tic.Tri a
  · have hb : b < 0 ∨ 23 < b := by
      have : ¬ Tic.Tri b := fun hb => h ⟨ha, hb⟩
      unfold Tic.Tri at this
      omega
    have a1 := ha.1
    have a2 : a ≤ 23 := by have := ha.2; omega
    clear h
    go_enter Try.func12, Try.ntmps12
    go_wp2_with fail
    refine (inRange_yes _ _ _ _ a1 a2).mono ?_; rintro e w1 ⟨rfl, rfl⟩
    go_wp2_with fail
    refine (inRange_no _ _ _ _ hb).mono ?_; rintro e w1 ⟨rfl, rfl⟩
    go_wp2_with fail
    go_ret2
    exact ⟨rfl, rfl⟩
  · have hb : a < 0 ∨ 23 < a := by unfold Tic.Tri at ha; omega
    clear h
    go_enter Try.func12, Try.ntmps12
    go_wp2_with fail
    refine (inRange_no _ _ _ _ hb).mono ?_; rintro e w1 ⟨rfl, rfl⟩
    go_wp2_with fail
    go_ret2
    exact ⟨rfl, rfl⟩
end Go.Proofs.Ytjlbgccffpkmiaa
