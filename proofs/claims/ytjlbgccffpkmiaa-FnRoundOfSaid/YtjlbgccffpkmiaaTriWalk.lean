/-
  Contracts of WalkOf, of the program and of the model, and what they lean on: words of steps.
-/
import Derived.Test.YtjlbgccffpkmiaaTriSteps
import Derived.Lib.OthersKept
namespace Go.Proofs.Ytjlbgccffpkmiaa
open Go.RowKit
set_option linter.unusedVariables false

theorem dec_yes {s : ByteArray} {k : Nat} (h : k < s.size) (hl : Tic.Ltr (Tic.bt s k)) : Utf8.decode s k = (Tic.bt s k, 1) := by
  rw [← Tic.bt_eq h] at hl ⊢
  exact decode_ascii s k h (by rcases hl with e | e | e <;> omega)
theorem dec_no {s : ByteArray} {k : Nat} (h : k < s.size) (hl : ¬ Tic.Ltr (Tic.bt s k)) : ((Utf8.decode s k).1 : Int) ≠ 76 ∧ ((Utf8.decode s k).1 : Int) ≠ 80 ∧ ((Utf8.decode s k).1 : Int) ≠ 82 := by
  by_cases ha : (s[k]'h).toNat < 128
  · rw [decode_ascii s k h ha, Tic.bt_eq h]
    unfold Tic.Ltr at hl
    refine ⟨?_, ?_, ?_⟩ <;> (intro e; apply hl; simp at e; omega)
  · have := (decode_high s k h (by omega)).1
    omega

theorem iWalkOf_tri (t : Int) (s : ByteArray) (w : World) (h : ¬ Tic.Tri t) :
    Calls Try.prog 9 #[.int .i64 t, .string s] w fun e w' => e = .returned (.int .i64 (-1)) ∧ w = w' := by
  go_enter Try.func9, Try.ntmps9
  go_wp2_with fail
  refine (vTri_no _ _ h).mono ?_; rintro e w1 ⟨rfl, rfl⟩
  go_wp2_with fail
  go_ret
  exact ⟨rfl, rfl⟩
theorem iWalkOf_long (t : Int) (s : ByteArray) (w : World) (h : Tic.Tri t) (hs : 8 < s.size) (hm : s.size ≤ maxLen) :
    Calls Try.prog 9 #[.int .i64 t, .string s] w fun e w' => e = .returned (.int .i64 (-1)) ∧ w = w' := by
  unfold maxLen at hm
  go_enter Try.func9, Try.ntmps9
  go_wp2_with fail
  refine (vTri_yes _ _ h).mono ?_; rintro e w1 ⟨rfl, rfl⟩
  go_wp2_with fail
  go_ret
  exact ⟨rfl, rfl⟩
/-- the bytes of a text that its iterator has not told yet -/
def restOf (w : World) (b : Nat) : Nat := match w.heap[b]? with | some (.stringIter s p) => s.size - p | _ => 0
theorem restOf_eq {w : World} {b : Nat} {s : ByteArray} {p : Nat} (h : w.heap[b]? = some (.stringIter s p)) : restOf w b = s.size - p := by unfold restOf; rw [h]

theorem walkIf_yes {t : Int} {s : ByteArray} (h : ∀ j, j < s.size → Tic.Ltr (Tic.bt s j)) (hs : s.size ≤ 8) : (if Tic.Wrd s then Tic.wlk t s s.size else -1) = Tic.wlk t s s.size := if_pos ⟨hs, h⟩
theorem walkIf_no {t : Int} {s : ByteArray} {k : Nat} (hk : k < s.size) (h : ¬ Tic.Ltr (Tic.bt s k)) : (if Tic.Wrd s then Tic.wlk t s s.size else -1) = -1 := if_neg fun hw => h (hw.2 k hk)
set_option maxRecDepth 20000 in
theorem iWalkOf_short (t : Int) (s : ByteArray) (w : World) (h : Tic.Tri t) (hs : s.size ≤ 8) :
    Calls Try.prog 9 #[.int .i64 t, .string s] w fun e w' => e = .returned (.int .i64 (if Tic.Wrd s then Tic.wlk t s s.size else -1)) ∧ Below w.heap.size w w' := by
  have hs8 : decide ((8 : Int) < (s.size : Int)) = false := decide_eq_false (by omega)
  generalize hR : (if Tic.Wrd s then Tic.wlk t s s.size else -1) = R
  have HR := Lib.hid hR
  clear hR
  go_enter Try.func9, Try.ntmps9
  go_wp2_with fail
  refine (vTri_yes _ _ h).mono ?_; rintro e w1 ⟨rfl, rfl⟩
  go_wp2_with fail
  go_loopw [5] (fun t5 wr => ∃ k : Nat, k ≤ s.size ∧ t5 = .int .i64 (Tic.wlk t s k) ∧ Hid (∀ j, j < k → Tic.Ltr (Tic.bt s j)) ∧ Hid (wr.heap[w.heap.size]? = some (.stringIter s k)) ∧ Below w.heap.size w wr)
    (fun _ wr => restOf wr w.heap.size)
  case atStart =>
    refine ⟨0, Nat.zero_le _, rfl, Lib.hid (fun j hj => absurd hj (Nat.not_lt_zero _)), Lib.hid (World.iter_heap _ _ _), (Below.refl _ _).alloc (Nat.le_refl _) _⟩
  case round =>
    obtain ⟨k, hk, rfl, HL, HI, hbel⟩ := hrel
    have HT := Lib.hid (Tic.wlk_tri s h k)
    have hB : w.heap.size < wr.heap.size := (Array.getElem?_eq_some_iff.1 HI.out).1
    by_cases hlt : k < s.size
    · by_cases hl : Tic.Ltr (Tic.bt s k)
      · have hn := fun ty => Lib.run_next_any_at (P := Try.prog) wr w.heap.size s k ty HI.out hlt
        rw [dec_yes hlt hl] at hn
        have HI2 := Lib.hid (Lib.iterAt_heap wr w.heap.size s k (k + 1) HI.out)
        have hbel2 := Lib.below_iterAt hbel (Nat.le_refl _) s (k + 1)
        have hB2 : w.heap.size < (wr.iterAt w.heap.size s (k + 1)).heap.size := by rw [Lib.iterAt_size]; exact hB
        generalize hw2 : wr.iterAt w.heap.size s (k + 1) = w2 at hn HI2 hbel2 hB2
        have HREST := Lib.hid (restOf_eq HI.out)
        clear hw2 hbel hB
        have HW := Lib.hid (show Tic.wlk t s (k + 1) = Tic.stp (Tic.wlk t s k) (Tic.bt s k) from rfl)
        generalize Tic.wlk t s k = at0 at HT HW ⊢
        go_wp2_with fail
        refine (behind_yes _ _ _ HT.out hl).mono ?_; rintro e w3 ⟨rfl, hb3⟩
        have HI3 := Lib.hid ((hb3.block _ hB2).trans HI2.out)
        have hbel3 := hbel2.trans (hb3.mono (by omega))
        clear hb3 hbel2 hB2 hn
        go_wp2
        go_roundw
        case rel => exact ⟨k + 1, by omega, by rw [HW.out], Lib.hid (fun j hj => by
          by_cases e : j = k
          · rw [e]; exact hl
          · exact HL.out j (by omega)), HI3, hbel3⟩
        case measure => rw [HREST.out, restOf_eq HI3.out]; omega
      · have hn := fun ty => Lib.run_next_any_at (P := Try.prog) wr w.heap.size s k ty HI.out hlt
        obtain ⟨n1, n2, n3⟩ := dec_no hlt hl
        have HF := Lib.hid (walkIf_no (t := t) hlt hl)
        have hbel2 := Lib.below_iterAt hbel (Nat.le_refl _) s (k + (Utf8.decode s k).2)
        generalize wr.iterAt w.heap.size s (k + (Utf8.decode s k).2) = w2 at hn hbel2
        generalize (Utf8.decode s k).1 = c at hn n1 n2 n3
        have N1 := Lib.hid n1
        have N2 := Lib.hid n2
        have N3 := Lib.hid n3
        clear n1 n2 n3 hbel hl
        go_wp2_with fail
        refine (behind_no _ _ _ N1.out N2.out N3.out).mono ?_; rintro e w3 ⟨rfl, hb3⟩
        have hbel3 := hbel2.trans (hb3.mono hbel2.size)
        clear hb3 hbel2 hn
        go_wp2
        go_ret
        exact ⟨ret_int (by rw [← HR.out, HF.out]), hbel3⟩
    · have : k = s.size := by omega
      subst this
      have hn := fun ty => Lib.run_next_end_at (P := Try.prog) wr w.heap.size s s.size ty HI.out (Nat.lt_irrefl _)
      have HF := Lib.hid ((walkIf_yes (t := t) HL.out hs).symm.trans HR.out)
      generalize Tic.wlk t s s.size = at0 at HT HF ⊢
      go_wp2
      go_ret
      exact ⟨ret_int HF.out, hbel⟩

theorem xor_stp : ∀ n : Fin 24, bits .xor .i64 (n.val : Int) 1 = Tic.stp n.val 80 := by decide
theorem step_L : ∀ n : Fin 24, (if (n.val : Int) % 2 = 0 then 2 * (((n.val : Int) / 2 + 4) % 12) + 1 else 2 * (((n.val : Int) / 2 + 8) % 12)) = Tic.stp n.val 76 := by decide
theorem step_R : ∀ n : Fin 24, (if (n.val : Int) % 2 = 0 then 2 * (((n.val : Int) / 2 + 9) % 12) + 1 else 2 * (((n.val : Int) / 2 + 3) % 12)) = Tic.stp n.val 82 := by decide
theorem sstep_yes (t : Int) (c : Nat) (w : World) (h : Tic.Tri t) (hc : Tic.Ltr c) :
    Calls Try.prog 21 #[.int .i64 t, .int .u8 c] w fun e w' => e = .returned (.int .i64 (Tic.stp t c)) ∧ w = w' := by
  have h1 := h.1
  have h2 := h.2
  have e1 := Lib.hid (Tic.tri_all (P := fun t => bits .xor .i64 t 1 = Tic.stp t 80) xor_stp h)
  have e2 := Lib.hid (Tic.tri_all (P := fun t => (if t % 2 = 0 then 2 * ((t / 2 + 4) % 12) + 1 else 2 * ((t / 2 + 8) % 12)) = Tic.stp t 76) step_L h)
  have e3 := Lib.hid (Tic.tri_all (P := fun t => (if t % 2 = 0 then 2 * ((t / 2 + 9) % 12) + 1 else 2 * ((t / 2 + 3) % 12)) = Tic.stp t 82) step_R h)
  rcases hc with rfl | rfl | rfl
  · by_cases hm : t % 2 = 0
    · go_enter Try.func21, Try.ntmps21
      go_wp2
      go_ret
      exact ⟨ret_int (by rw [← e2.out, if_pos hm]), rfl⟩
    · have hm2 : t % 2 = 1 := by omega
      have HM := Lib.hid hm
      clear hm
      go_enter Try.func21, Try.ntmps21
      go_wp2
      go_ret
      exact ⟨ret_int (by rw [← e2.out, if_neg HM.out]), rfl⟩
  · go_enter Try.func21, Try.ntmps21
    go_wp2
    go_ret
    exact ⟨ret_int e1.out, rfl⟩
  · by_cases hm : t % 2 = 0
    · go_enter Try.func21, Try.ntmps21
      go_wp2
      go_ret
      exact ⟨ret_int (by rw [← e3.out, if_pos hm]), rfl⟩
    · have hm2 : t % 2 = 1 := by omega
      have HM := Lib.hid hm
      clear hm
      go_enter Try.func21, Try.ntmps21
      go_wp2
      go_ret
      exact ⟨ret_int (by rw [← e3.out, if_neg HM.out]), rfl⟩
theorem wrd_all {s : ByteArray} (h : ∀ j, j < s.size → Tic.Ltr (Tic.bt s j)) : decide (Tic.Wrd s) = decide ((s.size : Int) ≤ 8) := by
  by_cases hs : s.size ≤ 8
  · rw [decide_eq_true (show (s.size : Int) ≤ 8 by omega)]; exact decide_eq_true ⟨hs, h⟩
  · rw [decide_eq_false (show ¬ (s.size : Int) ≤ 8 by omega)]; exact decide_eq_false fun hw => hs hw.1
theorem validWord_any (s : ByteArray) (w : World) (hm : s.size ≤ maxLen) :
    Calls Try.prog 20 #[.string s] w fun e w' => e = .returned (.bool (decide (Tic.Wrd s))) ∧ w = w' := by
  unfold maxLen at hm
  generalize hR : decide (Tic.Wrd s) = R
  have HR := Lib.hid hR
  clear hR
  go_enter Try.func20, Try.ntmps20
  go_wp2
  go_loop [3] (fun t3 => ∃ k : Nat, k ≤ s.size ∧ t3 = .int .i64 k ∧ Hid (∀ j, j < k → Tic.Ltr (Tic.bt s j))) (fun t3 => s.size - (intOf t3).toNat)
  case atStart => exact ⟨0, Nat.zero_le _, rfl, Lib.hid (fun j hj => absurd hj (Nat.not_lt_zero _))⟩
  case round =>
    obtain ⟨k, hk, rfl, HL⟩ := hrel
    by_cases hlt : k < s.size
    · have HB := Lib.hid (Tic.bt_eq hlt)
      by_cases hl : Tic.Ltr (Tic.bt s k)
      · have HL2 : Hid (∀ j, j < k + 1 → Tic.Ltr (Tic.bt s j)) := Lib.hid (fun j hj => by
          by_cases e : j = k
          · rw [e]; exact hl
          · exact HL.out j (by omega))
        have hc : (s[k]'hlt).toNat = 76 ∨ (s[k]'hlt).toNat = 80 ∨ (s[k]'hlt).toNat = 82 := by rw [HB.out]; exact hl
        clear hl
        rcases hc with e | e | e
        all_goals
          go_wp2
          go_round
          case rel => exact ⟨k + 1, by omega, by go_num, HL2⟩
          case measure => simp [intOf]; omega
      · have HF := Lib.hid (show R = false by rw [← HR.out]; exact decide_eq_false fun hw => hl (hw.2 k hlt))
        have hc : ¬ ((s[k]'hlt).toNat = 76 ∨ (s[k]'hlt).toNat = 80 ∨ (s[k]'hlt).toNat = 82) := by rw [HB.out]; exact hl
        have c1 : (((s[k]'hlt).toNat : Int) != 76) = true := by simp; omega
        have c2 : (((s[k]'hlt).toNat : Int) != 80) = true := by simp; omega
        have c3 : (((s[k]'hlt).toNat : Int) != 82) = true := by simp; omega
        clear hc hl
        go_wp2
        go_ret
        exact ⟨ret_bool HF.out.symm, rfl⟩
    · have : k = s.size := by omega
      subst this
      have HF := Lib.hid ((wrd_all HL.out).symm.trans HR.out)
      go_wp2
      go_ret
      exact ⟨ret_bool HF.out, rfl⟩
theorem iWalkOf_yes (t : Int) (s : ByteArray) (w : World) (h : Tic.Tri t) (hm : s.size ≤ maxLen) :
    Calls Try.prog 9 #[.int .i64 t, .string s] w fun e w' => e = .returned (.int .i64 (if Tic.Wrd s then Tic.wlk t s s.size else -1)) ∧ Below w.heap.size w w' := by
  by_cases hs : s.size ≤ 8
  · exact iWalkOf_short t s w h hs
  · rw [if_neg (fun hw => hs hw.1)]
    exact (iWalkOf_long t s w h (by omega) hm).mono fun e w' ⟨h1, h2⟩ => ⟨h1, by rw [h2]; exact Below.refl _ _⟩
end Go.Proofs.Ytjlbgccffpkmiaa
