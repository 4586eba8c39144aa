/-
  Contracts of CanonOf, of the program and of the model.
-/
import Derived.Test.YtgpbgbcdlebaiaaSums
import Derived.Test.YtgpbgbcdlebaiaaGaps
import Derived.Test.YtgpbgbcdlebaiaaShelves
namespace Go.Proofs.Ytgpbgbcdlebaiaa
open Go.RowKit
set_option linter.unusedVariables false

/-- how many voices have a beat at t, counted to the tone y of b and the tone x of a -/
def vS (n a b x y t : Nat) : Nat := Tic.sm (fun x' => Tic.sm (fun y' => Tic.vhit n a b t x' y') n) x + Tic.sm (fun y' => Tic.vhit n a b t x y') y
theorem vS_end {n : Nat} (h : 0 < n) (a b t : Nat) : vS n a b n 0 t = Tic.cn n a b t n := by
  unfold vS; rw [Tic.cn_tones h]; rfl
theorem vS_row (n a b x t : Nat) : vS n a b (x + 1) 0 t = vS n a b x n t := rfl
theorem vS_next (n a b x y t : Nat) : vS n a b x (y + 1) t = vS n a b x y t + Tic.vhit n a b t x y := by
  unfold vS
  rw [show Tic.sm (fun y' => Tic.vhit n a b t x y') (y + 1) = Tic.sm (fun y' => Tic.vhit n a b t x y') y + Tic.vhit n a b t x y from rfl]
  omega
theorem vS_no {n a b x y : Nat} (h : a.testBit x = false ∨ b.testBit y = false) (t : Nat) : vS n a b x (y + 1) t = vS n a b x y t := by
  rw [vS_next]
  unfold Tic.vhit
  rcases h with h | h <;> rw [h] <;> simp [Tic.b2]
theorem vS_yes {n a b x y : Nat} (h1 : a.testBit x = true) (h2 : b.testBit y = true) (t : Nat) : vS n a b x (y + 1) t = vS n a b x y t + if t = (x + y) % n then 1 else 0 := by
  rw [vS_next]
  unfold Tic.vhit
  rw [h1, h2, Bool.true_and, Bool.true_and, Nat.add_comm y x, b2_at]
theorem vS_le {n a b x y t : Nat} (hn : n ≤ 12) (hx : x < n) (hy : y ≤ n) : vS n a b x y t ≤ 200 := by
  unfold vS
  have h1 : Tic.sm (fun x' => Tic.sm (fun y' => Tic.vhit n a b t x' y') n) x ≤ x * n := Tic.sm_bd fun x' _ => by
    have := Tic.sm_bd (f := fun y' => Tic.vhit n a b t x' y') (c := 1) (k := n) (fun y _ => Tic.b2_le _)
    simpa using this
  have h2 : Tic.sm (fun y' => Tic.vhit n a b t x y') y ≤ y * 1 := Tic.sm_bd fun y _ => Tic.b2_le _
  have h3 : x * n ≤ 12 * 12 := Nat.mul_le_mul (by omega) hn
  omega
theorem sCanonOf_no (n a b : Int) (w : World) (h : ¬ TwoOk n a b) :
    Calls Try.prog 44 #[.int .i64 n, .int .i64 a, .int .i64 b] w (Gives [] w) := by
  by_cases h1 : Tic.Valid n a
  · have h2 : ¬ Tic.Valid n b := fun h2 => h ⟨h1, h2⟩
    clear h
    go_enter Try.func44, Try.ntmps44
    go_wp2_with fail
    refine (validSet_yes _ _ _ h1).mono ?_; rintro e w1 ⟨rfl, rfl⟩
    go_wp2_with fail
    refine (validSet_no _ _ _ h2).mono ?_; rintro e w1 ⟨rfl, rfl⟩
    go_wp2_with fail
    go_ret
    exact ⟨_, rfl, Row.nil _ _, Below.refl _ _⟩
  · clear h
    go_enter Try.func44, Try.ntmps44
    go_wp2_with fail
    refine (validSet_no _ _ _ h1).mono ?_; rintro e w1 ⟨rfl, rfl⟩
    go_wp2_with fail
    go_ret
    exact ⟨_, rfl, Row.nil _ _, Below.refl _ _⟩
set_option maxRecDepth 20000 in
set_option maxHeartbeats 800000 in
theorem sCanonOf_yes (n a b : Int) (w : World) (h : TwoOk n a b) :
    Calls Try.prog 44 #[.int .i64 n, .int .i64 a, .int .i64 b] w (Gives (Tic.cts n.toNat fun t => Tic.cn n.toNat a.toNat b.toNat t n.toNat) w) := by
  obtain ⟨h1, h2⟩ := h
  have g1 := h1.1
  have g2 := h1.2.1
  have hlt := h1.lt
  have hlt2 := h2.lt
  obtain ⟨N, rfl⟩ := Int.eq_ofNat_of_zero_le (show 0 ≤ n by omega)
  obtain ⟨A, rfl⟩ := Int.eq_ofNat_of_zero_le h1.2.2.1
  obtain ⟨B, rfl⟩ := Int.eq_ofNat_of_zero_le h2.2.2.1
  have HV := Lib.hid h1
  have HV2 := Lib.hid h2
  simp only [Int.toNat_natCast]
  clear h1 h2
  go_enter Try.func44, Try.ntmps44
  go_wp2_with fail
  refine (validSet_yes _ _ _ HV.out).mono ?_; rintro e w1 ⟨rfl, rfl⟩
  go_wp2_with fail
  refine (validSet_yes _ _ _ HV2.out).mono ?_; rintro e w1 ⟨rfl, rfl⟩
  go_wp2_with (at_make; refine wpList_make_ints rfl _ _ rfl w.heap.size _ _ N rfl rfl ?c1 ?c2 ?c3 (Nat.le_refl _) ?_)
  case c1 => omega
  case c2 => omega
  case c3 => omega
  intro w2 hrow hb1
  have HR0 := Lib.hid hrow
  clear hrow
  go_wp2
  go_loopw [8, 9] (fun t8 t9 wr => ∃ x : Nat, x ≤ N ∧ t8 = .int .i64 x ∧ Hid (Row wr w.heap.size (.slice (some ⟨w.heap.size, 0, none⟩) N N) (Tic.cts N (vS N A B x 0))) ∧ Below w.heap.size w wr) (fun t8 _ _ => N - (intOf t8).toNat)
  case atStart => exact ⟨0, Nat.zero_le _, rfl, HR0, hb1⟩
  case round =>
    obtain ⟨x, hx, rfl, HR, hbel⟩ := hrel
    by_cases hltx : x < N
    · go_wp2
      obtain ⟨wo, rfl⟩ : ∃ wo : World, wo = wr := ⟨_, rfl⟩
      go_loopw [9] (fun t9 wr => ∃ y : Nat, y ≤ N ∧ t9 = .int .i64 y ∧ Hid (Row wr w.heap.size (.slice (some ⟨w.heap.size, 0, none⟩) N N) (Tic.cts N (vS N A B x y))) ∧ Below w.heap.size w wr) (fun t9 _ => N - (intOf t9).toNat)
      case atStart => exact ⟨0, by omega, rfl, HR, hbel⟩
      case round =>
        clear HR hbel
        obtain ⟨y, hy, rfl, HR, hbel⟩ := hrel
        by_cases hlty : y < N
        · cases hbx : A.testBit x with
          | false =>
            have HB := Lib.hid hbx
            have HN := Lib.hid (Tic.cts_congr (m := N) (vS_no (n := N) (b := B) (y := y) (.inl hbx)))
            clear hbx
            go_wp2_with fail
            refine (bit_no _ _ A x _ rfl (by omega) rfl (by omega) HB.out).mono ?_; rintro e w2 ⟨rfl, rfl⟩
            go_wp2
            go_roundw
            case rel => exact ⟨y + 1, by omega, by go_num, by rw [HN.out]; exact HR, hbel⟩
            case measure => simp [intOf]; omega
          | true =>
            have HB := Lib.hid hbx
            cases hby : B.testBit y with
            | false =>
              have HB2 := Lib.hid hby
              have HN := Lib.hid (Tic.cts_congr (m := N) (vS_no (n := N) (a := A) (x := x) (.inr hby)))
              clear hby hbx
              go_wp2_with fail
              refine (bit_yes _ _ A x _ rfl (by omega) rfl (by omega) HB.out).mono ?_; rintro e w2 ⟨rfl, rfl⟩
              go_wp2_with fail
              refine (bit_no _ _ B y _ rfl (by omega) rfl (by omega) HB2.out).mono ?_; rintro e w2 ⟨rfl, rfl⟩
              go_wp2
              go_roundw
              case rel => exact ⟨y + 1, by omega, by go_num, by rw [HN.out]; exact HR, hbel⟩
              case measure => simp [intOf]; omega
            | true =>
              have HB2 := Lib.hid hby
              have hi2 : (x + y) % N < N := Nat.mod_lt _ (by omega)
              have hmm : ((x : Int) + (y : Int)) % (N : Int) = (((x + y) % N : Nat) : Int) := by rw [Int.natCast_emod, Int.natCast_add]
              have hsh := HR.out.shape
              have hc := hsh.2.2.2.1 ((x + y) % N) hi2
              have hf := hsh.2.2.2.2 ((x + y) % N)
              rw [Tic.cts_getD _ hi2] at hc
              have hcl := vS_le (n := N) (a := A) (b := B) (x := x) (y := y) (t := (x + y) % N) (by omega) hltx hy
              have HP := Lib.hid (HR.out.put (C' := vS N A B x (y + 1)) hi2 (vS_yes hbx hby))
              clear hsh hbx hby
              generalize vS N A B x y ((x + y) % N) = ct at hc hcl HP
              generalize (x + y) % N = q at hc hf hi2 HP hmm
              go_wp2_with fail
              refine (bit_yes _ _ A x _ rfl (by omega) rfl (by omega) HB.out).mono ?_; rintro e w2 ⟨rfl, rfl⟩
              go_wp2_with fail
              refine (bit_yes _ _ B y _ rfl (by omega) rfl (by omega) HB2.out).mono ?_; rintro e w2 ⟨rfl, rfl⟩
              go_wp2
              go_region
              all_goals
                go_wp2
                go_roundw
                case rel => exact ⟨y + 1, by omega, by go_num, HP, (hbel.setCell (Nat.le_refl _) _).drew⟩
                case measure => simp [intOf]; omega
        · obtain rfl : y = N := by omega
          go_wp2
          go_roundw
          case rel => exact ⟨x + 1, by omega, by go_num, HR, hbel⟩
          case measure => simp [intOf]; omega
    · obtain rfl : x = N := by omega
      have HE := Lib.hid (Tic.cts_congr (m := x) (fun t => vS_end (n := x) (by omega) A B t))
      go_wp2
      go_ret
      exact ⟨_, rfl, by rw [← HE.out]; exact HR.out, hbel⟩
theorem cts_take (C : Nat → Nat) {m n : Nat} (h : m ≤ n) : (Tic.cts n C).take m = Tic.cts m C := by
  unfold Tic.cts
  rw [← List.map_take, List.take_range, Nat.min_eq_left h]
theorem iCanonOf_no (n a b : Int) (w : World) (h : ¬ TwoOk n a b) :
    Calls Try.prog 43 #[.int .i64 n, .int .i64 a, .int .i64 b] w (Gives [] w) := by
  by_cases h1 : Tic.Valid n a
  · have h2 : ¬ Tic.Valid n b := fun h2 => h ⟨h1, h2⟩
    clear h
    go_enter Try.func43, Try.ntmps43
    go_wp2_with fail
    refine (implValid_yes _ _ _ h1).mono ?_; rintro e w1 ⟨rfl, rfl⟩
    go_wp2_with fail
    refine (implValid_no _ _ _ h2).mono ?_; rintro e w1 ⟨rfl, rfl⟩
    go_wp2_with fail
    go_ret
    exact ⟨_, rfl, Row.nil _ _, Below.refl _ _⟩
  · clear h
    go_enter Try.func43, Try.ntmps43
    go_wp2_with fail
    refine (implValid_no _ _ _ h1).mono ?_; rintro e w1 ⟨rfl, rfl⟩
    go_wp2_with fail
    go_ret
    exact ⟨_, rfl, Row.nil _ _, Below.refl _ _⟩
set_option maxRecDepth 20000 in
set_option maxHeartbeats 800000 in
theorem iCanonOf_yes (n a b : Int) (w : World) (h : TwoOk n a b) :
    Calls Try.prog 43 #[.int .i64 n, .int .i64 a, .int .i64 b] w (Gives (Tic.cts n.toNat fun t => Tic.cn n.toNat a.toNat b.toNat t n.toNat) w) := by
  obtain ⟨h1, h2⟩ := h
  have g1 := h1.1
  have g2 := h1.2.1
  obtain ⟨N, rfl⟩ := Int.eq_ofNat_of_zero_le (show 0 ≤ n by omega)
  obtain ⟨A, rfl⟩ := Int.eq_ofNat_of_zero_le h1.2.2.1
  obtain ⟨B, rfl⟩ := Int.eq_ofNat_of_zero_le h2.2.2.1
  have HV := Lib.hid h1
  have HV2 := Lib.hid h2
  simp only [Int.toNat_natCast]
  clear h1 h2
  go_enter Try.func43, Try.ntmps43
  go_wp2_with fail
  refine (implValid_yes _ _ _ HV.out).mono ?_; rintro e w1 ⟨rfl, rfl⟩
  go_wp2_with fail
  refine (implValid_yes _ _ _ HV2.out).mono ?_; rintro e w1 ⟨rfl, rfl⟩
  go_wp2_with fail
  refine (canon_any _ _ _ _ _ HV.out HV2.out rfl).mono ?_; rintro e w1 ⟨rfl, hb1⟩
  simp only [Int.toNat_natCast]
  go_wp2_with (refine wpList_store_row rfl 53 _ _ rfl w1.heap.size _ rfl rfl 53 _ (heap_alloc_new _ _) (by rw [cellsOf_size]; exact info_beats) (by rw [cellsOf_size]; rfl) (cellsOf_one _) ?_)
  have A8 : Arr ((w1.alloc (.cells #[.int .i64 0, .int .i64 0, .int .i64 0, .int .i64 0, .int .i64 0, .int .i64 0, .int .i64 0, .int .i64 0, .int .i64 0, .int .i64 0, .int .i64 0, .int .i64 0] 53)).setRow w1.heap.size (cellsOf fun t => Tic.cn N A B t N)) w1.heap.size (fun t => Tic.cn N A B t N) := setRow_heap _ _ _ _ _ _ (heap_alloc_new _ _)
  refine (Try.slices_Clone_int w1.heap.size 0 N 12 (Tic.cts 12 fun t => Tic.cn N A B t N) _ (by rw [Tic.cts_length]; omega) (by omega) (fun j hj => by rw [Tic.cts_length] at hj; rw [Nat.zero_add, A8.cell hj, Tic.cts_getD _ hj])).mono ?_
  rintro e w2 ⟨v', rfl, hown, hnil, hb2⟩
  have HG : Hid (Gives (Tic.cts N fun t => Tic.cn N A B t N) w (.returned v') w2) := by
    have hs := hb1.size
    refine ⟨v', rfl, ⟨?_, by rw [Tic.cts_length]; omega⟩, ?_⟩
    · have h3 := hown
      rw [cts_take _ (by omega)] at h3
      rw [Tic.cts_length]
      refine ⟨h3.1, ?_⟩
      rcases h3.2 with h4 | ⟨g, cap, cur, e, hg, r⟩
      · exact .inl h4
      · exact .inr ⟨g, cap, cur, e, by simp at hg; omega, r⟩
    · exact (below_row (hb1.alloc hs _) hs _).trans (hb2.mono (by simp; omega))
  clear hb1 hb2 hown A8
  go_wp2
  go_ret
  exact HG.out
end Go.Proofs.Ytgpbgbcdlebaiaa
