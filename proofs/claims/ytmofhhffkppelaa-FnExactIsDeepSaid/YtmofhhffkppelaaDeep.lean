/-
  Contracts of IsDeep, of the program and of the model, and the walk of its exact law.
-/
import Derived.Test.YtmofhhffkppelaaGaps
import Derived.Test.YtmofhhffkppelaaSlices
import Derived.Deep.QuietTactic
import Derived.BigQuiet
namespace Go.Proofs.Ytmofhhffkppelaa
open Go.RowKit
set_option linter.unusedVariables false

/-- no two of the first k numbers are the same -/
def deepTo (L : List Int) : Nat → Bool
  | 0 => true
  | k + 1 => deepTo L k && !((L.take k).contains (L.getD k 0))
theorem deepTo_no {L : List Int} {k : Nat} (h : (L.take k).contains (L.getD k 0) = true) : ∀ j, k < j → deepTo L j = false
  | 0, hj => by omega
  | j + 1, hj => by
    unfold deepTo
    by_cases e : k = j
    · subst e; rw [h]; simp
    · rw [deepTo_no h j (by omega)]; rfl
theorem take_mem {L : List Int} {k : Nat} {x : Int} (hk : k ≤ L.length) : (L.take k).contains x = true ↔ ∃ i, i < k ∧ L.getD i 0 = x := by
  rw [List.contains_iff_mem]
  constructor
  · intro h
    obtain ⟨i, hi, e⟩ := List.getElem_of_mem h
    have hi2 : i < k := by rw [List.length_take] at hi; omega
    refine ⟨i, hi2, ?_⟩
    rw [List.getElem_take] at e
    rw [List.getD_eq_getElem?_getD, List.getElem?_eq_getElem (by omega)]
    exact e
  · rintro ⟨i, hi, e⟩
    rw [List.getD_eq_getElem?_getD, List.getElem?_eq_getElem (by omega)] at e
    have : (L.take k)[i]'(by rw [List.length_take]; omega) = x := by rw [List.getElem_take]; exact e
    rw [← this]
    exact List.getElem_mem _

theorem contains_any (g n cap k : Nat) (B : Nat) (L : List Int) (x : Int) (w : World) (h : Row w B (.slice (some ⟨g, 0, none⟩) n cap) L) (hk : k ≤ L.length) (c : Nat) :
    Calls Try.prog 37 #[.slice (some ⟨g, 0, none⟩) k c, .int .i64 x] w fun e w' => e = .returned (.bool ((L.take k).contains x)) ∧ w' = w := by
  have hl := h.2
  obtain ⟨_, _, _, hc, _⟩ := h.shape
  exact Try.slices_Contains_int g 0 k c L x w hk (by omega) (fun j hj => by rw [Nat.zero_add]; exact hc j (by have := h.shape.1; omega))

set_option maxHeartbeats 800000 in
set_option maxRecDepth 20000 in
theorem iIsDeep_yes (n s : Int) (w : World) (hv : Tic.Valid n s) :
    Calls Try.prog 17 #[.int .i64 n, .int .i64 s] w fun e w' => e = .returned (.bool (deepTo (Tic.gapsOf n.toNat s.toNat) (Tic.gapsOf n.toNat s.toNat).length)) ∧ Below w.heap.size w w' := by
  go_enter Try.func17, Try.ntmps17
  go_wp2_with fail
  refine (implValid_yes _ _ _ hv).mono ?_; rintro e w1 ⟨rfl, rfl⟩
  go_wp2_with fail
  refine (gaps_any _ _ _ hv).mono ?_; rintro e w1 ⟨v, rfl, hr, hb⟩
  obtain ⟨L, hL⟩ : ∃ L, L = Tic.gapsOf n.toNat s.toNat := ⟨_, rfl⟩
  rw [← hL] at hr
  have HL := Lib.hid hL
  clear hL
  have HB := Lib.hid hb
  clear hb
  rcases hr.cases with ⟨rfl, rfl⟩ | ⟨g, cap, rfl, hg1, hg2, hc, hf⟩
  · go_wp2
    refine wp_loop_rounds 1 ?_
    rw [rounds_succ]
    go_wp2
    go_ret
    exact ⟨ret_bool (by rw [← HL.out]; rfl), HB.out⟩
  · have HR := Lib.hid hr
    have hl := hr.2
    have HC := Lib.hid hc
    have HNO := Lib.hid (fun k (h : (L.take k).contains (L.getD k 0) = true) (hk : k < L.length) => deepTo_no h L.length hk)
    have hcap := hr.capge
    unfold maxLen at hcap
    clear hr hc hf
    go_wp2
    go_loopw [6, 7, 18] (fun _ _ t18 wr => ∃ i : Nat, i ≤ L.length ∧ t18 = .int .i64 i ∧ Hid (deepTo L i = true) ∧ wr = w1) (fun _ _ t18 _ => L.length - (intOf t18).toNat)
    case atStart => exact ⟨0, by omega, rfl, rfl, rfl⟩
    case round =>
      obtain ⟨i, hi, rfl, HD, rfl⟩ := hrel
      by_cases hlt : i < L.length
      · have hci := HC.out i hlt
        have hi2 : (i : Int) < (L.length : Int) := by omega
        have HN := Lib.hid (show deepTo L (i + 1) = (deepTo L i && !((L.take i).contains (L.getD i 0))) from rfl)
        generalize hx : L.getD i 0 = x at hci HN
        have HX := Lib.hid hx
        clear hx
        go_wp2_with fail
        refine (contains_any g L.length cap i w.heap.size L x _ HR.out hi _).mono ?_; rintro e w2 ⟨rfl, rfl⟩
        cases hct : (L.take i).contains x with
        | true =>
          have HF := Lib.hid (HNO.out i (by rw [HX.out]; exact hct) hlt)
          clear hct
          go_wp2
          go_ret
          exact ⟨ret_bool (by rw [← HL.out]; exact HF.out.symm), HB.out⟩
        | false =>
          have HD2 : Hid (deepTo L (i + 1) = true) := Lib.hid (by rw [HN.out, HD.out, hct]; rfl)
          clear hct
          go_wp2
          go_roundw
          case rel => exact ⟨i + 1, by omega, by go_num, HD2, trivial⟩
          case measure => simp [intOf]; omega
      · have : i = L.length := by omega
        subst this
        go_wp2
        go_ret
        exact ⟨ret_bool (by rw [← HL.out]; exact HD.out.symm), HB.out⟩
theorem iIsDeep_no (n s : Int) (w : World) (hv : ¬ Tic.Valid n s) :
    Calls Try.prog 17 #[.int .i64 n, .int .i64 s] w fun e w' => e = .returned (.bool false) ∧ w = w' := by
  go_enter Try.func17, Try.ntmps17
  go_wp2_with fail
  refine (implValid_no _ _ _ hv).mono ?_; rintro e w1 ⟨rfl, rfl⟩
  go_wp2
  go_ret
  exact ⟨rfl, rfl⟩
theorem sIsDeep_no (n s : Int) (w : World) (hv : ¬ Tic.Valid n s) :
    Calls Try.prog 18 #[.int .i64 n, .int .i64 s] w fun e w' => e = .returned (.bool false) ∧ w = w' := by
  go_enter Try.func18, Try.ntmps18
  go_wp2_with fail
  refine (validSet_no _ _ _ hv).mono ?_; rintro e w1 ⟨rfl, rfl⟩
  go_wp2
  go_ret
  exact ⟨rfl, rfl⟩
set_option maxHeartbeats 800000 in
set_option maxRecDepth 20000 in
theorem sIsDeep_yes (n s : Int) (w : World) (hv : Tic.Valid n s) :
    Calls Try.prog 18 #[.int .i64 n, .int .i64 s] w fun e w' => e = .returned (.bool (deepTo (Tic.gapsOf n.toNat s.toNat) (Tic.gapsOf n.toNat s.toNat).length)) ∧ Below w.heap.size w w' := by
  go_enter Try.func18, Try.ntmps18
  go_wp2_with fail
  refine (validSet_yes _ _ _ hv).mono ?_; rintro e w1 ⟨rfl, rfl⟩
  go_wp2_with fail
  refine (sgaps_any _ _ _ hv).mono ?_; rintro e w1 ⟨v, rfl, hr, hb⟩
  obtain ⟨L, hL⟩ : ∃ L, L = Tic.gapsOf n.toNat s.toNat := ⟨_, rfl⟩
  rw [← hL] at hr
  have HL := Lib.hid hL
  clear hL
  have HB := Lib.hid hb
  clear hb
  rcases hr.cases with ⟨rfl, rfl⟩ | ⟨g, cap, rfl, hg1, hg2, hc, hf⟩
  · go_wp2
    refine wp_loop_rounds 1 ?_
    rw [rounds_succ]
    go_wp2
    go_ret
    exact ⟨ret_bool (by rw [← HL.out]; rfl), HB.out⟩
  · have hl := hr.2
    have HC := Lib.hid hc
    have HNO := Lib.hid (fun k (h : (L.take k).contains (L.getD k 0) = true) (hk : k < L.length) => deepTo_no h L.length hk)
    clear hr hc hf
    go_wp2
    go_loopw [6, 7] (fun t6 _ wr => ∃ i : Nat, i ≤ L.length ∧ t6 = .int .i64 i ∧ Hid (deepTo L i = true) ∧ ∃ q, wr = w1.drewN q) (fun t6 _ _ => L.length - (intOf t6).toNat)
    case atStart => exact ⟨0, by omega, rfl, rfl, 0, rfl⟩
    case round =>
      obtain ⟨i, hi, rfl, HD, q, hq⟩ := hrel
      have HQ := Lib.hid hq
      clear hq
      by_cases hlt : i < L.length
      · have HTM := Lib.hid (fun x => take_mem (L := L) (k := i) (x := x) (by omega))
        go_wp2
        obtain ⟨wo, rfl⟩ : ∃ wo : World, wo = wr := ⟨_, rfl⟩
        go_loopw [7] (fun t7 wi => ∃ k : Nat, k ≤ i ∧ t7 = .int .i64 k ∧ Hid (∀ j, j < k → L.getD j 0 ≠ L.getD i 0) ∧ ∃ q, Hid (wi = w1.drewN q)) (fun t7 _ => i - (intOf t7).toNat)
        case atStart => exact ⟨0, by omega, rfl, Lib.hid (fun j h => absurd h (Nat.not_lt_zero _)), q, HQ⟩
        case round =>
          obtain ⟨k, hk, rfl, HN, q2, HQ2⟩ := hrel
          by_cases hltk : k < i
          · have hci : wr.cell? ⟨g, i, none⟩ = some (.int .i64 (L.getD i 0)) := by rw [HQ2.out]; exact HC.out i hlt
            have hck : wr.cell? ⟨g, k, none⟩ = some (.int .i64 (L.getD k 0)) := by rw [HQ2.out]; exact HC.out k (by omega)
            have hi2 : (i : Int) < (L.length : Int) := by omega
            have hk2 : (k : Int) < (L.length : Int) := by omega
            by_cases hxy : L.getD i 0 = L.getD k 0
            · have HF := Lib.hid (HNO.out i ((HTM.out _).2 ⟨k, hltk, hxy.symm⟩) hlt)
              rw [← hxy] at hck
              generalize L.getD i 0 = x at hci hck
              clear hxy
              go_wp2_with fail
              go_quiet (fail)
              go_wp2
              go_ret
              exact ⟨ret_bool (by rw [← HL.out]; exact HF.out.symm), below_drewN (by rw [HQ2.out]; exact below_drewN HB.out _) _⟩
            · have HN2 : Hid (∀ j, j < k + 1 → L.getD j 0 ≠ L.getD i 0) := Lib.hid (fun j hj => by
                by_cases e : j = k
                · rw [e]; exact fun h => hxy h.symm
                · exact HN.out j (by omega))
              generalize L.getD i 0 = x at hci hxy HN2 ⊢
              generalize L.getD k 0 = y at hck hxy
              go_wp2_with fail
              go_quiet (fail)
              go_wp2
              go_roundw
              case rel => exact ⟨k + 1, by omega, by go_num, HN2, q2 + nq, by rw [HQ2.out, World.drewN_drewN]; exact rfl⟩
              case measure => simp [intOf]; omega
          · have : k = i := by omega
            subst this
            have HD2 : Hid (deepTo L (k + 1) = true) := Lib.hid (by
              show (deepTo L k && !((L.take k).contains (L.getD k 0))) = true
              rw [HD.out]
              cases hct : (L.take k).contains (L.getD k 0) with
              | false => rfl
              | true =>
                obtain ⟨j, hj, e⟩ := (HTM.out _).1 hct
                exact absurd e (HN.out j hj))
            go_wp2
            go_roundw
            case rel => exact ⟨k + 1, by omega, by go_num, HD2, q2, HQ2.out⟩
            case measure => simp [intOf]; omega
      · have : i = L.length := by omega
        subst this
        go_wp2
        go_ret
        exact ⟨ret_bool (by rw [← HL.out]; exact HD.out.symm), by rw [HQ.out]; exact below_drewN HB.out _⟩
theorem FnExactIsDeep_walk (a0 a1 : Int) (w0 : (Lit.int .i64 a0).wf = true) (w1 : (Lit.int .i64 a1).wf = true) (w : World) :
    Calls Try.prog 6 #[.int .i64 a0, .int .i64 a1] w fun e w' => e = .returned (.bool true) ∧ Below w.heap.size w w' := by
  by_cases h : Tic.Valid a0 a1
  · go_enter Try.func6, Try.ntmps6
    go_wp2_with fail
    refine (sIsDeep_yes _ _ _ h).mono ?_; rintro e w1 ⟨rfl, hb⟩
    go_wp2_with fail
    refine (iIsDeep_yes _ _ _ h).mono ?_; rintro e w2 ⟨rfl, hb2⟩
    have HB := Lib.hid (hb.trans (hb2.mono hb.size))
    generalize deepTo (Tic.gapsOf a0.toNat a1.toNat) (Tic.gapsOf a0.toNat a1.toNat).length = b
    go_wp2_with fail
    go_ret
    exact ⟨ret_bool (by cases b <;> rfl), HB.out⟩
  · go_enter Try.func6, Try.ntmps6
    go_wp2_with fail
    refine (sIsDeep_no _ _ _ h).mono ?_; rintro e w1 ⟨rfl, rfl⟩
    go_wp2_with fail
    refine (iIsDeep_no _ _ _ h).mono ?_; rintro e w1 ⟨rfl, rfl⟩
    go_wp2_with fail
    go_ret
    exact ⟨rfl, Below.refl _ _⟩
end Go.Proofs.Ytmofhhffkppelaa
