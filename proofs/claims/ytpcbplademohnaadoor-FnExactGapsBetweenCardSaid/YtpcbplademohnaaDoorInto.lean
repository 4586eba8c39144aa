/-
  Contracts of IntoOctave, of the program and of the model.
-/
import Derived.Test.YtpcbplademohnaaDoorOctaves
namespace Go.Proofs.YtpcbplademohnaaDoor
open Go.RowKit
set_option linter.unusedVariables false
set_option maxRecDepth 20000

/-- a fresh slice of the numbers L, and a word -/
def GivesOk (L : List Int) (ok : Bool) (w : World) (e : Ending) (w' : World) : Prop := ∃ v, e = .returned (.tuple #[v, .bool ok]) ∧ Row w' w.heap.size v L ∧ Below w.heap.size w w'
/-- what IntoOctave tells -/
def into (L : List Int) : Option (List Int) := match L with
  | [a, b, c] => if Tic.Pws a b c ∧ -24 ≤ Tic.oct b c ∧ Tic.oct b c ≤ 24 then some [Tic.oct b c, b, c] else none
  | _ => none
theorem into_yes {a b c : Int} (h : Tic.Pws a b c) (h1 : -24 ≤ Tic.oct b c ∧ Tic.oct b c ≤ 24) : into [a, b, c] = some [Tic.oct b c, b, c] := by unfold into; simp only; rw [if_pos ⟨h, h1⟩]
theorem into_out {a b c : Int} (h1 : ¬ (-24 ≤ Tic.oct b c ∧ Tic.oct b c ≤ 24)) : into [a, b, c] = none := by unfold into; simp only; rw [if_neg (fun h => h1 h.2)]
theorem into_no {L : List Int} (h : ¬ PwsL L) : into L = none := by
  unfold into
  match L with
  | [a, b, c] =>
    have hn : ¬ (Tic.Pws a b c ∧ -24 ≤ Tic.oct b c ∧ Tic.oct b c ≤ 24) := fun hp => h ⟨a, b, c, rfl, hp.1⟩
    simp only
    rw [if_neg hn]
  | [] | [_] | [_, _] | _ :: _ :: _ :: _ :: _ => rfl
def GivesInto (o : Option (List Int)) (w : World) (e : Ending) (w' : World) : Prop := GivesOk (o.getD []) o.isSome w e w'

theorem rup_next {k b c : Int} (h : 0 ≤ k) : Tic.rup (k + 1) b c = 2 * Tic.rup k b c ∧ Tic.rdn (k + 1) b c = Tic.rdn k b c := by
  constructor
  · rw [Tic.rup_two, Tic.rup_two k, show (k + 1).toNat = k.toNat + 1 by omega, Nat.pow_succ, Nat.mul_comm _ 2, Nat.mul_assoc]
  · rw [Tic.rdn_two, Tic.rdn_two k, show (-(k + 1)).toNat = (-k).toNat by omega]
theorem rdn_next {k b c : Int} (h : k ≤ 0) : Tic.rdn (k - 1) b c = 2 * Tic.rdn k b c ∧ Tic.rup (k - 1) b c = Tic.rup k b c := by
  constructor
  · rw [Tic.rdn_two, Tic.rdn_two k, show (-(k - 1)).toNat = (-k).toNat + 1 by omega, Nat.pow_succ, Nat.mul_comm _ 2, Nat.mul_assoc]
  · rw [Tic.rup_two, Tic.rup_two k, show (k - 1).toNat = k.toNat by omega]
theorem rup_zero (b c : Int) : Tic.rup 0 b c = 3 ^ b.toNat * 5 ^ c.toNat := by unfold Tic.rup; simp
theorem rdn_zero (b c : Int) : Tic.rdn 0 b c = 3 ^ (-b).toNat * 5 ^ (-c).toNat := by unfold Tic.rdn; simp

theorem Row.built3 (V : World) (a b c : Int) {B : Nat} (hB : B ≤ V.heap.size) : Row (V.alloc (.cells #[.int .i64 a, .int .i64 b, .int .i64 c] 3)) B (.slice (some ⟨V.heap.size, 0, none⟩) 3 3) [a, b, c] :=
  ⟨⟨by simp, .inr ⟨V.heap.size, 3, #[.int .i64 a, .int .i64 b, .int .i64 c], rfl, hB, heap_alloc_new _ _, by simp, by unfold maxLen; omega, rfl, by simp⟩⟩, by simp⟩
theorem Row.drew {w : World} {B : Nat} {v : Value} {L : List Int} (h : Row w B v L) : Row w.drew B v L := h
theorem sInto_no (v : Value) (B : Nat) (L : List Int) (w : World) (hr : Row w B v L) (h : ¬ PwsL L) :
    Calls Tryd.prog 38 #[v] w (GivesOk [] false w) := by
  go_enter Tryd.func38, Tryd.ntmps38
  go_wp2_with fail
  refine (sValidP_no _ _ _ _ hr h).mono ?_; rintro e w' ⟨rfl, rfl⟩
  go_wp2_with fail
  go_ret2
  exact ⟨_, rfl, Row.nil _ _, Below.refl _ _⟩
set_option maxHeartbeats 1000000 in
theorem sInto_yes (v : Value) (B : Nat) (a b c : Int) (w : World) (hr : Row w B v [a, b, c]) (h : Tic.Pws a b c) :
    Calls Tryd.prog 38 #[v] w (GivesInto (into [a, b, c]) w) := by
  have HV := Lib.hid (sValidP_yes v B a b c w hr h)
  have h35 := h.p35
  obtain ⟨_, o1, o2⟩ := Tic.oct_spec h35
  have HW := Lib.hid (fun k h1 h2 h3 h4 => way_fit (k := k) h35 h1 h2 h3 h4)
  have HLT := Lib.hid (fun k => Tic.oct_lt h35 k)
  have HGE := Lib.hid (fun k => Tic.oct_ge h35 k)
  have HI : Hid (into [a, b, c] = if -24 ≤ Tic.oct b c ∧ Tic.oct b c ≤ 24 then some [Tic.oct b c, b, c] else none) := Lib.hid (by
    by_cases h1 : -24 ≤ Tic.oct b c ∧ Tic.oct b c ≤ 24
    · rw [if_pos h1, into_yes h h1]
    · rw [if_neg h1, into_out h1])
  generalize hO : into [a, b, c] = O at HI ⊢
  have hF0 := HW.out 0 (by omega) (by omega) (.inl (by omega)) (.inl (by omega))
  obtain ⟨_, p2, p3, _⟩ := rup_parts hF0.2.2.2.2.2.2.1
  obtain ⟨_, q2, q3, _⟩ := rup_parts (a := -0) (b := -b) (c := -c) hF0.2.2.2.2.2.2.2
  obtain ⟨b1, b2, c1, c2⟩ := h35
  have T3 := Lib.hid (fun w => times_any 3 b w (by omega) (by omega) (by omega) p2)
  have T5 := Lib.hid (fun w => times_any 5 c w (by omega) (by omega) (by omega) p3)
  have U3 := Lib.hid (fun w => times_any 3 (-b) w (by omega) (by omega) (by omega) q2)
  have U5 := Lib.hid (fun w => times_any 5 (-c) w (by omega) (by omega) (by omega) q3)
  have fxx := hF0.2.2.2.2.2.2
  obtain ⟨f1, f2⟩ := fxx
  unfold Fits at p2 p3 q2 q3 f1 f2
  have e1 := rup_zero b c
  have e2 := rdn_zero b c
  generalize 3 ^ b.toNat = x3 at *
  generalize 5 ^ c.toNat = x5 at *
  generalize 3 ^ (-b).toNat = y3 at *
  generalize 5 ^ (-c).toNat = y5 at *
  have E1 : Hid ((x3 : Int) * (x5 : Int) = (Tic.rup 0 b c : Int)) := Lib.hid (by rw [e1, Int.natCast_mul])
  have E2 : Hid ((y3 : Int) * (y5 : Int) = (Tic.rdn 0 b c : Int)) := Lib.hid (by rw [e2, Int.natCast_mul])
  obtain ⟨g, m, rfl, _, hg, d0, d1, d2⟩ := hr.three
  have RD := Lib.hid (show w.cell? ⟨g, 1, none⟩ = some (.int .i64 b) ∧ w.cell? ⟨g, 2, none⟩ = some (.int .i64 c) from ⟨d1, d2⟩)
  clear e1 e2 hF0 hr h hO
  generalize Tic.oct b c = o at *
  have w1 := IntWalk.i64_in (-b) (by omega)
  have w2 := IntWalk.i64_in (-c) (by omega)
  go_enter Tryd.func38, Tryd.ntmps38
  go_wp2_with fail
  refine HV.out.mono ?_; rintro e w' ⟨rfl, rfl⟩
  go_wp2_with fail
  have e1 := E1.out
  go_quiet (first | (go_at_call_of 49 (Value.int IntKind.i64 3); exact Calls.quiet_of_same (still_of (T3.out _))) | (go_at_call_of 49 (Value.int IntKind.i64 5); exact Calls.quiet_of_same (still_of (T5.out _))))
  clear e1
  go_wp2_with fail
  have e1 := E2.out
  have RD2 : Hid ((w.drewN nq).cell? ⟨g, 1, none⟩ = some (.int .i64 b) ∧ (w.drewN nq).cell? ⟨g, 2, none⟩ = some (.int .i64 c)) := RD
  have HB : Hid (Below w.heap.size w (w.drewN nq)) := below_drewN (Below.refl _ _) _
  generalize w.drewN nq = W at *
  clear d0 d1 d2
  obtain ⟨d1, d2⟩ := RD2.out
  go_quiet (first | (go_at_call_of 49 (Value.int IntKind.i64 3); exact Calls.quiet_of_same (still_of (U3.out _))) | (go_at_call_of 49 (Value.int IntKind.i64 5); exact Calls.quiet_of_same (still_of (U5.out _))))
  clear e1
  have RD3 : Hid ((W.drewN nq).cell? ⟨g, 1, none⟩ = some (.int .i64 b) ∧ (W.drewN nq).cell? ⟨g, 2, none⟩ = some (.int .i64 c)) := RD2
  have HB2 : Hid (Below w.heap.size w (W.drewN nq)) := below_drewN HB.out _
  generalize W.drewN nq = V at *
  clear RD RD2 HB d1 d2 T3 T5 U3 U5 E1 E2 p2 p3 q2 q3
  go_wp2
  go_loop [5, 6] (fun t5 t6 => ∃ k : Int, k ≤ 0 ∧ (o ≤ k ∨ k = 0) ∧ t6 = .int .i64 k ∧ t5 = .int .i64 (Tic.rdn k b c : Int) ∧ Hid (Tic.rup k b c = Tic.rup 0 b c)) (fun _ t6 => (intOf t6 - o).toNat)
  case atStart => exact ⟨0, Int.le_refl _, .inr rfl, rfl, rfl, rfl⟩
  case round =>
    obtain ⟨k, hk1, hk2, rfl, rfl, hu⟩ := hrel
    have HU := hu
    have hf := HW.out k (by omega) (by omega) (.inl (by omega)) (by omega)
    have fy : Fits (Tic.rdn k b c) := hf.2.2.2.2.2.2.2
    unfold Fits at fy
    have hge := HGE.out k
    rw [hu.out] at hge
    clear hf hu
    obtain ⟨n1, n2⟩ := rdn_next (b := b) (c := c) hk1
    have HN1 := Lib.hid n1
    have HN2 := Lib.hid n2
    clear n1 n2
    generalize hx : Tic.rup 0 b c = x at *
    generalize hy : Tic.rdn k b c = y at *
    have HX := Lib.hid hx
    have HY := Lib.hid hy
    clear hx hy
    by_cases hlt : o < k
    · have hxy := hge.2 hlt
      clear hge
      go_wp2
      go_round
      case rel => exact ⟨k - 1, by omega, .inl (by omega), rfl, by rw [HN1.out]; simp, Lib.hid (by rw [HN2.out, HU.out])⟩
      case measure => simp [intOf]; omega
    · have hxy : ¬ 2 * y ≤ x := fun hh => hlt (hge.1 hh)
      clear hge
      go_wp2
      have HYK : Hid (Tic.rdn k b c = y) := HY
      go_loop [4, 6] (fun t4 t6 => ∃ j : Int, j ≤ o ∧ (0 ≤ j ∨ j = o) ∧ t6 = .int .i64 j ∧ t4 = .int .i64 (Tic.rup j b c : Int) ∧ Hid (Tic.rdn j b c = y)) (fun _ t6 => (o - intOf t6).toNat)
      case atStart => exact ⟨k, by omega, by omega, rfl, by rw [HU.out], HYK⟩
      case round =>
        clear HU HX HY HYK hk1 hk2 hlt hxy HN1 HN2
        obtain ⟨j, hk1, hk2, rfl, rfl, hu⟩ := hrel
        have HU := hu
        have hf := HW.out j (by omega) (by omega) (by omega) (by omega)
        have fx : Fits (Tic.rup j b c) := hf.2.2.2.2.2.2.1
        unfold Fits at fx
        have hge := HLT.out j
        rw [hu.out] at hge
        clear hf hu
        by_cases hlt : j < o
        · have hxy := hge.2 hlt
          obtain ⟨n1, n2⟩ := rup_next (b := b) (c := c) (show 0 ≤ j by omega)
          have HN1 := Lib.hid n1
          have HN2 := Lib.hid n2
          clear n1 n2 hge
          generalize hz : Tic.rup j b c = z at *
          clear hz
          go_wp2
          go_round
          case rel => exact ⟨j + 1, by omega, .inl (by omega), rfl, by rw [HN1.out]; simp, Lib.hid (by rw [HN2.out, HU.out])⟩
          case measure => simp [intOf]; omega
        · have hxy : ¬ Tic.rup j b c < y := fun hh => hlt (hge.1 hh)
          clear hge
          obtain rfl : j = o := by omega
          generalize hz : Tic.rup j b c = z at *
          clear hz
          by_cases hin : -24 ≤ j ∧ j ≤ 24
          · rw [if_pos hin] at HI
            obtain ⟨i1, i2⟩ := hin
            obtain ⟨d1, d2⟩ := RD3.out
            go_wp2_with fail
            refine (inRange_yes _ _ _ _ i1 i2).mono ?_; rintro e w' ⟨rfl, rfl⟩
            go_wp2
            go_region
            all_goals
              have HG : Hid (GivesInto O w (.returned (.tuple #[.slice (some ⟨V.heap.size, 0, none⟩) 3 3, .bool true])) (V.alloc (.cells #[.int .i64 j, .int .i64 b, .int .i64 c] 3)).drew) := by
                rw [HI.out]
                exact ⟨_, rfl, (Row.built3 V j b c HB2.out.size).drew, (HB2.out.alloc HB2.out.size _).drew⟩
              generalize (V.alloc (.cells #[.int .i64 j, .int .i64 b, .int .i64 c] 3)).drew = U at *
              go_wp2
              go_ret2
              exact HG.out
          · rw [if_neg hin] at HI
            have hin2 : j < -24 ∨ 24 < j := by omega
            clear hin
            go_wp2_with fail
            refine (inRange_no _ _ _ _ hin2).mono ?_; rintro e w' ⟨rfl, rfl⟩
            go_wp2
            go_ret2
            rw [HI.out]
            exact ⟨_, rfl, Row.nil _ _, HB2.out⟩
end Go.Proofs.YtpcbplademohnaaDoor
