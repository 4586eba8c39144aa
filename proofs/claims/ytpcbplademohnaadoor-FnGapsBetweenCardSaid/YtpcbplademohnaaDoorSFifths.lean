/-
  The model's chain of fifths, not yet in order, and its comparison.
-/
import Derived.Test.YtpcbplademohnaaDoorFifths
import Derived.Test.YtpcbplademohnaaDoorInto2
import Derived.Test.YtpcbplademohnaaDoorRatio2
namespace Go.Proofs.YtpcbplademohnaaDoor
open Go.RowKit Go.Sort
set_option linter.unusedVariables false
set_option maxRecDepth 20000

theorem ofNat_val {k : Nat} (h : k < 12) : (Fin.ofNat 12 k).val = k := by simp [Fin.ofNat]; omega
theorem tones_at {n i : Nat} (h : i < n) : (Tic.tones n)[i]'(by rw [tones_len]; exact h) = Fin.ofNat 12 i := by simp [Tic.tones]
theorem vecs_tones (n : Nat) : (Tic.tones n).map vec3 = vecs (Tic.tones n) n := by
  have := vecs_all (Tic.tones n)
  rw [tones_len] at this
  exact this.symm
set_option maxHeartbeats 1000000 in
theorem sfifths_any (n : Nat) (w : World) (h2 : n ≤ 12) :
    Calls Tryd.prog 22 #[.int .i64 n] w (GivesLists ((Tic.tones n).map vec3) w) := by
  have HN : Hid (∀ i, i < n → vecs (Tic.tones n) (i + 1) = vecs (Tic.tones n) i ++ [[Tic.oct (i : Int) 0, (i : Int), 0]]) := fun i hi => by
    rw [vecs_next (by rw [tones_len]; exact hi), tones_at hi]
    unfold vec3 Tic.oc
    rw [ofNat_val (by omega)]
  have HL : Hid (∀ i, i ≤ n → (vecs (Tic.tones n) i).length = i) := fun i hi => vecs_len (by rw [tones_len]; exact hi)
  have HV : Hid (∀ i : Nat, i < n → into [0, (i : Int), 0] = some [Tic.oct (i : Int) 0, (i : Int), 0]) := fun i hi => by
    have := Tic.oc_bd (Fin.ofNat 12 i)
    unfold Tic.oc at this
    rw [ofNat_val (by omega)] at this
    exact into_yes (by unfold Tic.Pws; omega) (by omega)
  have HI := Lib.hid (fun v B L w hr => sInto_all v B L w hr)
  rw [vecs_tones]
  have HO := Lib.hid (Lists.made w)
  have HB := Lib.hid ((Below.refl w.heap.size w).alloc (Nat.le_refl _) (.cells #[] 29))
  go_enter Tryd.func22, Tryd.ntmps22
  go_wp2
  generalize w.alloc (.cells #[] 29) = w1 at *
  go_loopw [3, 4] (fun t3 t4 wr => ∃ (i : Nat) (vs : List Value), i ≤ n ∧ t4 = .int .i64 i ∧ Hid (Lists wr w.heap.size t3 vs (vecs (Tic.tones n) i)) ∧ Hid (Below w.heap.size w wr)) (fun _ t4 _ => n - (intOf t4).toNat)
  case atStart => exact ⟨0, [], Nat.zero_le _, rfl, HO, HB⟩
  case round =>
    clear HO HB
    obtain ⟨i, vs, hi, rfl, HO1, HB1⟩ := hrel
    by_cases hlt : i < n
    · have hgz : w.heap.size ≤ wr.heap.size := HB1.out.size
      have HO2 := Lib.hid (HO1.out.alloc (.cells #[.int .i64 0, .int .i64 (i : Int), .int .i64 0] 3))
      have hk := (Below.refl wr.heap.size wr).alloc (Nat.le_refl _) (.cells #[.int .i64 0, .int .i64 (i : Int), .int .i64 0] 3)
      have HB2 := Lib.hid (HB1.out.trans (hk.mono HB1.out.size))
      have HROW := Lib.hid (Row.built3 wr 0 (i : Int) 0 (Nat.le_refl _))
      have HNX := Lib.hid (HN.out i hlt)
      have HVX := Lib.hid (HV.out i hlt)
      have hz2 : (wr.alloc (.cells #[.int .i64 0, .int .i64 (i : Int), .int .i64 0] 3)).heap.size = wr.heap.size + 1 := by simp
      clear hk HO1 HB1
      have HII : Hid (∀ v w, Row w wr.heap.size v [0, (i : Int), 0] → Calls Tryd.prog 38 #[v] w (GivesOk [Tic.oct (i : Int) 0, (i : Int), 0] true w)) := fun v w hr => by
        have := HI.out v _ _ w hr
        rw [HVX.out] at this
        exact this
      go_wp2_with fail
      generalize wr.alloc (.cells #[.int .i64 0, .int .i64 (i : Int), .int .i64 0] 3) = W at *
      refine (HII.out _ _ HROW.out).mono ?_; rintro e w3 ⟨u, rfl, hu, hb3⟩
      have HO2b := Lib.hid (HO2.out.blocks)
      have HO3 := Lib.hid (HO2.out.kept hb3)
      have HB3 := Lib.hid (HB2.out.trans (hb3.mono HB2.out.size))
      have HU := Lib.hid hu
      have hz3 := hb3.size
      clear HO2 HB2 hu hb3 HII HVX HROW HI HV
      generalize Tic.oct (i : Int) 0 = A at *
      obtain ⟨p, m, rfl⟩ := HU.out.len
      have huge : ∀ k, (Value.slice p 3 m).ownBlock = some k → W.heap.size ≤ k ∧ k < w3.heap.size := HU.out.lt
      have HUG := Lib.hid huge
      clear huge
      go_wp2_with (at_builtin; refine wpList_append_list rfl _ _ rfl w.heap.size _ vs _ rfl (HO3.out.alloc _) w3.heap.size 1 (.slice p 3 m) [A, (i : Int), 0] rfl ?c0 ?c1 ?c2 ?c3 ?c4 ?c5 ?c6 ?_)
      case c0 => go_simp
      case c1 => exact (HU.out.alloc _).mono (by omega)
      case c2 => rfl
      case c3 => intro q hq e; have h1 := HUG.out q hq; have h2 := HO2b.out.1 q e; omega
      case c4 => intro q1 q hq1 hq e; have h1 := HUG.out q e; have h2 := HO2b.out.2 q1 q hq1 hq; omega
      case c5 => rw [HL.out i hi]; omega
      case c6 => simp; omega
      intro v' w4 hl4 hb4 hg4 hk4
      have HL4 : Hid (Lists w4 w.heap.size v' (vs ++ [.slice p 3 m]) (vecs (Tic.tones n) (i + 1))) := Lib.hid (by rw [HNX.out]; exact hl4)
      have hk5 := (Below.refl w3.heap.size w3).alloc (Nat.le_refl _) (.cells #[.slice p 3 m] 29)
      have HB4 : Hid (Below w.heap.size w w4) := Lib.hid ((HB3.out.trans (hk5.mono HB3.out.size)).trans hb4)
      clear hl4 hb4 hg4 hk4 hk5 HO3 HB3
      go_wp2
      go_roundw
      case rel => exact ⟨i + 1, _, by omega, by go_num, HL4, HB4⟩
      case measure => simp [intOf]; omega
    · obtain rfl : i = n := by omega
      go_wp2
      go_ret
      exact ⟨_, vs, rfl, HO1.out, HB1.out⟩
end Go.Proofs.YtpcbplademohnaaDoor
