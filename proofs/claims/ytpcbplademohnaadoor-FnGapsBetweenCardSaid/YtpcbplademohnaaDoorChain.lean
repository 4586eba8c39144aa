/-
  The tones of a chain of fifths, made and sorted.
-/
import Derived.Test.YtpcbplademohnaaDoorRats
import Derived.Test.YtpcbplademohnaaDoorOctaves
import Derived.Deep.Cut
namespace Go.Proofs.YtpcbplademohnaaDoor
open Go.RowKit Go.Sort
set_option linter.unusedVariables false
set_option maxRecDepth 20000

def zero5 : List Value := [.int .i64 0, .int .i64 0, .int .i64 0, .int .i64 0, .int .i64 0]
/-- the first k tones, and zeros -/
def made (n k : Nat) : List (List Value) := (Tic.tones k).map encR ++ List.replicate (n - k) zero5
theorem tones_len (k : Nat) : (Tic.tones k).length = k := by simp [Tic.tones]
theorem made_len {n k : Nat} (h : k ≤ n) : (made n k).length = n := by simp [made, tones_len]; omega
theorem made_all (n k : Nat) : ∀ m ∈ made n k, m.length = 5 := fun m hm => by
  rcases List.mem_append.1 hm with h | h
  · exact encR_all _ m h
  · rw [(List.mem_replicate.1 h).2]; rfl
theorem made_zero (n : Nat) : made n 0 = List.replicate n zero5 := by simp [made, Tic.tones]
theorem made_full (n : Nat) : made n n = (Tic.tones n).map encR := by simp [made]
theorem made_set {n k : Nat} (h : k < n) : (made n k).set k (encR (Fin.ofNat 12 k)) = made n (k + 1) := by
  unfold made
  have e : n - k = (n - (k + 1)) + 1 := by omega
  have hl : ((Tic.tones k).map encR).length = k := by simp [tones_len]
  rw [e, List.replicate_succ, List.set_append_right _ _ (by omega), hl, Nat.sub_self, List.set_cons_zero]
  simp [Tic.tones, List.range_succ]
theorem made_cells (n : Nat) : (madeCells #[.int .i64 0, .int .i64 0, .int .i64 0, .int .i64 0, .int .i64 0] (n * 5)).toList = (made n 0).flatten := by
  rw [made_zero]
  have h0 : zero5 = List.replicate 5 (Value.int .i64 0) := rfl
  rw [h0, List.flatten_replicate_replicate]
  apply List.ext_getElem?
  intro j
  by_cases hj : j < n * 5
  · rw [List.getElem?_replicate_of_lt hj]
    have hm : j % 5 < 5 := Nat.mod_lt _ (by decide)
    have : ∀ r, r < 5 → (#[Value.int .i64 0, .int .i64 0, .int .i64 0, .int .i64 0, .int .i64 0] : Array Value)[r]! = .int .i64 0 := fun r hr => by
      match r, hr with
      | 0, _ => rfl
      | 1, _ => rfl
      | 2, _ => rfl
      | 3, _ => rfl
      | 4, _ => rfl
    have h2 := this _ hm
    unfold madeCells
    rw [Array.getElem?_toList, Array.getElem?_map, Array.getElem?_range, if_pos hj]
    exact congrArg some h2
  · rw [List.getElem?_eq_none (by simpa [madeCells] using hj), List.getElem?_eq_none (by simpa using hj)]
theorem info_ratio : (Tryd.prog.info? 43).map (fun i => (i.zero, i.size, i.bytes)) = some (some (.agg #[.int .i64 0, .int .i64 0, .int .i64 0, .int .i64 0, .int .i64 0]), 5, 40) := by kernel_rfl
theorem wpList_make_rats {ops : Array Oper} {rest : List Oper} {o : Oper} {a : Act} {Q : Exit → Act → World → Prop} {w : World} (hg : o.guard = none) (l c : Operand) (hop : o.op = Op.makeSlice 38 l c)
    (B : Nat) (X Y : Int) (m : Nat) (hl : a.eval l = .int .i64 X) (hc : a.eval c = .int .i64 Y) (hX : X = (m : Int)) (hY : Y = (m : Int)) (hm : m ≤ 16) (hB : B ≤ w.heap.size)
    (hK : ∀ w', Rats w' B (.slice (some ⟨w.heap.size, 0, none⟩) m m) (made m 0) → Below w.heap.size w w' → wpList Tryd.prog ops Q rest (a.put o.dst (.slice (some ⟨w.heap.size, 0, none⟩) m m)) w') :
    wpList Tryd.prog ops Q (o :: rest) a w := by
  obtain ⟨i0, hi, hz0, hz1, hz2⟩ := info_parts info_ratio
  refine wpList_make_full w hg l c 38 hop B 43 i0 _ 5 Tryd.underlying38 hi hz0 hz1 .i64 .i64 X Y m hl hc hX hY (by rw [hz2]; omega) (by unfold maxLen; omega) hB ?_
  intro w' hown hgr
  refine hK w' ⟨?_, by rw [made_len (Nat.zero_le _)]; exact hm, made_all _ _⟩ ((Below.refl _ _).grown hgr (Nat.le_refl _) (fun k hk => by cases hk))
  rw [made_len (Nat.zero_le _), ← made_cells]
  exact hown
set_option maxHeartbeats 400000 in
theorem chainOf_any (n : Nat) (w : World) (hp : Primes w) (h1 : 1 ≤ n) (h2 : n ≤ 12) :
    Calls Tryd.prog 25 #[.int .i64 n] w fun e w' => ∃ v, e = .returned v ∧ Rats w' w.heap.size v ((Tic.chain n).map encR) ∧ Below w.heap.size w w' := by
  have HP := Lib.hid (fun (W : World) hW => Primes.kept (w := w) (w' := W) hp hW)
  go_enter Tryd.func25, Tryd.ntmps25
  go_wp2_with (at_make; refine wpList_make_rats rfl _ _ rfl w.heap.size _ _ n rfl rfl ?c1 ?c2 ?c3 (Nat.le_refl _) ?_)
  case c1 => rfl
  case c2 => rfl
  case c3 => omega
  intro w1 hrow hb1
  have HR0 := Lib.hid hrow
  clear hrow hp
  go_wp2
  go_loopw [9] (fun t9 wr => ∃ k : Nat, k ≤ n ∧ t9 = .int .i64 k ∧ Hid (Rats wr w.heap.size (.slice (some ⟨w.heap.size, 0, none⟩) n n) (made n k)) ∧ Hid (Below w.heap.size w wr)) (fun t9 _ => n - (intOf t9).toNat)
  case atStart => exact ⟨0, Nat.zero_le _, rfl, HR0, hb1⟩
  case round =>
    obtain ⟨k, hk, rfl, HR, HB⟩ := hrel
    by_cases hlt2 : k < n
    · have HW : Hid (∀ w, Primes w → Calls Tryd.prog 36 #[.agg #[.int .i64 0, .int .i64 (k : Int), .int .i64 0]] w fun e w' => e = .returned (.agg #[.int .i64 (Tic.oc (Fin.ofNat 12 k)), .int .i64 (k : Int), .int .i64 0, .int .i64 (Tic.fu (Fin.ofNat 12 k) : Int), .int .i64 (Tic.fd (Fin.ofNat 12 k) : Int)]) ∧ Below w.heap.size w w') := fun w hw => by
        have := within_any 0 (k : Int) 0 w hw (by omega) (by unfold Tic.P35; omega)
        have e : ((Fin.ofNat 12 k).val : Int) = k := by simp [Fin.ofNat]; omega
        unfold rtO rtV at this
        unfold Tic.fu Tic.fd Tic.oc
        rw [e]
        exact this
      obtain ⟨g, cap, e, hg, hgl, hcap, hcell⟩ := HR.out.cases (by rw [made_len hk]; omega)
      simp only [Value.slice.injEq, Option.some.injEq, Addr.mk.injEq, and_true] at e
      obtain ⟨rfl, -⟩ := e
      rw [made_len hk] at hcell
      have hp5 : ∀ j, j < 5 → ∃ u, wr.cell? ⟨w.heap.size, k * 5 + j, none⟩ = some u ∧ wr.frozen? ⟨w.heap.size, k * 5 + j, none⟩ = false := fun j hj => by
        have := hcell k j hlt2 hj
        have hm := made_all n k ((made n k).getD k []) (by rw [List.getD_eq_getElem?_getD, List.getElem?_eq_getElem (by rw [made_len hk]; exact hlt2)]; exact List.getElem_mem _)
        rw [List.getElem?_eq_getElem (by rw [hm]; exact hj)] at this
        exact ⟨_, this⟩
      obtain ⟨u0, c0, f0⟩ := hp5 0 (by decide)
      obtain ⟨u1, c1, f1⟩ := hp5 1 (by decide)
      obtain ⟨u2, c2, f2⟩ := hp5 2 (by decide)
      obtain ⟨u3, c3, f3⟩ := hp5 3 (by decide)
      obtain ⟨u4, c4, f4⟩ := hp5 4 (by decide)
      rw [Nat.add_zero] at c0 f0
      clear hcell hp5 hcap hg
      have HL := Lib.hid hgl
      have HPW := Lib.hid (HP.out _ HB.out)
      clear hgl
      go_upto_region 5 with fail
      go_wp2_with fail
      refine (HW.out _ (by exact HPW.out)).mono ?_; rintro e w3 ⟨rfl, hb⟩
      have d0 := (hb.cell (p := ⟨w.heap.size, k * 5, none⟩) HL.out).trans c0
      have d1 := (hb.cell (p := ⟨w.heap.size, k * 5 + 1, none⟩) HL.out).trans c1
      have d2 := (hb.cell (p := ⟨w.heap.size, k * 5 + 2, none⟩) HL.out).trans c2
      have d3 := (hb.cell (p := ⟨w.heap.size, k * 5 + 3, none⟩) HL.out).trans c3
      have d4 := (hb.cell (p := ⟨w.heap.size, k * 5 + 4, none⟩) HL.out).trans c4
      have g0 := (hb.frozen (p := ⟨w.heap.size, k * 5, none⟩) HL.out).trans f0
      have g1 := (hb.frozen (p := ⟨w.heap.size, k * 5 + 1, none⟩) HL.out).trans f1
      have g2 := (hb.frozen (p := ⟨w.heap.size, k * 5 + 2, none⟩) HL.out).trans f2
      have g3 := (hb.frozen (p := ⟨w.heap.size, k * 5 + 3, none⟩) HL.out).trans f3
      have g4 := (hb.frozen (p := ⟨w.heap.size, k * 5 + 4, none⟩) HL.out).trans f4
      have HR3 := rats_put (HR.out.kept hb) (made_len hk) hlt2 (.int .i64 (Tic.oc (Fin.ofNat 12 k))) (.int .i64 (k : Int)) (.int .i64 0) (.int .i64 (Tic.fu (Fin.ofNat 12 k) : Int)) (.int .i64 (Tic.fd (Fin.ofNat 12 k) : Int))
      have he : [Value.int .i64 (Tic.oc (Fin.ofNat 12 k)), .int .i64 (k : Int), .int .i64 0, .int .i64 (Tic.fu (Fin.ofNat 12 k) : Int), .int .i64 (Tic.fd (Fin.ofNat 12 k) : Int)] = encR (Fin.ofNat 12 k) := by
        have e : (Fin.ofNat 12 k).val = k := by simp [Fin.ofNat]; omega
        unfold encR
        rw [e]
      rw [he, made_set hlt2] at HR3
      have HRN := Lib.hid HR3
      have HB3 := Lib.hid (((((((HB.out.trans (hb.mono HB.out.size)).setCell (p := ⟨w.heap.size, k * 5, none⟩) (Nat.le_refl _) (.int .i64 (Tic.oc (Fin.ofNat 12 k)))).setCell (p := ⟨w.heap.size, k * 5 + 1, none⟩) (Nat.le_refl _) (.int .i64 (k : Int))).setCell (p := ⟨w.heap.size, k * 5 + 2, none⟩) (Nat.le_refl _) (.int .i64 0)).setCell (p := ⟨w.heap.size, k * 5 + 3, none⟩) (Nat.le_refl _) (.int .i64 (Tic.fu (Fin.ofNat 12 k) : Int))).setCell (p := ⟨w.heap.size, k * 5 + 4, none⟩) (Nat.le_refl _) (.int .i64 (Tic.fd (Fin.ofNat 12 k) : Int))))
      clear c0 c1 c2 c3 c4 f0 f1 f2 f3 f4 HR HB hb HW HR3 he
      generalize Tic.oc (Fin.ofNat 12 k) = A at *
      generalize Tic.fu (Fin.ofNat 12 k) = U at *
      generalize Tic.fd (Fin.ofNat 12 k) = D at *
      go_upto_region 6 with fail
      go_wp2
      go_roundw
      case rel => exact ⟨k + 1, by omega, by go_num, HRN, HB3⟩
      case measure => simp [intOf]; omega
    · have : k = n := by omega
      subst this
      have HR1 := HR.out
      rw [made_full] at HR1
      have hgl : w.heap.size < wr.heap.size := by
        obtain ⟨g, cap, e, _, hl, _⟩ := HR1.cases (by rw [List.length_map, tones_len]; omega)
        rw [List.length_map, tones_len] at e
        simp only [Value.slice.injEq, Option.some.injEq, Addr.mk.injEq, and_true, true_and] at e
        rw [e.1]; exact hl
      have hs := sortChain_any w.heap.size k k wr (holdsK_rats (B := w.heap.size) (cap := k) (by rw [tones_len]; exact HR1)) hgl h1 h2
      have HF := Lib.hid (fun kk os => rats_sorted (k := kk) (os := os) (L' := Tic.chain k) (L := Tic.tones k) (B := w.heap.size) (w := wr) (g := w.heap.size) (cap := k) (by rw [Tic.chain_len h2, tones_len]) (by rw [tones_len]; exact HR1))
      have HS := Lib.hid hs
      clear hs HR1 HR
      go_wp2_with fail
      refine HS.out.mono ?_; rintro e w4 ⟨rfl, q, os, rfl⟩
      obtain ⟨r1, r2⟩ := HF.out q os
      rw [tones_len] at r1
      have HB4 : Hid (Below w.heap.size w (sortWorldK encR 5 wr w.heap.size 0 q (Tic.chain k).toArray os)) := Lib.hid (HB.out.grown r2 HB.out.size (fun j hj => by cases hj; exact Nat.le_refl _))
      have HR4 := Lib.hid r1
      clear r1 r2
      generalize sortWorldK encR 5 wr w.heap.size 0 q (Tic.chain k).toArray os = W at *
      go_wp2
      go_ret
      exact ⟨_, rfl, HR4.out, HB4.out⟩
end Go.Proofs.YtpcbplademohnaaDoor
