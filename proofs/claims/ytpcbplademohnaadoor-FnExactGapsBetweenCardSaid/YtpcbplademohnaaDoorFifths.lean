/-
  The contract of the program's FifthsOf.
-/
import Derived.Test.YtpcbplademohnaaDoorChain
import Derived.Test.YtpcbplademohnaaDoorLists
import Derived.Test.YtpcbplademohnaaDoorOver
import Derived.Test.YtpcbplademohnaaDoorSteps
import Derived.Test.YtpcbplademohnaaDoorRatio
namespace Go.Proofs.YtpcbplademohnaaDoor
open Go.RowKit Go.Sort
set_option linter.unusedVariables false
set_option maxRecDepth 20000

/-- a tone's powers -/
def vec3 (x : Fin 12) : List Int := [Tic.oc x, (x.val : Int), 0]
/-- the powers of the first i tones of a list -/
def vecs (C : List (Fin 12)) (i : Nat) : List (List Int) := (C.take i).map vec3
theorem vecs_len {C : List (Fin 12)} {i : Nat} (h : i ≤ C.length) : (vecs C i).length = i := by simp [vecs]; omega
theorem vecs_next {C : List (Fin 12)} {i : Nat} (h : i < C.length) : vecs C (i + 1) = vecs C i ++ [vec3 C[i]] := by
  unfold vecs
  rw [List.take_succ_eq_append_getElem h, List.map_append]
  rfl
theorem vecs_all (C : List (Fin 12)) : vecs C C.length = C.map vec3 := by simp [vecs]
set_option maxHeartbeats 1000000 in
theorem iFifths_yes (n : Nat) (w : World) (hp : Primes w) (h1 : 1 ≤ n) (h2 : n ≤ 12) :
    Calls Tryd.prog 8 #[.int .i64 n] w (GivesLists ((Tic.chain n).map vec3) w) := by
  have HC := Lib.hid (fun w hw => chainOf_any n w hw h1 h2)
  have hcl := Tic.chain_len h2
  have HP := Lib.hid (fun (W : World) hW => Primes.kept (w := w) (w' := W) hp hW)
  clear hp
  generalize Tic.chain n = C at *
  have HCL := Lib.hid hcl
  go_enter Tryd.func8, Tryd.ntmps8
  go_wp2_with fail
  refine (parts_yes _ _ (by omega) (by omega)).mono ?_; rintro e w' ⟨rfl, rfl⟩
  go_wp2_with fail
  refine (HC.out _ (HP.out _ (Below.refl _ _))).mono ?_; rintro e w1 ⟨v, rfl, hr, hb⟩
  obtain ⟨g, cap, rfl, hg, hgl, hcap, hcell⟩ := hr.cases (by rw [List.length_map]; omega)
  rw [List.length_map, hcl]
  rw [List.length_map, hcl] at hr hcell hcap
  have HR := Lib.hid hr
  have HB := Lib.hid hb
  have HO := Lib.hid (Lists.nil w1 w.heap.size)
  clear hr hb hcell HC
  go_wp2
  go_loopw [3, 12] (fun t3 t12 wr => ∃ (i : Nat) (vs : List Value), i ≤ n ∧ t12 = .int .i64 i ∧ Hid (Lists wr w.heap.size t3 vs (vecs C i)) ∧ Hid (Rats wr w.heap.size (.slice (some ⟨g, 0, none⟩) n cap) (C.map encR)) ∧ t3.ownBlock ≠ some g ∧ Hid (Below w.heap.size w wr)) (fun _ t12 _ => n - (intOf t12).toNat)
  case atStart => exact ⟨0, [], Nat.zero_le _, rfl, HO, HR, by simp [Value.ownBlock], HB⟩
  case round =>
    obtain ⟨i, vs, hi, rfl, HO1, HR1, hne, HB1⟩ := hrel
    by_cases hlt : i < n
    · have hc := HR1.out.cases (by rw [List.length_map]; omega)
      obtain ⟨g', cap', e, hg', hgl', hcap', hcell⟩ := hc
      simp only [Value.slice.injEq, Option.some.injEq, Addr.mk.injEq, and_true] at e
      obtain ⟨rfl, -⟩ := e
      have hx : (C.map encR).getD i [] = encR C[i] := by rw [List.getD_eq_getElem?_getD, List.getElem?_eq_getElem (by rw [List.length_map]; omega)]; simp
      rw [List.length_map, hcl] at hcell
      have c0 : wr.cell? ⟨g, i * 5, none⟩ = some (.int .i64 (Tic.oc C[i])) := by have := (hcell i 0 hlt (by decide)).1; rw [hx, Nat.add_zero] at this; exact this
      have c1 : wr.cell? ⟨g, i * 5 + 1, none⟩ = some (.int .i64 (C[i].val : Int)) := by have := (hcell i 1 hlt (by decide)).1; rw [hx] at this; exact this
      have c2 : wr.cell? ⟨g, i * 5 + 2, none⟩ = some (.int .i64 0) := by have := (hcell i 2 hlt (by decide)).1; rw [hx] at this; exact this
      have c3 : wr.cell? ⟨g, i * 5 + 3, none⟩ = some (.int .i64 (Tic.fu C[i] : Int)) := by have := (hcell i 3 hlt (by decide)).1; rw [hx] at this; exact this
      have c4 : wr.cell? ⟨g, i * 5 + 4, none⟩ = some (.int .i64 (Tic.fd C[i] : Int)) := by have := (hcell i 4 hlt (by decide)).1; rw [hx] at this; exact this
      have HNX := Lib.hid (vecs_next (C := C) (i := i) (by omega))
      unfold vec3 at HNX
      generalize C[i] = x at *
      clear hcell hx hcap'
      have HO2 := Lib.hid (HO1.out.alloc (.cells #[.int .i64 (Tic.oc x), .int .i64 (x.val : Int), .int .i64 0, .int .i64 (Tic.fu x : Int), .int .i64 (Tic.fd x : Int)] 43))
      have hk := (Below.refl wr.heap.size wr).alloc (Nat.le_refl _) (.cells #[.int .i64 (Tic.oc x), .int .i64 (x.val : Int), .int .i64 0, .int .i64 (Tic.fu x : Int), .int .i64 (Tic.fd x : Int)] 43)
      have HR2 := Lib.hid (HR1.out.kept hk)
      have HB2 := Lib.hid (HB1.out.trans (hk.mono HB1.out.size))
      have hz2 : (wr.alloc (.cells #[.int .i64 (Tic.oc x), .int .i64 (x.val : Int), .int .i64 0, .int .i64 (Tic.fu x : Int), .int .i64 (Tic.fd x : Int)] 43)).heap.size = wr.heap.size + 1 := by simp
      obtain ⟨d0, d1, d2, d3, d4, _⟩ := Rt.new wr (Tic.oc x) (x.val : Int) 0 (Tic.fu x : Int) (Tic.fd x : Int) 43
      have HPL := Lib.hid (fun w => plist_any (Tic.oc x) (x.val : Int) 0 w)
      unfold pwV at HPL
      have hgz : w.heap.size ≤ wr.heap.size := HB1.out.size
      clear HO1 HR1 HB1 hk
      go_upto_region 7 with fail
      clear c0 c1 c2 c3 c4
      generalize Tic.oc x = A at *
      generalize (x.val : Int) = X at *
      generalize Tic.fu x = U at *
      generalize Tic.fd x = D at *
      generalize wr.alloc (.cells #[.int .i64 A, .int .i64 X, .int .i64 0, .int .i64 (U : Int), .int .i64 (D : Int)] 43) = W at *
      go_wp2_with fail
      refine (HPL.out _).mono ?_; rintro e w3 ⟨u, rfl, hu, hb3⟩
      have HO2b := Lib.hid (HO2.out.blocks)
      have HO3 := Lib.hid (HO2.out.kept hb3)
      have HR3 := Lib.hid (HR2.out.kept hb3)
      have HB3 := Lib.hid (HB2.out.trans (hb3.mono HB2.out.size))
      have HU := Lib.hid hu
      have hz3 := hb3.size
      have hgW : g < w3.heap.size := by omega
      clear HO2 HR2 HB2 hu hb3 d0 d1 d2 d3 d4
      obtain ⟨p, m, rfl⟩ := HU.out.len
      have huge : ∀ k, (Value.slice p 3 m).ownBlock = some k → W.heap.size ≤ k ∧ k < w3.heap.size := HU.out.lt
      have HUG := Lib.hid huge
      clear huge
      go_wp2_with (at_builtin; refine wpList_append_list rfl _ _ rfl w.heap.size _ vs _ rfl (HO3.out.alloc _) w3.heap.size 1 (.slice p 3 m) [A, X, 0] rfl ?c0 ?c1 ?c2 ?c3 ?c4 ?c5 ?c6 ?_)
      case c0 => go_simp
      case c1 => exact (HU.out.alloc _).mono (by omega)
      case c2 => rfl
      case c3 => intro q hq e; have h1 := HUG.out q hq; have h2 := HO2b.out.1 q e; omega
      case c4 => intro q1 q hq1 hq e; have h1 := HUG.out q e; have h2 := HO2b.out.2 q1 q hq1 hq; omega
      case c5 => rw [vecs_len (by omega)]; omega
      case c6 => simp; omega
      intro v' w4 hl4 hb4 hg4 hk4
      have HL4 : Hid (Lists w4 w.heap.size v' (vs ++ [.slice p 3 m]) (vecs C (i + 1))) := Lib.hid (by rw [HNX.out]; exact hl4)
      have hne4 : v'.ownBlock ≠ some g := by
        rcases hk4 with q | q
        · rw [q]; exact hne
        · rw [q]; simp; omega
      have hk5 := (Below.refl w3.heap.size w3).alloc (Nat.le_refl _) (.cells #[.slice p 3 m] 29)
      have HR4 : Hid (Rats w4 w.heap.size (.slice (some ⟨g, 0, none⟩) n cap) (C.map encR)) := Lib.hid ⟨(HR3.out.kept hk5).1.kept hg4 (.inr (fun e => hne (by first | exact e.symm | exact e))), HR3.out.2⟩
      have HB4 : Hid (Below w.heap.size w w4) := Lib.hid ((HB3.out.trans (hk5.mono HB3.out.size)).trans hb4)
      clear hl4 hb4 hg4 hk4 hk5 HO3 HR3 HB3
      go_wp2
      go_roundw
      case rel => exact ⟨i + 1, _, by omega, by go_num, HL4, HR4, hne4, HB4⟩
      case measure => simp [intOf]; omega
    · obtain rfl : i = n := by omega
      go_wp2
      go_ret
      exact ⟨_, vs, rfl, by have := HO1.out; rw [← HCL.out, vecs_all] at this; exact this, HB1.out⟩
theorem iFifths_no (n : Int) (w : World) (h : n < 1 ∨ 12 < n) : Calls Tryd.prog 8 #[.int .i64 n] w (GivesLists [] w) := by
  go_enter Tryd.func8, Tryd.ntmps8
  go_wp2_with fail
  refine (parts_no _ _ h).mono ?_; rintro e w' ⟨rfl, rfl⟩
  go_wp2
  go_ret
  exact ⟨_, _, rfl, Lists.nil _ _, Below.refl _ _⟩
end Go.Proofs.YtpcbplademohnaaDoor
