/-
  The tones of a chain of fifths as the program holds them: compared, and sorted in place.
-/
import Derived.Test.YtpcbplademohnaaDoorChainNum
import Derived.Test.YtpcbplademohnaaDoorLeft
import Derived.Test.YtpcbplademohnaaDoorSortShelf
namespace Go.Proofs.YtpcbplademohnaaDoor
open Go.RowKit Go.Sort
set_option linter.unusedVariables false
set_option maxRecDepth 20000

/-- a tone's five cells -/
def encR (x : Fin 12) : List Value := [.int .i64 (Tic.oc x), .int .i64 (x.val : Int), .int .i64 0, .int .i64 (Tic.fu x : Int), .int .i64 (Tic.fd x : Int)]
def cfR (x y : Fin 12) : Int := cmp3 (Tic.fu x * Tic.fd y : Nat) (Tic.fu y * Tic.fd x : Nat)
theorem ltOf_cfR : ltOf cfR = Tic.less := by
  funext x y
  unfold ltOf cfR cmp3 Tic.less
  generalize Tic.fu x * Tic.fd y = p
  generalize Tic.fu y * Tic.fd x = q
  apply decide_eq_decide.2
  split
  · omega
  · split <;> omega
set_option maxHeartbeats 400000 in
theorem compare_grown (a b c a' b' c' : Int) (x y x' y' : Nat) (w : World) (h1 : x * y' < 1152921504606846976) (h2 : x' * y < 1152921504606846976) :
    Calls Tryd.prog 41 #[rtV a b c x y, rtV a' b' c' x' y'] w fun e w' => e = .returned (.int .i64 (cmp3 (x * y' : Nat) (x' * y : Nat))) ∧ ∃ q os', w' = grow (w.drewN q) os' := by
  unfold rtV
  have e1 : (x : Int) * (y' : Int) = ((x * y' : Nat) : Int) := (Int.natCast_mul _ _).symm
  have e2 : (x' : Int) * (y : Int) = ((x' * y : Nat) : Int) := (Int.natCast_mul _ _).symm
  generalize x * y' = p at *
  generalize x' * y = q at *
  have E1 := Lib.hid e1
  have E2 := Lib.hid e2
  have w1 := IntWalk.i64_in (p : Int) (by omega)
  have w2 := IntWalk.i64_in (q : Int) (by omega)
  have HC := Lib.hid (fun w => cmpInt_any p q w)
  generalize cmp3 p q = r at HC ⊢
  have hB2 := (Below.refl _ (w.alloc (.cells #[.int .i64 a, .int .i64 b, .int .i64 c, .int .i64 x, .int .i64 y] 43))).alloc (Nat.le_refl _) (.cells #[.int .i64 a', .int .i64 b', .int .i64 c', .int .i64 x', .int .i64 y'] 43)
  have R1 := (Rt.new w a b c x y 43).kept hB2 (by simp)
  have R2 := Rt.new (w.alloc (.cells #[.int .i64 a, .int .i64 b, .int .i64 c, .int .i64 x, .int .i64 y] 43)) a' b' c' x' y' 43
  have HG : Hid (∃ q os', (w.alloc (.cells #[.int .i64 a, .int .i64 b, .int .i64 c, .int .i64 x, .int .i64 y] 43)).alloc (.cells #[.int .i64 a', .int .i64 b', .int .i64 c', .int .i64 x', .int .i64 y'] 43) = grow (w.drewN q) os') := Lib.hid ⟨0, _, by rw [alloc_eq_grow, alloc_eq_grow, grow_grow]; rfl⟩
  simp only [World.size_alloc] at R2
  obtain ⟨_, _, _, c3, c4, _⟩ := R1
  obtain ⟨_, _, _, d3, d4, _⟩ := R2
  clear hB2 e1 e2
  go_enter Tryd.func41, Tryd.ntmps41
  have e1 := E1.out
  have e2 := E2.out
  go_wp2_with fail
  clear e1 e2
  refine (HC.out _).mono ?_; rintro e w3 ⟨rfl, rfl⟩
  go_wp2
  go_ret
  exact ⟨rfl, HG.out⟩
theorem chain_lays (blk off size : Nat) (w : World) : CmpLays Tryd.prog 41 #[] encR 5 cfR blk off size w :=
  fun _ _ _ _ x y => compare_grown (Tic.oc x) x.val 0 (Tic.oc y) y.val 0 (Tic.fu x) (Tic.fd x) (Tic.fu y) (Tic.fd y) _ (Tic.fud_lt x y) (Tic.fud_lt y x)
theorem len_small (n : Nat) (W : World) (h : n ≤ 12) : Calls Tryd.prog 51 #[.int .u64 n] W fun e w' => (∃ l : Int, e = .returned (.int .i64 l)) ∧ w' = W :=
  (Tryd.bits_Len n W (by omega) (by omega)).mono fun _ _ ⟨he, hw⟩ => ⟨⟨_, he⟩, hw⟩
/-- the tones made, in order -/
theorem sortChain_any (g n cap : Nat) (w : World) (hH : HoldsK encR 5 w g 0 (Tic.tones n).toArray) (hg : g < w.heap.size) (h1 : 1 ≤ n) (h2 : n ≤ 12) :
    Calls Tryd.prog 40 #[.slice (some ⟨g, 0, none⟩) n cap, .func (.func 41) #[] #[]] w fun e w' => e = .returned (.tuple #[]) ∧ ∃ k os, w' = sortWorldK encR 5 w g 0 k (Tic.chain n).toArray os := by
  have eg : ∀ args w, (callFunc 41 args).run Tryd.prog w = .ok (.enter 41 args) w := enters_of Tryd.func41 (by kernel_rfl) rfl
  have hs : (Tic.tones n).toArray.size = n := by simp [Tic.tones]
  have hcon := AnyQ.slices_SortFunc_small Tryd.sortRatio 5 Tryd.isAgg43 Tryd.sizeOf43 encR (fun _ => rfl) (fun x v hv => by simp [encR] at hv; rcases hv with rfl | rfl | rfl | rfl | rfl <;> rfl) cfR 41 #[] g 0 cap (Tic.tones n).toArray w eg (chain_lays g 0 _ w) hH hg (by omega) len_small
  rw [ltOf_cfR, hs, Tic.chain_sort h1 h2] at hcon
  exact hcon
end Go.Proofs.YtpcbplademohnaaDoor
