/-
  Plain mathematics of shortest ways between triads: the model's search by length, the program's search by rounds, and that both find the same.
-/
import Derived.Test.YtjlbgccffpkmiaaTriNum
namespace Go.Proofs.Ytjlbgccffpkmiaa.Tic
set_option linter.unusedVariables false

/-- the three steps as a table on numbers -/
def stL : List Nat := [9, 16, 11, 18, 13, 20, 15, 22, 17, 0, 19, 2, 21, 4, 23, 6, 1, 8, 3, 10, 5, 12, 7, 14]
def stR : List Nat := [19, 6, 21, 8, 23, 10, 1, 12, 3, 14, 5, 16, 7, 18, 9, 20, 11, 22, 13, 0, 15, 2, 17, 4]
def stP (t : Nat) : Nat := if t % 2 = 0 then t + 1 else t - 1
def stN (t c : Nat) : Nat := if c = 76 then stL.getD t 0 else if c = 80 then stP t else stR.getD t 0
theorem stN_L : ∀ t : Fin 24, stp t.val 76 = stN t.val 76 := by decide
theorem stN_P : ∀ t : Fin 24, stp t.val 80 = stN t.val 80 := by decide
theorem stN_R : ∀ t : Fin 24, stp t.val 82 = stN t.val 82 := by decide
theorem stN_eq {t c : Nat} (ht : t < 24) (hc : Ltr c) : stp t c = stN t c := by
  rcases hc with rfl | rfl | rfl
  · exact stN_L ⟨t, ht⟩
  · exact stN_P ⟨t, ht⟩
  · exact stN_R ⟨t, ht⟩
theorem stN_lt {t c : Nat} (ht : t < 24) (hc : Ltr c) : stN t c < 24 := by
  have h1 := stN_eq ht hc
  have h2 := (stp_tri t c).2
  omega

/-- the first steps, of a number, from a triad to another one -/
def wf : Nat → Nat → Nat → Option (List UInt8)
  | 0, a, b => if a = b then some [] else none
  | n + 1, a, b =>
    match wf n (stN a 76) b with
    | some x => some (76 :: x)
    | none => match wf n (stN a 80) b with
      | some x => some (80 :: x)
      | none => match wf n (stN a 82) b with
        | some x => some (82 :: x)
        | none => none
def wfJ : Option (List UInt8) → Option (List UInt8) → Option (List UInt8) → Option (List UInt8)
  | some x, _, _ => some (76 :: x)
  | none, some x, _ => some (80 :: x)
  | none, none, some x => some (82 :: x)
  | none, none, none => none
theorem wf_succ (n a b : Nat) : wf (n + 1) a b = wfJ (wf n (stN a 76) b) (wf n (stN a 80) b) (wf n (stN a 82) b) := by
  conv => lhs; unfold wf
  cases wf n (stN a 76) b <;> cases wf n (stN a 80) b <;> cases wf n (stN a 82) b <;> rfl
theorem wf_len : ∀ n a b x, wf n a b = some x → x.length = n
  | 0, a, b, x, h => by
    unfold wf at h
    split at h
    · cases h; rfl
    · cases h
  | n + 1, a, b, x, h => by
    unfold wf at h
    split at h
    · cases h; rename_i y hy; simp [wf_len n _ _ _ hy]
    · split at h
      · cases h; rename_i y hy; simp [wf_len n _ _ _ hy]
      · split at h
        · cases h; rename_i y hy; simp [wf_len n _ _ _ hy]
        · cases h
/-- how many steps the shortest way has -/
def dist (a b : Nat) : Nat := ((List.range 6).find? (fun n => (wf n a b).isSome)).getD 0
def way (a b : Nat) : List UInt8 := (wf (dist a b) a b).getD []

/-- the program's search: what is reached, and the ways -/
def bstep (src cur : Nat) (x : List Nat × List (List UInt8)) (c : Nat) : List Nat × List (List UInt8) :=
  if stN cur c = src ∨ x.2.getD (stN cur c) [] ≠ [] then x else (x.1 ++ [stN cur c], x.2.set (stN cur c) (x.2.getD cur [] ++ [UInt8.ofNat c]))
def bfs (a : Nat) : Nat → List Nat × List (List UInt8)
  | 0 => ([a], List.replicate 24 [])
  | i + 1 => bstep a ((bfs a i).1.getD i 0) (bstep a ((bfs a i).1.getD i 0) (bstep a ((bfs a i).1.getD i 0) (bfs a i) 76) 80) 82

theorem dist_ok : ∀ a : Fin 24, ∀ b : Fin 24, (wf (dist a b) a b).isSome = true ∧ dist a b ≤ 5 ∧ (∀ j : Fin 6, j.val < dist a b → wf j a b = none) := by decide +kernel
theorem bfs_ok : ∀ a : Fin 24, (bfs a 24).1.length = 24 ∧ (∀ b : Fin 24, (bfs a 24).2.getD b [] = way a b) := by decide +kernel
theorem bfs_reach : ∀ a : Fin 24, ∀ i : Fin 24, i.val < (bfs a i).1.length := by decide +kernel
/-- the triad behind a list of steps -/
def wlkN (t : Nat) (l : List UInt8) : Nat := l.foldl (fun x c => stN x c.toNat) t
theorem way_ok : ∀ a : Fin 24, ∀ b : Fin 24, ((way a b).all (fun c => decide (Ltr c.toNat))) = true ∧ wlkN a (way a b) = b ∧ (way b a).length = (way a b).length ∧ (way a b).length ≤ 5 ∧ ((way a b) = [] ↔ a.val = b.val) := by decide +kernel
/-- the letter of step k -/
def lt3 (k : Nat) : Nat := if k = 0 then 76 else if k = 1 then 80 else 82
/-- the search within a round, behind k steps -/
def bin (a cur : Nat) (S : List Nat × List (List UInt8)) : Nat → List Nat × List (List UInt8)
  | 0 => S
  | k + 1 => bstep a cur (bin a cur S k) (lt3 k)
theorem bfs_bin (a i : Nat) : bfs a (i + 1) = bin a ((bfs a i).1.getD i 0) (bfs a i) 3 := rfl
theorem bfs_fine : ∀ a : Fin 24, ∀ i : Fin 24, (bfs a i).1.getD i 0 < 24 ∧ ∀ k : Fin 3, ((bin a ((bfs a i).1.getD i 0) (bfs a i) k).2.getD ((bfs a i).1.getD i 0) []).length ≤ 5 ∧ (bin a ((bfs a i).1.getD i 0) (bfs a i) k).1.length ≤ 24 := by decide +kernel
theorem bstep_src {src cur c : Nat} {x : List Nat × List (List UInt8)} (h : stN cur c = src) : bstep src cur x c = x := if_pos (.inl h)
theorem bstep_old {src cur c : Nat} {x : List Nat × List (List UInt8)} (h : x.2.getD (stN cur c) [] ≠ []) : bstep src cur x c = x := if_pos (.inr h)
theorem bstep_new {src cur c : Nat} {x : List Nat × List (List UInt8)} (h : stN cur c ≠ src) (h2 : x.2.getD (stN cur c) [] = []) : bstep src cur x c = (x.1 ++ [stN cur c], x.2.set (stN cur c) (x.2.getD cur [] ++ [UInt8.ofNat c])) := if_neg (fun e => e.elim h (fun g => g h2))
end Go.Proofs.Ytjlbgccffpkmiaa.Tic
