/-
  Lists of powers in memory, three cells each: read, appended to, searched.
-/
import Derived.Test.YtpcbplademohnaaDoorRats
import Derived.Test.YtpcbplademohnaaDoorGrow
import Derived.Maps.AppendAt
import Derived.ChangeKeysEq
import Derived.WalkLawsBesides
import Derived.Laws.StructEq
import Derived.BigQuiet
namespace Go.Proofs.YtpcbplademohnaaDoor
open Go.RowKit Go.Sort
set_option linter.unusedVariables false
set_option maxRecDepth 20000

def encI (x : List Int) : List Value := x.map (Value.int .i64)
theorem encI_len (x : List Int) : (encI x).length = x.length := by simp [encI]
theorem encI_all {L : List (List Int)} (h : ∀ x ∈ L, x.length = 3) : ∀ m ∈ L.map encI, m.length = 3 := fun m hm => by
  obtain ⟨x, hx, rfl⟩ := List.mem_map.1 hm; rw [encI_len]; exact h x hx
/-- a list of powers, three cells each -/
def Trips (w : World) (B : Nat) (v : Value) (L : List (List Int)) : Prop := w.ownsRow B 41 3 v L.length (L.map encI).flatten ∧ L.length ≤ 64 ∧ ∀ x ∈ L, x.length = 3
theorem Trips.nil (w : World) (B : Nat) : Trips w B (.slice none 0 0) [] := ⟨World.ownsRow_nil _ _ _ _, Nat.zero_le _, fun x h => by cases h⟩
theorem Trips.kept {w w' : World} {B : Nat} {v : Value} {L : List (List Int)} (h : Trips w B v L) (hb : Below w.heap.size w w') : Trips w' B v L :=
  ⟨h.1.kept (row := none) ⟨hb.os, hb.tape, hb.output, hb.size, fun k hk _ => hb.block k hk⟩ (by cases v.ownBlock <;> simp), h.2⟩
theorem Trips.lt {w : World} {B : Nat} {v : Value} {L : List (List Int)} (h : Trips w B v L) : ∀ q, v.ownBlock = some q → B ≤ q ∧ q < w.heap.size := fun q hq => by
  rcases h.1.2 with ⟨e, _⟩ | ⟨g, cap, cur, e, hg, hb, _⟩
  · subst e; cases hq
  · subst e; simp [Value.ownBlock] at hq; subst hq; exact ⟨hg, (Array.getElem?_eq_some_iff.1 hb).1⟩
theorem Trips.vw {w : World} {B : Nat} {v : Value} {L : List (List Int)} (h : Trips w B v L) : ∃ p c, v = .slice p L.length c ∧ L.length ≤ c ∧
    (0 < L.length → ∃ g, p = some ⟨g, 0, none⟩ ∧ B ≤ g ∧ g < w.heap.size ∧ ∀ i, i < L.length → ∃ a b d, L.getD i [] = [a, b, d] ∧ w.cell? ⟨g, i * 3, none⟩ = some (.int .i64 a) ∧ w.cell? ⟨g, i * 3 + 1, none⟩ = some (.int .i64 b) ∧ w.cell? ⟨g, i * 3 + 2, none⟩ = some (.int .i64 d)) := by
  have h1 := h.1
  rcases h1.2 with ⟨e, h0⟩ | ⟨g, cap, cur, e, hg, hb, r1, r2, r3, r4⟩
  · subst e; exact ⟨none, 0, by rw [h0], by omega, fun q => by omega⟩
  · subst e
    refine ⟨_, cap, rfl, r1, fun _ => ⟨g, rfl, hg, (Array.getElem?_eq_some_iff.1 hb).1, fun i hi => ?_⟩⟩
    have h3 : (L.getD i []).length = 3 := h.2.2 _ (by rw [List.getD_eq_getElem?_getD, List.getElem?_eq_getElem hi]; exact List.getElem_mem hi)
    obtain ⟨a, b, d, e⟩ : ∃ a b d, L.getD i [] = [a, b, d] := by
      match L.getD i [], h3 with
      | [a, b, d], _ => exact ⟨a, b, d, rfl⟩
    refine ⟨a, b, d, e, ?_⟩
    have hc : ∀ j, j < 3 → w.cell? ⟨g, i * 3 + j, none⟩ = (encI [a, b, d])[j]? := fun j hj => by
      rw [h1.cellAt _ (by omega), flat_at (by decide) (encI_all h.2.2) i j (by simpa using hi) hj]
      congr 1
      rw [← e, List.getD_eq_getElem?_getD, List.getD_eq_getElem?_getD, List.getElem?_map, List.getElem?_eq_getElem hi]; rfl
    exact ⟨hc 0 (by decide), hc 1 (by decide), hc 2 (by decide)⟩
theorem info_powers : (Tryd.prog.info? 41).map (fun i => (i.zero, i.size, i.bytes)) = some (some (.agg #[.int .i64 0, .int .i64 0, .int .i64 0]), 3, 24) := by kernel_rfl
theorem info_partsT {o : Option TypeInfo} {z : Option Value} {a b : Nat} (h : o.map (fun i => (i.zero, i.size, i.bytes)) = some (z, a, b)) : ∃ i, o = some i ∧ i.zero = z ∧ i.size = a ∧ i.bytes = b := by
  cases o with
  | none => cases h
  | some i => simp at h; exact ⟨i, rfl, h.1, h.2.1, h.2.2⟩
/-- one is appended -/
theorem wpList_append_trip {ops : Array Oper} {rest : List Oper} {o : Oper} {a : Act} {Q : Exit → Act → World → Prop} {w : World} (hgd : o.guard = none) (s x : Operand)
    (ho : o.op = .call { callee := .builtin .append, args := #[s, x], argTypes := #[47, 47] })
    (B : Nat) (v : Value) (L : List (List Int)) (hs : a.eval s = v) (hl : Trips w B v L) (g c : Nat) (p q r : Int) (hx : a.eval x = .slice (some ⟨g, 0, none⟩) 1 c)
    (c0 : w.cell? ⟨g, 0, none⟩ = some (.int .i64 p)) (c1 : w.cell? ⟨g, 1, none⟩ = some (.int .i64 q)) (c2 : w.cell? ⟨g, 2, none⟩ = some (.int .i64 r)) (hlen : L.length < 64) (hB : B ≤ w.heap.size)
    (h : ∀ v' w', Trips w' B v' (L ++ [[p, q, r]]) → w.grownBy w' v.ownBlock → (v'.ownBlock = v.ownBlock ∨ v'.ownBlock = some w.heap.size) → wpList Tryd.prog ops Q rest (a.put o.dst v') w') : wpList Tryd.prog ops Q (o :: rest) a w := by
  obtain ⟨i0, hi, hz0, hz1, hz2⟩ := info_partsT info_powers
  refine wpList_append_own_at w hgd s x 47 ho B 41 i0 _ 3 24 Tryd.underlying47 hi hz0 hz1 hz2 rfl (by decide) v L.length _ hs hl.1 ⟨g, 0, none⟩ 1 c (encI [p, q, r]) hx rfl ?_ ?_ ?_ ?_ hB ?_
  · intro j t hj
    match j, hj with
    | 0, hj => simp [encI] at hj; subst hj; simpa [Addr.add] using c0
    | 1, hj => simp [encI] at hj; subst hj; simpa [Addr.add] using c1
    | 2, hj => simp [encI] at hj; subst hj; simpa [Addr.add] using c2
  · intro t ht; simp [encI] at ht; rcases ht with rfl | rfl | rfl <;> rfl
  · unfold maxLen; omega
  · omega
  · intro v' w' hown hg _ hblk
    refine h v' w' ⟨?_, by simp; omega, fun y hy => ?_⟩ hg hblk
    · rw [List.length_append, List.map_append, List.flatten_append]
      simpa using hown
    · rcases List.mem_append.1 hy with k | k
      · exact hl.2.2 y k
      · simp at k; subst k; rfl
theorem eql_pow (a b c x y z : Int) (w : World) : (binOp .eql 41 (.agg #[.int .i64 a, .int .i64 b, .int .i64 c]) (.agg #[.int .i64 x, .int .i64 y, .int .i64 z])).run Tryd.prog w = .ok (.bool (decide ([a, b, c] = [x, y, z]))) w := by
  obtain ⟨i0, hi, _⟩ := info_partsT (show (Tryd.prog.info? 3).map (fun i => (i.zero, i.size, i.bytes)) = some (some (.int .i64 0), 1, 8) by kernel_rfl)
  have e1 : Tryd.prog.cellsOf 3 = 1 := by kernel_rfl
  rw [run_eql_struct, run_equalIn_array w _ _ _ Tryd.underlying41 hi]
  have er : List.range 3 = [0, 1, 2] := rfl
  rw [er]
  simp only [Op.eqItems, e1, part, Sem.run_bind]
  by_cases h0 : a = x
  · subst h0
    by_cases h1 : b = y
    · subst h1
      by_cases h2 : c = z
      · subst h2
        simp [run_equalIn_int, Tryd.underlying3]
      · simp [run_equalIn_int, Tryd.underlying3, h2]
    · simp [run_equalIn_int, Tryd.underlying3, h1]
  · simp [run_equalIn_int, Tryd.underlying3, h0]
theorem eqGuard_pow (op : BinOp) (x y : Operand) (xs ys : Array Value) (w : World) : (eqGuard op 41 x y (.agg xs) (.agg ys)).run Tryd.prog w = .ok () w :=
  run_eqGuard_agg w op _ x y xs ys (by kernel_rfl)
end Go.Proofs.YtpcbplademohnaaDoor
