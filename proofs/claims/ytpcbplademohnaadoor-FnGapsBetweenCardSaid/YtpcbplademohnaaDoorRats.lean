/-
  Lists of ratios in memory, five cells each: read, written, sorted.
-/
import Derived.Test.YtpcbplademohnaaDoorSortChain
import Derived.Test.YtpcbplademohnaaDoorTones
namespace Go.Proofs.YtpcbplademohnaaDoor
open Go.RowKit Go.Sort
set_option linter.unusedVariables false
set_option maxRecDepth 20000

theorem flat_len {k : Nat} : ∀ {M : List (List Value)}, (∀ m ∈ M, m.length = k) → M.flatten.length = M.length * k
  | [], _ => by simp
  | m :: M, h => by
    have := flat_len (k := k) (M := M) (fun x hx => h x (List.mem_cons_of_mem _ hx))
    rw [List.flatten_cons, List.length_append, this, h m (List.mem_cons_self ..), List.length_cons, Nat.add_mul]; omega
theorem flat_at {k : Nat} (hk : 0 < k) : ∀ {M : List (List Value)}, (∀ m ∈ M, m.length = k) → ∀ i j, i < M.length → j < k → M.flatten[i * k + j]? = (M.getD i [])[j]?
  | [], _, i, j, hi, _ => by simp at hi
  | m :: M, h, 0, j, _, hj => by
    rw [List.flatten_cons, Nat.zero_mul, Nat.zero_add, List.getElem?_append_left (by rw [h m (List.mem_cons_self ..)]; exact hj)]
    simp
  | m :: M, h, i + 1, j, hi, hj => by
    have := flat_at hk (M := M) (fun x hx => h x (List.mem_cons_of_mem _ hx)) i j (by simpa using hi) hj
    have hm := h m (List.mem_cons_self ..)
    rw [List.flatten_cons, List.getElem?_append_right (by rw [hm, Nat.add_mul]; omega), hm, show (i + 1) * k + j - k = i * k + j by rw [Nat.add_mul]; omega, this]
    simp
theorem encR_len (x : Fin 12) : (encR x).length = 5 := rfl
theorem encR_all (L : List (Fin 12)) : ∀ m ∈ L.map encR, m.length = 5 := fun m hm => by
  obtain ⟨x, _, rfl⟩ := List.mem_map.1 hm; rfl
theorem flatK_eq (L : List (Fin 12)) : (flatK encR 5 L.toArray).toList = (L.map encR).flatten := by
  apply List.ext_getElem?
  intro t
  by_cases ht : t < L.length * 5
  · have h1 : t / 5 < L.length := by omega
    have e := flat_at (k := 5) (by decide) (encR_all L) (t / 5) (t % 5) (by simpa using h1) (Nat.mod_lt _ (by decide))
    rw [show t / 5 * 5 + t % 5 = t by omega] at e
    rw [e, Array.getElem?_toList, Array.getElem?_eq_getElem (by simpa using ht)]
    have h2 : t % 5 < (encR L[t / 5]).length := by rw [encR_len]; omega
    simp [flatK, List.getD_eq_getElem?_getD, h1, h2]
  · rw [List.getElem?_eq_none (by simpa using ht), List.getElem?_eq_none (by rw [flat_len (encR_all L)]; simpa using ht)]
/-- a list of ratios, five cells each -/
def Rats (w : World) (B : Nat) (v : Value) (M : List (List Value)) : Prop := w.ownsRow B 43 5 v M.length M.flatten ∧ M.length ≤ 16 ∧ ∀ m ∈ M, m.length = 5
theorem Rats.kept {w w' : World} {B : Nat} {v : Value} {M : List (List Value)} (h : Rats w B v M) (hb : Below w.heap.size w w') : Rats w' B v M :=
  ⟨h.1.kept (row := none) ⟨hb.os, hb.tape, hb.output, hb.size, fun k hk _ => hb.block k hk⟩ (by cases v.ownBlock <;> simp), h.2⟩
theorem Rats.cases {w : World} {B : Nat} {v : Value} {M : List (List Value)} (h : Rats w B v M) (h0 : 0 < M.length) :
    ∃ g cap, v = .slice (some ⟨g, 0, none⟩) M.length cap ∧ B ≤ g ∧ g < w.heap.size ∧ M.length ≤ cap ∧ ∀ i j, i < M.length → j < 5 → w.cell? ⟨g, i * 5 + j, none⟩ = (M.getD i [])[j]? ∧ w.frozen? ⟨g, i * 5 + j, none⟩ = false := by
  have h1 := h.1
  rcases h1.2 with ⟨_, e⟩ | ⟨g, cap, cur, e, hg, hb, r1, r2, r3, r4⟩
  · omega
  · subst e
    refine ⟨g, cap, rfl, hg, (Array.getElem?_eq_some_iff.1 hb).1, r1, fun i j hi hj => ⟨?_, h1.frozenAt _⟩⟩
    rw [h1.cellAt _ (by omega), flat_at (by decide) h.2.2 i j hi hj]
theorem holdsK_rats {w : World} {B g cap : Nat} {L : List (Fin 12)} (h : Rats w B (.slice (some ⟨g, 0, none⟩) L.length cap) (L.map encR)) : HoldsK encR 5 w g 0 L.toArray := by
  intro j hj
  have h1 := h.1
  rw [List.length_map] at h1
  have hj' : j < L.length * 5 := by simpa using hj
  rw [Nat.zero_add]
  refine ⟨?_, h1.frozenAt _⟩
  rw [h1.cellAt _ hj', ← flatK_eq, Array.getElem?_toList, Array.getElem?_eq_getElem (by simpa using hj')]
  exact congrArg some (getElem!_pos _ j hj).symm
theorem take_putK (F cur : Array Value) (h : F.size ≤ cur.size) : (putCells id 0 F cur).toList.take F.size = F.toList := by
  apply List.ext_getElem?
  intro j
  by_cases hj : j < F.size
  · rw [List.getElem?_take_of_lt hj, Array.getElem?_toList]
    simp [putCells, hj, show j < cur.size by omega]
  · rw [List.getElem?_take_eq_none (by omega), List.getElem?_eq_none (by simp; omega)]
theorem rats_sorted {w : World} {B g cap k : Nat} {os : Array Obj} {L L' : List (Fin 12)} (hl : L'.length = L.length) (h : Rats w B (.slice (some ⟨g, 0, none⟩) L.length cap) (L.map encR)) :
    Rats (sortWorldK encR 5 w g 0 k L'.toArray os) B (.slice (some ⟨g, 0, none⟩) L.length cap) (L'.map encR) ∧ w.grownBy (sortWorldK encR 5 w g 0 k L'.toArray os) (some g) := by
  have h1 := h.1
  rw [List.length_map] at h1
  rcases h1.2 with ⟨e, _⟩ | ⟨g', cap', cur, e, hg, hb, r1, r2, r3, r4⟩
  · cases e
  · simp only [Value.slice.injEq, Option.some.injEq, Addr.mk.injEq, and_true, true_and] at e
    obtain ⟨rfl, rfl⟩ := e
    have hlt : g < w.heap.size := (Array.getElem?_eq_some_iff.1 hb).1
    refine ⟨⟨?_, by have := h.2.1; simp only [List.length_map] at this ⊢; omega, encR_all L'⟩, ⟨rfl, rfl, rfl, by simp [sortWorldK, putRowK, putRow, mapBlock, Sort.ahead, grow], fun i hi hne => ?_⟩⟩
    · rw [List.length_map, hl]
      refine ⟨by rw [flat_len (encR_all L'), List.length_map, hl], .inr ⟨g, cap, putCells id 0 (flatK encR 5 L'.toArray) cur, rfl, hg, ?_, r1, r2, by simp [putCells, r3], ?_⟩⟩
      · unfold sortWorldK putRowK
        rw [heap_grow_old _ _ (by simpa [putRow, mapBlock, Sort.ahead] using hlt)]
        simp [putRow, mapBlock, Sort.ahead, Array.getElem?_modify, hb, onCells]
      · have hF : (flatK encR 5 L'.toArray).size = L.length * 5 := by simp [hl]
        rw [← hF, take_putK _ _ (by rw [hF, r3]; exact Nat.mul_le_mul_right 5 r1), flatK_eq]
    · unfold sortWorldK putRowK
      rw [heap_grow_old _ _ (by simpa [putRow, mapBlock, Sort.ahead] using hi)]
      have : g ≠ i := fun e => hne (by rw [e])
      simp [putRow, mapBlock, Sort.ahead, Array.getElem?_modify, this]
theorem five_of_len {m : List Value} (h : m.length = 5) : ∃ a b c d e, m = [a, b, c, d, e] := by
  match m, h with
  | [a, b, c, d, e], _ => exact ⟨a, b, c, d, e, rfl⟩
theorem flat_set : ∀ {M : List (List Value)}, (∀ m ∈ M, m.length = 5) → ∀ (i : Nat) (v0 v1 v2 v3 v4 : Value), i < M.length →
    ((((M.flatten.set (i * 5) v0).set (i * 5 + 1) v1).set (i * 5 + 2) v2).set (i * 5 + 3) v3).set (i * 5 + 4) v4 = (M.set i [v0, v1, v2, v3, v4]).flatten
  | [], _, i, _, _, _, _, _, h => by simp at h
  | m :: M, h, 0, v0, v1, v2, v3, v4, _ => by
    obtain ⟨a, b, c, d, e, rfl⟩ := five_of_len (h m (List.mem_cons_self ..))
    simp
  | m :: M, h, i + 1, v0, v1, v2, v3, v4, hi => by
    obtain ⟨a, b, c, d, e, rfl⟩ := five_of_len (h m (List.mem_cons_self ..))
    have := flat_set (M := M) (fun x hx => h x (List.mem_cons_of_mem _ hx)) i v0 v1 v2 v3 v4 (by simpa using hi)
    rw [List.set_cons_succ, List.flatten_cons, List.flatten_cons, ← this]
    rw [show (i + 1) * 5 = i * 5 + 5 by omega, show i * 5 + 5 + 1 = i * 5 + 1 + 5 by omega, show i * 5 + 5 + 2 = i * 5 + 2 + 5 by omega, show i * 5 + 5 + 3 = i * 5 + 3 + 5 by omega, show i * 5 + 5 + 4 = i * 5 + 4 + 5 by omega]
    simp
theorem rats_put {w : World} {B g n cap i : Nat} {M : List (List Value)} (h : Rats w B (.slice (some ⟨g, 0, none⟩) n cap) M) (hn : M.length = n) (hi : i < n) (v0 v1 v2 v3 v4 : Value) :
    Rats (((((w.setCell ⟨g, i * 5, none⟩ v0).setCell ⟨g, i * 5 + 1, none⟩ v1).setCell ⟨g, i * 5 + 2, none⟩ v2).setCell ⟨g, i * 5 + 3, none⟩ v3).setCell ⟨g, i * 5 + 4, none⟩ v4) B (.slice (some ⟨g, 0, none⟩) n cap) (M.set i [v0, v1, v2, v3, v4]) := by
  subst hn
  refine ⟨?_, by rw [List.length_set]; exact h.2.1, fun m hm => ?_⟩
  · rw [List.length_set, ← flat_set h.2.2 i v0 v1 v2 v3 v4 hi]
    exact (((((h.1.stored _ v0).1.stored _ v1).1.stored _ v2).1.stored _ v3).1.stored _ v4).1
  · rcases List.mem_or_eq_of_mem_set hm with h' | rfl
    · exact h.2.2 m h'
    · rfl
end Go.Proofs.YtpcbplademohnaaDoor
