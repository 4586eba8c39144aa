/-
  One number put into a list of the call's own: slices.Insert by the library's contracts, in the words of rows.
-/
import Derived.Test.YtmofhhffkppelaaTones
import Derived.Test.YtmofhhffkppelaaSlices
namespace Go.Proofs.Ytmofhhffkppelaa
open Go.RowKit
set_option linter.unusedVariables false

/-- an array in which some values are written from o on -/
def putA (cur : Array Value) : Nat → List Value → Array Value
  | _, [] => cur
  | o, v :: r => putA (cur.setIfInBounds o v) (o + 1) r
theorem putA_size : ∀ (vs : List Value) (cur : Array Value) (o : Nat), (putA cur o vs).size = cur.size
  | [], _, _ => rfl
  | v :: r, cur, o => by unfold putA; rw [putA_size r]; simp
theorem putA_at : ∀ (vs : List Value) (cur : Array Value) (o j : Nat), o + vs.length ≤ cur.size → (putA cur o vs)[j]? = if o ≤ j ∧ j < o + vs.length then vs[j - o]? else cur[j]?
  | [], cur, o, j, _ => by
    rw [if_neg (by simp only [List.length_nil]; omega)]; rfl
  | v :: r, cur, o, j, h => by
    have hl : o + r.length + 1 ≤ cur.size := by simpa [Nat.add_assoc] using h
    unfold putA
    rw [putA_at r _ (o + 1) j (by simp; omega)]
    simp only [List.length_cons]
    by_cases h1 : o + 1 ≤ j ∧ j < o + 1 + r.length
    · rw [if_pos h1, if_pos (by omega), show j - o = (j - (o + 1)) + 1 by omega]
      simp
    · rw [if_neg h1, Array.getElem?_setIfInBounds]
      by_cases h2 : o = j
      · subst h2
        rw [if_pos rfl, if_pos (by omega), if_pos (by omega)]
        simp
      · rw [if_neg h2, if_neg (by omega)]
theorem heap_setCells (b : Nat) (t : TypeId) : ∀ (vs : List Value) (o : Nat) (cur : Array Value) (w : World), w.heap[b]? = some (.cells cur t (0, 0)) → (w.setCells b o vs).heap[b]? = some (.cells (putA cur o vs) t (0, 0))
  | [], _, _, _, h => h
  | v :: r, o, cur, w, h => by
    unfold World.setCells putA
    exact heap_setCells b t r (o + 1) _ _ (heap_setCell_same w b o cur t v h)
theorem below_put {B b : Nat} (hb : B ≤ b) : ∀ (vs : List Value) (o : Nat) {a w : World}, Below B a w → Below B a (w.setCells b o vs)
  | [], _, _, _, h => h
  | v :: r, o, _, _, h => below_put hb r (o + 1) (h.setCell hb _)

theorem one_int (x : Int) : (Value.int .i64 x).oneCell' = true := rfl
theorem ones_list (L : List Int) : ∀ v ∈ L.map (Value.int .i64), v.oneCell' = true := by
  intro v hv
  obtain ⟨x, _, rfl⟩ := List.mem_map.1 hv
  rfl

/-- a row out of its block -/
theorem Row.of {w : World} {B g cap : Nat} {cur : Array Value} {L : List Int} (hB : B ≤ g) (hh : w.heap[g]? = some (.cells cur 3 (0, 0))) (hc : L.length ≤ cap) (hm : cap ≤ maxLen) (hs : cur.size = cap) (hl : L.length ≤ 4096)
    (ht : ∀ j, j < L.length → cur[j]? = (L.map (Value.int .i64))[j]?) : Row w B (.slice (some ⟨g, 0, none⟩) L.length cap) L := by
  refine ⟨⟨by simp, .inr ⟨g, cap, cur, rfl, hB, hh, hc, hm, by omega, ?_⟩⟩, by omega⟩
  apply List.ext_getElem?
  intro j
  rw [List.getElem?_take]
  by_cases hj : j < L.length
  · rw [if_pos (by omega), ← ht j hj]; simp
  · rw [if_neg (by omega), List.getElem?_eq_none (by simp; omega)]
theorem Row.block {w : World} {B g n cap : Nat} {L : List Int} (h : Row w B (.slice (some ⟨g, 0, none⟩) n cap) L) : n = L.length ∧ B ≤ g ∧ g < w.heap.size ∧ n ≤ cap ∧ cap ≤ maxLen ∧
    ∃ cur, w.heap[g]? = some (.cells cur 3 (0, 0)) ∧ cur.size = cap ∧ ∀ j, j < L.length → cur[j]? = (L.map (Value.int .i64))[j]? := by
  rcases h.1.2 with ⟨e, _⟩ | ⟨g', cap', cur, e, hg, hh, h1, h2, h3, h4⟩
  · cases e
  · simp only [Value.slice.injEq, Option.some.injEq, Addr.mk.injEq, and_true] at e
    obtain ⟨rfl, rfl, rfl⟩ := e
    refine ⟨rfl, hg, (Array.getElem?_eq_some_iff.1 hh).1, h1, h2, cur, hh, by omega, fun j hj => ?_⟩
    rw [← h4, List.getElem?_take, if_pos (by omega)]
    simp

/-- L with y at place i -/
def insAt (L : List Int) (i : Nat) (y : Int) : List Int := L.take i ++ y :: L.drop i
theorem insAt_len (L : List Int) (i : Nat) (y : Int) (h : i ≤ L.length) : (insAt L i y).length = L.length + 1 := by unfold insAt; simp; omega
theorem insAt_at (L : List Int) (i : Nat) (y : Int) (h : i ≤ L.length) (j : Nat) : (insAt L i y)[j]? = if j < i then L[j]? else if j = i then some y else L[j - 1]? := by
  unfold insAt
  by_cases h1 : j < i
  · rw [if_pos h1, List.getElem?_append_left (by simp; omega), List.getElem?_take, if_pos h1]
  · rw [if_neg h1, List.getElem?_append_right (by simp; omega)]
    rw [List.length_take, Nat.min_eq_left h]
    by_cases h2 : j = i
    · subst h2; simp
    · rw [if_neg h2, show j - i = (j - 1 - i) + 1 by omega, List.getElem?_cons_succ, List.getElem?_drop]
      congr 1; omega

end Go.Proofs.Ytmofhhffkppelaa
