/-
  One number put into a list of the call's own: slices.Insert by the library's contracts, in the words of rows.
-/
import Derived.Test.YtahpjfdecjfpcaaTones
import Derived.Test.YtahpjfdecjfpcaaSlices
namespace Go.Proofs.Ytahpjfdecjfpcaa
open Go.RowKit
set_option linter.unusedVariables false

/-- an array in which some values are written from o on -/
def putA (cur : Array Value) : Nat → List Value → Array Value
  | _, [] => cur
  | o, v :: r => putA (cur.setIfInBounds o v) (o + 1) r
theorem putA_size : ∀ (vs : List Value) (cur : Array Value) (o : Nat), (putA cur o vs).size = cur.size
  | [], _, _ => rfl
  | v :: r, cur, o => by unfold putA; rw [putA_size r]; simp
theorem putA_at : ∀ (vs : List Value) (cur : Array Value) (o j : Nat), o + vs.length ≤ cur.size → (putA cur o vs)[j]? = if o ≤ j ∧ j < o + vs.length then vs[j - o]? else cur[j]?
  | [], cur, o, j, _ => by
    rw [if_neg (by simp only [List.length_nil]; omega)]; rfl
  | v :: r, cur, o, j, h => by
    have hl : o + r.length + 1 ≤ cur.size := by simpa [Nat.add_assoc] using h
    unfold putA
    rw [putA_at r _ (o + 1) j (by simp; omega)]
    simp only [List.length_cons]
    by_cases h1 : o + 1 ≤ j ∧ j < o + 1 + r.length
    · rw [if_pos h1, if_pos (by omega), show j - o = (j - (o + 1)) + 1 by omega]
      simp
    · rw [if_neg h1, Array.getElem?_setIfInBounds]
      by_cases h2 : o = j
      · subst h2
        rw [if_pos rfl, if_pos (by omega), if_pos (by omega)]
        simp
      · rw [if_neg h2, if_neg (by omega)]
theorem heap_setCells (b : Nat) (t : TypeId) : ∀ (vs : List Value) (o : Nat) (cur : Array Value) (w : World), w.heap[b]? = some (.cells cur t (0, 0)) → (w.setCells b o vs).heap[b]? = some (.cells (putA cur o vs) t (0, 0))
  | [], _, _, _, h => h
  | v :: r, o, cur, w, h => by
    unfold World.setCells putA
    exact heap_setCells b t r (o + 1) _ _ (heap_setCell_same w b o cur t v h)
theorem below_put {B b : Nat} (hb : B ≤ b) : ∀ (vs : List Value) (o : Nat) {a w : World}, Below B a w → Below B a (w.setCells b o vs)
  | [], _, _, _, h => h
  | v :: r, o, _, _, h => below_put hb r (o + 1) (h.setCell hb _)

theorem one_int (x : Int) : (Value.int .i64 x).oneCell' = true := rfl
theorem ones_list (L : List Int) : ∀ v ∈ L.map (Value.int .i64), v.oneCell' = true := by
  intro v hv
  obtain ⟨x, _, rfl⟩ := List.mem_map.1 hv
  rfl

/-- a row out of its block -/
theorem Row.of {w : World} {B g cap : Nat} {cur : Array Value} {L : List Int} (hB : B ≤ g) (hh : w.heap[g]? = some (.cells cur 3 (0, 0))) (hc : L.length ≤ cap) (hm : cap ≤ maxLen) (hs : cur.size = cap) (hl : L.length ≤ 4096)
    (ht : ∀ j, j < L.length → cur[j]? = (L.map (Value.int .i64))[j]?) : Row w B (.slice (some ⟨g, 0, none⟩) L.length cap) L := by
  refine ⟨⟨by simp, .inr ⟨g, cap, cur, rfl, hB, hh, hc, hm, by omega, ?_⟩⟩, hl⟩
  apply List.ext_getElem?
  intro j
  rw [List.getElem?_take]
  by_cases hj : j < L.length
  · rw [if_pos (by omega), ← ht j hj]; simp
  · rw [if_neg (by omega), List.getElem?_eq_none (by simp; omega)]
theorem Row.block {w : World} {B g n cap : Nat} {L : List Int} (h : Row w B (.slice (some ⟨g, 0, none⟩) n cap) L) : n = L.length ∧ B ≤ g ∧ g < w.heap.size ∧ n ≤ cap ∧ cap ≤ maxLen ∧
    ∃ cur, w.heap[g]? = some (.cells cur 3 (0, 0)) ∧ cur.size = cap ∧ ∀ j, j < L.length → cur[j]? = (L.map (Value.int .i64))[j]? := by
  rcases h.1.2 with ⟨e, _⟩ | ⟨g', cap', cur, e, hg, hh, h1, h2, h3, h4⟩
  · cases e
  · simp only [Value.slice.injEq, Option.some.injEq, Addr.mk.injEq, and_true] at e
    obtain ⟨rfl, rfl, rfl⟩ := e
    refine ⟨rfl, hg, (Array.getElem?_eq_some_iff.1 hh).1, h1, h2, cur, hh, by omega, fun j hj => ?_⟩
    rw [← h4, List.getElem?_take, if_pos (by omega)]
    simp

/-- L with y at place i -/
def insAt (L : List Int) (i : Nat) (y : Int) : List Int := L.take i ++ y :: L.drop i
theorem insAt_len (L : List Int) (i : Nat) (y : Int) (h : i ≤ L.length) : (insAt L i y).length = L.length + 1 := by unfold insAt; simp; omega
theorem insAt_at (L : List Int) (i : Nat) (y : Int) (h : i ≤ L.length) (j : Nat) : (insAt L i y)[j]? = if j < i then L[j]? else if j = i then some y else L[j - 1]? := by
  unfold insAt
  by_cases h1 : j < i
  · rw [if_pos h1, List.getElem?_append_left (by simp; omega), List.getElem?_take, if_pos h1]
  · rw [if_neg h1, List.getElem?_append_right (by simp; omega)]
    rw [List.length_take, Nat.min_eq_left h]
    by_cases h2 : j = i
    · subst h2; simp
    · rw [if_neg h2, show j - i = (j - 1 - i) + 1 by omega, List.getElem?_cons_succ, List.getElem?_drop]
      congr 1; omega

theorem insert_any (v : Value) (B : Nat) (L : List Int) (i : Nat) (y : Int) (vb : Nat) (w : World) (h : Row w B v L) (hB : B ≤ w.heap.size) (hi : i ≤ L.length) (hl : L.length < 4096)
    (hvb : v.ownBlock ≠ some vb) (hb : w.heap[vb]? = some (.cells #[.int .i64 y] 3 (0, 0))) :
    Calls Try.prog 66 #[v, .int .i64 i, .slice (some ⟨vb, 0, none⟩) 1 1] w fun e w' => ∃ v', e = .returned v' ∧ Row w' B v' (insAt L i y) ∧ Below B w w' := by
  have hvs : ∀ j u, [Value.int .i64 y][j]? = some u → w.cell? ⟨vb, 0 + j, none⟩ = some u := by
    intro j u hj
    match j, hj with
    | 0, hj => simp at hj; subst hj; exact cell_of_one hb
  have h1v : ∀ u ∈ [Value.int .i64 y], u.oneCell' = true := by intro u hu; simp at hu; subst hu; rfl
  have hil := insAt_len L i y hi
  have ht3 : Try.laysNm221_ren.t 3 = 3 := rfl
  have hzc : ∀ k, (Builtin.zeroCells (Value.int .i64 0).cells k).size = k := fun k => by rw [size_zeroCells]; show k * 1 = k; omega
  rcases h.cases with ⟨rfl, rfl⟩ | ⟨g, cap, rfl, hg1, hg2, _⟩
  · have hi0 : i = 0 := by simpa using hi
    subst hi0
    refine (Any2.slices_Insert_int_end_grow Try.laysNm221 none 0 0 vb 0 1 1 [] [.int .i64 y] w (by omega) (by omega) (by omega) (by omega) rfl rfl (fun _ => rfl) (fun a ha => by cases ha) hvs h1v).mono ?_
    rintro e w' ⟨rfl, rfl⟩
    simp only [ht3]
    have hge : 1 ≤ grownCap w 1 0 3 := grownCap_ge w 1 0 3
    have hle := grownCap_le_maxLen w (0 + 1) 0 3 (by unfold maxLen; omega)
    refine ⟨_, rfl, ?_, (Below.refl B w).drew.alloc hB _⟩
    exact Row.of (L := [y]) hB (heap_alloc_new _ _) (by simpa using hge) hle (by simp [hzc]; omega) (by simp) (fun j hj => by
      have : j = 0 := by simpa using hj
      subst this
      rw [Array.getElem?_append_left (by simp)]
      simp)
  · obtain ⟨_, _, _, hnc, hcm, cur, hh, hcs, hat⟩ := h.block
    have hcs2 : ∀ j u, (L.map (Value.int .i64))[j]? = some u → w.cell? ⟨g, 0 + j, none⟩ = some u := by
      intro j u hj
      have hj2 : j < L.length := by have := (List.getElem?_eq_some_iff.1 hj).1; simpa using this
      rw [Nat.zero_add, cell_of_row w g j cur 3 (0, 0) hh, hat j hj2, hj]
    have hsome : ∀ j, j < cap → (w.cell? ⟨g, 0 + j, none⟩).isSome = true := by
      intro j hj
      rw [Nat.zero_add, cell_of_row w g j cur 3 (0, 0) hh, Array.getElem?_eq_getElem (by omega)]; rfl
    have hfr : ∀ j, w.frozen? ⟨g, 0 + j, none⟩ = false := fun j => by rw [Nat.zero_add]; exact frozen_of_row w g j cur 3 hh
    have hne : vb ≠ g := fun e => hvb (by rw [e]; rfl)
    by_cases hroom : L.length + 1 ≤ cap
    · by_cases hend : i = L.length
      · subst hend
        refine (Any2.slices_Insert_int_end_room Try.laysNm221 g 0 L.length cap vb 0 1 1 [.int .i64 y] w (by omega) hroom hcm rfl (fun j hj => by rw [Nat.zero_add]; have := hsome (L.length + j) (by omega); rwa [Nat.zero_add] at this) (fun j hj => by rw [Nat.zero_add]; have := hfr (L.length + j); rwa [Nat.zero_add] at this) hvs h1v).mono ?_
        rintro e w' ⟨rfl, rfl⟩
        refine ⟨_, rfl, ?_, below_put hg1 _ _ (Below.refl _ _)⟩
        rw [← hil]
        refine Row.of hg1 (heap_setCells g _ _ _ _ _ hh) (by omega) hcm (by rw [putA_size]; exact hcs) (by omega) (fun j hj => ?_)
        rw [putA_at _ _ _ _ (by simp; omega), List.getElem?_map, insAt_at L _ y (Nat.le_refl _)]
        by_cases h1 : j < L.length
        · rw [if_neg (by simp; omega), if_pos h1, hat j h1, List.getElem?_map]
        · have : j = L.length := by omega
          subst this
          simp
      · refine (Any2.slices_Insert_int_shift Try.laysNm221 g 0 L.length cap i vb 0 1 1 (L.map (Value.int .i64)) [.int .i64 y] w (by omega) (by omega) hroom hcm hne (by simp) rfl hcs2 (fun j hj => hsome j (by omega)) (fun j _ => hfr j) hvs (ones_list L) h1v
          3 3 1 cap (by simp [World.shape?, hb]) (by simp [World.shape?, hh, hcs]) (by omega) (free_of_one hb) (by simp [World.frozen?, hb])).mono ?_
        rintro e w' ⟨rfl, rfl⟩
        refine ⟨_, rfl, ?_, below_put hg1 _ _ (below_put hg1 _ _ (Below.refl _ _).drew)⟩
        rw [← hil]
        refine Row.of hg1 (heap_setCells g _ _ _ _ _ (heap_setCells g _ _ _ _ _ hh)) (by omega) hcm (by rw [putA_size, putA_size]; exact hcs) (by omega) (fun j hj => ?_)
        rw [putA_at _ _ _ _ (by rw [putA_size]; simp; omega), putA_at _ _ _ _ (by simp; omega), List.getElem?_map, insAt_at L i y hi]
        by_cases h1 : j < i
        · rw [if_neg (by simp; omega), if_neg (by simp; omega), if_pos h1, hat j (by omega), List.getElem?_map]
        · by_cases h2 : j = i
          · subst h2; simp
          · rw [if_neg (by simp; omega), if_pos (by simp; omega), if_neg h1, if_neg h2, List.getElem?_drop, List.getElem?_map]
            congr 2; omega
    · by_cases hend : i = L.length
      · subst hend
        refine (Any2.slices_Insert_int_end_grow Try.laysNm221 (some ⟨g, 0, none⟩) L.length cap vb 0 1 1 (L.map (Value.int .i64)) [.int .i64 y] w (by omega) hnc (by omega) (by omega) (by simp) rfl (fun e => by cases e)
          (fun a ha j u hj => by
            cases ha
            have := hcs2 j u hj
            rw [Nat.zero_add] at this
            rw [show (⟨g, 0, none⟩ : Addr).add j = ⟨g, j, none⟩ by unfold Addr.add; split <;> simp_all]
            exact this) hvs h1v).mono ?_
        rintro e w' ⟨rfl, rfl⟩
        simp only [ht3]
        have hge := grownCap_ge w (L.length + 1) cap 3
        have hle := grownCap_le_maxLen w (L.length + 1) cap 3 (by unfold maxLen; omega)
        refine ⟨_, rfl, ?_, (Below.refl B w).drew.alloc hB _⟩
        rw [← hil] at hge hle ⊢
        refine Row.of hB (heap_alloc_new _ _) hge hle (by simp [hzc]; omega) (by omega) (fun j hj => ?_)
        rw [List.getElem?_map, insAt_at L _ y (Nat.le_refl _), Array.getElem?_append_left (by simp; omega), List.getElem?_toArray]
        by_cases h1 : j < L.length
        · rw [if_pos h1, List.getElem?_append_left (by simpa using h1), List.getElem?_map]
        · have : j = L.length := by omega
          subst this
          simp
      · refine (Any2.slices_Insert_int_grow Try.laysNm221 g 0 L.length cap i vb 0 1 1 (L.map (Value.int .i64)) [.int .i64 y] w (by omega) (by omega) hnc (by omega) (by omega) (by simp) rfl hcs2 hvs (ones_list L) h1v).mono ?_
        rintro e w' ⟨rfl, rfl⟩
        simp only [ht3]
        have hge := grownCap_ge w (L.length + 1) cap 3
        have hle := grownCap_le_maxLen w (L.length + 1) cap 3 (by unfold maxLen; omega)
        refine ⟨_, rfl, ?_, below_put hB _ _ (below_put hB _ _ ((Below.refl B w).alloc hB _).drew).drew⟩
        rw [← hil] at hge hle ⊢
        have hnew := heap_alloc_new w (.cells (((L.map (Value.int .i64)).take i).toArray ++ Builtin.zeroCells (Value.int .i64 0).cells ((insAt L i y).length - i) ++ Builtin.zeroCells (Value.int .i64 0).cells (grownCap w (insAt L i y).length cap 3 - (insAt L i y).length)) 3)
        have hsz : (((L.map (Value.int .i64)).take i).toArray ++ Builtin.zeroCells (Value.int .i64 0).cells ((insAt L i y).length - i) ++ Builtin.zeroCells (Value.int .i64 0).cells (grownCap w (insAt L i y).length cap 3 - (insAt L i y).length)).size = grownCap w (insAt L i y).length cap 3 := by
          simp [hzc]; omega
        refine Row.of hB (heap_setCells _ _ _ _ _ _ (heap_setCells _ _ _ _ _ _ hnew)) hge hle (by rw [putA_size, putA_size]; exact hsz) (by omega) (fun j hj => ?_)
        rw [putA_at _ _ _ _ (by rw [putA_size, hsz]; simp; omega), putA_at _ _ _ _ (by rw [hsz]; simp; omega), List.getElem?_map, insAt_at L i y hi]
        by_cases h1 : j < i
        · rw [if_neg (by simp; omega), if_neg (by simp; omega), if_pos h1, Array.getElem?_append_left (by simp; omega), Array.getElem?_append_left (by simp; omega), List.getElem?_toArray, List.getElem?_take, if_pos h1, List.getElem?_map]
        · by_cases h2 : j = i
          · subst h2
            rw [if_neg (by simp; omega), if_pos (by simp)]
            simp
          · rw [if_pos (by simp; omega), if_neg h1, if_neg h2, List.getElem?_drop, List.getElem?_map]
            congr 2; omega
end Go.Proofs.Ytahpjfdecjfpcaa
