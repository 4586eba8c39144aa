/-
  Lists of lists of whole numbers that a call made: kept, and one appended.
-/
import Derived.Test.YtpcbplademohnaaDoorTones
import Derived.Maps.AppendAt
namespace Go.Proofs.YtpcbplademohnaaDoor
open Go.RowKit
set_option linter.unusedVariables false

/-- the slice v of the slices vs, all made from block B on and apart from one another, holds the lists LL -/
def Lists (w : World) (B : Nat) (v : Value) (vs : List Value) (LL : List (List Int)) : Prop :=
  LL.length ≤ 16777216 ∧ vs.length = LL.length ∧ w.ownsRow B 29 1 v LL.length vs ∧
  (∀ i, i < LL.length → Row w B (vs.getD i undef) (LL.getD i []) ∧ ∀ k, (vs.getD i undef).ownBlock = some k → v.ownBlock ≠ some k) ∧
  ∀ i j k, i < j → j < LL.length → (vs.getD i undef).ownBlock = some k → (vs.getD j undef).ownBlock ≠ some k

theorem Lists.nil (w : World) (B : Nat) : Lists w B (.slice none 0 0) [] [] :=
  ⟨Nat.zero_le _, rfl, World.ownsRow_nil _ _ _ _, fun i h => absurd h (Nat.not_lt_zero _), fun i j k _ h => absurd h (Nat.not_lt_zero _)⟩
theorem Lists.made (w : World) : Lists (w.alloc (.cells #[] 29)) w.heap.size (.slice (some ⟨w.heap.size, 0, none⟩) 0 0) [] [] :=
  ⟨Nat.zero_le _, rfl, World.ownsRow_made w #[] 0 (Nat.le_refl _) (by decide) rfl, fun i h => absurd h (Nat.not_lt_zero _), fun i j k _ h => absurd h (Nat.not_lt_zero _)⟩
theorem Lists.kept {w w' : World} {B : Nat} {v : Value} {vs : List Value} {LL : List (List Int)} (h : Lists w B v vs LL) (hb : Below w.heap.size w w') : Lists w' B v vs LL := by
  obtain ⟨h1, h2, h3, h4, h5⟩ := h
  exact ⟨h1, h2, h3.kept (row := none) ⟨hb.os, hb.tape, hb.output, hb.size, fun k hk _ => hb.block k hk⟩ (by cases v.ownBlock <;> simp), fun i hi => ⟨(h4 i hi).1.kept hb, (h4 i hi).2⟩, h5⟩
theorem Lists.alloc {w : World} {B : Nat} {v : Value} {vs : List Value} {LL : List (List Int)} (h : Lists w B v vs LL) (o : Obj) : Lists (w.alloc o) B v vs LL := h.kept ((Below.refl _ _).alloc (Nat.le_refl _) _)

/-- fresh lists of lists; nothing that was there is written -/
def GivesLists (LL : List (List Int)) (w : World) (e : Ending) (w' : World) : Prop := ∃ v vs, e = .returned v ∧ Lists w' w.heap.size v vs LL ∧ Below w.heap.size w w'

theorem info_slice : (Tryd.prog.info? 29).map (fun i => (i.zero, i.size, i.bytes)) = some (some (.slice none 0 0), 1, 24) := by kernel_rfl
theorem info_parts3 {o : Option TypeInfo} {z : Option Value} {a b : Nat} (h : o.map (fun i => (i.zero, i.size, i.bytes)) = some (z, a, b)) : ∃ i, o = some i ∧ i.zero = z ∧ i.size = a ∧ i.bytes = b := by
  cases o with
  | none => cases h
  | some i => simp at h; exact ⟨i, rfl, h.1, h.2.1, h.2.2⟩

theorem wpList_append_list {ops : Array Oper} {rest : List Oper} {o : Oper} {a : Act} {Q : Exit → Act → World → Prop} {w : World} (hgd : o.guard = none) (s x : Operand)
    (ho : o.op = .call { callee := .builtin .append, args := #[s, x], argTypes := #[22, 22] })
    (B : Nat) (v : Value) (vs : List Value) (LL : List (List Int)) (hs : a.eval s = v) (hl : Lists w B v vs LL) (g c : Nat) (u : Value) (L : List Int) (hx : a.eval x = .slice (some ⟨g, 0, none⟩) 1 c)
    (hc : w.cell? ⟨g, 0, none⟩ = some u) (hu : Row w B u L) (hu1 : u.oneCell' = true) (hv : ∀ k, u.ownBlock = some k → v.ownBlock ≠ some k) (hvs : ∀ i k, i < LL.length → (vs.getD i undef).ownBlock = some k → u.ownBlock ≠ some k)
    (hlen : LL.length < 16777216) (hB : B ≤ w.heap.size)
    (h : ∀ v' w', Lists w' B v' (vs ++ [u]) (LL ++ [L]) → Below B w w' → w.grownBy w' v.ownBlock → (v'.ownBlock = v.ownBlock ∨ v'.ownBlock = some w.heap.size) → wpList Tryd.prog ops Q rest (a.put o.dst v') w') : wpList Tryd.prog ops Q (o :: rest) a w := by
  obtain ⟨i0, hi, hz0, hz1, hz2⟩ := info_parts3 info_slice
  obtain ⟨h1, h2, h3, h4, h5⟩ := hl
  refine wpList_append_own_at w hgd s x 22 ho B 29 i0 (.slice none 0 0) 1 24 Tryd.underlying22 hi hz0 hz1 hz2 rfl (by decide) v LL.length _ hs h3 ⟨g, 0, none⟩ 1 c [u] hx rfl ?_ ?_ ?_ ?_ hB ?_
  · intro j t hj
    match j, hj with
    | 0, hj => simp at hj; subst hj; simpa [Addr.add] using hc
  · intro t ht; simp at ht; subst ht; exact hu1
  · unfold maxLen; omega
  · omega
  · intro v' w' hown hg _ hblk
    have keep : ∀ (t : Value) (M : List Int), Row w B t M → (∀ k, t.ownBlock = some k → v.ownBlock ≠ some k) → Row w' B t M ∧ ∀ k, t.ownBlock = some k → v'.ownBlock ≠ some k := fun t M ht hd => by
      refine ⟨⟨ht.1.kept hg ?_, ht.2⟩, fun k hk e => ?_⟩
      · cases e : t.ownBlock with
        | none => exact .inl rfl
        | some k => exact .inr (fun e2 => hd k e e2.symm)
      · rcases hblk with q | q
        · exact hd k hk (q ▸ e)
        · have := (ht.lt k hk).2
          rw [q] at e
          injection e with e
          omega
    have gl : ∀ i, i < LL.length → (vs ++ [u]).getD i undef = vs.getD i undef ∧ (LL ++ [L]).getD i [] = LL.getD i [] := fun i hi => by
      simp [List.getD_eq_getElem?_getD, List.getElem?_append_left hi, List.getElem?_append_left (show i < vs.length by omega)]
    have gr : (vs ++ [u]).getD LL.length undef = u ∧ (LL ++ [L]).getD LL.length [] = L := by
      constructor
      · rw [← h2]; simp [List.getD_eq_getElem?_getD]
      · simp [List.getD_eq_getElem?_getD]
    refine h v' w' ⟨by simp; omega, by simp [h2], by simpa using hown, fun i hi => ?_, fun i j k hij hj hk => ?_⟩ ((Below.refl B w).grown hg hB fun k hk => (h3.lt k hk).1) hg hblk
    · by_cases e : i < LL.length
      · rw [(gl i e).1, (gl i e).2]
        exact keep _ _ (h4 i e).1 (h4 i e).2
      · have : i = LL.length := by simp at hi; omega
        subst this
        rw [gr.1, gr.2]
        exact keep _ _ hu hv
    · have hi' : i < LL.length := by simp at hj; omega
      rw [(gl i hi').1] at hk
      by_cases e : j < LL.length
      · rw [(gl j e).1]; exact h5 i j k hij e hk
      · have : j = LL.length := by simp at hj; omega
        subst this
        rw [gr.1]; exact hvs i k hi' hk

/-- one list more: what an append leaves -/
theorem Lists.appended {w w' : World} {B : Nat} {v v' : Value} {vs : List Value} {LL : List (List Int)} (hl : Lists w B v vs LL) {u : Value} {L : List Int} (hu : Row w B u L)
    (hv : ∀ k, u.ownBlock = some k → v.ownBlock ≠ some k) (hvs : ∀ i k, i < LL.length → (vs.getD i undef).ownBlock = some k → u.ownBlock ≠ some k)
    (hlen : LL.length < 16777216) (hB : B ≤ w.heap.size) (hown : w'.ownsRow B 29 1 v' (LL.length + 1) (vs ++ [u])) (hg : w.grownBy w' v.ownBlock) (hblk : v'.ownBlock = v.ownBlock ∨ v'.ownBlock = some w.heap.size) :
    Lists w' B v' (vs ++ [u]) (LL ++ [L]) ∧ Below B w w' := by
  obtain ⟨h1, h2, h3, h4, h5⟩ := hl
  have keep : ∀ (t : Value) (M : List Int), Row w B t M → (∀ k, t.ownBlock = some k → v.ownBlock ≠ some k) → Row w' B t M ∧ ∀ k, t.ownBlock = some k → v'.ownBlock ≠ some k := fun t M ht hd => by
    refine ⟨⟨ht.1.kept hg ?_, ht.2⟩, fun k hk e => ?_⟩
    · cases e : t.ownBlock with
      | none => exact .inl rfl
      | some k => exact .inr (fun e2 => hd k e e2.symm)
    · rcases hblk with q | q
      · exact hd k hk (q ▸ e)
      · have := (ht.lt k hk).2
        rw [q] at e
        injection e with e
        omega
  have gl : ∀ i, i < LL.length → (vs ++ [u]).getD i undef = vs.getD i undef ∧ (LL ++ [L]).getD i [] = LL.getD i [] := fun i hi => by
    simp [List.getD_eq_getElem?_getD, List.getElem?_append_left hi, List.getElem?_append_left (show i < vs.length by omega)]
  have gr : (vs ++ [u]).getD LL.length undef = u ∧ (LL ++ [L]).getD LL.length [] = L := by
    constructor
    · rw [← h2]; simp [List.getD_eq_getElem?_getD]
    · simp [List.getD_eq_getElem?_getD]
  refine ⟨⟨by simp; omega, by simp [h2], by simpa using hown, fun i hi => ?_, fun i j k hij hj hk => ?_⟩, (Below.refl B w).grown hg hB fun k hk => (h3.lt k hk).1⟩
  · by_cases e : i < LL.length
    · rw [(gl i e).1, (gl i e).2]
      exact keep _ _ (h4 i e).1 (h4 i e).2
    · have : i = LL.length := by simp at hi; omega
      subst this
      rw [gr.1, gr.2]
      exact keep _ _ hu hv
  · have hi' : i < LL.length := by simp at hj; omega
    rw [(gl i hi').1] at hk
    by_cases e : j < LL.length
    · rw [(gl j e).1]; exact h5 i j k hij e hk
    · have : j = LL.length := by simp at hj; omega
      subst this
      rw [gr.1]; exact hvs i k hi' hk

theorem Lists.blocks {w : World} {B : Nat} {v : Value} {vs : List Value} {LL : List (List Int)} (h : Lists w B v vs LL) : (∀ k, v.ownBlock = some k → k < w.heap.size) ∧ ∀ i k, i < LL.length → (vs.getD i undef).ownBlock = some k → k < w.heap.size :=
  ⟨fun k hk => (h.2.2.1.lt k hk).2, fun i k hi hk => ((h.2.2.2.1 i hi).1.lt k hk).2⟩

theorem Lists.mono {w : World} {B B' : Nat} {v : Value} {vs : List Value} {LL : List (List Int)} (h : Lists w B v vs LL) (hB : B' ≤ B) : Lists w B' v vs LL := by
  obtain ⟨h1, h2, ⟨h31, h3⟩, h4, h5⟩ := h
  refine ⟨h1, h2, ⟨h31, ?_⟩, fun i hi => ⟨(h4 i hi).1.mono hB, (h4 i hi).2⟩, h5⟩
  rcases h3 with h3 | ⟨g, cap, cur, e, hg, r⟩
  · exact .inl h3
  · exact .inr ⟨g, cap, cur, e, by omega, r⟩
end Go.Proofs.YtpcbplademohnaaDoor
