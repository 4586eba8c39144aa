/-
  Contracts of TonesOf, of the program and of the model.
-/
import Derived.Test.YtpcbplademohnaaDoorRow
import Derived.Maps.AppendAt
namespace Go.Proofs.YtpcbplademohnaaDoor
open Go.RowKit
set_option linter.unusedVariables false

theorem info_int : (Tryd.prog.info? 3).map (fun i => (i.zero, i.size, i.bytes)) = some (some (.int .i64 0), 1, 8) := by kernel_rfl

/-- the tones of s below k, ascending -/
def tonesTo (s : Nat) : Nat → List Int
  | 0 => []
  | k + 1 => if s.testBit k then tonesTo s k ++ [(k : Int)] else tonesTo s k
theorem tonesTo_le (s : Nat) : ∀ k, (tonesTo s k).length ≤ k
  | 0 => Nat.le_refl _
  | k + 1 => by unfold tonesTo; have := tonesTo_le s k; split <;> simp <;> omega
theorem tonesTo_yes {s k : Nat} (h : s.testBit k = true) : tonesTo s (k + 1) = tonesTo s k ++ [(k : Int)] := by conv => lhs; unfold tonesTo; rw [if_pos h]
theorem tonesTo_no {s k : Nat} (h : s.testBit k = false) : tonesTo s (k + 1) = tonesTo s k := by conv => lhs; unfold tonesTo; rw [if_neg (by simp [h])]

/-- a fresh slice of the numbers L; nothing that was there is written -/
def Gives (L : List Int) (w : World) (e : Ending) (w' : World) : Prop := ∃ v, e = .returned v ∧ Row w' w.heap.size v L ∧ Below w.heap.size w w'

theorem Row.alloc {w : World} {B : Nat} {v : Value} {L : List Int} (h : Row w B v L) (o : Obj) : Row (w.alloc o) B v L := ⟨h.1.alloc o, h.2⟩

theorem Row.mono2 {w : World} {B B' : Nat} {v : Value} {L : List Int} (h : Row w B v L) (hB : ∀ b, v.ownBlock = some b → B' ≤ b) : Row w B' v L := by
  obtain ⟨⟨h1, h2⟩, h3⟩ := h
  refine ⟨⟨h1, ?_⟩, h3⟩
  rcases h2 with h2 | ⟨g, cap, cur, e, hg, r⟩
  · exact .inl h2
  · exact .inr ⟨g, cap, cur, e, hB g (by rw [e]; rfl), r⟩

theorem wpList_append_int {ops : Array Oper} {rest : List Oper} {o : Oper} {a : Act} {Q : Exit → Act → World → Prop} {w : World} (hgd : o.guard = none) (s x : Operand)
    (ho : o.op = .call { callee := .builtin .append, args := #[s, x], argTypes := #[29, 29] })
    (B : Nat) (v : Value) (L : List Int) (hs : a.eval s = v) (hrow : Row w B v L) (g c : Nat) (y : Int) (hx : a.eval x = .slice (some ⟨g, 0, none⟩) 1 c)
    (hc : w.cell? ⟨g, 0, none⟩ = some (.int .i64 y)) (hlen : L.length < 4096) (hB : B ≤ w.heap.size)
    (h : ∀ v' w', Row w' B v' (L ++ [y]) → Below B w w' → wpList Tryd.prog ops Q rest (a.put o.dst v') w') : wpList Tryd.prog ops Q (o :: rest) a w := by
  obtain ⟨i0, hi, hz0, hz1, hz2⟩ := info_parts info_int
  refine wpList_append_own w hgd s x 29 ho B 3 i0 (.int .i64 0) 1 8 Tryd.underlying29 hi hz0 hz1 hz2 rfl (by decide) v L.length _ hs hrow.1 ⟨g, 0, none⟩ 1 c [.int .i64 y] hx rfl ?_ ?_ ?_ ?_ hB ?_
  · intro j u hj
    match j, hj with
    | 0, hj => simp at hj; subst hj; simpa [Addr.add] using hc
  · intro u hu; simp at hu; subst hu; rfl
  · unfold maxLen; omega
  · omega
  · intro v' w' hown hg _
    refine h v' w' ⟨?_, by simp; omega⟩ ((Below.refl B w).grown hg hB fun k hk => (hrow.lt k hk).1)
    rw [List.map_append, List.length_append]
    exact hown

/-- .. telling also which block is written: the row's own, or a new one -/
theorem wpList_append_row {ops : Array Oper} {rest : List Oper} {o : Oper} {a : Act} {Q : Exit → Act → World → Prop} {w : World} (hgd : o.guard = none) (s x : Operand)
    (ho : o.op = .call { callee := .builtin .append, args := #[s, x], argTypes := #[29, 29] })
    (B : Nat) (v : Value) (L : List Int) (hs : a.eval s = v) (hrow : Row w B v L) (g c : Nat) (y : Int) (hx : a.eval x = .slice (some ⟨g, 0, none⟩) 1 c)
    (hc : w.cell? ⟨g, 0, none⟩ = some (.int .i64 y)) (hlen : L.length < 4096) (hB : B ≤ w.heap.size)
    (h : ∀ v' w', Row w' B v' (L ++ [y]) → Below B w w' → w.grownBy w' v.ownBlock → (v'.ownBlock = v.ownBlock ∨ v'.ownBlock = some w.heap.size) → wpList Tryd.prog ops Q rest (a.put o.dst v') w') : wpList Tryd.prog ops Q (o :: rest) a w := by
  obtain ⟨i0, hi, hz0, hz1, hz2⟩ := info_parts info_int
  refine wpList_append_own_at w hgd s x 29 ho B 3 i0 (.int .i64 0) 1 8 Tryd.underlying29 hi hz0 hz1 hz2 rfl (by decide) v L.length _ hs hrow.1 ⟨g, 0, none⟩ 1 c [.int .i64 y] hx rfl ?_ ?_ ?_ ?_ hB ?_
  · intro j u hj
    match j, hj with
    | 0, hj => simp at hj; subst hj; simpa [Addr.add] using hc
  · intro u hu; simp at hu; subst hu; rfl
  · unfold maxLen; omega
  · omega
  · intro v' w' hown hg _ hv
    refine h v' w' ⟨?_, by simp; omega⟩ ((Below.refl B w).grown hg hB fun k hk => (hrow.lt k hk).1) hg hv
    rw [List.map_append, List.length_append]
    exact hown



theorem Row.nil (w : World) (B : Nat) : Row w B (.slice none 0 0) [] := ⟨World.ownsRow_nil _ _ _ _, Nat.zero_le _⟩




theorem set_far {w : World} {a b : Addr} {v : Value} (h : a.block ≠ b.block) : (w.setCell a v).cell? b = w.cell? b := World.cell?_setCell_other _ _ _ _ (fun e => h (by rw [e]))
theorem Row.shape {w : World} {B g n cap : Nat} {L : List Int} (h : Row w B (.slice (some ⟨g, 0, none⟩) n cap) L) : L.length = n ∧ B ≤ g ∧ g < w.heap.size ∧ (∀ i, i < n → w.cell? ⟨g, i, none⟩ = some (.int .i64 (L.getD i 0))) ∧ (∀ i, w.frozen? ⟨g, i, none⟩ = false) := by
  rcases h.cases with ⟨e, _⟩ | ⟨g', c', e, hB, hg, hc, hf⟩
  · cases e
  · simp only [Value.slice.injEq, Option.some.injEq, Addr.mk.injEq, and_true] at e
    obtain ⟨rfl, rfl, rfl⟩ := e
    exact ⟨rfl, hB, hg, hc, hf⟩
theorem Row.capge {w : World} {B g n cap : Nat} {L : List Int} (h : Row w B (.slice (some ⟨g, 0, none⟩) n cap) L) : n ≤ cap ∧ cap ≤ maxLen := by
  rcases h.1.2 with ⟨e, _⟩ | ⟨g', c', cur, e, _, _, h1, h2, _⟩
  · cases e
  · simp only [Value.slice.injEq, Option.some.injEq, Addr.mk.injEq, and_true] at e
    obtain ⟨rfl, rfl, rfl⟩ := e
    exact ⟨h1, h2⟩
theorem tonesTo_at (S : Nat) : ∀ N i, i < (tonesTo S N).length → ∃ y, y < N ∧ S.testBit y = true ∧ (tonesTo S N).getD i 0 = (y : Int) ∧ (tonesTo S y).length = i
  | 0, i, h => by simp [tonesTo] at h
  | N + 1, i, h => by
    cases hb : S.testBit N with
    | false =>
      rw [tonesTo_no hb] at h ⊢
      obtain ⟨y, h1, h2⟩ := tonesTo_at S N i h
      exact ⟨y, by omega, h2⟩
    | true =>
      rw [tonesTo_yes hb] at h ⊢
      by_cases hi : i < (tonesTo S N).length
      · obtain ⟨y, h1, h2, h3, h4⟩ := tonesTo_at S N i hi
        refine ⟨y, by omega, h2, ?_, h4⟩
        rw [List.getD_eq_getElem?_getD, List.getElem?_append_left hi, ← List.getD_eq_getElem?_getD]
        exact h3
      · have : i = (tonesTo S N).length := by simp at h; omega
        subst this
        exact ⟨N, by omega, hb, by simp [List.getD_eq_getElem?_getD], rfl⟩
theorem tonesTo_mono (S a : Nat) : ∀ b, a ≤ b → (tonesTo S a).length ≤ (tonesTo S b).length
  | 0, h => by rw [Nat.le_zero.1 h]; exact Nat.le_refl _
  | b + 1, h => by
    by_cases e : a = b + 1
    · rw [e]; exact Nat.le_refl _
    · have := tonesTo_mono S a b (by omega)
      cases hb : S.testBit b with
      | false => rw [tonesTo_no hb]; exact this
      | true => rw [tonesTo_yes hb]; simp; omega
theorem tonesTo_next {S y : Nat} (h : S.testBit y = true) : (tonesTo S (y + 1)).length = (tonesTo S y).length + 1 := by rw [tonesTo_yes h]; simp

end Go.Proofs.YtpcbplademohnaaDoor
