/-
  Contracts of GapsOf, of the program and of the model.
-/
import Derived.Test.YthgcdibkdaipgaaTones
import Derived.Test.YthgcdibkdaipgaaGapsNum
namespace Go.Proofs.Ythgcdibkdaipgaa
open Go.RowKit
set_option linter.unusedVariables false

theorem Row.put {w : World} {B g m cap : Nat} {C C' : Nat → Nat} (h : Row w B (.slice (some ⟨g, 0, none⟩) m cap) (Tic.cts m C)) {i : Nat} (hi : i < m) (hC : ∀ d, C' d = C d + if d = i then 1 else 0) :
    Row (w.setCell ⟨g, i, none⟩ (.int .i64 ((C i : Int) + 1))) B (.slice (some ⟨g, 0, none⟩) m cap) (Tic.cts m C') := by
  have := (Row.set (by rw [Tic.cts_length]; exact h) i ((C i : Int) + 1)).1
  rw [Tic.cts_length, Tic.cts_set C C' hi hC] at this
  exact this

theorem wpList_make_ints {ops : Array Oper} {rest : List Oper} {o : Oper} {a : Act} {Q : Exit → Act → World → Prop} {w : World} (hg : o.guard = none) (l c : Operand) (hop : o.op = Op.makeSlice 27 l c)
    (B : Nat) (X Y : Int) (m : Nat) (hl : a.eval l = .int .i64 X) (hc : a.eval c = .int .i64 Y) (hX : X = (m : Int)) (hY : Y = (m : Int)) (hm : m ≤ 4096) (hB : B ≤ w.heap.size)
    (hK : ∀ w', Row w' B (.slice (some ⟨w.heap.size, 0, none⟩) m m) (Tic.cts m fun _ => 0) → Below w.heap.size w w' → wpList Try.prog ops Q rest (a.put o.dst (.slice (some ⟨w.heap.size, 0, none⟩) m m)) w') :
    wpList Try.prog ops Q (o :: rest) a w := by
  obtain ⟨i0, hi, hz0, hz1, hz2⟩ := info_parts info_int
  refine wpList_make_full w hg l c 27 hop B 3 i0 (.int .i64 0) 1 Try.underlying27 hi hz0 hz1 .i64 .i64 X Y m hl hc hX hY (by rw [hz2]; omega) (by unfold maxLen; omega) hB ?_
  intro w' hown hgr
  refine hK w' ⟨?_, by rw [Tic.cts_length]; exact hm⟩ ((Below.refl _ _).grown hgr (Nat.le_refl _) (fun k hk => by cases hk))
  rw [Tic.cts_length, Tic.cts_zero, List.map_replicate]
  have : (madeCells (Value.int .i64 0).cells (m * 1)).toList = List.replicate m (Value.int .i64 0) := by
    rw [Nat.mul_one]; exact toList_madeCells_one _ _
  rw [this] at hown
  exact hown


theorem gI_same (n S a : Nat) : ∀ b, a ≤ b → b ≤ n → (tonesTo S a).length = (tonesTo S b).length → ∀ d, Tic.gI n S b 0 d = Tic.gI n S a 0 d
  | 0, h, _, _, d => by rw [Nat.le_zero.1 h]
  | b + 1, h, hb2, e, d => by
    by_cases e2 : a = b + 1
    · rw [e2]
    · have hm := tonesTo_mono S a b (by omega)
      cases hb : S.testBit b with
      | false =>
        rw [tonesTo_no hb] at e
        rw [Tic.gI_none n S b d (by omega) hb]
        exact gI_same n S a b (by omega) (by omega) e d
      | true => rw [tonesTo_yes hb] at e; simp at e; omega
theorem gI_same2 (n S y a : Nat) : ∀ b, a ≤ b → (tonesTo S a).length = (tonesTo S b).length → ∀ d, Tic.gI n S y b d = Tic.gI n S y a d
  | 0, h, _, d => by rw [Nat.le_zero.1 h]
  | b + 1, h, e, d => by
    by_cases e2 : a = b + 1
    · rw [e2]
    · have hm := tonesTo_mono S a b (by omega)
      cases hb : S.testBit b with
      | false =>
        rw [tonesTo_no hb] at e
        rw [Tic.gI_skip n S y b d hb]
        exact gI_same2 n S y a b (by omega) e d
      | true => rw [tonesTo_yes hb] at e; simp at e; omega
theorem gI_eq {n S a b : Nat} (ha : a ≤ n) (hb : b ≤ n) (e : (tonesTo S a).length = (tonesTo S b).length) (d : Nat) : Tic.gI n S b 0 d = Tic.gI n S a 0 d := by
  rcases Nat.le_total a b with h | h
  · exact gI_same n S a b h hb e d
  · exact (gI_same n S b a h ha e.symm d).symm
theorem gI_eq2 {n S y a b : Nat} (e : (tonesTo S a).length = (tonesTo S b).length) (d : Nat) : Tic.gI n S y b d = Tic.gI n S y a d := by
  rcases Nat.le_total a b with h | h
  · exact gI_same2 n S y a b h e d
  · exact (gI_same2 n S y b a h e.symm d).symm


end Go.Proofs.Ythgcdibkdaipgaa
