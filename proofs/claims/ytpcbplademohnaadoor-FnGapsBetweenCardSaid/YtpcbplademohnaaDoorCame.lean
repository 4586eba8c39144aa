/-
  Lists of whole numbers that came in, and their copies.
-/
import Derived.Test.YtpcbplademohnaaDoorTones
namespace Go.Proofs.YtpcbplademohnaaDoor
open Go.RowKit
set_option linter.unusedVariables false

/-- what came in as a list of numbers -/
def Came (w : World) (v : Value) (L : List Int) : Prop := ∃ p m, v = .slice p L.length m ∧ L.length ≤ m ∧ m ≤ maxLen ∧
  (L.length = 0 ∨ ∃ b o, p = some ⟨b, o, none⟩ ∧ b < w.heap.size ∧ ∀ i, i < L.length → w.cell? ⟨b, o + i, none⟩ = some (.int .i64 (L.getD i 0)))
theorem Came.kept {w w' : World} {v : Value} {L : List Int} (h : Came w v L) (hb : Below w.heap.size w w') : Came w' v L := by
  obtain ⟨p, m, e, h1, h2, h3⟩ := h
  refine ⟨p, m, e, h1, h2, ?_⟩
  rcases h3 with h3 | ⟨b, o, e2, h4, h5⟩
  · exact .inl h3
  · exact .inr ⟨b, o, e2, Nat.lt_of_lt_of_le h4 hb.size, fun i hi => (hb.cell (p := ⟨b, o + i, none⟩) h4).trans (h5 i hi)⟩
theorem came_nil (w : World) : Came w (.slice none 0 0) [] := ⟨none, 0, rfl, Nat.le_refl _, Nat.zero_le _, .inl rfl⟩
theorem came_row {w : World} {x : Addr} {len cap : Nat} {z : List Int} (hl : len ≤ cap) (hm : cap ≤ maxLen) (hz : z.length = cap) (hcell : ∀ i, i < z.length → w.cell? (x.add i) = some (.int .i64 (z.getD i 0))) : Came w (.slice (some x) len cap) (z.take len) := by
  have hlen : (z.take len).length = len := by rw [List.length_take]; omega
  refine ⟨some x, cap, by rw [hlen], by omega, hm, ?_⟩
  by_cases h0 : len = 0
  · exact .inl (by omega)
  · obtain ⟨b, off, spot⟩ := x
    have hc := hcell 0 (by omega)
    have hspot : spot = none := by simpa [Addr.add] using World.cell?_spot hc
    subst hspot
    have hb : b < w.heap.size := by simpa [Addr.add] using World.block_lt_of_cell? w _ hc
    refine .inr ⟨b, off, rfl, hb, fun i hi => ?_⟩
    have h1 := (show (⟨b, off + i, none⟩ : Addr) = (⟨b, off, none⟩ : Addr).add i by unfold Addr.add; split <;> simp_all) ▸ hcell i (by omega)
    rw [h1]
    rw [List.getD_eq_getElem?_getD, List.getD_eq_getElem?_getD, List.getElem?_take_of_lt (by omega)]

/-- numbers as a list of n -/
def zeros (n : Nat) : List Int := List.replicate n 0
/-- a list whose first k are those of L, and the others 0 -/
def part (L : List Int) (k : Nat) : List Int := L.take k ++ zeros (L.length - k)
theorem part_length (L : List Int) {k : Nat} (h : k ≤ L.length) : (part L k).length = L.length := by simp [part, zeros]; omega
theorem part_all (L : List Int) : part L L.length = L := by simp [part, zeros]
theorem part_set {L : List Int} {k : Nat} (h : k < L.length) : (part L k).set k (L.getD k 0) = part L (k + 1) := by
  have hk : (L.take k).length = k := by rw [List.length_take]; omega
  unfold part zeros
  rw [List.set_append_right _ _ (by omega), hk, Nat.sub_self]
  rw [show L.length - k = (L.length - (k + 1)) + 1 by omega, List.replicate_succ, List.set_cons_zero]
  rw [List.take_succ_eq_append_getElem h, List.append_assoc]
  simp [List.getD_eq_getElem?_getD, List.getElem?_eq_getElem h]

theorem wpList_make_zeros {ops : Array Oper} {rest : List Oper} {o : Oper} {a : Act} {Q : Exit → Act → World → Prop} {w : World} (hg : o.guard = none) (l c : Operand) (hop : o.op = Op.makeSlice 29 l c)
    (B : Nat) (X Y : Int) (m : Nat) (hl : a.eval l = .int .i64 X) (hc : a.eval c = .int .i64 Y) (hX : X = (m : Int)) (hY : Y = (m : Int)) (hm : m ≤ 1048576) (hB : B ≤ w.heap.size)
    (hK : ∀ w', Row w' B (.slice (some ⟨w.heap.size, 0, none⟩) m m) (zeros m) → Below w.heap.size w w' → wpList Tryd.prog ops Q rest (a.put o.dst (.slice (some ⟨w.heap.size, 0, none⟩) m m)) w') :
    wpList Tryd.prog ops Q (o :: rest) a w := by
  obtain ⟨i0, hi, hz0, hz1, hz2⟩ := info_parts info_int
  refine wpList_make_full w hg l c 29 hop B 3 i0 (.int .i64 0) 1 Tryd.underlying29 hi hz0 hz1 .i64 .i64 X Y m hl hc hX hY (by rw [hz2]; omega) (by unfold maxLen; omega) hB ?_
  intro w' hown hgr
  refine hK w' ⟨?_, by simp [zeros]; exact hm⟩ ((Below.refl _ _).grown hgr (Nat.le_refl _) (fun k hk => by cases hk))
  rw [show (zeros m).length = m by simp [zeros], show (zeros m).map (Value.int .i64) = List.replicate m (Value.int .i64 0) by simp [zeros]]
  have : (madeCells (Value.int .i64 0).cells (m * 1)).toList = List.replicate m (Value.int .i64 0) := by
    rw [Nat.mul_one]; exact toList_madeCells_one _ _
  rw [this] at hown
  exact hown

theorem grownBy_set {w v : World} {g : Nat} (h : w.grownBy v (some g)) (j : Nat) (u : Value) : w.grownBy (v.setCell ⟨g, j, none⟩ u) (some g) :=
  ⟨h.os, h.tape, h.output, by simpa using h.size, fun k hk hne => (Below.heap_setCell v ⟨g, j, none⟩ u k (fun e => hne (by rw [e]))).trans (h.block k hk hne)⟩
theorem Row.besides {w w' : World} {B : Nat} {v : Value} {L : List Int} (h : Row w B v L) {row : Option Nat} (hg : w.grownBy w' row) (hB : ∀ k, v.ownBlock = some k → row ≠ some k) : Row w' B v L := by
  refine ⟨h.1.kept hg ?_, h.2⟩
  cases e : v.ownBlock with
  | none => exact .inl rfl
  | some k => right; intro e2; exact hB k e e2.symm
/-- markIntS writes no other block -/
theorem markIntS_only (v : Value) (B : Nat) (L : List Int) (q : Int) (w : World) (h1 : Row w B v L) (hq0 : 0 ≤ q) (hq1 : q ≤ 1000000) :
    Calls Tryd.prog 28 #[v, .int .i64 q] w fun e w' => e = .returned (.int .i64 (q + L.length)) ∧ w.grownBy w' v.ownBlock := by
  have hl2 := h1.2
  rcases h1.cases with ⟨rfl, rfl⟩ | ⟨g1, c1, rfl, hBg, hg1, hc1, hf1⟩
  · go_enter Tryd.func28, Tryd.ntmps28
    go_wp2
    refine wp_loop_rounds 1 ?_
    rw [rounds_succ]
    go_wp2
    go_ret
    exact ⟨ret_int (by simp), ⟨rfl, rfl, rfl, Nat.le_refl _, fun _ _ _ => rfl⟩⟩
  · generalize hn : L.length = n at hl2 hc1 h1
    have HN := Lib.hid hn
    have HR : Hid (Row w B (.slice (some ⟨g1, 0, none⟩) n c1) L) := h1
    clear hn hc1 hf1 h1
    go_enter Tryd.func28, Tryd.ntmps28
    go_wp2
    go_loopw [1, 5] (fun t1 t5 wr => ∃ k : Nat, k ≤ n ∧ t5 = .int .i64 k ∧ t1 = .int .i64 (q + k) ∧ Hid (Row wr B (.slice (some ⟨g1, 0, none⟩) n c1) (markTo q L k)) ∧ Hid (w.grownBy wr (some g1))) (fun _ t5 _ => n - (intOf t5).toNat)
    case atStart => exact ⟨0, Nat.zero_le _, rfl, by simp, HR, Lib.hid ⟨rfl, rfl, rfl, Nat.le_refl _, fun _ _ _ => rfl⟩⟩
    case round =>
      obtain ⟨k, hk, rfl, rfl, HR2, hbel⟩ := hrel
      have hr : Row wr B (.slice (some ⟨g1, 0, none⟩) (markTo q L k).length c1) (markTo q L k) := by rw [markTo_length, HN.out]; exact HR2.out
      by_cases hlt2 : k < n
      · obtain ⟨d1, f1⟩ : (∃ u, wr.cell? ⟨g1, k, none⟩ = some u) ∧ wr.frozen? ⟨g1, k, none⟩ = false := by
          rcases hr.cases with ⟨e, _⟩ | ⟨g, c, e, _, _, hc, hf⟩
          · cases e
          · simp only [Value.slice.injEq, Option.some.injEq, Addr.mk.injEq, and_true, true_and] at e
            obtain ⟨rfl, rfl⟩ := e
            exact ⟨⟨_, hc k (by rw [markTo_length, HN.out]; exact hlt2)⟩, hf k⟩
        obtain ⟨u, d1⟩ := d1
        have hset := hr.set k (q + k)
        have HS : Hid (Row (wr.setCell ⟨g1, k, none⟩ (.int .i64 (q + k))) B (.slice (some ⟨g1, 0, none⟩) n c1) (markTo q L (k + 1))) := by
          have := hset.1
          rw [markTo_length, HN.out] at this
          exact this
        have HG := Lib.hid (grownBy_set hbel.out k (.int .i64 (q + k)))
        clear hr hset HR2 hbel
        go_wp2
        all_goals
          go_roundw
          case rel => exact ⟨k + 1, by omega, by go_num, by go_num, HS, HG⟩
          case measure => simp [intOf]; omega
      · have : k = n := by omega
        subst this
        clear hr
        go_wp2
        go_ret
        exact ⟨rfl, hbel.out⟩
end Go.Proofs.YtpcbplademohnaaDoor
