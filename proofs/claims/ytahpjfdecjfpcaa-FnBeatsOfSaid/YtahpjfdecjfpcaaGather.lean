/-
  The program's function that gathers sizes: a number is put into the ascending list that a captured variable holds.
-/
import Derived.Test.YtahpjfdecjfpcaaInsert
import Derived.Test.YtahpjfdecjfpcaaSizesSpec
namespace Go.Proofs.Ytahpjfdecjfpcaa
open Go.RowKit
set_option linter.unusedVariables false

theorem tonesTo_lt {s k : Nat} {x : Int} (h : x ∈ tonesTo s k) : 0 ≤ x ∧ x < k := by
  rw [tonesTo_map] at h
  obtain ⟨y, hy, rfl⟩ := List.mem_map.1 h
  obtain ⟨i, hi, e⟩ := List.getElem_of_mem hy
  have := tn_lt (s := s) (n := k) (i := i) hi
  rw [List.getD_eq_getElem?_getD, List.getElem?_eq_getElem hi] at this
  simp [e] at this
  exact ⟨by omega, by omega⟩
theorem tonesTo_sorted (s : Nat) : ∀ k, (tonesTo s k).Pairwise (· ≤ ·)
  | 0 => List.Pairwise.nil
  | k + 1 => by
    cases h : s.testBit k with
    | false => rw [tonesTo_no h]; exact tonesTo_sorted s k
    | true =>
      rw [tonesTo_yes h, List.pairwise_append]
      refine ⟨tonesTo_sorted s k, by simp, fun x hx y hy => ?_⟩
      have := tonesTo_lt hx
      have hy2 : y = (k : Int) := by simpa using hy
      omega
theorem tonesTo_count (s d : Nat) : ∀ k, d ≤ k → (tonesTo s k).countP (fun x => decide (x < (d : Int))) = (tonesTo s d).length
  | 0, h => by have : d = 0 := by omega
               subst this; rfl
  | k + 1, h => by
    by_cases e : d = k + 1
    · subst e
      rw [List.countP_eq_length]
      intro x hx
      have := tonesTo_lt hx
      simpa using this.2
    · have ih := tonesTo_count s d k (by omega)
      cases hb : s.testBit k with
      | false => rw [tonesTo_no hb]; exact ih
      | true =>
        rw [tonesTo_yes hb, List.countP_append, ih]
        simp
        omega
theorem tonesTo_mem (s d : Nat) : ∀ k, d < k → (tonesTo s k).contains (d : Int) = s.testBit d
  | 0, h => by omega
  | k + 1, h => by
    by_cases e : d = k
    · subst e
      cases hb : s.testBit d with
      | true => rw [tonesTo_yes hb]; simp
      | false =>
        rw [tonesTo_no hb]
        cases hc : (tonesTo s d).contains (d : Int) with
        | false => rfl
        | true =>
          have := tonesTo_lt (List.contains_iff_mem.1 hc)
          omega
    · have ih := tonesTo_mem s d k (by omega)
      cases hb : s.testBit k with
      | false => rw [tonesTo_no hb]; exact ih
      | true =>
        rw [tonesTo_yes hb, ← ih]
        have : ¬ (d : Int) = (k : Int) := by omega
        simp [this]
theorem or_bit {s d j : Nat} : (s ||| 2 ^ d).testBit j = (s.testBit j || decide (d = j)) := by rw [Nat.testBit_or, Nat.testBit_two_pow]
theorem tonesTo_or_low {s d : Nat} : ∀ k, k ≤ d → tonesTo (s ||| 2 ^ d) k = tonesTo s k
  | 0, _ => rfl
  | k + 1, h => by
    have ih := tonesTo_or_low (s := s) (d := d) k (by omega)
    have hb : (s ||| 2 ^ d).testBit k = s.testBit k := by rw [or_bit, decide_eq_false (by omega), Bool.or_false]
    cases hs : s.testBit k with
    | true => rw [tonesTo_yes (by rw [hb, hs]), tonesTo_yes hs, ih]
    | false => rw [tonesTo_no (by rw [hb, hs]), tonesTo_no hs, ih]
theorem tonesTo_split {s d : Nat} (hd : s.testBit d = false) : ∀ k, d < k → ∃ R, tonesTo s k = tonesTo s d ++ R ∧ tonesTo (s ||| 2 ^ d) k = tonesTo s d ++ (d : Int) :: R
  | 0, h => by omega
  | k + 1, h => by
    by_cases e : d = k
    · subst e
      refine ⟨[], by rw [tonesTo_no hd]; simp, ?_⟩
      rw [tonesTo_yes (by rw [or_bit]; simp), tonesTo_or_low _ (Nat.le_refl _)]
    · obtain ⟨R, h1, h2⟩ := tonesTo_split hd k (by omega)
      have hb : (s ||| 2 ^ d).testBit k = s.testBit k := by rw [or_bit, decide_eq_false e, Bool.or_false]
      cases hs : s.testBit k with
      | true => exact ⟨R ++ [(k : Int)], by rw [tonesTo_yes hs, h1, List.append_assoc], by rw [tonesTo_yes (by rw [hb, hs]), h2, List.append_assoc]; rfl⟩
      | false => exact ⟨R, by rw [tonesTo_no hs, h1], by rw [tonesTo_no (by rw [hb, hs]), h2]⟩
theorem tonesTo_ins {s d k : Nat} (hd : s.testBit d = false) (h : d < k) : insAt (tonesTo s k) (tonesTo s d).length d = tonesTo (s ||| 2 ^ d) k := by
  obtain ⟨R, h1, h2⟩ := tonesTo_split hd k h
  rw [h2]
  unfold insAt
  rw [h1]
  simp
theorem tonesTo_or {s d k : Nat} (hd : s.testBit d = true) : tonesTo (s ||| 2 ^ d) k = tonesTo s k := by
  have : s ||| 2 ^ d = s := by
    apply Nat.eq_of_testBit_eq
    intro j
    rw [or_bit]
    by_cases e : d = j
    · subst e; simp [hd]
    · simp [e]
  rw [this]

theorem search_any (v : Value) (B : Nat) (L : List Int) (x : Int) (w : World) (h : Row w B v L) (hs : L.Pairwise (· ≤ ·)) :
    Calls Try.prog 65 #[v, .int .i64 x] w fun e w' => e = .returned (.tuple #[.int .i64 (L.countP (fun y => decide (y < x)) : Nat), .bool (L.contains x)]) ∧ ∃ q, w' = w.drewN q := by
  have hl := h.2
  rcases h.cases with ⟨rfl, rfl⟩ | ⟨g, cap, rfl, _, _, hc, _⟩
  · exact (Try.slices_BinarySearch_int_empty none 0 x w).mono fun e w' ⟨h1, h2⟩ => ⟨h1, 0, h2⟩
  · have := Try.slices_BinarySearch_int g 0 L.length cap L x w (Nat.le_refl _) (by omega) (fun j hj => by rw [Nat.zero_add]; exact hc j hj) (by rw [List.take_length]; exact hs)
    rw [List.take_length] at this
    exact this

theorem Row.slice {w : World} {B : Nat} {v : Value} {L : List Int} (h : Row w B v L) : ∃ a n c, v = .slice a n c := by
  rcases h.cases with ⟨e, _⟩ | ⟨g, cap, e, _⟩
  · exact ⟨_, _, _, e⟩
  · exact ⟨_, _, _, e⟩
/-- the blocks below B but b are as they were -/
def Stays (b B : Nat) (w w' : World) : Prop := Below b w w' ∧ ∀ k, k < B → k ≠ b → w'.heap[k]? = w.heap[k]?
theorem Stays.refl (b B : Nat) (w : World) : Stays b B w w := ⟨Below.refl _ _, fun _ _ _ => rfl⟩
theorem Stays.cell {b B : Nat} {w w' : World} (h : Stays b B w w') {g o : Nat} (hg : g < B) (hne : g ≠ b) : w'.cell? ⟨g, o, none⟩ = w.cell? ⟨g, o, none⟩ := World.cell?_of_block (h.2 g hg hne)
theorem Stays.trans {b B : Nat} {u v w : World} (h : Stays b B u v) (k : Stays b B v w) : Stays b B u w := ⟨h.1.trans k.1, fun i hi hn => (k.2 i hi hn).trans (h.2 i hi hn)⟩
theorem Stays.of {b B : Nat} {w w' : World} (hb : b ≤ B) (h : Below B w w') (hB : B ≤ w.heap.size) : Stays b B w w' := ⟨h.mono hb, fun k hk _ => h.block k hk⟩

set_option maxHeartbeats 800000 in
set_option maxRecDepth 20000 in
theorem gather_any (d D N b B : Nat) (v : Value) (w : World) (hrow : Row w B v (tonesTo D N)) (hb : w.heap[b]? = some (.cells #[v] 29 (0, 0))) (hbB : b < B) (hB : B ≤ w.heap.size) (hd : d < N) (hN : N ≤ 12) :
    Calls Try.prog 64 #[.int .i64 d, .pointer (some ⟨b, 0, none⟩)] w fun e w' => e = .returned (.tuple #[]) ∧ ∃ v', w'.heap[b]? = some (.cells #[v'] 29 (0, 0)) ∧ Row w' B v' (tonesTo (D ||| 2 ^ d) N) ∧ Stays b B w w' := by
  have hc := cell_of_one hb
  have hf := free_of_one hb
  have HB := Lib.hid hb
  have HR := Lib.hid hrow
  have HS := Lib.hid (tonesTo_sorted D N)
  have HC := Lib.hid (tonesTo_count D d N (by omega))
  have HM := Lib.hid (tonesTo_mem D d N hd)
  clear hb hrow
  cases hbit : D.testBit d with
  | true =>
    have HY := Lib.hid (tonesTo_or (k := N) hbit)
    rw [hbit] at HM
    clear hbit
    go_enter Try.func64, Try.ntmps64
    go_wp2_with fail
    refine (search_any _ _ _ _ _ HR.out HS.out).mono ?_; rintro e w1 ⟨rfl, q, rfl⟩
    rw [HM.out, HC.out]
    go_wp2
    go_end0
    refine ⟨rfl, v, HB.out, by rw [HY.out]; exact HR.out, below_drewN (Below.refl _ _) _, fun _ _ _ => rfl⟩
  | false =>
    have HY := Lib.hid (tonesTo_ins hbit hd)
    rw [hbit] at HM
    clear hbit
    have hlb := HR.out.lt
    have hln : (tonesTo D d).length ≤ (tonesTo D N).length := by rw [tonesTo_len, tonesTo_len]; exact Tic.rk_mono D d N (by omega)
    have hl4 := tonesTo_le D N
    have hbs := lt_of_block HB.out
    go_enter Try.func64, Try.ntmps64
    go_wp2_with fail
    refine (search_any _ _ _ _ _ HR.out HS.out).mono ?_; rintro e w1 ⟨rfl, q, rfl⟩
    rw [HM.out, HC.out]
    go_wp2_with fail
    refine (insert_any v B (tonesTo D N) (tonesTo D d).length d w.heap.size _ ((show Row (w.drewN q) B v (tonesTo D N) from HR.out).alloc _) (by simp; omega) hln (by omega) (fun e => by have := (hlb _ e).2; omega) (heap_alloc_new (w.drewN q) _)).mono ?_
    rintro e w2 ⟨v', rfl, hrow2, hb2⟩
    rw [HY.out] at hrow2
    obtain ⟨a', n', c', rfl⟩ := hrow2.slice
    have HR2 := Lib.hid hrow2
    have HB2 := Lib.hid hb2
    have hh2 : w2.heap[b]? = some (.cells #[v] 29 (0, 0)) := by
      rw [hb2.block b hbB, heap_alloc_old _ _ (by simpa using hbs)]
      exact HB.out
    have hc2 := cell_of_one hh2
    have hf2 := free_of_one hh2
    have HH2 := Lib.hid hh2
    clear hrow2 hb2 hh2 hc hf
    go_wp2
    go_end0
    refine ⟨rfl, _, one_setCell HH2.out, ⟨ownsRow_setCell_below HR2.out.1 (a := ⟨b, 0, none⟩) hbB _, HR2.out.2⟩, ?_, ?_⟩
    · exact (((below_drewN (Below.refl b w) q).alloc (by simp; omega) _).trans (HB2.out.mono (by omega))).setCell (Nat.le_refl _) _
    · intro k hk hkb
      rw [Below.heap_setCell _ _ _ _ (fun e => hkb e), HB2.out.block k hk, heap_alloc_old _ _ (by simp; omega)]
      rfl
end Go.Proofs.Ytahpjfdecjfpcaa
