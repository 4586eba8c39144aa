/-
  The program's search for tiles in memory: what it misses as a map; contracts of its beginning, of fits and begin.
-/
import Derived.Test.YtgpbgbcdlebaiaaTones
import Derived.Test.YtgpbgbcdlebaiaaArr
import Derived.Test.YtgpbgbcdlebaiaaSetEq
import Derived.Test.YtgpbgbcdlebaiaaTileNum
import Derived.Maps.Own
import Derived.Maps.OwnOps
import Derived.Maps.OwnSet
import Derived.Maps.Views
namespace Go.Proofs.Ytgpbgbcdlebaiaa
open Go.RowKit Go.Maps
set_option linter.unusedVariables false

theorem intKeyed : Keyed Try.prog 3 := int_keyed Try.underlying3
theorem zeroB (w : World) : (zeroValue 4).run Try.prog w = .ok (.bool false) w := by kernel_rfl
theorem key_int {t : Nat} (h : t ≤ 100000) : keyOf Try.prog 3 (.int .i64 (t : Int)) = some (.int .i64 (t : Int)) := keyOf_int_mk Try.underlying3 (WalkArith.wf_i64 (by omega))
theorem isKey_int (a : Int) : WideAt.IsKeyLit (.int .i64 a) := by simp [WideAt.IsKeyLit]
theorem plainElem_bool_inv {v : Value} {z : DataW Unit × List MemPlace} (h : plainElem Try.prog 4 v = some z) : ∃ x, v = .bool x ∧ z = (.lit (.bool x), []) := by
  unfold plainElem at h
  rw [Try.underlying4] at h
  cases v <;> simp at h
  exact ⟨_, rfl, h.symm⟩

/-- how many of the first n times have q -/
def nq (q : Nat → Bool) (n : Nat) : Nat := Tic.sm (fun t => Tic.b2 (q t)) n
theorem nq_set (q : Nat → Bool) (t : Nat) (b : Bool) : ∀ n, t < n → nq (fun x => if x = t then b else q x) n + Tic.b2 (q t) = nq q n + Tic.b2 b
  | n + 1, h => by
    have e1 : nq (fun x => if x = t then b else q x) (n + 1) = nq (fun x => if x = t then b else q x) n + Tic.b2 (if n = t then b else q n) := rfl
    have e2 : nq q (n + 1) = nq q n + Tic.b2 (q n) := rfl
    by_cases e : n = t
    · subst e
      have e3 : nq (fun x => if x = n then b else q x) n = nq q n := Tic.sm_congr fun x hx => by dsimp only; rw [if_neg (by omega)]
      rw [e1, e2, e3, if_pos rfl]; omega
    · have := nq_set q t b n (by omega)
      rw [e1, e2, if_neg e]; omega
theorem nq_le (q : Nat → Bool) (n : Nat) : nq q n ≤ n := by
  have := Tic.sm_bd (f := fun t => Tic.b2 (q t)) (c := 1) (k := n) (fun _ _ => Tic.b2_le _)
  simpa [nq] using this
theorem nq_none {q : Nat → Bool} {n : Nat} : nq q n = 0 ↔ ∀ t, t < n → q t = false := by
  have := Tic.sm_pos q n
  constructor
  · intro h t ht
    cases e : q t with
    | false => rfl
    | true => have := this.2 ⟨t, ht, e⟩; unfold nq at h; omega
  · intro h
    rcases Nat.eq_zero_or_pos (nq q n) with e | e
    · exact e
    · obtain ⟨t, ht, e⟩ := this.1 e
      rw [h t ht] at e; cases e

/-- the map at block b has just the times below n with q, each with true -/
def MS (w : World) (b n : Nat) (q : Nat → Bool) : Prop := ∃ D : DataW Unit, w.ownsMap Try.prog 3 (plainElem Try.prog 4) b (nq q n) D ∧ Maps.size D = nq q n ∧
  ∀ t, t < n → Maps.has D (.int .i64 (t : Int)) = q t ∧ (q t = true → ∀ z, D.atKey (.int .i64 (t : Int)) z = .lit (.bool true))
theorem ownsMap_tight {w : World} {b n : Nat} {D : DataW Unit} (h : w.ownsMap Try.prog 3 (plainElem Try.prog 4) b n D) : w.ownsMap Try.prog 3 (plainElem Try.prog 4) b (Maps.size D) D := by
  have h2 := h
  obtain ⟨es, clock, hb, F, hs, hD⟩ := h
  refine ⟨es, clock, hb, F, ?_, hD⟩
  subst hD
  simp [Maps.size, length_sorted]
theorem MS.lt {w : World} {b n : Nat} {q : Nat → Bool} (h : MS w b n q) : b < w.heap.size := h.elim fun _ h => h.1.lt
theorem MS.kept {w w' : World} {b n : Nat} {q : Nat → Bool} (h : MS w b n q) (hb : Below w.heap.size w w') : MS w' b n q := by
  obtain ⟨D, h1, h2⟩ := h
  exact ⟨D, h1.kept (row := none) ⟨hb.os, hb.tape, hb.output, hb.size, fun k hk _ => hb.block k hk⟩ (by simp), h2⟩
theorem MS.setCell {w : World} {b n : Nat} {q : Nat → Bool} (h : MS w b n q) {a : Addr} (ha : b ≠ a.block) (u : Value) : MS (w.setCell a u) b n q := by
  obtain ⟨D, h1, h2⟩ := h
  exact ⟨D, h1.setCell ha u, h2⟩
theorem MS.made (w : World) (n : Nat) : MS (w.alloc (.map #[] 0)) w.heap.size n (fun _ => false) := by
  have h0 : nq (fun _ => false) n = 0 := nq_none.2 fun _ _ => rfl
  exact ⟨.map [], by rw [h0]; exact World.ownsMap_made _ _ _ _, by rw [h0]; rfl, fun t h => ⟨rfl, fun e => by cases e⟩⟩
theorem MS.congr {w : World} {b n : Nat} {q q' : Nat → Bool} (h : MS w b n q) (e : ∀ t, t < n → q t = q' t) : MS w b n q' := by
  have hn : nq q n = nq q' n := Tic.sm_congr fun t ht => by rw [e t ht]
  obtain ⟨D, h1, h2, h3⟩ := h
  refine ⟨D, by rw [← hn]; exact h1, by rw [← hn]; exact h2, fun t ht => ?_⟩
  rw [← e t ht]; exact h3 t ht
/-- none is missed -/
theorem MS.len {w : World} {b n : Nat} {q : Nat → Bool} (h : MS w b n q) (ty : TypeId) : (Builtin.len_ #[69] ty #[.map (some b)]).run Try.prog w = .ok (.int .i64 (nq q n : Int)) w := by
  obtain ⟨D, h1, h2, _⟩ := h
  rw [h1.len Try.underlying69 ty, h2]
theorem MS.look {w : World} {b n : Nat} {q : Nat → Bool} (h : MS w b n q) {t : Nat} (ht : t < n) (hn : n ≤ 100) : (Instr.lookup 69 (.map (some b)) (.int .i64 (t : Int)) false).run Try.prog w = .ok (.bool (q t)) w := by
  obtain ⟨D, h1, h2, h3⟩ := h
  obtain ⟨v, ps, hrun, hv⟩ := h1.lookup intKeyed Try.underlying69 (zeroB w) (plainElem_bool Try.underlying4 false) (key_int (t := t) (by omega))
  obtain ⟨x, rfl, hz⟩ := plainElem_bool_inv hv
  rw [hrun]
  have h4 := h3 t ht
  simp only [Prod.mk.injEq] at hz
  cases e : q t with
  | true =>
    have := h4.2 e (.lit (.bool false))
    rw [hz.1] at this
    injection this with this
    injection this with this
    rw [this]
  | false =>
    have h5 := h4.1
    rw [e] at h5
    have := atKey_of_not_has h5 (.lit (.bool false))
    rw [hz.1] at this
    injection this with this
    injection this with this
    rw [this]
theorem wpList_put_time {ops : Array Oper} {rest : List Oper} {o : Oper} {a : Act} {Q : Exit → Act → World → Prop} {w : World} (hg : o.guard = none) (m x : Operand)
    (hop : o.op = Op.mapUpdate 69 m x (.const (.bool true))) {b n t : Nat} {q : Nat → Bool} (hm : a.eval m = .map (some b)) (hx : a.eval x = .int .i64 (t : Int)) (h : MS w b n q) (ht : t < n) (hn : n ≤ 100)
    (hK : ∀ w', MS w' b n (fun x => if x = t then true else q x) → w.grownBy w' (some b) → wpList Try.prog ops Q rest (a.put o.dst undef) w') : wpList Try.prog ops Q (o :: rest) a w := by
  obtain ⟨D, h1, h2, h3⟩ := h
  have hkl := key_int (t := t) (by omega)
  have hnl := nq_le q n
  refine wpList_mapUpdate_own w hg m x (.const (.bool true)) 69 hop 3 4 intKeyed Try.underlying69 _ b _ D hm h1 (by unfold maxLen; omega) _ _ _ hx rfl hkl _ [] (plainElem_bool Try.underlying4 true) ?_
  intro w' hown hgr
  refine hK w' ?_ hgr
  have htidy := h1.tidy intKeyed
  have hs : Maps.size (D.put (.int .i64 (t : Int)) (.lit (.bool true))) = nq (fun x => if x = t then true else q x) n := by
    rw [size_put htidy, (h3 t ht).1, h2]
    have := nq_set q t true n ht
    cases e : q t <;> rw [e] at this <;> simp [Tic.b2] at this ⊢ <;> omega
  refine ⟨_, by rw [← hs]; exact ownsMap_tight hown, hs, fun u hu => ?_⟩
  by_cases e : u = t
  · subst e
    exact ⟨by rw [has_put_same htidy.isMap (isKey_int _)]; simp, fun _ z => atKey_put_same htidy.isMap (isKey_int _) _ z⟩
  · have hne : (Lit.int .i64 (u : Int)) ≠ .int .i64 (t : Int) := by intro h; injection h with _ h; omega
    rw [has_put_other hne]
    dsimp only
    rw [if_neg e]
    exact ⟨(h3 u hu).1, fun hq z => by rw [atKey_put_other hne]; exact (h3 u hu).2 hq z⟩
theorem wpList_drop_time {ops : Array Oper} {rest : List Oper} {o : Oper} {a : Act} {Q : Exit → Act → World → Prop} {w : World} (hg : o.guard = none) (m x : Operand)
    (hop : o.op = Op.call { callee := Callee.builtin Builtin.delete, args := #[m, x], argTypes := #[69, 3] }) {b n t : Nat} {q : Nat → Bool} (hm : a.eval m = .map (some b)) (hx : a.eval x = .int .i64 (t : Int)) (h : MS w b n q) (ht : t < n) (hn : n ≤ 100)
    (hK : ∀ w', MS w' b n (fun x => if x = t then false else q x) → w.grownBy w' (some b) → wpList Try.prog ops Q rest (a.put o.dst (.tuple #[])) w') : wpList Try.prog ops Q (o :: rest) a w := by
  obtain ⟨D, h1, h2, h3⟩ := h
  have hkl := key_int (t := t) (by omega)
  refine wpList_delete_own w hg m x 69 3 hop 4 intKeyed Try.underlying69 _ b _ D hm h1 _ _ hx hkl ?_
  intro w' hown hturn
  refine hK w' ?_ hturn.grown
  have htidy := h1.tidy intKeyed
  have hs : Maps.size (D.del (.int .i64 (t : Int))) = nq (fun x => if x = t then false else q x) n := by
    have h5 := size_del (k := .int .i64 (t : Int)) htidy
    rw [(h3 t ht).1, h2] at h5
    have := nq_set q t false n ht
    cases e : q t <;> rw [e] at this h5 <;> simp [Tic.b2] at this h5 ⊢ <;> omega
  refine ⟨_, by rw [← hs]; exact ownsMap_tight hown, hs, fun u hu => ?_⟩
  by_cases e : u = t
  · subst e
    exact ⟨by rw [has_del_same]; simp, fun hq z => by simp at hq⟩
  · have hne : (Lit.int .i64 (u : Int)) ≠ .int .i64 (t : Int) := by intro h; injection h with _ h; omega
    rw [has_del_other hne]
    dsimp only
    rw [if_neg e]
    exact ⟨(h3 u hu).1, fun hq z => by rw [atKey_del_other hne]; exact (h3 u hu).2 hq z⟩

/-- what a search has in memory: the voice A, the voices begun at T, what is missed -/
def Srch (w : World) (p b N A T : Nat) (q : Nat → Bool) : Prop :=
  (w.cell? ⟨p, 0, none⟩ = some (.int .i64 N) ∧ w.cell? ⟨p, 1, none⟩ = some (.int .i64 A) ∧ w.cell? ⟨p, 2, none⟩ = some (.int .i64 N) ∧ w.cell? ⟨p, 3, none⟩ = some (.int .i64 T) ∧ w.cell? ⟨p, 4, none⟩ = some (.map (some b)) ∧
    w.frozen? ⟨p, 2, none⟩ = false ∧ w.frozen? ⟨p, 3, none⟩ = false) ∧ p < w.heap.size ∧ p ≠ b ∧ MS w b N q
theorem Srch.kept {w w' : World} {p b N A T : Nat} {q : Nat → Bool} (h : Srch w p b N A T q) (hb : Below w.heap.size w w') : Srch w' p b N A T q := by
  obtain ⟨⟨c0, c1, c2, c3, c4, f2, f3⟩, hp, hne, hm⟩ := h
  obtain ⟨hc, hf⟩ := bcell hb
  exact ⟨⟨(hc _ _ hp).trans c0, (hc _ _ hp).trans c1, (hc _ _ hp).trans c2, (hc _ _ hp).trans c3, (hc _ _ hp).trans c4, (hf _ _ hp).trans f2, (hf _ _ hp).trans f3⟩, Nat.lt_of_lt_of_le hp hb.size, hne, hm.kept hb⟩
theorem Srch.congr {w : World} {p b N A T : Nat} {q q' : Nat → Bool} (h : Srch w p b N A T q) (e : ∀ t, t < N → q t = q' t) : Srch w p b N A T q' := ⟨h.1, h.2.1, h.2.2.1, h.2.2.2.congr e⟩
/-- the map has turned, nothing else -/
theorem Srch.turned {w w' : World} {p b N A T : Nat} {q q' : Nat → Bool} (h : Srch w p b N A T q) (hg : w.grownBy w' (some b)) (hm' : MS w' b N q') : Srch w' p b N A T q' := by
  obtain ⟨⟨c0, c1, c2, c3, c4, f2, f3⟩, hp, hne, hm⟩ := h
  have hb : w'.heap[p]? = w.heap[p]? := hg.block p hp (by intro e; injection e with e; exact hne e)
  have hc : ∀ o, w'.cell? ⟨p, o, none⟩ = w.cell? ⟨p, o, none⟩ := fun o => by unfold World.cell?; simp only [hb]
  have hf : ∀ o, w'.frozen? ⟨p, o, none⟩ = w.frozen? ⟨p, o, none⟩ := fun o => by unfold World.frozen?; simp only [hb]
  exact ⟨⟨(hc _).trans c0, (hc _).trans c1, (hc _).trans c2, (hc _).trans c3, (hc _).trans c4, (hf _).trans f2, (hf _).trans f3⟩, Nat.lt_of_lt_of_le hp hg.size, hne, hm'⟩

/-- nothing else than the two blocks of the search is written -/
def Keeps (w w' : World) (p b : Nat) : Prop := Below 0 w w' ∧ ∀ k, k < w.heap.size → k ≠ p → k ≠ b → w'.heap[k]? = w.heap[k]?
theorem Keeps.of_below {w w' : World} (h : Below w.heap.size w w') (p b : Nat) : Keeps w w' p b := ⟨h.mono (Nat.zero_le _), fun k hk _ _ => h.block k hk⟩
theorem Keeps.trans {w w1 w2 : World} {p b : Nat} (h : Keeps w w1 p b) (k : Keeps w1 w2 p b) : Keeps w w2 p b :=
  ⟨h.1.trans k.1, fun j hj h1 h2 => (k.2 j (Nat.lt_of_lt_of_le hj h.1.size) h1 h2).trans (h.2 j hj h1 h2)⟩
theorem Keeps.map {w w' : World} {b : Nat} (h : w.grownBy w' (some b)) (p : Nat) : Keeps w w' p b :=
  ⟨⟨h.os, h.tape, h.output, h.size, fun k hk => by omega⟩, fun k hk _ h2 => h.block k hk (by intro e; injection e with e; exact h2 e)⟩
theorem Keeps.cell (w : World) (p o : Nat) (u : Value) (b : Nat) : Keeps w (w.setCell ⟨p, o, none⟩ u) p b :=
  ⟨(Below.refl 0 w).setCell (Nat.zero_le _) _, fun k hk h1 _ => heap_setCell_other _ _ _ _ h1⟩
theorem Keeps.below {w0 w w' : World} {B p b : Nat} (h0 : Below B w0 w) (h : Keeps w w' p b) (hp : B ≤ p) (hb : B ≤ b) (hB : B ≤ w.heap.size) : Below B w0 w' :=
  h0.trans ⟨h.1.os, h.1.tape, h.1.output, h.1.size, fun k hk => h.2 k (by omega) (by omega) (by omega)⟩
theorem Keeps.row {w w' : World} {p b B : Nat} {v : Value} {L : List Int} (h : Keeps w w' p b) (hr : Row w B v L) (hp : v.ownBlock ≠ some p) (hb : v.ownBlock ≠ some b) : Row w' B v L := by
  obtain ⟨⟨h1, h2⟩, h3⟩ := hr
  refine ⟨⟨h1, ?_⟩, h3⟩
  rcases h2 with h2 | ⟨g, cap, cur, e, hg, hh, r⟩
  · exact .inl h2
  · subst e
    have hg1 : g ≠ p := fun e => hp (by rw [← e]; rfl)
    have hg2 : g ≠ b := fun e => hb (by rw [← e]; rfl)
    exact .inr ⟨g, cap, cur, rfl, hg, (h.2 g (Array.getElem?_eq_some_iff.1 hh).1 hg1 hg2).trans hh, r⟩
theorem Keeps.drew {w w' : World} {p b : Nat} (h : Keeps w w' p b) : Keeps w w'.drew p b := ⟨h.1.drew, h.2⟩
end Go.Proofs.Ytgpbgbcdlebaiaa
