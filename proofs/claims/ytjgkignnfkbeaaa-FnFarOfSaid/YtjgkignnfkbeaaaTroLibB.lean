/-
  Lists of choices in memory, two cells each: read, appended to at a step of a region that draws its order.
-/
import Derived.Test.YtjgkignnfkbeaaaTroLib
import Derived.Maps.AppendAt
import Derived.Deep.RegionHeld3
import Derived.Deep.Cut
import Derived.Deep.AppendLies
import Derived.BigQuiet
import Derived.Deep.QuietTactic
import Derived.WalkLawsBesides
import Derived.OpenShut
namespace Go.Proofs.YtjgkignnfkbeaaaTro
open Go.RowKit
set_option linter.unusedVariables false
set_option maxRecDepth 20000

/-- a choice as a row of cells -/
def chR (p : Int × Int) : List Value := [.int .i64 p.1, .int .i64 p.2]
theorem chFlat_len : ∀ M : List (Int × Int), (M.map chR).flatten.length = M.length * 2
  | [] => rfl
  | m :: M => by
    rw [List.map_cons, List.flatten_cons, List.length_append, chFlat_len M, List.length_cons, Nat.add_mul]
    show 2 + _ = _
    omega
theorem chFlat_at : ∀ (M : List (Int × Int)) (i j : Nat), i < M.length → j < 2 → (M.map chR).flatten[i * 2 + j]? = (chR (M.getD i (0, 0)))[j]?
  | [], i, j, hi, _ => by simp at hi
  | m :: M, 0, j, _, hj => by
    rw [List.map_cons, List.flatten_cons, Nat.zero_mul, Nat.zero_add, List.getElem?_append_left (by show j < 2; exact hj)]
    simp
  | m :: M, i + 1, j, hi, hj => by
    have := chFlat_at M i j (by simpa using hi) hj
    rw [List.map_cons, List.flatten_cons, List.getElem?_append_right (by show 2 ≤ _; omega), show (i + 1) * 2 + j - (chR m).length = i * 2 + j by show _ - 2 = _; omega, this]
    simp
/-- a list of choices, two cells each -/
def Chs (w : World) (B : Nat) (v : Value) (M : List (Int × Int)) : Prop := w.ownsRow B 49 2 v M.length (M.map chR).flatten ∧ M.length ≤ 64
theorem Chs.nil (w : World) (B : Nat) : Chs w B (.slice none 0 0) [] := ⟨World.ownsRow_nil _ _ _ _, Nat.zero_le _⟩
theorem Chs.kept {w w' : World} {B : Nat} {v : Value} {M : List (Int × Int)} (h : Chs w B v M) (hb : Below w.heap.size w w') : Chs w' B v M :=
  ⟨h.1.kept (row := none) ⟨hb.os, hb.tape, hb.output, hb.size, fun k hk _ => hb.block k hk⟩ (by cases v.ownBlock <;> simp), h.2⟩
theorem Chs.mono {w : World} {B B' : Nat} {v : Value} {M : List (Int × Int)} (h : Chs w B v M) (hB : B' ≤ B) : Chs w B' v M := by
  obtain ⟨⟨h31, h3⟩, r⟩ := h
  refine ⟨⟨h31, ?_⟩, r⟩
  rcases h3 with h3 | ⟨g, cap, cur, e, hg, r⟩
  · exact .inl h3
  · exact .inr ⟨g, cap, cur, e, by omega, r⟩
theorem Chs.lt {w : World} {B : Nat} {v : Value} {M : List (Int × Int)} (h : Chs w B v M) : ∀ q, v.ownBlock = some q → B ≤ q ∧ q < w.heap.size := fun q hq => by
  rcases h.1.2 with ⟨e, _⟩ | ⟨g, cap, cur, e, hg, hb, _⟩
  · subst e; cases hq
  · subst e; simp [Value.ownBlock] at hq; subst hq; exact ⟨hg, (Array.getElem?_eq_some_iff.1 hb).1⟩
theorem Chs.cases {w : World} {B : Nat} {v : Value} {M : List (Int × Int)} (h : Chs w B v M) (h0 : 0 < M.length) :
    ∃ g cap, v = .slice (some ⟨g, 0, none⟩) M.length cap ∧ B ≤ g ∧ g < w.heap.size ∧ M.length ≤ cap ∧ ∀ i, i < M.length → w.cell? ⟨g, i * 2, none⟩ = some (.int .i64 (M.getD i (0, 0)).1) ∧ w.cell? ⟨g, i * 2 + 1, none⟩ = some (.int .i64 (M.getD i (0, 0)).2) := by
  have h1 := h.1
  rcases h1.2 with ⟨_, e⟩ | ⟨g, cap, cur, e, hg, hb, r1, r2, r3, r4⟩
  · omega
  · subst e
    refine ⟨g, cap, rfl, hg, (Array.getElem?_eq_some_iff.1 hb).1, r1, fun i hi => ⟨?_, ?_⟩⟩
    · have := h1.cellAt (i * 2 + 0) (by omega)
      rw [chFlat_at M i 0 hi (by decide)] at this
      exact this
    · have := h1.cellAt (i * 2 + 1) (by omega)
      rw [chFlat_at M i 1 hi (by decide)] at this
      exact this
theorem info_choice : (Tro.prog.info? 49).map (fun i => (i.zero, i.size, i.bytes)) = some (some (.agg #[.int .i64 0, .int .i64 0]), 2, 16) := by kernel_rfl
theorem info_partsC {o : Option TypeInfo} {z : Option Value} {a b : Nat} (h : o.map (fun i => (i.zero, i.size, i.bytes)) = some (z, a, b)) : ∃ i, o = some i ∧ i.zero = z ∧ i.size = a ∧ i.bytes = b := by
  cases o with
  | none => cases h
  | some i => simp at h; exact ⟨i, rfl, h.1, h.2.1, h.2.2⟩
/-- a choice is appended, at a step of a region that draws its order; B: the first block that the list may lie in, V: the world ahead of the region -/
theorem step_app_ch {ops : Array Oper} {o : Oper} {a : Act} {w : World} {K : Act → World → Prop} {Q : Exit → Act → World → Prop} {E : Prop} (hgd : o.guard = none) (s x : Operand)
    (ho : o.op = .call { callee := .builtin .append, args := #[s, x], argTypes := #[57, 57] })
    (B : Nat) (V : World) (v : Value) (M : List (Int × Int)) (hs : a.eval s = v) (g c : Nat) (p : Int × Int) (hx : a.eval x = .slice (some ⟨g, 0, none⟩) 1 c)
    (hk : Below B V w) (hr : Chs w B v M) (hc : w.cell? ⟨g, 0, none⟩ = some (.int .i64 p.1) ∧ w.cell? ⟨g, 1, none⟩ = some (.int .i64 p.2)) (hM : M.length < 64) (hBw : B ≤ w.heap.size)
    (h : ∀ v' w', Chs w' B v' (M ++ [p]) → Below B V w' → (∀ b k u, v.ownBlock ≠ some b → w.cell? ⟨b, k, none⟩ = some u → w'.cell? ⟨b, k, none⟩ = some u) → K (a.put o.dst v') w') :
    if Region.wanted o (yielded ops a.tmps) = true then Oper.wp Tro.prog o a w K Q else E := by
  have hw : Region.wanted o (yielded ops a.tmps) = true := by simp [Region.wanted, hgd]
  rw [if_pos hw]
  obtain ⟨i0, hi, hz0, hz1, hz2⟩ := info_partsC info_choice
  obtain ⟨v', w', hr', h2, h3, h4, h5'⟩ := run_append_own_at (P := Tro.prog) w B 57 o.type 49 i0 _ 2 16 Tro.underlying57 hi hz0 hz1 hz2 rfl (by decide) v M.length _ hr.1 ⟨g, 0, none⟩ 1 c (chR p)
    rfl (fun j u hj => by
      have e : (⟨g, 0, none⟩ : Addr).add j = ⟨g, j, none⟩ := by unfold Addr.add; split <;> simp_all
      rw [e]
      match j, hj with
      | 0, hj => simp [chR] at hj; subst hj; exact hc.1
      | 1, hj => simp [chR] at hj; subst hj; exact hc.2) (by intro u hu; simp [chR] at hu; rcases hu with rfl | rfl <;> rfl) (by unfold maxLen; omega) (by omega) hBw
  unfold Oper.wp execOp
  simp only [ho, resolve, invoke, builtin, Sem.run_bind, Sem.run_pure, Result.andThen_ok, List.map_toArray, List.map_cons, List.map_nil, hs, hx, hr']
  refine h v' w' ⟨?_, by simp; omega⟩ (hk.grown h3 hBw (fun q hq => (hr.lt q hq).1)) (fun b k u hb hc => (h3.cell_far _ (block_lt_of_cell hc) (fun e => hb e.symm)).trans hc)
  rw [List.length_append, List.map_append, List.flatten_append]
  simpa using h2
/-- a choice is appended -/
theorem wpList_append_ch {ops : Array Oper} {rest : List Oper} {o : Oper} {a : Act} {Q : Exit → Act → World → Prop} {w : World} (hgd : o.guard = none) (s x : Operand)
    (ho : o.op = .call { callee := .builtin .append, args := #[s, x], argTypes := #[57, 57] })
    (B : Nat) (v : Value) (M : List (Int × Int)) (hs : a.eval s = v) (hr : Chs w B v M) (g c : Nat) (p : Int × Int) (hx : a.eval x = .slice (some ⟨g, 0, none⟩) 1 c)
    (hc : w.cell? ⟨g, 0, none⟩ = some (.int .i64 p.1) ∧ w.cell? ⟨g, 1, none⟩ = some (.int .i64 p.2)) (hM : M.length < 64) (hB : B ≤ w.heap.size)
    (h : ∀ v' w', Chs w' B v' (M ++ [p]) → Below B w w' → wpList Tro.prog ops Q rest (a.put o.dst v') w') : wpList Tro.prog ops Q (o :: rest) a w := by
  obtain ⟨i0, hi, hz0, hz1, hz2⟩ := info_partsC info_choice
  refine wpList_append_own w hgd s x 57 ho B 49 i0 _ 2 16 Tro.underlying57 hi hz0 hz1 hz2 rfl (by decide) v M.length _ hs hr.1 ⟨g, 0, none⟩ 1 c (chR p) hx rfl ?_ ?_ ?_ ?_ hB ?_
  · intro j u hj
    have e : (⟨g, 0, none⟩ : Addr).add j = ⟨g, j, none⟩ := by unfold Addr.add; split <;> simp_all
    rw [e]
    match j, hj with
    | 0, hj => simp [chR] at hj; subst hj; exact hc.1
    | 1, hj => simp [chR] at hj; subst hj; exact hc.2
  · intro u hu; simp [chR] at hu; rcases hu with rfl | rfl <;> rfl
  · unfold maxLen; omega
  · omega
  · intro v' w' hown hg _
    refine h v' w' ⟨?_, by simp; omega⟩ ((Below.refl B w).grown hg hB fun k hk => (hr.lt k hk).1)
    rw [List.length_append, List.map_append, List.flatten_append]
    simpa using hown
theorem far_of (a b : Int) (w : World) : (Instr.field 49 (.agg #[.int .i64 a, .int .i64 b]) 1).run Tro.prog w = .ok (.int .i64 b) w := by kernel_rfl
theorem number_of (a b : Int) (w : World) : (Instr.field 49 (.agg #[.int .i64 a, .int .i64 b]) 0).run Tro.prog w = .ok (.int .i64 a) w := by kernel_rfl
/-- a block of two numbers just made -/
theorem ch_new (w : World) (x y : Int) (t : TypeId) (g : Nat) (hg : g = w.heap.size) : (w.alloc (.cells #[.int .i64 x, .int .i64 y] t)).cell? ⟨g, 0, none⟩ = some (.int .i64 x) ∧ (w.alloc (.cells #[.int .i64 x, .int .i64 y] t)).cell? ⟨g, 1, none⟩ = some (.int .i64 y) := by
  constructor <;> (rw [World.cell?_alloc_at _ _ _ _ hg]; rfl)
theorem ch_froz (w : World) (x y : Int) (t : TypeId) (g : Nat) (hg : g = w.heap.size) : (w.alloc (.cells #[.int .i64 x, .int .i64 y] t)).frozen? ⟨g, 0, none⟩ = false ∧ (w.alloc (.cells #[.int .i64 x, .int .i64 y] t)).frozen? ⟨g, 1, none⟩ = false := by
  subst hg
  constructor <;> go_simp
/-- what a call behind an alloc leaves -/
theorem after_alloc {wr w1 : World} {t : TypeId} (hb : Below (wr.alloc (.cells #[.int .i64 0, .int .i64 0] t)).heap.size (wr.alloc (.cells #[.int .i64 0, .int .i64 0] t)) w1) :
    Hid (Below wr.heap.size wr w1) ∧ w1.cell? ⟨wr.heap.size, 0, none⟩ = some (.int .i64 0) ∧ w1.cell? ⟨wr.heap.size, 1, none⟩ = some (.int .i64 0) ∧ w1.frozen? ⟨wr.heap.size, 0, none⟩ = false ∧ w1.frozen? ⟨wr.heap.size, 1, none⟩ = false := by
  have h0 := (Below.refl wr.heap.size wr).alloc (Nat.le_refl _) (.cells #[.int .i64 0, .int .i64 0] t)
  exact ⟨h0.trans (hb.mono h0.size), (hb.cell (p := ⟨wr.heap.size, 0, none⟩) (by simp)).trans (ch_new wr 0 0 t _ rfl).1, (hb.cell (p := ⟨wr.heap.size, 1, none⟩) (by simp)).trans (ch_new wr 0 0 t _ rfl).2, (hb.frozen (p := ⟨wr.heap.size, 0, none⟩) (by simp)).trans (ch_froz wr 0 0 t _ rfl).1, (hb.frozen (p := ⟨wr.heap.size, 1, none⟩) (by simp)).trans (ch_froz wr 0 0 t _ rfl).2⟩
theorem after_alloc1 {wr w1 : World} {t : TypeId} (hb : Below (wr.alloc (.cells #[.int .i64 0, .int .i64 0] t)).drew.heap.size (wr.alloc (.cells #[.int .i64 0, .int .i64 0] t)).drew w1) :
    Hid (Below wr.heap.size wr w1) ∧ w1.cell? ⟨wr.heap.size, 0, none⟩ = some (.int .i64 0) ∧ w1.cell? ⟨wr.heap.size, 1, none⟩ = some (.int .i64 0) ∧ w1.frozen? ⟨wr.heap.size, 0, none⟩ = false ∧ w1.frozen? ⟨wr.heap.size, 1, none⟩ = false :=
  after_alloc (t := t) (Below.trans (Below.refl _ _).drew hb)
theorem ch_put {w : World} {g : Nat} {u0 u1 : Value} (h0 : w.cell? ⟨g, 0, none⟩ = some u0) (h1 : w.cell? ⟨g, 1, none⟩ = some u1) (x y : Int) :
    ((w.setCell ⟨g, 0, none⟩ (.int .i64 x)).setCell ⟨g, 1, none⟩ (.int .i64 y)).cell? ⟨g, 0, none⟩ = some (.int .i64 x) ∧ ((w.setCell ⟨g, 0, none⟩ (.int .i64 x)).setCell ⟨g, 1, none⟩ (.int .i64 y)).cell? ⟨g, 1, none⟩ = some (.int .i64 y) := by
  have n01 : (⟨g, 1, none⟩ : Addr) ≠ ⟨g, 0, none⟩ := by simp
  have n10 : (⟨g, 0, none⟩ : Addr) ≠ ⟨g, 1, none⟩ := by simp
  exact ⟨by rw [World.cell?_setCell_other _ _ _ _ n01, World.cell?_setCell_same _ _ _ h0], World.cell?_setCell_same _ _ _ ((World.cell?_setCell_other _ _ _ _ n10).trans h1)⟩
end Go.Proofs.YtjgkignnfkbeaaaTro

/-
  StepsTo of the model and of the program, where a sequential body stands for nearestTo, and the walk of FnExactStepsTo.
-/
namespace Go.Proofs.YtjgkignnfkbeaaaTro
open Go.RowKit
set_option linter.unusedVariables false
set_option maxRecDepth 20000

/-- a number -/
def Gives1 (a : Int) (w : World) (e : Ending) (w' : World) : Prop := e = .returned (.int .i64 a) ∧ Below w.heap.size w w'
/-- how many steps -/
def stP (n A B : Int) : Int := (dst n.toNat A.toNat B.toNat : Int)
theorem Voices.lens {n A B : Int} (h : Voices n A B) : (tonesTo A.toNat n.toNat).length = (tonesTo B.toNat n.toNat).length := by rw [← wt_len h.1, ← wt_len h.2.1]; exact h.2.2.2
theorem valid_lt {n A : Int} (h : Tic.Valid n A) : A.toNat < 2 ^ n.toNat := by
  obtain ⟨h1, h2, h3, h4⟩ := h
  omega
theorem Voices.pos {n A B : Int} (h : Voices n A B) : 0 < (tonesTo A.toNat n.toNat).length := len_pos (valid_lt h.1) (by have := h.1.2.2.1; have := h.2.2.1; omega)
theorem Voices.lk {n A B : Int} (h : Voices n A B) : Lk n.toNat A.toNat B.toNat := ⟨valid_lt h.2.1, h.lens.symm⟩
theorem Voices.ne0 {n A B : Int} (h : Voices n A B) : B ≠ 0 := fun e => by
  have h1 := h.lens
  have h2 := h.pos
  subst e
  have : ∀ k, (tonesTo 0 k).length = 0 := fun k => by
    induction k with
    | zero => rfl
    | succ k ih => rw [tonesTo_no (Nat.zero_testBit k)]; exact ih
  rw [show (0 : Int).toNat = 0 from rfl, this] at h1
  omega
theorem Voices.symm {n A B : Int} (h : Voices n A B) : Voices n B A := ⟨h.2.1, h.1, h.ne0, h.2.2.2.symm⟩
theorem iStepsTo_no (n A B : Int) (w : World) (h : ¬ Voices n A B) : Calls Tro.prog 26 #[.int .i64 n, .int .i64 A, .int .i64 B] w (Gives1 (-1) w) := by
  have HV : Hid (∀ w, Calls Tro.prog 41 #[.int .i64 n, .int .i64 A, .int .i64 B] w fun e w' => e = .returned (.bool false) ∧ Below w.heap.size w w') := Lib.hid (fun w => by have := validVoices_any n A B w; rw [vv_no h] at this; exact this)
  go_enter Tro.func26, Tro.ntmps26
  go_wp2_with fail
  refine (HV.out _).mono ?_; rintro e w1 ⟨rfl, hb1⟩
  go_wp2_with fail
  go_ret
  exact ⟨rfl, hb1⟩
theorem iStepsTo_yes (n A B : Int) (w : World) (h : Voices n A B) : Calls Tro.prog 26 #[.int .i64 n, .int .i64 A, .int .i64 B] w (Gives1 (stP n A B) w) := by
  have HV : Hid (∀ w, Calls Tro.prog 41 #[.int .i64 n, .int .i64 A, .int .i64 B] w fun e w' => e = .returned (.bool true) ∧ Below w.heap.size w w') := Lib.hid (fun w => by have := validVoices_any n A B w; rw [vv_yes h] at this; exact this)
  have HP : Hid (∀ w, Calls Tro.prog 42 #[.agg #[.int .i64 n, .int .i64 A], .agg #[.int .i64 n, .int .i64 B]] w fun e w' => ∃ p : Nat, e = .returned (.agg #[.int .i64 (p : Int), .int .i64 (stP n A B)]) ∧ Below w.heap.size w w') := Lib.hid (fun w => (stub_any n A B w h).mono (fun e w' ⟨h1, h2⟩ => ⟨_, h1, h2⟩))
  generalize stP n A B = d at *
  go_enter Tro.func26, Tro.ntmps26
  go_wp2_with fail
  refine (HV.out _).mono ?_; rintro e w1 ⟨rfl, hb1⟩
  have HB1 := Lib.hid hb1
  clear hb1
  go_wp2_with fail
  refine (HP.out _).mono ?_; rintro e w2 ⟨p, rfl, hb2⟩
  have HB2 := Lib.hid (HB1.out.trans (hb2.mono HB1.out.size))
  have hfl := far_of (p : Int) d
  clear hb2
  go_wp2
  go_ret
  exact ⟨rfl, HB2.out⟩
theorem sStepsTo_no (n A B : Int) (w : World) (h : ¬ Voices n A B) : Calls Tro.prog 27 #[.int .i64 n, .int .i64 A, .int .i64 B] w (Gives1 (-1) w) := by
  have HV : Hid (∀ w, Calls Tro.prog 44 #[.int .i64 n, .int .i64 A, .int .i64 B] w fun e w' => e = .returned (.bool false) ∧ w = w') := Lib.hid (fun w => by have := validPair_any n A B w; rw [vv_no h] at this; exact this)
  go_enter Tro.func27, Tro.ntmps27
  go_wp2_with fail
  refine (HV.out _).mono ?_; rintro e w1 ⟨rfl, rfl⟩
  go_wp2_with fail
  go_ret
  exact ⟨rfl, Below.refl _ _⟩
theorem sStepsTo_yes (n A B : Int) (w : World) (h : Voices n A B) : Calls Tro.prog 27 #[.int .i64 n, .int .i64 A, .int .i64 B] w (Gives1 (stP n A B) w) := by
  have HV : Hid (∀ w, Calls Tro.prog 44 #[.int .i64 n, .int .i64 A, .int .i64 B] w fun e w' => e = .returned (.bool true) ∧ w = w') := Lib.hid (fun w => by have := validPair_any n A B w; rw [vv_yes h] at this; exact this)
  have HF : Hid (∀ w, Calls Tro.prog 55 #[.int .i64 n, .int .i64 A] w fun e w' => ∃ v O, e = .returned v ∧ Row w' w.heap.size v O ∧ O.length = 2 ^ n.toNat ∧ O.getD B.toNat 0 = stP n A B ∧ Below w.heap.size w w') := Lib.hid (fun w => (fars_any n A w h.1 h.2.2.1).mono (fun e w' ⟨v, O, h1, h2, h3, h4, h5⟩ => ⟨v, O, h1, h2, h3, by
    rw [h4 _ h.lk]
    unfold stP
    rw [dst_symm (by have := h.1.2.1; omega) (by have := h.1.1; omega) h.lk.2 h.pos], h5⟩))
  have hBl := valid_lt h.2.1
  have hB0 := h.2.1.2.2.1
  obtain ⟨S, rfl⟩ := Int.eq_ofNat_of_zero_le hB0
  rw [Int.toNat_natCast] at *
  generalize stP n A (S : Int) = d at *
  generalize 2 ^ n.toNat = p at *
  clear h
  go_enter Tro.func27, Tro.ntmps27
  go_wp2_with fail
  refine (HV.out _).mono ?_; rintro e w1 ⟨rfl, rfl⟩
  go_wp2_with fail
  refine (HF.out _).mono ?_; rintro e w2 ⟨v, O, rfl, hr, hl, ho, hb⟩
  obtain ⟨g, c, rfl, hg, hgl, hcell, _⟩ := hr.cases.resolve_left (fun q => by rw [q.2] at hl; simp at hl; omega)
  have c0 := hcell S (by omega)
  rw [ho] at c0
  rw [hl]
  have s0 : (0 : Int) ≤ (S : Int) := by omega
  have s1 : (S : Int) < (p : Int) := by omega
  have HB := Lib.hid hb
  clear hcell hr hl ho hb
  go_wp2
  go_ret
  exact ⟨rfl, HB.out⟩
theorem FnExactStepsTo_core (a0 a1 a2 d : Int) (hs : ∀ w, Calls Tro.prog 27 #[.int .i64 a0, .int .i64 a1, .int .i64 a2] w (Gives1 d w)) (hi : ∀ w, Calls Tro.prog 26 #[.int .i64 a0, .int .i64 a1, .int .i64 a2] w (Gives1 d w)) (w : World) :
    Calls Tro.prog 9 #[.int .i64 a0, .int .i64 a1, .int .i64 a2] w fun e w' => e = .returned (.bool true) ∧ Below w.heap.size w w' := by
  have HS := Lib.hid hs
  have HI := Lib.hid hi
  clear hs hi
  go_enter Tro.func9, Tro.ntmps9
  go_wp2_with fail
  refine (HS.out _).mono ?_; rintro e w1 ⟨rfl, b1⟩
  have B1 := Lib.hid b1
  have hz := b1.size
  clear b1
  go_wp2_with fail
  refine (HI.out _).mono ?_; rintro e w2 ⟨rfl, b2⟩
  have B2 := Lib.hid (B1.out.trans (b2.mono hz))
  clear b2
  go_wp2_with fail
  go_ret
  exact ⟨rfl, B2.out⟩
theorem FnExactStepsTo_walk (a0 a1 a2 : Int) (w : World) :
    Calls Tro.prog 9 #[.int .i64 a0, .int .i64 a1, .int .i64 a2] w fun e w' => e = .returned (.bool true) ∧ Below w.heap.size w w' := by
  rcases Classical.em (Voices a0 a1 a2) with h | h
  · exact FnExactStepsTo_core _ _ _ _ (fun w => sStepsTo_yes _ _ _ w h) (fun w => iStepsTo_yes _ _ _ w h) w
  · exact FnExactStepsTo_core _ _ _ _ (fun w => sStepsTo_no _ _ _ w h) (fun w => iStepsTo_no _ _ _ w h) w
end Go.Proofs.YtjgkignnfkbeaaaTro

/-
  Contracts of the reader of drawn numbers: newReader, pick, one.
-/
namespace Go.Proofs.YtjgkignnfkbeaaaTro
open Go.RowKit
set_option linter.unusedVariables false

/-- a row of bytes that can be read -/
def Bytes (w : World) (x : Option Addr) (len : Nat) (zs : List Int) : Prop :=
  len = 0 ∨ ∃ g o, x = some ⟨g, o, none⟩ ∧ g < w.heap.size ∧ ∀ i, i < len → w.cell? ⟨g, o + i, none⟩ = some (.int .u8 (zs.getD i 0)) ∧ 0 ≤ zs.getD i 0 ∧ zs.getD i 0 ≤ 255

/-- the reader in block B has drawn p numbers -/
def Rd (w : World) (B p : Nat) : Prop := ∃ (x : Option Addr) (len cap : Nat) (zs : List Int), len ≤ 2000 ∧ w.cell? ⟨B, 0, none⟩ = some (.slice x len cap) ∧ w.cell? ⟨B, 1, none⟩ = some (.int .i64 p) ∧ w.frozen? ⟨B, 1, none⟩ = false ∧
  B < w.heap.size ∧ (len = 0 ∨ ∃ g o, x = some ⟨g, o, none⟩ ∧ g < B ∧ ∀ i, i < len → w.cell? ⟨g, o + i, none⟩ = some (.int .u8 (zs.getD i 0)) ∧ 0 ≤ zs.getD i 0 ∧ zs.getD i 0 ≤ 255)

/-- what a draw gives -/
def Picks (n : Int) (B p : Nat) (w : World) (e : Ending) (w' : World) : Prop :=
  ∃ r : Int, e = .returned (.int .i64 r) ∧ 0 ≤ r ∧ (1 ≤ n → r < n) ∧ (n < 1 → r = 0) ∧ Rd w' B (p + 1) ∧ w.grownBy w' (some B)

/-- the reader behind a draw -/
theorem Rd.step {w : World} {B p : Nat} (h : Rd w B p) : Rd (w.setCell ⟨B, 1, none⟩ (.int .i64 ((p : Int) + 1))) B (p + 1) ∧ w.grownBy (w.setCell ⟨B, 1, none⟩ (.int .i64 ((p : Int) + 1))) (some B) := by
  obtain ⟨x, len, cap, zs, hlen, c0, c1, f1, hB, hb⟩ := h
  refine ⟨⟨x, len, cap, zs, hlen, ?_, ?_, by simpa using f1, by simpa using hB, ?_⟩, ⟨rfl, rfl, rfl, by simp, fun k _ hk => heap_setCell_other w ⟨B, 1, none⟩ k _ (fun e => hk (by simp [e]))⟩⟩
  · rw [World.cell?_setCell_other _ _ _ _ (by simp)]; exact c0
  · exact World.cell?_setCell_same _ _ _ c1
  · rcases hb with hb | ⟨g, o, rfl, hg, hcell⟩
    · exact .inl hb
    · refine .inr ⟨g, o, rfl, hg, fun i hi => ?_⟩
      rw [World.cell?_setCell_other _ _ _ _ (by intro e; injection e with e1 e2 e3; omega)]; exact hcell i hi
theorem Rd.drew {w : World} {B p : Nat} (h : Rd w B p) : Rd w.drew B p := h
theorem grown_drew {w w' : World} {r : Option Nat} (h : w.grownBy w' r) : w.grownBy w'.drew r := ⟨h.os, h.tape, h.output, h.size, h.block⟩

theorem i64_xor_nat (a b : Nat) (ha : a < 4611686018427387904) (hb : b < 4611686018427387904) : bits .xor .i64 (a : Int) (b : Int) = ((a ^^^ b : Nat) : Int) := by
  have hx : a ^^^ b < 2 ^ 62 := Nat.xor_lt_two_pow (by omega) (by omega)
  show IntKind.i64.wrap ((BitVec.ofInt 64 (a : Int) ^^^ BitVec.ofInt 64 (b : Int)).toNat : Int) = _
  rw [BitVec.toNat_xor, ofInt_i64 a ha, ofInt_i64 b hb]
  exact IntWalk.i64_in _ (by omega)
theorem xor_bd {X : Int} (h0 : 0 ≤ X) (h1 : X ≤ 100000000) : 0 ≤ bits .xor .i64 X (X / 64) ∧ bits .xor .i64 X (X / 64) ≤ 1000000000 := by
  obtain ⟨N, rfl⟩ := Int.eq_ofNat_of_zero_le h0
  have e : (N : Int) / 64 = ((N / 64 : Nat) : Int) := by omega
  rw [e, i64_xor_nat N (N / 64) (by omega) (by omega)]
  have hx : N ^^^ (N / 64) < 2 ^ 27 := Nat.xor_lt_two_pow (by omega) (by omega)
  omega

set_option maxRecDepth 20000 in
set_option maxHeartbeats 1000000 in
theorem pick_any (n : Int) (B p : Nat) (w : World) (h : Rd w B p) (hp : p ≤ 10000) (hn : -1000 ≤ n) (hn2 : n ≤ 100000) :
    Calls Tro.prog 62 #[.pointer (some ⟨B, 0, none⟩), .int .i64 n] w (Picks n B p w) := by
  have HS := Lib.hid h.step
  obtain ⟨x, len, cap, zs, hlen, c0, c1, f1, hB, hb⟩ := h
  by_cases hz : n < 1
  · go_enter Tro.func62, Tro.ntmps62
    go_wp2
    go_ret
    exact ⟨0, rfl, Int.le_refl _, by omega, fun _ => rfl, HS.out.1, HS.out.2⟩
  · rcases hb with hb | ⟨g, o, rfl, hg, hcell⟩
    · subst hb
      go_enter Tro.func62, Tro.ntmps62
      go_wp2
      go_ret
      exact ⟨0, rfl, Int.le_refl _, by omega, fun _ => rfl, HS.out.1, HS.out.2⟩
    · by_cases hl0 : len = 0
      · subst hl0
        go_enter Tro.func62, Tro.ntmps62
        go_wp2
        go_ret
        exact ⟨0, rfl, Int.le_refl _, by omega, fun _ => rfl, HS.out.1, HS.out.2⟩
      · by_cases hpl : p < len
        · obtain ⟨h1, h2, h3⟩ := hcell p hpl
          generalize zs.getD p 0 = z at h1 h2 h3
          clear hcell
          go_enter Tro.func62, Tro.ntmps62
          go_wp2
          go_ret
          refine ⟨z % n, rfl, Int.emod_nonneg _ (by omega), fun _ => Int.emod_lt_of_pos _ (by omega), fun h => by omega, HS.out.1, HS.out.2⟩
        · obtain ⟨h1, h2, h3⟩ := hcell (p % len) (Nat.mod_lt _ (by omega))
          obtain ⟨h4, h5, h6⟩ := hcell ((p * 7 + 3) % len) (Nat.mod_lt _ (by omega))
          generalize zs.getD (p % len) 0 = z at h1 h2 h3
          generalize zs.getD ((p * 7 + 3) % len) 0 = y at h4 h5 h6
          clear hcell
          have i1 := Int.emod_nonneg (p : Int) (b := (len : Int)) (by omega)
          have i2 := Int.emod_lt_of_pos (p : Int) (b := (len : Int)) (by omega)
          have i3 := Int.emod_nonneg ((p : Int) * 7 + 3) (b := (len : Int)) (by omega)
          have i4 := Int.emod_lt_of_pos ((p : Int) * 7 + 3) (b := (len : Int)) (by omega)
          obtain ⟨i5, i6⟩ := Tic.div_bd p len
          go_enter Tro.func62, Tro.ntmps62
          go_wp2
          go_region
          have x0 : 0 ≤ z * 131 + y * 1117 + (p : Int) * 29 + (p : Int) / (len : Int) * 53 := by omega
          have x1 : z * 131 + y * 1117 + (p : Int) * 29 + (p : Int) / (len : Int) * 53 ≤ 100000000 := by omega
          clear i1 i2 i3 i4 i5 i6
          generalize z * 131 + y * 1117 + (p : Int) * 29 + (p : Int) / (len : Int) * 53 = X at x0 x1
          obtain ⟨y0, y1⟩ := xor_bd x0 x1
          go_wp2
          go_ret
          exact ⟨bits .xor .i64 X (X / 64) % n, rfl, Int.emod_nonneg _ (by omega), fun _ => Int.emod_lt_of_pos _ (by omega), fun h => by omega, HS.out.1, grown_drew HS.out.2⟩

/-- the reader was made; nothing that was there is written -/
def Made (w : World) (e : Ending) (w' : World) : Prop := e = .returned (.pointer (some ⟨w.heap.size, 0, none⟩)) ∧ Rd w' w.heap.size 0 ∧ Below w.heap.size w w' ∧ w.heap.size < w'.heap.size

theorem rd_new {w : World} {x : Option Addr} {len cap : Nat} {zs : List Int} {t : TypeId} (hl : len ≤ 2000) (hb : Bytes w x len zs) : Rd (w.alloc (.cells #[.slice x len cap, .int .i64 0] t)) w.heap.size 0 := by
  refine ⟨x, len, cap, zs, hl, ?_, ?_, ?_, by simp, ?_⟩
  · go_simp
  · go_simp
  · go_simp
  · rcases hb with hb | ⟨g, o, rfl, hg, hc⟩
    · exact .inl hb
    · refine .inr ⟨g, o, rfl, hg, fun i hi => ?_⟩
      obtain ⟨h1, h2, h3⟩ := hc i hi
      exact ⟨((Below.refl w.heap.size w).alloc (Nat.le_refl _) _ |>.cell (p := ⟨g, o + i, none⟩) hg).trans h1, h2, h3⟩

theorem newReader_any (x : Option Addr) (len cap : Nat) (zs : List Int) (w : World) (hb : Bytes w x len zs) (hlc : len ≤ cap) (hc : cap ≤ maxLen) :
    Calls Tro.prog 40 #[.slice x len cap] w (Made w) := by
  unfold maxLen at hc
  by_cases hl : len ≤ 2000
  · have HR := fun t => rd_new (t := t) (cap := cap) hl hb
    have HR := Lib.hid HR
    go_enter Tro.func40, Tro.ntmps40
    go_wp2
    go_ret
    exact ⟨rfl, HR.out _, (Below.refl _ _).alloc (Nat.le_refl _) _, by simp⟩
  · have hb2 : Bytes w x 2000 zs := by
      rcases hb with hb | ⟨g, o, rfl, hg, hc⟩
      · omega
      · exact .inr ⟨g, o, rfl, hg, fun i hi => hc i (by omega)⟩
    have HR := fun t => rd_new (t := t) (cap := cap) (Nat.le_refl 2000) hb2
    have HR := Lib.hid HR
    rcases hb with hb | ⟨g, o, rfl, hg, hc⟩
    · omega
    · clear hc
      go_enter Tro.func40, Tro.ntmps40
      go_wp2
      go_ret
      exact ⟨rfl, HR.out _, (Below.refl _ _).alloc (Nat.le_refl _) _, by simp⟩

/-- one of the numbers L is drawn -/
def Ones (L : List Int) (B p : Nat) (w : World) (e : Ending) (w' : World) : Prop := ∃ y, y ∈ L ∧ e = .returned (.int .i64 y) ∧ Rd w' B (p + 1) ∧ w.grownBy w' (some B)

theorem one_any (v : Value) (BL : Nat) (L : List Int) (B p : Nat) (w : World) (h : Rd w B p) (hp : p ≤ 10000) (hr : Row w BL v L) (hv : v.ownBlock ≠ some B) (hne : L ≠ []) (hl4 : L.length ≤ 4096) :
    Calls Tro.prog 80 #[.pointer (some ⟨B, 0, none⟩), v] w (Ones L B p w) := by
  have hl2 := hr.2
  have hl0 : 0 < L.length := List.length_pos_iff.2 hne
  have HK : Hid (∀ w', w.grownBy w' (some B) → Row w' BL v L) := fun w' hg => ⟨hr.1.kept hg (.inr hv), hr.2⟩
  rcases hr.cases with ⟨_, e⟩ | ⟨g, c, rfl, _, hg, hc, _⟩
  · exact absurd e hne
  generalize hn : L.length = n at hl2 hl0 hc hl4
  have HN := Lib.hid hn
  clear hn hc hv hne hr
  go_enter Tro.func80, Tro.ntmps80
  go_wp2_with fail
  refine (pick_any _ _ _ _ h hp (by omega) (by omega)).mono ?_; rintro e w1 ⟨r, rfl, h0, h1, _, hrd, hgr⟩
  have h2 := h1 (by omega)
  obtain ⟨R, rfl⟩ := Int.eq_ofNat_of_zero_le h0
  have hRn : R < n := by omega
  have hc1 : w1.cell? ⟨g, R, none⟩ = some (.int .i64 (L.getD R 0)) := by
    rcases (HK.out w1 hgr).cases with ⟨e, _⟩ | ⟨g', c', e, _, _, hc, _⟩
    · cases e
    · simp only [Value.slice.injEq, Option.some.injEq, Addr.mk.injEq, and_true, true_and] at e
      obtain ⟨rfl, _, rfl⟩ := e
      exact hc R (by rw [HN.out]; exact hRn)
  have hmem : L.getD R 0 ∈ L := by
    rw [List.getD_eq_getElem?_getD, List.getElem?_eq_getElem (by rw [HN.out]; exact hRn)]
    exact List.getElem_mem _
  have HM := Lib.hid hmem
  have HRD := Lib.hid hrd
  have HG := Lib.hid hgr
  clear hmem hrd hgr h1
  generalize L.getD R 0 = y at hc1 HM
  go_wp2
  go_ret
  exact ⟨y, HM.out, rfl, HRD.out, HG.out⟩

end Go.Proofs.YtjgkignnfkbeaaaTro

/-
  Contracts of the drawn arguments: circles, sets, shifts.
-/
namespace Go.Proofs.YtjgkignnfkbeaaaTro
open Go.RowKit
set_option linter.unusedVariables false

theorem grown_trans {a b c : World} {r : Option Nat} (h : a.grownBy b r) (k : b.grownBy c r) : a.grownBy c r :=
  ⟨k.os.trans h.os, k.tape.trans h.tape, k.output.trans h.output, Nat.le_trans h.size k.size, fun i hi hr => (k.block i (Nat.lt_of_lt_of_le hi h.size) hr).trans (h.block i hi hr)⟩
theorem grown_alloc (w : World) (o : Obj) (r : Option Nat) : w.grownBy (w.alloc o) r := World.grownBy_alloc w o r
theorem grown_below {w w' : World} {r : Option Nat} (hb : Below w.heap.size w w') : w.grownBy w' r := ⟨hb.os, hb.tape, hb.output, hb.size, fun k hk _ => hb.block k hk⟩
theorem Rd.kept {w w' : World} {B p : Nat} (h : Rd w B p) (hb : Below w.heap.size w w') : Rd w' B p := by
  obtain ⟨x, len, cap, zs, hlen, c0, c1, f1, hB, hb2⟩ := h
  refine ⟨x, len, cap, zs, hlen, (hb.cell (p := ⟨B, 0, none⟩) hB).trans c0, (hb.cell (p := ⟨B, 1, none⟩) hB).trans c1, (hb.frozen (p := ⟨B, 1, none⟩) hB).trans f1, Nat.lt_of_lt_of_le hB hb.size, ?_⟩
  rcases hb2 with hb2 | ⟨g, o, e, hg, hc⟩
  · exact .inl hb2
  · exact .inr ⟨g, o, e, hg, fun i hi => ⟨(hb.cell (p := ⟨g, o + i, none⟩) (Nat.lt_trans hg hB)).trans (hc i hi).1, (hc i hi).2⟩⟩
theorem Rd.alloc {w : World} {B p : Nat} (h : Rd w B p) (o : Obj) : Rd (w.alloc o) B p := h.kept ((Below.refl _ _).alloc (Nat.le_refl _) _)
theorem Rd.lt {w : World} {B p : Nat} (h : Rd w B p) : B < w.heap.size := by obtain ⟨_, _, _, _, _, _, _, _, hB, _⟩ := h; exact hB

/-- a number from lo to hi is drawn, by at most c draws -/
def Dr (lo hi : Int) (c B p : Nat) (w : World) (e : Ending) (w' : World) : Prop :=
  ∃ (y : Int) (p' : Nat), e = .returned (.int .i64 y) ∧ lo ≤ y ∧ y ≤ hi ∧ p' ≤ p + c ∧ Rd w' B p' ∧ w.grownBy w' (some B)

theorem row_lit (w : World) (L : List Int) (hl : L.length ≤ 4096) : Row (w.alloc (.cells (L.map (Value.int .i64)).toArray 3)) w.heap.size (.slice (some ⟨w.heap.size, 0, none⟩) L.length L.length) L := by
  refine ⟨?_, by omega⟩
  have := World.ownsRow_lit (base := w.heap.size) (e := 3) (size := 1) w (L.map (Value.int .i64)).toArray L.length (Nat.le_refl _) (by unfold maxLen; omega) (by simp)
  simpa using this

/-- one of the numbers of a list just written out -/
theorem one_lit (L : List Int) (cs : Array Value) (n : Nat) (lo hi : Int) (B p : Nat) (w : World) (hcs : cs = (L.map (Value.int .i64)).toArray) (hn : n = L.length) (h : Rd w B p) (hp : p ≤ 10000) (hl : L.length ≤ 4096) (hne : L ≠ [])
    (hlo : ∀ y ∈ L, lo ≤ y ∧ y ≤ hi) :
    Calls Tro.prog 80 #[.pointer (some ⟨B, 0, none⟩), .slice (some ⟨w.heap.size, 0, none⟩) n n] (w.alloc (.cells cs 3)) (Dr lo hi 1 B p w) := by
  subst hcs hn
  refine (one_any _ _ L B p _ (h.alloc _) hp (row_lit w L hl) ?_ hne hl).mono ?_
  · intro e
    have := h.lt
    simp [Value.ownBlock] at e
    omega
  · rintro e w' ⟨y, hy, rfl, hr, hg⟩
    exact ⟨y, p + 1, rfl, (hlo y hy).1, (hlo y hy).2, by omega, hr, grown_trans (grown_alloc _ _ _) hg⟩

theorem circle_any (B p : Nat) (w : World) (h : Rd w B p) (hp : p ≤ 9000) :
    Calls Tro.prog 72 #[.pointer (some ⟨B, 0, none⟩)] w (Dr (-1) 13 2 B p w) := by
  go_enter Tro.func72, Tro.ntmps72
  go_wp2_with fail
  refine (pick_any _ _ _ _ h (by omega) (by omega) (by omega)).mono ?_; rintro e w1 ⟨r, rfl, h0, h1, _, hrd, hgr⟩
  have HRD := Lib.hid hrd
  have HG := Lib.hid hgr
  clear hrd hgr h1
  by_cases hr : r = 0
  · subst hr
    go_wp2_with fail
    refine (one_lit [2, 13, 0, -1] _ _ (-1) 13 _ _ _ rfl rfl HRD.out (by omega) (by decide) (by decide) (by decide)).mono ?_; rintro e w2 ⟨y, p', rfl, y0, y1, hp', hrd, hgr⟩
    go_wp2_with fail
    go_ret
    exact ⟨y, p', rfl, y0, y1, by omega, hrd, grown_trans HG.out hgr⟩
  · go_wp2_with fail
    refine (one_lit [12, 7, 8, 12, 5, 6, 10, 9, 11, 4, 3] _ _ (-1) 13 _ _ _ rfl rfl HRD.out (by omega) (by decide) (by decide) (by decide)).mono ?_; rintro e w2 ⟨y, p', rfl, y0, y1, hp', hrd, hgr⟩
    go_wp2_with fail
    go_ret
    exact ⟨y, p', rfl, y0, y1, by omega, hrd, grown_trans HG.out hgr⟩

theorem spread_any (n k m : Int) (w : World) (h1 : 1 ≤ n) (h2 : n ≤ 12) (h3 : 1 ≤ k) (h4 : k ≤ 12) (h5 : 0 ≤ m) (h6 : m ≤ 12) :
    Calls Tro.prog 81 #[.int .i64 n, .int .i64 k, .int .i64 m] w fun e w' => ∃ y : Int, e = .returned (.int .i64 y) ∧ 0 ≤ y ∧ y ≤ 50000 ∧ w = w' := by
  obtain ⟨N, rfl⟩ := Int.eq_ofNat_of_zero_le (show 0 ≤ n by omega)
  obtain ⟨K, rfl⟩ := Int.eq_ofNat_of_zero_le (show 0 ≤ k by omega)
  obtain ⟨M, rfl⟩ := Int.eq_ofNat_of_zero_le h5
  have HP : Hid (∃ Q : Ending → World → Prop, Q = fun e w' => ∃ y : Int, e = .returned (.int .i64 y) ∧ 0 ≤ y ∧ y ≤ 50000 ∧ w = w') := ⟨_, rfl⟩
  obtain ⟨Q, hQ⟩ := HP.out
  rw [← hQ]
  have HQ := Lib.hid hQ
  clear hQ HP
  go_enter Tro.func81, Tro.ntmps81
  go_wp2
  go_loop [7, 8] (fun t7 t8 => ∃ i y : Nat, i ≤ K ∧ y ≤ i * 4096 ∧ t8 = .int .i64 i ∧ t7 = .int .i64 y) (fun _ t8 => K - (intOf t8).toNat)
  case atStart => exact ⟨0, 0, by omega, by omega, rfl, rfl⟩
  case round =>
    obtain ⟨i, y, hi, hy, rfl, rfl⟩ := hrel
    by_cases hlt : i < K
    · have a1 : i * N ≤ 144 := by have := Nat.mul_le_mul (show i ≤ 12 by omega) (show N ≤ 12 by omega); omega
      have a2 : (0 : Int) ≤ (i : Int) * (N : Int) := by rw [← Int.natCast_mul]; omega
      have a3 : (i : Int) * (N : Int) ≤ 144 := by rw [← Int.natCast_mul]; omega
      have a4 : 0 ≤ ((i : Int) * (N : Int) + (M : Int)) / (K : Int) := Int.ediv_nonneg (by omega) (by omega)
      have a5 : ((i : Int) * (N : Int) + (M : Int)) / (K : Int) ≤ 200 := by
        have := Int.ediv_le_self (K : Int) (show 0 ≤ (i : Int) * (N : Int) + (M : Int) by omega); omega
      have a6 := Int.emod_nonneg (((i : Int) * (N : Int) + (M : Int)) / (K : Int)) (b := (N : Int)) (by omega)
      have a7 := Int.emod_lt_of_pos (((i : Int) * (N : Int) + (M : Int)) / (K : Int)) (b := (N : Int)) (by omega)
      have hp : 2 ^ (((i : Int) * (N : Int) + (M : Int)) / (K : Int) % (N : Int)).toNat ≤ 4096 := Tic.pow_le_12 (by omega)
      go_wp2_with fail
      refine (power_any _ _ (by omega) (by omega)).mono ?_; rintro e w1 ⟨rfl, rfl⟩
      generalize 2 ^ (((i : Int) * (N : Int) + (M : Int)) / (K : Int) % (N : Int)).toNat = P at hp
      clear a1 a2 a3 a4 a5 a6 a7
      go_wp2
      go_round
      case rel => exact ⟨i + 1, y + P, by omega, by omega, by go_num, by go_num⟩
      case measure => simp [intOf]; omega
    · have : i = K := by omega
      subst this
      go_wp2
      rw [HQ.out]
      exact ⟨y, rfl, by omega, by omega, rfl⟩

theorem power_ex (n : Int) (w : World) (h0 : 0 ≤ n) (h1 : n ≤ 12) :
    Calls Tro.prog 65 #[.int .i64 n] w fun e w' => ∃ P : Nat, e = .returned (.int .i64 P) ∧ 1 ≤ P ∧ P ≤ 4096 ∧ w = w' :=
  (power_any n w h0 (by omega)).mono fun e w' ⟨h2, h3⟩ => ⟨_, h2, Nat.one_le_two_pow, Tic.pow_le_12 h1, h3⟩
theorem and_bd {x y : Int} (h0 : 0 ≤ x) (h1 : x ≤ 100000) (h2 : 0 ≤ y) (h3 : y ≤ 100000) : 0 ≤ bits .and .i64 x y ∧ bits .and .i64 x y ≤ x := by
  obtain ⟨a, rfl⟩ := Int.eq_ofNat_of_zero_le h0
  obtain ⟨b, rfl⟩ := Int.eq_ofNat_of_zero_le h2
  rw [i64_and_nat a b (by omega) (by omega)]
  have := Nat.and_le_left (n := a) (m := b)
  omega
/-- a draw of a number, as the walks use it -/
def Pk (n : Int) (B p : Nat) (w : World) (e : Ending) (w' : World) : Prop := ∃ r : Int, e = .returned (.int .i64 r) ∧ 0 ≤ r ∧ r < n ∧ Hid (Rd w' B (p + 1)) ∧ Hid (w.grownBy w' (some B))
theorem pick_pos (n : Int) (B p : Nat) (w : World) (h : Rd w B p) (hp : p ≤ 10000) (hn : 1 ≤ n) (hn2 : n ≤ 100000) :
    Calls Tro.prog 62 #[.pointer (some ⟨B, 0, none⟩), .int .i64 n] w (Pk n B p w) :=
  (pick_any n B p w h hp (by omega) hn2).mono fun e w' ⟨r, h1, h2, h3, _, h5, h6⟩ => ⟨r, h1, h2, h3 hn, h5, h6⟩

set_option maxRecDepth 20000 in
set_option maxHeartbeats 2000000 in
theorem setOf_any (n : Int) (B p : Nat) (w : World) (h : Rd w B p) (hp : p ≤ 8000) (hn : -1000 ≤ n) (hn2 : n ≤ 1000) :
    Calls Tro.prog 61 #[.pointer (some ⟨B, 0, none⟩), .int .i64 n] w (Dr (-1) 1000000 8 B p w) := by
  have H := Lib.hid h
  clear h
  rcases (show n < 0 ∨ (0 ≤ n ∧ n ≤ 2) ∨ (2 < n ∧ n ≤ 12) ∨ 12 < n by omega) with c | ⟨c, c2⟩ | ⟨c, c2⟩ | c
  all_goals
    go_enter Tro.func61, Tro.ntmps61
    go_wp2_with fail
    refine (pick_pos _ _ _ _ H.out (by omega) (by omega) (by omega)).mono ?_; rintro e w1 ⟨r0, rfl, h0, h1, H1, G1⟩
    by_cases hr0 : r0 = 0
    · subst hr0
      go_wp2_with fail
      refine (power_ex _ _ (by omega) (by omega)).mono ?_; rintro e w2 ⟨P, rfl, p1, p2, rfl⟩
      go_wp2_with fail
      refine (one_lit [-1, (P : Int), 0] _ _ (-1) 1000000 _ _ _ rfl rfl H1.out (by omega) (by simp) (by simp) ?_).mono ?_
      · intro y hy; simp at hy; omega
      rintro e w2 ⟨y, p', rfl, y0, y1, hp', hrd, hgr⟩
      go_wp2_with fail
      go_ret
      exact ⟨y, p', rfl, y0, y1, by omega, hrd, grown_trans G1.out hgr⟩
    · go_wp2_with fail
      refine (pick_pos _ _ _ _ H1.out (by omega) (by omega) (by omega)).mono ?_; rintro e w2 ⟨r1, rfl, h2, h3, H2, G2⟩
      replace G2 := Lib.hid (grown_trans G1.out G2.out)
      clear H1 G1
      go_wp2_with fail
      refine (pick_pos _ _ _ _ H2.out (by omega) (by omega) (by omega)).mono ?_; rintro e w3 ⟨r2, rfl, h4, h5, H3, G3⟩
      replace G3 := Lib.hid (grown_trans G2.out G3.out)
      clear H2 G2
      go_wp2_with fail
      refine (power_ex _ _ (by omega) (by omega)).mono ?_; rintro e w4 ⟨P, rfl, p1, p2, rfl⟩
      have x0 := Int.emod_nonneg (r1 + 256 * r2) (b := (P : Int)) (by omega)
      have x1 := Int.emod_lt_of_pos (r1 + 256 * r2) (b := (P : Int)) (by omega)
      go_wp2_with fail
      refine (pick_pos _ _ _ _ H3.out (by omega) (by omega) (by omega)).mono ?_; rintro e w5 ⟨r3, rfl, h6, h7, H4, G4⟩
      replace G4 := Lib.hid (grown_trans G3.out G4.out)
      clear H3 G3
      generalize (r1 + 256 * r2) % (P : Int) = x at x0 x1
      rcases (show r3 = 0 ∨ r3 = 1 ∨ (r3 ≠ 0 ∧ r3 ≠ 1) by omega) with c3 | c3 | ⟨c3, c4⟩
      · subst c3
        go_wp2_with fail
        refine (pick_pos _ _ _ _ H4.out (by omega) (by omega) (by omega)).mono ?_; rintro e w6 ⟨r4, rfl, h8, h9, H5, G5⟩
        replace G5 := Lib.hid (grown_trans G4.out G5.out)
        clear H4 G4
        go_wp2_with fail
        refine (pick_pos _ _ _ _ H5.out (by omega) (by omega) (by omega)).mono ?_; rintro e w7 ⟨r5, rfl, h10, h11, H6, G6⟩
        replace G6 := Lib.hid (grown_trans G5.out G6.out)
        clear H5 G5
        obtain ⟨z0, z1⟩ := and_bd (x := x) (y := r4 + 256 * r5) x0 (by omega) (by omega) (by omega)
        go_wp2
        go_ret
        exact ⟨_, _, rfl, by omega, by omega, by omega, H6.out, G6.out⟩
      · subst c3
        first
          | (exfalso; omega)
          | (go_wp2_with fail
             go_ret
             exact ⟨x, _, rfl, by omega, by omega, by omega, H4.out, G4.out⟩)
          | (go_wp2_with fail
             refine (pick_pos _ _ _ _ H4.out (by omega) (by omega) (by omega)).mono ?_; rintro e w6 ⟨r4, rfl, h8, h9, H5, G5⟩
             replace G5 := Lib.hid (grown_trans G4.out G5.out)
             clear H4 G4
             go_wp2_with fail
             refine (pick_pos _ _ _ _ H5.out (by omega) (by omega) (by omega)).mono ?_; rintro e w7 ⟨r5, rfl, h10, h11, H6, G6⟩
             replace G6 := Lib.hid (grown_trans G5.out G6.out)
             clear H5 G5
             go_wp2_with fail
             refine (spread_any _ _ _ _ (by omega) (by omega) (by omega) (by omega) (by omega) (by omega)).mono ?_; rintro e w8 ⟨y, rfl, y0, y1, rfl⟩
             go_wp2_with fail
             go_ret
             exact ⟨y, _, rfl, by omega, by omega, by omega, H6.out, G6.out⟩)
      · go_wp2_with fail
        go_ret
        exact ⟨x, _, rfl, by omega, by omega, by omega, H4.out, G4.out⟩

/-- a circle and a set of its tones are drawn -/
def DrSet (c B p : Nat) (w : World) (e : Ending) (w' : World) : Prop :=
  ∃ (n s : Int) (p' : Nat), e = .returned (.tuple #[.int .i64 n, .int .i64 s]) ∧ -1 ≤ n ∧ n ≤ 13 ∧ -1 ≤ s ∧ s ≤ 1000000 ∧ p' ≤ p + c ∧ Rd w' B p' ∧ w.grownBy w' (some B)
theorem aSet_any (B p : Nat) (w : World) (h : Rd w B p) (hp : p ≤ 7000) :
    Calls Tro.prog 50 #[.pointer (some ⟨B, 0, none⟩)] w (DrSet 10 B p w) := by
  go_enter Tro.func50, Tro.ntmps50
  go_wp2_with fail
  refine (circle_any _ _ _ h (by omega)).mono ?_; rintro e w1 ⟨n, p1, rfl, n0, n1, hp1, hr1, hg1⟩
  have H1 := Lib.hid hr1
  have G1 := Lib.hid hg1
  clear hr1 hg1
  go_wp2_with fail
  refine (setOf_any _ _ _ _ H1.out (by omega) (by omega) (by omega)).mono ?_; rintro e w2 ⟨s, p2, rfl, s0, s1, hp2, hr2, hg2⟩
  have H2 := Lib.hid hr2
  have G2 := Lib.hid (grown_trans G1.out hg2)
  clear hr2 hg2
  go_wp2_with fail
  go_ret2
  exact ⟨n, s, p2, rfl, n0, n1, by omega, s1, by omega, H2.out, G2.out⟩


/-- the arguments of a function of a circle and a set -/
def Two (w : World) (e : Ending) (w' : World) : Prop := ∃ n s : Int, e = .returned (.tuple #[.int .i64 n, .int .i64 s]) ∧ -1 ≤ n ∧ n ≤ 13 ∧ -1 ≤ s ∧ s ≤ 1000000 ∧ Below w.heap.size w w'
/-- the arguments of a function of a circle, a set and a number -/
def Three (w : World) (e : Ending) (w' : World) : Prop := ∃ n s t : Int, e = .returned (.tuple #[.int .i64 n, .int .i64 s, .int .i64 t]) ∧ -1 ≤ n ∧ n ≤ 13 ∧ -1 ≤ s ∧ s ≤ 1000000 ∧ -60 ≤ t ∧ t ≤ 60 ∧ Below w.heap.size w w'
theorem below_grown {w w1 w2 : World} (h : Below w.heap.size w w1) (hg : w1.grownBy w2 (some w.heap.size)) : Below w.heap.size w w2 :=
  h.grown hg h.size (fun k hk => by injection hk with hk; omega)

end Go.Proofs.YtjgkignnfkbeaaaTro

/-
  Contracts of the drawers of arguments of a circle and a set, and of a shift beside them.
-/
namespace Go.Proofs.YtjgkignnfkbeaaaTro
open Go.RowKit
set_option linter.unusedVariables false

/-- a code that came in, byte by byte -/
def Code (w : World) (x : Option Addr) (len cap : Nat) : Prop := ∃ zs, Bytes w x len zs ∧ len ≤ cap ∧ cap ≤ maxLen
theorem code_nil (w : World) : Code w none 0 0 := ⟨[], .inl rfl, Nat.le_refl _, Nat.zero_le _⟩
theorem code_row {w : World} {x : Addr} {len cap : Nat} {z : List Int} (hl : len ≤ cap) (hm : cap ≤ maxLen) (hz : z.length = cap) (hcell : ∀ i, i < z.length → w.cell? (x.add i) = some (.int .u8 (z.getD i 0))) (hwz : ∀ n ∈ z, (Lit.int .u8 n).wf = true) : Code w (some x) len cap := by
  refine ⟨z, ?_, hl, hm⟩
  by_cases h0 : len = 0
  · exact .inl h0
  · obtain ⟨b, off, spot⟩ := x
    have hc := hcell 0 (by omega)
    have hspot : spot = none := by simpa [Addr.add] using World.cell?_spot hc
    subst hspot
    have hb : b < w.heap.size := by simpa [Addr.add] using World.block_lt_of_cell? w _ hc
    refine .inr ⟨b, off, rfl, hb, fun i hi => ⟨(show (⟨b, off + i, none⟩ : Addr) = (⟨b, off, none⟩ : Addr).add i by unfold Addr.add; split <;> simp_all) ▸ hcell i (by omega), ?_⟩⟩
    have hmem : z.getD i 0 ∈ z := by
      rw [List.getD_eq_getElem?_getD, List.getElem?_eq_getElem (by omega)]
      exact List.getElem_mem _
    have hw := hwz _ hmem
    exact bounds_u8 hw

theorem drawNearOf (x : Option Addr) (len cap : Nat) (w : World) (h : Code w x len cap) : Calls Tro.prog 19 #[.slice x len cap] w (Two w) := by
  obtain ⟨zs, h1, h2, h3⟩ := h
  go_enter Tro.func19, Tro.ntmps19
  go_wp2_with fail
  refine (newReader_any _ _ _ _ _ h1 h2 h3).mono ?_; rintro e w1 ⟨rfl, hrd, hb, _⟩
  have HB := Lib.hid hb
  clear hb
  go_wp2_with fail
  refine (aSet_any _ _ _ hrd (by omega)).mono ?_; rintro e w2 ⟨n, s, p', rfl, n0, n1, s0, s1, _, _, hg⟩
  go_wp2_with fail
  go_ret2
  exact ⟨n, s, rfl, n0, n1, s0, s1, below_grown HB.out hg⟩
theorem drawSmoothOf (x : Option Addr) (len cap : Nat) (w : World) (h : Code w x len cap) : Calls Tro.prog 31 #[.slice x len cap] w (Two w) := by
  obtain ⟨zs, h1, h2, h3⟩ := h
  go_enter Tro.func31, Tro.ntmps31
  go_wp2_with fail
  refine (newReader_any _ _ _ _ _ h1 h2 h3).mono ?_; rintro e w1 ⟨rfl, hrd, hb, _⟩
  have HB := Lib.hid hb
  clear hb
  go_wp2_with fail
  refine (aSet_any _ _ _ hrd (by omega)).mono ?_; rintro e w2 ⟨n, s, p', rfl, n0, n1, s0, s1, _, _, hg⟩
  go_wp2_with fail
  go_ret2
  exact ⟨n, s, rfl, n0, n1, s0, s1, below_grown HB.out hg⟩

end Go.Proofs.YtjgkignnfkbeaaaTro

/-
  Plain mathematics of kinds of sets: shifts and turns composed, and the least of them. No program in sight.
-/
namespace Go.Proofs.YtjgkignnfkbeaaaTro.Tic
set_option linter.unusedVariables false
/-- how many t below k have p -/
def cnt (p : Nat → Bool) : Nat → Nat
  | 0 => 0
  | k + 1 => if p k then cnt p k + 1 else cnt p k
theorem cnt_le (p : Nat → Bool) : ∀ k, cnt p k ≤ k
  | 0 => Nat.le_refl _
  | k + 1 => by unfold cnt; have := cnt_le p k; split <;> omega
theorem cnt_yes {p : Nat → Bool} {k : Nat} (h : p k = true) : cnt p (k + 1) = cnt p k + 1 := by conv => lhs; unfold cnt; rw [if_pos h]
theorem cnt_no {p : Nat → Bool} {k : Nat} (h : p k = false) : cnt p (k + 1) = cnt p k := by conv => lhs; unfold cnt; rw [if_neg (by simp [h])]

theorem emod_mul_emod (a b c : Int) (n : Nat) : (a + b * (c % (n : Int))) % (n : Int) = (a + b * c) % (n : Int) := by
  have h := Int.mul_ediv_add_emod c n
  have e : a + b * c = (a + b * (c % (n : Int))) + n * (b * (c / n)) := by
    conv => lhs; rw [← h]
    rw [Int.mul_add, Int.mul_left_comm b]
    omega
  rw [e, Int.add_mul_emod_self_left]

theorem mvd_comp {n : Nat} (h : 0 < n) (w1 t1 w2 t2 : Int) (x : Nat) : mvd n w1 t1 (mvd n w2 t2 x) = mvd n (w1 * w2) (t1 + w1 * t2) x := by
  have h1 := Int.emod_nonneg (t2 + w2 * x) (b := (n : Int)) (by omega)
  unfold mvd
  rw [Int.toNat_of_nonneg h1, emod_mul_emod]
  congr 2
  rw [Int.mul_add, Int.add_assoc, Int.mul_assoc]

theorem img_congr (f g : Nat → Nat) (s : Nat) : ∀ k, (∀ x, x < k → f x = g x) → img f s k = img g s k
  | 0, _ => rfl
  | k + 1, h => by unfold img; rw [img_congr f g s k (fun x hx => h x (by omega)), h k (by omega)]

theorem img_img (f g : Nat → Nat) (s n : Nat) (hg : ∀ x, x < n → g x < n) : img f (img g s n) n = img (fun x => f (g x)) s n := by
  apply Nat.eq_of_testBit_eq
  intro y
  rw [Bool.eq_iff_iff, img_testBit, img_testBit]
  constructor
  · rintro ⟨x, hx, h1, rfl⟩
    obtain ⟨z, hz, h2, rfl⟩ := (img_testBit g s x n).1 h1
    exact ⟨z, hz, h2, rfl⟩
  · rintro ⟨z, hz, h2, rfl⟩
    exact ⟨g z, hg z hz, (img_testBit g s _ n).2 ⟨z, hz, h2, rfl⟩, rfl⟩

theorem img_id {s n : Nat} (hs : s < 2 ^ n) (f : Nat → Nat) (hf : ∀ x, x < n → f x = x) : img f s n = s := by
  apply Nat.eq_of_testBit_eq
  intro y
  rw [Bool.eq_iff_iff, img_testBit]
  constructor
  · rintro ⟨x, hx, h1, rfl⟩; rw [hf x hx]; exact h1
  · intro h
    have hy : y < n := by
      rcases Nat.lt_or_ge y n with g | g
      · exact g
      · have := Nat.testBit_lt_two_pow (Nat.lt_of_lt_of_le hs (Nat.pow_le_pow_right (by omega : 0 < 2) g))
        rw [this] at h; cases h
    exact ⟨y, hy, h, hf y hy⟩

theorem img_mvd_comp {n : Nat} (h : 0 < n) (w1 t1 w2 t2 : Int) (s : Nat) : img (mvd n w1 t1) (img (mvd n w2 t2) s n) n = img (mvd n (w1 * w2) (t1 + w1 * t2)) s n := by
  rw [img_img _ _ _ _ (fun x _ => mvd_lt h _ _ x)]
  exact img_congr _ _ _ _ fun x _ => mvd_comp h _ _ _ _ x

theorem shf_zero {n s : Nat} (h : 0 < n) (hs : s < 2 ^ n) : shf n 0 s = s := by
  refine img_id hs _ fun x hx => ?_
  unfold mvd
  rw [Int.one_mul, Int.zero_add, Int.emod_eq_of_lt (by omega) (by omega)]
  rfl
theorem shf_tur0 {n : Nat} (h : 0 < n) (t : Int) (s : Nat) : shf n t (tur n 0 s) = tur n t s := by
  unfold shf tur
  rw [img_mvd_comp h, show t + 1 * 0 = t from by omega]; rfl
theorem shf_shf {n : Nat} (h : 0 < n) (t u : Int) (s : Nat) : shf n t (shf n u s) = shf n (t + u) s := by
  unfold shf
  rw [img_mvd_comp h, show t + 1 * u = t + u from by omega]; rfl
theorem tur_shf {n : Nat} (h : 0 < n) (t u : Int) (s : Nat) : tur n t (shf n u s) = tur n (t - u) s := by
  unfold tur shf
  rw [img_mvd_comp h, show t + -1 * u = t - u from by omega]; rfl
theorem shf_tur {n : Nat} (h : 0 < n) (t u : Int) (s : Nat) : shf n t (tur n u s) = tur n (t + u) s := by
  unfold tur shf
  rw [img_mvd_comp h, show t + 1 * u = t + u from by omega]; rfl
theorem tur_tur {n : Nat} (h : 0 < n) (t u : Int) (s : Nat) : tur n t (tur n u s) = shf n (t - u) s := by
  unfold tur shf
  rw [img_mvd_comp h, show t + -1 * u = t - u from by omega]; rfl

/-- the least of s and its shifts and turns by all below k -/
def kTo (n s : Nat) : Nat → Nat
  | 0 => s
  | k + 1 => min (min (kTo n s k) (shf n k s)) (tur n k s)
/-- the least of s and its shifts by 1 to k -/
def lTo (n s : Nat) : Nat → Nat
  | 0 => s
  | k + 1 => min (lTo n s k) (shf n (k + 1 : Nat) s)
theorem lTo_next (n s : Nat) {k : Nat} (h : 1 ≤ k) : lTo n s (k + 1 - 1) = min (lTo n s (k - 1)) (shf n k s) := by
  obtain ⟨j, rfl⟩ : ∃ j, k = j + 1 := ⟨k - 1, by omega⟩
  rfl
theorem kTo_le (n s : Nat) : ∀ k, kTo n s k ≤ s
  | 0 => Nat.le_refl _
  | k + 1 => by unfold kTo; have := kTo_le n s k; omega
theorem lTo_le (n s : Nat) : ∀ k, lTo n s k ≤ s
  | 0 => Nat.le_refl _
  | k + 1 => by unfold lTo; have := lTo_le n s k; omega
theorem kTo_shf (n s : Nat) : ∀ k t, t < k → kTo n s k ≤ shf n t s
  | k + 1, t, h => by
    unfold kTo
    by_cases e : t = k
    · subst e; omega
    · have := kTo_shf n s k t (by omega); omega
theorem kTo_tur (n s : Nat) : ∀ k t, t < k → kTo n s k ≤ tur n t s
  | k + 1, t, h => by
    unfold kTo
    by_cases e : t = k
    · subst e; omega
    · have := kTo_tur n s k t (by omega); omega
theorem kTo_mem (n s : Nat) : ∀ k, kTo n s k = s ∨ ∃ t, t < k ∧ (kTo n s k = shf n t s ∨ kTo n s k = tur n t s)
  | 0 => .inl rfl
  | k + 1 => by
    have e : kTo n s (k + 1) = kTo n s k ∨ kTo n s (k + 1) = shf n k s ∨ kTo n s (k + 1) = tur n k s := by
      conv => lhs; lhs; unfold kTo
      conv => rhs; lhs; lhs; unfold kTo
      conv => rhs; rhs; lhs; unfold kTo
      omega
    rcases e with e | e | e
    · rcases kTo_mem n s k with h | ⟨t, ht, h⟩
      · exact .inl (e.trans h)
      · exact .inr ⟨t, by omega, by rw [e]; exact h⟩
    · exact .inr ⟨k, by omega, .inl e⟩
    · exact .inr ⟨k, by omega, .inr e⟩
theorem lTo_shf (n s : Nat) : ∀ k t, 1 ≤ t → t ≤ k → lTo n s k ≤ shf n (t : Nat) s
  | 0, t, h, h2 => by omega
  | k + 1, t, h, h2 => by
    unfold lTo
    by_cases e : t = k + 1
    · subst e; omega
    · have := lTo_shf n s k t h (by omega); omega
theorem lTo_mem (n s : Nat) : ∀ k, lTo n s k = s ∨ ∃ t : Nat, 1 ≤ t ∧ t ≤ k ∧ lTo n s k = shf n t s
  | 0 => .inl rfl
  | k + 1 => by
    have e : lTo n s (k + 1) = lTo n s k ∨ lTo n s (k + 1) = shf n (k + 1 : Nat) s := by
      conv => lhs; lhs; unfold lTo
      conv => rhs; lhs; unfold lTo
      omega
    rcases e with e | e
    · rcases lTo_mem n s k with h | ⟨t, h0, ht, h⟩
      · exact .inl (e.trans h)
      · exact .inr ⟨t, h0, by omega, by rw [e]; exact h⟩
    · exact .inr ⟨k + 1, by omega, by omega, e⟩
/-- the least number of a kind -/
def prm (n s : Nat) : Nat := kTo n s n
theorem prm_spec {n s : Nat} (h : 0 < n) (hs : s < 2 ^ n) : min (lTo n s (n - 1)) (lTo n (tur n 0 s) (n - 1)) = prm n s := by
  apply Nat.le_antisymm
  · unfold prm
    rcases kTo_mem n s n with e | ⟨t, ht, e | e⟩
    · rw [e]; have := lTo_le n s (n - 1); omega
    · rw [e]
      by_cases e0 : t = 0
      · subst e0; rw [show ((0 : Nat) : Int) = 0 from rfl, shf_zero h hs]; have := lTo_le n s (n - 1); omega
      · have := lTo_shf n s (n - 1) t (by omega) (by omega); omega
    · rw [e]
      by_cases e0 : t = 0
      · subst e0; rw [show ((0 : Nat) : Int) = 0 from rfl]; have := lTo_le n (tur n 0 s) (n - 1); omega
      · have := lTo_shf n (tur n 0 s) (n - 1) t (by omega) (by omega); rw [shf_tur0 h] at this; omega
  · have h1 : prm n s ≤ lTo n s (n - 1) := by
      unfold prm
      rcases lTo_mem n s (n - 1) with e | ⟨t, h0, ht, e⟩
      · rw [e]; exact kTo_le _ _ _
      · rw [e]; exact kTo_shf n s n t (by omega)
    have h2 : prm n s ≤ lTo n (tur n 0 s) (n - 1) := by
      unfold prm
      rcases lTo_mem n (tur n 0 s) (n - 1) with e | ⟨t, h0, ht, e⟩
      · rw [e]; exact kTo_tur n s n 0 h
      · rw [e, shf_tur0 h]; exact kTo_tur n s n t (by omega)
    omega
theorem kTo_lt {n s : Nat} (hs : s < 2 ^ n) (k : Nat) : kTo n s k < 2 ^ n := Nat.lt_of_le_of_lt (kTo_le _ _ _) hs
theorem lTo_lt {n s : Nat} (hs : s < 2 ^ n) (k : Nat) : lTo n s k < 2 ^ n := Nat.lt_of_le_of_lt (lTo_le _ _ _) hs
theorem valid_shf {n s : Int} (h : Valid n s) (t : Int) : Valid n (shf n.toNat t s.toNat : Int) :=
  ⟨h.1, h.2.1, Int.natCast_nonneg _, by have := shf_lt (n := n.toNat) (by have := h.1; omega) t s.toNat; exact Int.ofNat_lt.2 this⟩
theorem valid_tur {n s : Int} (h : Valid n s) (t : Int) : Valid n (tur n.toNat t s.toNat : Int) :=
  ⟨h.1, h.2.1, Int.natCast_nonneg _, by have := tur_lt (n := n.toNat) (by have := h.1; omega) t s.toNat; exact Int.ofNat_lt.2 this⟩
theorem Valid.lt_pow {n s : Int} (h : Valid n s) : s.toNat < 2 ^ n.toNat := by
  have h1 := h.2.2.2
  have h2 := h.2.2.1
  omega
theorem valid_prm {n s : Int} (h : Valid n s) : Valid n (prm n.toNat s.toNat : Int) :=
  ⟨h.1, h.2.1, Int.natCast_nonneg _, Int.ofNat_lt.2 (kTo_lt h.lt_pow _)⟩
theorem prm_min {n s : Int} (h : Valid n s) : min (lTo n.toNat s.toNat (n.toNat - 1)) (lTo n.toNat (tur n.toNat 0 s.toNat) (n.toNat - 1)) = prm n.toNat s.toNat :=
  prm_spec (by have := h.1; omega) h.lt_pow
/-- how many shifts, turns below n leave the set -/
def shs (n s : Nat) : Nat → Nat := cnt fun t => shf n t s == s
def trs (n s : Nat) : Nat → Nat := cnt fun t => tur n t s == s
theorem shs_step (N S k : Nat) : ((((img (mvd N 1 k) S N : Nat) : Int) == (S : Int)) = true ∧ shs N S (k + 1) = shs N S k + 1) ∨ ((((img (mvd N 1 k) S N : Nat) : Int) == (S : Int)) = false ∧ shs N S (k + 1) = shs N S k) := by
  by_cases h : shf N k S = S
  · refine .inl ⟨?_, cnt_yes (by simpa using h)⟩
    rw [show img (mvd N 1 k) S N = S from h]; simp
  · refine .inr ⟨?_, cnt_no (by simpa using h)⟩
    have : ((img (mvd N 1 k) S N : Nat) : Int) ≠ (S : Int) := fun e => h (Int.ofNat.inj e)
    simpa using this
theorem trs_step (N S k : Nat) : ((((img (mvd N (-1) k) S N : Nat) : Int) == (S : Int)) = true ∧ trs N S (k + 1) = trs N S k + 1) ∨ ((((img (mvd N (-1) k) S N : Nat) : Int) == (S : Int)) = false ∧ trs N S (k + 1) = trs N S k) := by
  by_cases h : tur N k S = S
  · refine .inl ⟨?_, cnt_yes (by simpa using h)⟩
    rw [show img (mvd N (-1) k) S N = S from h]; simp
  · refine .inr ⟨?_, cnt_no (by simpa using h)⟩
    have : ((img (mvd N (-1) k) S N : Nat) : Int) ≠ (S : Int) := fun e => h (Int.ofNat.inj e)
    simpa using this
theorem shs_le (N S k : Nat) : shs N S k ≤ k := cnt_le _ k
theorem trs_le (N S k : Nat) : trs N S k ≤ k := cnt_le _ k
end Go.Proofs.YtjgkignnfkbeaaaTro.Tic

/-
  The draw of a circle and two sets of its tones.
-/
namespace Go.Proofs.YtjgkignnfkbeaaaTro
open Go.RowKit
set_option linter.unusedVariables false

/-- a circle and two sets are drawn -/
def DrTwo (B : Nat) (w : World) (e : Ending) (w' : World) : Prop :=
  ∃ n a b : Int, e = .returned (.tuple #[.int .i64 n, .int .i64 a, .int .i64 b]) ∧ -1 ≤ n ∧ n ≤ 13 ∧ -1 ≤ a ∧ a ≤ 1000000 ∧ -1 ≤ b ∧ b ≤ 1000000 ∧ w.grownBy w' (some B)
/-- the arguments of a function of a circle and two sets -/
def Pair2 (w : World) (e : Ending) (w' : World) : Prop := ∃ n a b : Int, e = .returned (.tuple #[.int .i64 n, .int .i64 a, .int .i64 b]) ∧ -1 ≤ n ∧ n ≤ 13 ∧ -1 ≤ a ∧ a ≤ 1000000 ∧ -1 ≤ b ∧ b ≤ 1000000 ∧ Below w.heap.size w w'
theorem turn_set (n s t : Int) (w : World) (hv : Tic.Valid n s) (ht : Tic.Turn t) :
    Calls Tro.prog 63 #[.int .i64 n, .int .i64 s, .int .i64 t] w fun e w' => ∃ P : Int, e = .returned (.int .i64 P) ∧ Tic.Valid n P ∧ w = w' :=
  (sturn_any n s t w hv ht).mono fun e w' ⟨h2, h3⟩ => ⟨_, h2, Tic.valid_tur hv t, h3⟩
theorem shift_set (n s t : Int) (w : World) (hv : Tic.Valid n s) (ht : Tic.Turn t) :
    Calls Tro.prog 59 #[.int .i64 n, .int .i64 s, .int .i64 t] w fun e w' => ∃ P : Int, e = .returned (.int .i64 P) ∧ 0 ≤ P ∧ P < 4096 ∧ w = w' :=
  (sshift_any n s t w hv ht).mono fun e w' ⟨h2, h3⟩ => ⟨_, h2, Int.natCast_nonneg _, by have := Tic.shf_lt12 hv t; omega, h3⟩
set_option maxRecDepth 20000 in
set_option maxHeartbeats 2000000 in
theorem twoSets_any (B p : Nat) (w : World) (h : Rd w B p) (hp : p ≤ 100) :
    Calls Tro.prog 39 #[.pointer (some ⟨B, 0, none⟩)] w (DrTwo B w) := by
  go_enter Tro.func39, Tro.ntmps39
  go_wp2_with fail
  refine (aSet_any _ _ _ h (by omega)).mono ?_; rintro e w1 ⟨n, s, p1, rfl, n0, n1, s0, s1, hp1, hr, hg⟩
  have HR := Lib.hid hr
  have HG := Lib.hid hg
  clear hr hg h
  by_cases hv : Tic.Valid n s
  · have g1 := hv.1
    have g2 := hv.2.1
    have hlt := hv.lt
    have HV := Lib.hid hv
    obtain ⟨N, rfl⟩ := Int.eq_ofNat_of_zero_le (show 0 ≤ n by omega)
    obtain ⟨S, rfl⟩ := Int.eq_ofNat_of_zero_le hv.2.2.1
    clear hv
    go_wp2_with fail
    refine (validSet_yes _ _ _ HV.out).mono ?_; rintro e w2 ⟨rfl, rfl⟩
    go_wp2_with fail
    refine (pick_pos _ _ _ _ HR.out (by omega) (by omega) (by omega)).mono ?_; rintro e w2 ⟨r0, rfl, h0, h1, H1, G1⟩
    have HG1 := Lib.hid (grown_trans HG.out G1.out)
    clear HR G1 HG
    by_cases hr0 : r0 = 0
    · subst hr0
      go_wp2_with fail
      refine (pick_pos _ _ _ _ H1.out (by omega) (by omega) (by omega)).mono ?_; rintro e w3 ⟨r1, rfl, q0, q1, H2, G2⟩
      replace HG1 := Lib.hid (grown_trans HG1.out G2.out)
      clear H1 G2
      go_wp2_with fail
      refine (pick_pos _ _ _ _ H2.out (by omega) (by omega) (by omega)).mono ?_; rintro e w4 ⟨r2, rfl, q2, q3, H3, G3⟩
      replace HG1 := Lib.hid (grown_trans HG1.out G3.out)
      clear H2 G3
      rcases (show r1 = 0 ∨ r1 = 1 by omega) with rfl | rfl
      all_goals
        go_wp2_with fail
        refine (turn_set _ _ _ _ HV.out ⟨by omega, by omega⟩).mono ?_; rintro e w5 ⟨T, rfl, hT, rfl⟩
        go_wp2_with fail
        refine (pick_pos _ _ _ _ H3.out (by omega) (by omega) (by omega)).mono ?_; rintro e w5 ⟨r3, rfl, q4, q5, H4, G4⟩
        replace HG1 := Lib.hid (grown_trans HG1.out G4.out)
        clear H3 G4
        go_wp2_with fail
        refine (shift_set _ _ _ _ hT ⟨by omega, by omega⟩).mono ?_; rintro e w6 ⟨X, rfl, hX0, hX1, rfl⟩
        go_wp2_with fail
        go_ret3
        exact ⟨_, _, _, rfl, by omega, by omega, by omega, by omega, by omega, by omega, HG1.out⟩
    · have hr1 : (r0 == 0) = false := by rw [beq_eq_false_iff_ne]; exact hr0
      go_wp2_with fail
      refine (weight_any _ _ (by omega) (by omega)).mono ?_; rintro e w3 ⟨rfl, rfl⟩
      rw [Int.toNat_natCast]
      have hk := Tic.wt_le 12 S
      generalize Tic.wt 12 S = k at hk ⊢
      have HG0 := HG1
      obtain ⟨p2, hp2⟩ : ∃ p2, p2 = p1 + 1 := ⟨_, rfl⟩
      rw [← hp2] at H1
      have hp3 : p2 ≤ 200 := by omega
      clear hp2 HG1 hr0 hr1 h0 h1
      go_wp2
      go_loopw [7, 9, 10] (fun t7 t9 t10 wr => ∃ x b q : Nat, x ≤ N ∧ b < 2 ^ x ∧ q ≤ p2 + x ∧ t9 = .int .i64 x ∧ t7 = .int .i64 b ∧ Hid (Rd wr B q) ∧ Hid (w.grownBy wr (some B))) (fun _ t9 _ _ => N - (intOf t9).toNat)
      case atStart => exact ⟨0, 0, p2, Nat.zero_le _, by decide, Nat.le_refl _, rfl, rfl, H1, HG0⟩
      case round =>
        clear H1 HG0
        obtain ⟨x, b, q, hx, hb, hq, rfl, rfl, H1, HG0⟩ := hrel
        have hp12 : 2 ^ x ≤ 2 ^ 12 := Nat.pow_le_pow_right (by omega) (by omega)
        by_cases hlt2 : x < N
        · have hp2x : 2 ^ (x + 1) = 2 * 2 ^ x := by rw [Nat.pow_succ]; omega
          have hwb := Tic.wt_le 12 b
          go_wp2_with fail
          refine (weight_any _ _ (by omega) (by omega)).mono ?_; rintro e w4 ⟨rfl, rfl⟩
          rw [Int.toNat_natCast]
          generalize Tic.wt 12 b = c at hwb ⊢
          by_cases hkc : c < k
          · go_wp2_with fail
            refine (pick_pos _ _ _ _ H1.out (by omega) (by omega) (by omega)).mono ?_; rintro e w5 ⟨r, rfl, q4, q5, H2, G2⟩
            have HG2 := Lib.hid (grown_trans HG0.out G2.out)
            clear H1 HG0 G2
            by_cases hrk : r < (k : Int)
            · have HPW := Lib.hid (fun w' => power_any (x : Int) w' (by omega) (by omega))
              simp only [Int.toNat_natCast] at HPW
              generalize 2 ^ x = P at *
              go_wp2_with fail
              refine (HPW.out _).mono ?_; rintro e w6 ⟨rfl, rfl⟩
              go_wp2
              go_roundw
              case rel => exact ⟨x + 1, b + P, q + 1, by omega, by omega, by omega, by go_num, by go_num, H2, HG2⟩
              case measure => simp [intOf]; omega
            · by_cases hnl : (N : Int) - (x : Int) ≤ (k : Int) - (c : Int)
              · have HPW := Lib.hid (fun w' => power_any (x : Int) w' (by omega) (by omega))
                simp only [Int.toNat_natCast] at HPW
                generalize 2 ^ x = P at *
                go_wp2_with fail
                refine (HPW.out _).mono ?_; rintro e w6 ⟨rfl, rfl⟩
                go_wp2
                go_roundw
                case rel => exact ⟨x + 1, b + P, q + 1, by omega, by omega, by omega, by go_num, by go_num, H2, HG2⟩
                case measure => simp [intOf]; omega
              · go_wp2
                go_roundw
                case rel => exact ⟨x + 1, b, q + 1, by omega, by omega, by omega, by go_num, rfl, H2, HG2⟩
                case measure => simp [intOf]; omega
          · go_wp2
            go_roundw
            case rel => exact ⟨x + 1, b, q, by omega, by omega, by omega, by go_num, rfl, H1, HG0⟩
            case measure => simp [intOf]; omega
        · obtain rfl : x = N := by omega
          go_wp2_with fail
          refine (pick_pos _ _ _ _ H1.out (by omega) (by omega) (by omega)).mono ?_; rintro e w5 ⟨r, rfl, q4, q5, H2, G2⟩
          have HG2 := Lib.hid (grown_trans HG0.out G2.out)
          clear H1 HG0 G2
          by_cases hr : r = 0
          · subst hr
            go_wp2_with fail
            refine (setOf_any _ _ _ _ H2.out (by omega) (by omega) (by omega)).mono ?_; rintro e w6 ⟨y, p9, rfl, y0, y1, _, _, hg9⟩
            have HG3 := Lib.hid (grown_trans HG2.out hg9)
            clear hg9
            go_wp2_with fail
            go_ret3
            exact ⟨_, _, _, rfl, by omega, by omega, by omega, by omega, by omega, by omega, HG3.out⟩
          · have hr1 : (r == 0) = false := by rw [beq_eq_false_iff_ne]; exact hr
            go_wp2_with fail
            go_ret3
            exact ⟨_, _, _, rfl, by omega, by omega, by omega, by omega, by omega, by omega, HG2.out⟩
  · go_wp2_with fail
    refine (validSet_no _ _ _ hv).mono ?_; rintro e w2 ⟨rfl, rfl⟩
    go_wp2_with fail
    refine (setOf_any _ _ _ _ HR.out (by omega) (by omega) (by omega)).mono ?_; rintro e w2 ⟨y, p', rfl, y0, y1, hp', _, hg2⟩
    have HG2 := Lib.hid (grown_trans HG.out hg2)
    clear hg2
    go_wp2_with fail
    go_ret3
    exact ⟨_, _, _, rfl, by omega, by omega, by omega, by omega, by omega, by omega, HG2.out⟩
theorem drawFarOf (x : Option Addr) (len cap : Nat) (w : World) (h : Code w x len cap) : Calls Tro.prog 12 #[.slice x len cap] w (Pair2 w) := by
  obtain ⟨zs, h1, h2, h3⟩ := h
  go_enter Tro.func12, Tro.ntmps12
  go_wp2_with fail
  refine (newReader_any _ _ _ _ _ h1 h2 h3).mono ?_; rintro e w1 ⟨rfl, hrd, hb, _⟩
  have HB := Lib.hid hb
  clear hb
  go_wp2_with fail
  refine (twoSets_any _ _ _ hrd (by omega)).mono ?_; rintro e w2 ⟨n, a, b, rfl, n0, n1, a0, a1, b0, b1, hg⟩
  have HG := Lib.hid (below_grown HB.out hg)
  clear hg
  go_wp2_with fail
  go_ret3
  exact ⟨n, a, b, rfl, n0, n1, a0, a1, b0, b1, HG.out⟩
theorem drawStepsTo (x : Option Addr) (len cap : Nat) (w : World) (h : Code w x len cap) : Calls Tro.prog 25 #[.slice x len cap] w (Pair2 w) := by
  obtain ⟨zs, h1, h2, h3⟩ := h
  go_enter Tro.func25, Tro.ntmps25
  go_wp2_with fail
  refine (newReader_any _ _ _ _ _ h1 h2 h3).mono ?_; rintro e w1 ⟨rfl, hrd, hb, _⟩
  have HB := Lib.hid hb
  clear hb
  go_wp2_with fail
  refine (twoSets_any _ _ _ hrd (by omega)).mono ?_; rintro e w2 ⟨n, a, b, rfl, n0, n1, a0, a1, b0, b1, hg⟩
  have HG := Lib.hid (below_grown HB.out hg)
  clear hg
  go_wp2_with fail
  go_ret3
  exact ⟨n, a, b, rfl, n0, n1, a0, a1, b0, b1, HG.out⟩
theorem drawPathTo (x : Option Addr) (len cap : Nat) (w : World) (h : Code w x len cap) : Calls Tro.prog 28 #[.slice x len cap] w (Pair2 w) := by
  obtain ⟨zs, h1, h2, h3⟩ := h
  go_enter Tro.func28, Tro.ntmps28
  go_wp2_with fail
  refine (newReader_any _ _ _ _ _ h1 h2 h3).mono ?_; rintro e w1 ⟨rfl, hrd, hb, _⟩
  have HB := Lib.hid hb
  clear hb
  go_wp2_with fail
  refine (twoSets_any _ _ _ hrd (by omega)).mono ?_; rintro e w2 ⟨n, a, b, rfl, n0, n1, a0, a1, b0, b1, hg⟩
  have HG := Lib.hid (below_grown HB.out hg)
  clear hg
  go_wp2_with fail
  go_ret3
  exact ⟨n, a, b, rfl, n0, n1, a0, a1, b0, b1, HG.out⟩
end Go.Proofs.YtjgkignnfkbeaaaTro

/-
  Plain mathematics of the laws' leastPairs: the least of all ways to pair what is left.
-/
namespace Go.Proofs.YtjgkignnfkbeaaaTro
set_option linter.unusedVariables false

/-- the least of b and of what the unused among the first k numbers give -/
def lpK (u : Nat) (c : Nat → Nat) (b : Nat) : Nat → Nat
  | 0 => b
  | k + 1 => if u.testBit k then lpK u c b k else min (lpK u c b k) (c k)
theorem lpK_used {u : Nat} {c : Nat → Nat} {b k : Nat} (h : u.testBit k = true) : lpK u c b (k + 1) = lpK u c b k := by conv => lhs; unfold lpK; rw [if_pos h]
theorem lpK_free {u : Nat} {c : Nat → Nat} {b k : Nat} (h : u.testBit k = false) : lpK u c b (k + 1) = min (lpK u c b k) (c k) := by conv => lhs; unfold lpK; rw [if_neg (by simp [h])]
theorem lpK_le {u : Nat} {c : Nat → Nat} {b : Nat} : ∀ k, lpK u c b k ≤ b ∧ ∀ j, j < k → u.testBit j = false → lpK u c b k ≤ c j
  | 0 => ⟨Nat.le_refl _, fun j hj => by omega⟩
  | k + 1 => by
    obtain ⟨h1, h2⟩ := lpK_le (u := u) (c := c) (b := b) k
    cases hk : u.testBit k with
    | true =>
      rw [lpK_used hk]
      refine ⟨h1, fun j hj hb => ?_⟩
      by_cases e : j = k
      · subst e; rw [hk] at hb; cases hb
      · exact h2 j (by omega) hb
    | false =>
      rw [lpK_free hk]
      refine ⟨by omega, fun j hj hb => ?_⟩
      by_cases e : j = k
      · subst e; omega
      · have := h2 j (by omega) hb; omega
theorem lpK_some {u : Nat} {c : Nat → Nat} {b : Nat} : ∀ k, lpK u c b k = b ∨ ∃ j, j < k ∧ u.testBit j = false ∧ lpK u c b k = c j
  | 0 => .inl rfl
  | k + 1 => by
    have ih := lpK_some (u := u) (c := c) (b := b) k
    cases hk : u.testBit k with
    | true =>
      rw [lpK_used hk]
      rcases ih with h | ⟨j, h1, h2, h3⟩
      · exact .inl h
      · exact .inr ⟨j, by omega, h2, h3⟩
    | false =>
      rw [lpK_free hk]
      rcases Nat.le_total (lpK u c b k) (c k) with q | q
      · rw [Nat.min_eq_left q]
        rcases ih with h | ⟨j, h1, h2, h3⟩
        · exact .inl h
        · exact .inr ⟨j, by omega, h2, h3⟩
      · rw [Nat.min_eq_right q]
        exact .inr ⟨k, by omega, hk, rfl⟩
/-- the least of all ways to pair the last f of m tones with those that are not used -/
def lp (n m : Nat) (x y : Nat → Nat) : Nat → Nat → Nat → Nat
  | 0, _, _ => 0
  | f + 1, i, u => lpK u (fun k => Tic.apt n (x i) (y k) + lp n m x y f (i + 1) (u + 2 ^ k)) (n * n) m
theorem add_bit {u k : Nat} (h : u.testBit k = false) : u + 2 ^ k = u ||| 2 ^ k := (Tic.or_pow_add h).symm
theorem bit_add {u k j : Nat} (h : u.testBit k = false) : (u + 2 ^ k).testBit j = (u.testBit j || decide (k = j)) := by
  rw [add_bit h, Nat.testBit_or, Nat.testBit_two_pow]
theorem lp_le {n m : Nat} {x y : Nat → Nat} : ∀ (f i u : Nat) (τ : Nat → Nat), (∀ l, l < f → τ (i + l) < m ∧ u.testBit (τ (i + l)) = false) → (∀ l l', l < f → l' < f → τ (i + l) = τ (i + l') → l = l') →
    lp n m x y f i u ≤ smv (fun l => Tic.apt n (x (i + l)) (y (τ (i + l)))) f
  | 0, i, u, τ, _, _ => Nat.zero_le _
  | f + 1, i, u, τ, h1, h2 => by
    obtain ⟨a1, a2⟩ := h1 0 (by omega)
    rw [Nat.add_zero] at a1 a2
    have h3 := (lpK_le (u := u) (c := fun k => Tic.apt n (x i) (y k) + lp n m x y f (i + 1) (u + 2 ^ k)) (b := n * n) m).2 (τ i) a1 a2
    have ih := lp_le (n := n) (m := m) (x := x) (y := y) f (i + 1) (u + 2 ^ τ i) τ (fun l hl => by
      obtain ⟨b1, b2⟩ := h1 (l + 1) (by omega)
      rw [show i + 1 + l = i + (l + 1) by omega]
      refine ⟨b1, ?_⟩
      rw [bit_add a2, b2, Bool.false_or, decide_eq_false_iff_not]
      intro e
      have := h2 0 (l + 1) (by omega) (by omega) (by rw [Nat.add_zero]; exact e)
      omega) (fun l l' hl hl' e => by
      have := h2 (l + 1) (l' + 1) (by omega) (by omega) (by rw [show i + (l + 1) = i + 1 + l by omega, show i + (l' + 1) = i + 1 + l' by omega]; exact e)
      omega)
    rw [smv_head]
    have e : smv (fun l => Tic.apt n (x (i + (l + 1))) (y (τ (i + (l + 1))))) f = smv (fun l => Tic.apt n (x (i + 1 + l)) (y (τ (i + 1 + l)))) f := smv_congr f fun l hl => by
      rw [show i + (l + 1) = i + 1 + l by omega]
    show lp n m x y (f + 1) i u ≤ Tic.apt n (x (i + 0)) (y (τ (i + 0))) + smv (fun l => Tic.apt n (x (i + (l + 1))) (y (τ (i + (l + 1))))) f
    rw [e]
    show lpK u (fun k => Tic.apt n (x i) (y k) + lp n m x y f (i + 1) (u + 2 ^ k)) (n * n) m ≤ Tic.apt n (x i) (y (τ i)) + _
    omega
theorem all_used {u : Nat} : ∀ m, (tonesTo u m).length = m → ∀ k, k < m → u.testBit k = true
  | 0, _, k, hk => by omega
  | m + 1, h, k, hk => by
    have hl := tonesTo_le u m
    cases hb : u.testBit m with
    | true =>
      rw [tonesTo_yes hb, List.length_append, List.length_singleton] at h
      by_cases e : k = m
      · rw [e]; exact hb
      · exact all_used (u := u) m (by omega) k (by omega)
    | false => rw [tonesTo_no hb] at h; omega
theorem some_free {u : Nat} : ∀ m, (tonesTo u m).length < m → ∃ k, k < m ∧ u.testBit k = false
  | 0, h => by simp at h
  | m + 1, h => by
    cases hb : u.testBit m with
    | true =>
      rw [tonesTo_yes hb, List.length_append, List.length_singleton] at h
      obtain ⟨k, h1, h2⟩ := some_free (u := u) m (by omega)
      exact ⟨k, by omega, h2⟩
    | false => exact ⟨m, by omega, hb⟩
theorem len_add {u k : Nat} (h : u.testBit k = false) : ∀ m, k < m → (tonesTo (u + 2 ^ k) m).length = (tonesTo u m).length + 1
  | 0, hk => by omega
  | m + 1, hk => by
    have hb := bit_add (j := m) h
    by_cases e : k = m
    · subst e
      have h1 : (u + 2 ^ k).testBit k = true := by rw [hb]; simp
      rw [tonesTo_yes h1, tonesTo_no h, List.length_append, List.length_singleton]
      have : ∀ j, j ≤ k → (tonesTo (u + 2 ^ k) j).length = (tonesTo u j).length := fun j => by
        induction j with
        | zero => intro _; rfl
        | succ j ih =>
          intro hj
          have hbj := bit_add (j := j) h
          have hne : ¬ k = j := by omega
          simp only [hne, decide_false, Bool.or_false] at hbj
          cases q : u.testBit j with
          | true => rw [tonesTo_yes (hbj.trans q), tonesTo_yes q, List.length_append, List.length_append, ih (by omega)]
          | false => rw [tonesTo_no (hbj.trans q), tonesTo_no q, ih (by omega)]
      rw [this k (Nat.le_refl _)]
    · have ih := len_add h m (by omega)
      simp only [e, decide_false, Bool.or_false] at hb
      cases q : u.testBit m with
      | true => rw [tonesTo_yes (hb.trans q), tonesTo_yes q, List.length_append, List.length_append, ih]; simp
      | false => rw [tonesTo_no (hb.trans q), tonesTo_no q, ih]
theorem smv_half {n : Nat} (hn : 1 ≤ n) {g : Nat → Nat} (h : ∀ l, 2 * g l ≤ n) : ∀ f, 2 * smv g f ≤ f * n
  | 0 => by simp [smv]
  | f + 1 => by
    have := smv_half hn h f
    have := h f
    unfold smv
    rw [Nat.add_mul, Nat.one_mul]; omega
theorem lp_some {n m : Nat} {x y : Nat → Nat} (hn : 1 ≤ n) (hm : m ≤ n) : ∀ (f i u : Nat), (tonesTo u m).length + f = m →
    ∃ τ : Nat → Nat, (∀ l, l < f → τ (i + l) < m ∧ u.testBit (τ (i + l)) = false) ∧ (∀ l l', l < f → l' < f → τ (i + l) = τ (i + l') → l = l') ∧ (∀ k, k < m → u.testBit k = false → ∃ l, l < f ∧ τ (i + l) = k) ∧
      lp n m x y f i u = smv (fun l => Tic.apt n (x (i + l)) (y (τ (i + l)))) f
  | 0, i, u, h => ⟨fun _ => 0, fun l hl => by omega, fun l l' hl _ _ => by omega, fun k hk hb => absurd (all_used (u := u) m (by omega) k hk) (by rw [hb]; decide), rfl⟩
  | f + 1, i, u, h => by
    obtain ⟨k0, hk0, hb0⟩ := some_free (u := u) m (by omega)
    have val : ∀ k, k < m → u.testBit k = false → 2 * (Tic.apt n (x i) (y k) + lp n m x y f (i + 1) (u + 2 ^ k)) ≤ (f + 1) * n := fun k hk hb => by
      obtain ⟨τ, _, _, _, e⟩ := lp_some hn hm f (i + 1) (u + 2 ^ k) (by rw [len_add hb m hk]; omega) (x := x) (y := y)
      rw [e]
      have h1 := smv_half (n := n) hn (g := fun l => Tic.apt n (x (i + 1 + l)) (y (τ (i + 1 + l)))) (fun l => Tic.apt_le hn) f
      have h2 := Tic.apt_le (n := n) (x := x i) (y := y k) hn
      rw [Nat.add_mul, Nat.one_mul]; omega
    have hnn : (f + 1) * n ≤ n * n := Nat.mul_le_mul_right n (by omega)
    have hpos : 0 < n * n := Nat.mul_pos (by omega) (by omega)
    obtain ⟨k, hk, hb, he⟩ : ∃ k, k < m ∧ u.testBit k = false ∧ lp n m x y (f + 1) i u = Tic.apt n (x i) (y k) + lp n m x y f (i + 1) (u + 2 ^ k) := by
      rcases lpK_some (u := u) (c := fun k => Tic.apt n (x i) (y k) + lp n m x y f (i + 1) (u + 2 ^ k)) (b := n * n) m with q | ⟨k, h1, h2, h3⟩
      · exfalso
        have h4 := (lpK_le (u := u) (c := fun k => Tic.apt n (x i) (y k) + lp n m x y f (i + 1) (u + 2 ^ k)) (b := n * n) m).2 k0 hk0 hb0
        have h5 := val k0 hk0 hb0
        omega
      · exact ⟨k, h1, h2, h3⟩
    obtain ⟨τ, t1, t2, t3, t4⟩ := lp_some hn hm f (i + 1) (u + 2 ^ k) (by rw [len_add hb m hk]; omega) (x := x) (y := y)
    have ht : ∀ l, l < f → (if i + (l + 1) = i then k else τ (i + (l + 1))) = τ (i + 1 + l) := fun l hl => by
      rw [if_neg (by omega), show i + (l + 1) = i + 1 + l by omega]
    have hfree : ∀ l, l < f → u.testBit (τ (i + 1 + l)) = false ∧ τ (i + 1 + l) ≠ k := fun l hl => by
      have := (t1 l hl).2
      rw [bit_add hb, Bool.or_eq_false_iff] at this
      exact ⟨this.1, fun e => by have := this.2; simp [e] at this⟩
    refine ⟨fun j => if j = i then k else τ j, fun l hl => ?_, fun l l' hl hl' e => ?_, fun k' hk' hb' => ?_, ?_⟩
    · match l, hl with
      | 0, _ => simp only [Nat.add_zero, if_true]; exact ⟨hk, hb⟩
      | l + 1, hl =>
        simp only [ht l (by omega)]
        exact ⟨(t1 l (by omega)).1, (hfree l (by omega)).1⟩
    · match l, l', hl, hl' with
      | 0, 0, _, _ => rfl
      | 0, l' + 1, _, hl' => simp only [Nat.add_zero, if_true, ht l' (by omega)] at e; exact absurd e.symm (hfree l' (by omega)).2
      | l + 1, 0, hl, _ => simp only [Nat.add_zero, if_true, ht l (by omega)] at e; exact absurd e (hfree l (by omega)).2
      | l + 1, l' + 1, hl, hl' =>
        simp only [ht l (by omega), ht l' (by omega)] at e
        have := t2 l l' (by omega) (by omega) e
        omega
    · by_cases e : k = k'
      · exact ⟨0, by omega, by simp [e]⟩
      · obtain ⟨l, hl, el⟩ := t3 k' hk' (by rw [bit_add hb, hb']; simp [e])
        exact ⟨l + 1, by omega, by simp only [ht l hl]; exact el⟩
    · rw [he, t4, smv_head]
      show _ = Tic.apt n (x (i + 0)) (y (if i + 0 = i then k else τ (i + 0))) + smv (fun l => Tic.apt n (x (i + (l + 1))) (y (if i + (l + 1) = i then k else τ (i + (l + 1))))) f
      rw [show (if i + 0 = i then k else τ (i + 0)) = k from if_pos rfl]
      show Tic.apt n (x i) (y k) + _ = Tic.apt n (x i) (y k) + _
      congr 1
      refine smv_congr f fun l hl => ?_
      rw [ht l hl, show i + 1 + l = i + (l + 1) by omega]
/-- it is the least turn -/
theorem lp_dst {n A B : Nat} (hn : n < 13) (h2 : 2 ≤ n) (hA : A < 2 ^ n) (hB : B < 2 ^ n) (hl : (tonesTo A n).length = (tonesTo B n).length) (h0 : 0 < (tonesTo B n).length) :
    lp n (tonesTo A n).length (tn A n) (tn B n) (tonesTo A n).length 0 0 = dst n A B := by
  have hle := tonesTo_le A n
  have hz : ∀ k, (tonesTo 0 k).length = 0 := fun k => by
    induction k with
    | zero => rfl
    | succ k ih => rw [tonesTo_no (Nat.zero_testBit k)]; exact ih
  apply Nat.le_antisymm
  · obtain ⟨j, hj⟩ := dst_is (n := n) (A := A) (B := B) (by omega) hl (by omega)
    have hrot := en_rot (en_tones B n) j
    rw [hj]
    have := lp_le (n := n) (m := (tonesTo A n).length) (x := tn A n) (y := tn B n) (tonesTo A n).length 0 0 (fun i => (i + j) % (tonesTo A n).length) (fun l hl => ⟨Nat.mod_lt _ (by omega), Nat.zero_testBit _⟩) (fun l l' h1 h2 e => by
      rw [hl] at h1 h2
      refine hrot.inj l l' h1 h2 ?_
      simp only [Nat.zero_add] at e
      show tn B n _ = tn B n _
      rw [← hl, e])
    refine Nat.le_trans this (Nat.le_of_eq ?_)
    unfold rc ways
    refine smv_congr _ fun i hi => ?_
    show Tic.apt n (tn A n (0 + i)) (tn B n ((0 + i + j) % _)) = _
    rw [Nat.zero_add]
  · obtain ⟨τ, t1, t2, t3, t4⟩ := lp_some (n := n) (m := (tonesTo A n).length) (x := tn A n) (y := tn B n) (by omega) (by omega) (tonesTo A n).length 0 0 (by rw [hz]; omega)
    rw [t4]
    have hb := en_tones B n
    have hE : En n B (tonesTo B n).length (fun i => tn B n (τ i)) := by
      refine ⟨fun i hi => hb.lt _ ?_, fun i hi => hb.bit _ ?_, fun p hp hbp => ?_, fun i j hi hj e => ?_⟩
      · have := (t1 i (by omega)).1; rw [Nat.zero_add] at this; omega
      · have := (t1 i (by omega)).1; rw [Nat.zero_add] at this; omega
      · obtain ⟨k, hk, e⟩ := hb.on p hp hbp
        obtain ⟨l, hl1, hl2⟩ := t3 k (by omega) (Nat.zero_testBit _)
        rw [Nat.zero_add] at hl2
        exact ⟨l, by omega, by show tn B n (τ l) = p; rw [hl2]; exact e⟩
      · have e1 : tn B n (τ i) = tn B n (τ j) := e
        have h1 := (t1 i (by omega)).1
        have h2 := (t1 j (by omega)).1
        rw [Nat.zero_add] at h1 h2
        have := hb.inj _ _ (by omega) (by omega) e1
        exact t2 i j (by omega) (by omega) (by rw [Nat.zero_add, Nat.zero_add]; exact this)
    refine dst_ways hn h2 hB hE h0 _ A (tn A n) hA hl (by rw [← hl]; exact en_tones A n) (Nat.le_of_eq ?_)
    rw [← hl]
    unfold ways
    refine smv_congr _ fun i hi => ?_
    show Tic.apt n (tn A n i) (tn B n (τ i)) = Tic.apt n (tn A n (0 + i)) (tn B n (τ (0 + i)))
    rw [Nat.zero_add]
end Go.Proofs.YtjgkignnfkbeaaaTro

/-
  Plain mathematics of gaps: how many pairs of tones are how far apart, counted in two orders. No program in sight.
-/
namespace Go.Proofs.YtjgkignnfkbeaaaTro.Tic
set_option linter.unusedVariables false

def gsum (f : Nat → Nat) : Nat → Nat
  | 0 => 0
  | k + 1 => gsum f k + f k
theorem gsum_congr {f g : Nat → Nat} : ∀ k, (∀ x, x < k → f x = g x) → gsum f k = gsum g k
  | 0, _ => rfl
  | k + 1, h => by unfold gsum; rw [gsum_congr k (fun x hx => h x (by omega)), h k (by omega)]
theorem gsum_zero (k : Nat) : gsum (fun _ => 0) k = 0 := by
  induction k with
  | zero => rfl
  | succ k ih => unfold gsum; rw [ih]
theorem gsum_add (f g : Nat → Nat) : ∀ k, gsum (fun x => f x + g x) k = gsum f k + gsum g k
  | 0 => rfl
  | k + 1 => by unfold gsum; rw [gsum_add f g k]; omega
theorem gsum_swap (f : Nat → Nat → Nat) (m : Nat) : ∀ n, gsum (fun x => gsum (fun y => f x y) m) n = gsum (fun y => gsum (fun x => f x y) n) m
  | 0 => by
    show 0 = _
    exact (gsum_zero m).symm
  | n + 1 => by
    show gsum (fun x => gsum (fun y => f x y) m) n + gsum (fun y => f n y) m = _
    rw [gsum_swap f m n, ← gsum_add]
    rfl
theorem gsum_le {f : Nat → Nat} {b : Nat} (h : ∀ x, f x ≤ b) : ∀ k, gsum f k ≤ k * b
  | 0 => by simp [gsum]
  | k + 1 => by unfold gsum; have := gsum_le h k; have := h k; rw [Nat.add_mul]; omega
/-- the sum ends where nothing follows -/
theorem gsum_stop {f : Nat → Nat} {m : Nat} (h : ∀ x, m ≤ x → f x = 0) : ∀ k, m ≤ k → gsum f k = gsum f m
  | 0, hk => by rw [Nat.le_zero.1 hk]
  | k + 1, hk => by
    by_cases e : m = k + 1
    · rw [e]
    · unfold gsum
      rw [gsum_stop h k (by omega), h k (by omega)]
      cases m <;> rfl

/-- the pair of the tones x and y of s is d + 1 apart, in a circle of n -/
def hit (n s d x y : Nat) : Nat := if s.testBit x = true ∧ s.testBit y = true ∧ x < y ∧ min (y - x) (n - (y - x)) = d + 1 then 1 else 0
theorem hit_le (n s d x y : Nat) : hit n s d x y ≤ 1 := by unfold hit; split <;> omega
/-- the pairs with the first tone below x, and with x and the second tone below y -/
def gS (n s x y d : Nat) : Nat := gsum (fun x' => gsum (fun y' => hit n s d x' y') n) x + gsum (fun y' => hit n s d x y') y
/-- the pairs with the second tone below y, and with y and the first tone below x -/
def gI (n s y x d : Nat) : Nat := gsum (fun y' => gsum (fun x' => hit n s d x' y') n) y + gsum (fun x' => hit n s d x' y) x
def gAll (n s d : Nat) : Nat := gsum (fun x' => gsum (fun y' => hit n s d x' y') n) n
theorem gS_end (n s d : Nat) : gS n s n 0 d = gAll n s d := rfl
theorem gI_end (n s d : Nat) : gI n s n 0 d = gAll n s d := by
  show gsum (fun y' => gsum (fun x' => hit n s d x' y') n) n + 0 = _
  rw [Nat.add_zero, gAll, gsum_swap (fun x y => hit n s d x y) n n]
theorem gS_start (n s x d : Nat) : gS n s x (x + 1) d = gS n s x 0 d := by
  unfold gS
  congr 1
  have : gsum (fun y' => hit n s d x y') (x + 1) = gsum (fun _ => 0) (x + 1) := gsum_congr _ fun y hy => by
    unfold hit; rw [if_neg]; rintro ⟨_, _, h, _⟩; omega
  rw [this, gsum_zero]; rfl
theorem gS_row (n s x d : Nat) : gS n s (x + 1) 0 d = gS n s x n d := rfl
theorem gS_next (n s x y d : Nat) : gS n s x (y + 1) d = gS n s x y d + hit n s d x y := by
  unfold gS
  conv => lhs; rhs; unfold gsum
  omega
theorem gI_row (n s y d : Nat) (h : y ≤ n) : gI n s (y + 1) 0 d = gI n s y y d := by
  show gsum (fun y' => gsum (fun x' => hit n s d x' y') n) y + gsum (fun x' => hit n s d x' y) n + 0 = _
  rw [gsum_stop (f := fun x' => hit n s d x' y) (m := y) (fun x hx => by unfold hit; rw [if_neg]; rintro ⟨_, _, h, _⟩; omega) n h]
  rfl
theorem gI_next (n s y x d : Nat) : gI n s y (x + 1) d = gI n s y x d + hit n s d x y := by
  unfold gI
  conv => lhs; rhs; unfold gsum
  omega
theorem gI_skip (n s y x d : Nat) (h : s.testBit x = false) : gI n s y (x + 1) d = gI n s y x d := by
  rw [gI_next]; unfold hit; rw [if_neg (by simp [h])]; omega
theorem gI_none (n s y d : Nat) (hy : y ≤ n) (h : s.testBit y = false) : gI n s (y + 1) 0 d = gI n s y 0 d := by
  rw [gI_row n s y d hy]
  unfold gI
  congr 1
  rw [gsum_congr (g := fun _ => 0) y (fun x _ => by unfold hit; rw [if_neg (by simp [h])]), gsum_zero]; rfl
theorem gS_no (n s x y d : Nat) (h : s.testBit x = false ∨ s.testBit y = false) : gS n s x (y + 1) d = gS n s x y d := by
  rw [gS_next]; unfold hit; rw [if_neg]; omega
  rintro ⟨a, b, _⟩; rcases h with h | h
  · rw [h] at a; cases a
  · rw [h] at b; cases b
theorem hit_at {n s x y i : Nat} (hx : s.testBit x = true) (hy : s.testBit y = true) (h : x < y) (hi : min (y - x) (n - (y - x)) = i + 1) (d : Nat) : hit n s d x y = if d = i then 1 else 0 := by
  unfold hit
  by_cases e : d = i
  · rw [if_pos e, if_pos ⟨hx, hy, h, by omega⟩]
  · rw [if_neg e, if_neg]; rintro ⟨_, _, _, h⟩; omega
theorem gS_le (n s x y d : Nat) (hx : x ≤ 12) (hy : y ≤ 12) (hn : n ≤ 12) : gS n s x y d ≤ 1000 := by
  have h1 : ∀ x', gsum (fun y' => hit n s d x' y') n ≤ 12 := fun x' => by
    have := gsum_le (f := fun y' => hit n s d x' y') (hit_le n s d x') n; omega
  have h2 := gsum_le (f := fun x' => gsum (fun y' => hit n s d x' y') n) h1 x
  have h3 := gsum_le (f := fun y' => hit n s d x y') (hit_le n s d x) y
  unfold gS
  omega
theorem gI_le (n s y x d : Nat) (hx : x ≤ 12) (hy : y ≤ 12) (hn : n ≤ 12) : gI n s y x d ≤ 1000 := by
  have h1 : ∀ y', gsum (fun x' => hit n s d x' y') n ≤ 12 := fun y' => by
    have := gsum_le (f := fun x' => hit n s d x' y') (fun x' => hit_le n s d x' y') n; omega
  have h2 := gsum_le (f := fun y' => gsum (fun x' => hit n s d x' y') n) h1 y
  have h3 := gsum_le (f := fun x' => hit n s d x' y) (fun x' => hit_le n s d x' y) x
  unfold gI
  omega

/-- a list of m counts -/
def cts (m : Nat) (C : Nat → Nat) : List Int := (List.range m).map fun d => (C d : Int)
theorem cts_length (m : Nat) (C : Nat → Nat) : (cts m C).length = m := by simp [cts]
theorem cts_getD {m i : Nat} (C : Nat → Nat) (h : i < m) : (cts m C).getD i 0 = (C i : Int) := by
  simp [cts, List.getD_eq_getElem?_getD, h]
theorem cts_set {m i : Nat} (C C' : Nat → Nat) (h : i < m) (hC : ∀ d, C' d = C d + if d = i then 1 else 0) : (cts m C).set i ((C i : Int) + 1) = cts m C' := by
  apply List.ext_getElem
  · simp [cts]
  · intro j h1 h2
    have hj : j < m := by simpa [cts] using h2
    rw [List.getElem_set]
    simp only [cts, List.getElem_map, List.getElem_range]
    rw [hC j]
    by_cases e : i = j
    · subst e; simp
    · rw [if_neg e, if_neg (fun e2 => e e2.symm)]; simp
theorem cts_congr {m : Nat} {C C' : Nat → Nat} (h : ∀ d, C d = C' d) : cts m C = cts m C' := by
  unfold cts; simp [h]
theorem cts_zero (m : Nat) : cts m (fun _ => 0) = List.replicate m 0 := by
  apply List.ext_getElem
  · simp [cts]
  · intro j h1 h2; simp [cts]
/-- the gaps of a set -/
def gapsOf (n s : Nat) : List Int := cts (n / 2) (gAll n s)
end Go.Proofs.YtjgkignnfkbeaaaTro.Tic

/-
  Contracts of GapsOf, of the program and of the model.
-/
namespace Go.Proofs.YtjgkignnfkbeaaaTro
open Go.RowKit
set_option linter.unusedVariables false

theorem Row.put {w : World} {B g m cap : Nat} {C C' : Nat → Nat} (h : Row w B (.slice (some ⟨g, 0, none⟩) m cap) (Tic.cts m C)) {i : Nat} (hi : i < m) (hC : ∀ d, C' d = C d + if d = i then 1 else 0) :
    Row (w.setCell ⟨g, i, none⟩ (.int .i64 ((C i : Int) + 1))) B (.slice (some ⟨g, 0, none⟩) m cap) (Tic.cts m C') := by
  have := (Row.set (by rw [Tic.cts_length]; exact h) i ((C i : Int) + 1)).1
  rw [Tic.cts_length, Tic.cts_set C C' hi hC] at this
  exact this

theorem wpList_make_ints {ops : Array Oper} {rest : List Oper} {o : Oper} {a : Act} {Q : Exit → Act → World → Prop} {w : World} (hg : o.guard = none) (l c : Operand) (hop : o.op = Op.makeSlice 25 l c)
    (B : Nat) (X Y : Int) (m : Nat) (hl : a.eval l = .int .i64 X) (hc : a.eval c = .int .i64 Y) (hX : X = (m : Int)) (hY : Y = (m : Int)) (hm : m ≤ 4096) (hB : B ≤ w.heap.size)
    (hK : ∀ w', Row w' B (.slice (some ⟨w.heap.size, 0, none⟩) m m) (Tic.cts m fun _ => 0) → Below w.heap.size w w' → wpList Tro.prog ops Q rest (a.put o.dst (.slice (some ⟨w.heap.size, 0, none⟩) m m)) w') :
    wpList Tro.prog ops Q (o :: rest) a w := by
  obtain ⟨i0, hi, hz0, hz1, hz2⟩ := info_parts info_int
  refine wpList_make_full w hg l c 25 hop B 3 i0 (.int .i64 0) 1 Tro.underlying25 hi hz0 hz1 .i64 .i64 X Y m hl hc hX hY (by rw [hz2]; omega) (by unfold maxLen; omega) hB ?_
  intro w' hown hgr
  refine hK w' ⟨?_, by rw [Tic.cts_length]; omega⟩ ((Below.refl _ _).grown hgr (Nat.le_refl _) (fun k hk => by cases hk))
  rw [Tic.cts_length, Tic.cts_zero, List.map_replicate]
  have : (madeCells (Value.int .i64 0).cells (m * 1)).toList = List.replicate m (Value.int .i64 0) := by
    rw [Nat.mul_one]; exact toList_madeCells_one _ _
  rw [this] at hown
  exact hown


theorem gI_same (n S a : Nat) : ∀ b, a ≤ b → b ≤ n → (tonesTo S a).length = (tonesTo S b).length → ∀ d, Tic.gI n S b 0 d = Tic.gI n S a 0 d
  | 0, h, _, _, d => by rw [Nat.le_zero.1 h]
  | b + 1, h, hb2, e, d => by
    by_cases e2 : a = b + 1
    · rw [e2]
    · have hm := tonesTo_mono S a b (by omega)
      cases hb : S.testBit b with
      | false =>
        rw [tonesTo_no hb] at e
        rw [Tic.gI_none n S b d (by omega) hb]
        exact gI_same n S a b (by omega) (by omega) e d
      | true => rw [tonesTo_yes hb] at e; simp at e; omega
theorem gI_same2 (n S y a : Nat) : ∀ b, a ≤ b → (tonesTo S a).length = (tonesTo S b).length → ∀ d, Tic.gI n S y b d = Tic.gI n S y a d
  | 0, h, _, d => by rw [Nat.le_zero.1 h]
  | b + 1, h, e, d => by
    by_cases e2 : a = b + 1
    · rw [e2]
    · have hm := tonesTo_mono S a b (by omega)
      cases hb : S.testBit b with
      | false =>
        rw [tonesTo_no hb] at e
        rw [Tic.gI_skip n S y b d hb]
        exact gI_same2 n S y a b (by omega) e d
      | true => rw [tonesTo_yes hb] at e; simp at e; omega
theorem gI_eq {n S a b : Nat} (ha : a ≤ n) (hb : b ≤ n) (e : (tonesTo S a).length = (tonesTo S b).length) (d : Nat) : Tic.gI n S b 0 d = Tic.gI n S a 0 d := by
  rcases Nat.le_total a b with h | h
  · exact gI_same n S a b h hb e d
  · exact (gI_same n S b a h ha e.symm d).symm
theorem gI_eq2 {n S y a b : Nat} (e : (tonesTo S a).length = (tonesTo S b).length) (d : Nat) : Tic.gI n S y b d = Tic.gI n S y a d := by
  rcases Nat.le_total a b with h | h
  · exact gI_same2 n S y a b h e d
  · exact (gI_same2 n S y b a h e.symm d).symm


end Go.Proofs.YtjgkignnfkbeaaaTro

/-
  Contracts of the functions that compare two lists of numbers.
-/
namespace Go.Proofs.YtjgkignnfkbeaaaTro
open Go.RowKit
set_option linter.unusedVariables false

theorem first_diff : ∀ (L M : List Int), L.length = M.length → L ≠ M → ∃ m, m < L.length ∧ (∀ j, j < m → L.getD j 0 = M.getD j 0) ∧ L.getD m 0 ≠ M.getD m 0
  | [], [], _, h => absurd rfl h
  | [], y :: M, h, _ => by simp at h
  | x :: L, [], h, _ => by simp at h
  | x :: L, y :: M, h, hne => by
    by_cases e : x = y
    · subst e
      obtain ⟨m, h1, h2, h3⟩ := first_diff L M (by simpa using h) (fun e => hne (by rw [e]))
      refine ⟨m + 1, by simpa using h1, ?_, by simpa using h3⟩
      intro j hj
      cases j with
      | zero => rfl
      | succ j => simpa using h2 j (by omega)
    · exact ⟨0, by simp, fun j hj => by omega, by simpa using e⟩

set_option maxHeartbeats 400000 in
theorem equalInts_yes (v1 v2 : Value) (B1 B2 : Nat) (L : List Int) (w : World) (h1 : Row w B1 v1 L) (h2 : Row w B2 v2 L) :
    Calls Tro.prog 15 #[v1, v2] w fun e w' => e = .returned (.bool true) ∧ Below w.heap.size w w' := by
  by_cases hL : L = []
  · subst hL
    rcases h1.cases with ⟨rfl, _⟩ | ⟨g1, c1, rfl, _⟩ <;> rcases h2.cases with ⟨rfl, _⟩ | ⟨g2, c2, rfl, _⟩
    all_goals
      go_enter Tro.func15, Tro.ntmps15
      go_wp2
      refine wp_loop_rounds 1 ?_
      rw [rounds_succ]
      go_wp2
      go_ret
      exact ⟨rfl, Below.refl _ _⟩
  · have hl : 0 < L.length := List.length_pos_iff.2 hL
    have hl2 := h1.2
    rcases h1.cases with ⟨_, e⟩ | ⟨g1, c1, rfl, _, hg1, hc1, _⟩
    · exact absurd e hL
    rcases h2.cases with ⟨_, e⟩ | ⟨g2, c2, rfl, _, hg2, hc2, _⟩
    · exact absurd e hL
    generalize hn : L.length = n at hl hl2 hc1 hc2
    have HC1 := Lib.hid hc1
    have HC2 := Lib.hid hc2
    clear hn hc1 hc2 h1 h2 hL
    go_enter Tro.func15, Tro.ntmps15
    go_wp2
    go_loopw [5] (fun t5 wr => ∃ k : Nat, k ≤ n ∧ t5 = .int .i64 k ∧ Below w.heap.size w wr) (fun t5 _ => n - (intOf t5).toNat)
    case atStart => exact ⟨0, Nat.zero_le _, rfl, Below.refl _ _⟩
    case round =>
      obtain ⟨k, hk, rfl, hbel⟩ := hrel
      by_cases hlt2 : k < n
      · have d1 := (hbel.cell (p := ⟨g1, k, none⟩) hg1).trans (HC1.out k hlt2)
        have d2 := (hbel.cell (p := ⟨g2, k, none⟩) hg2).trans (HC2.out k hlt2)
        have hi0 : (0 : Int) ≤ (k : Int) := by omega
        have hi1 : (k : Int) < (n : Int) := by omega
        go_wp2
        go_region
        all_goals
          go_wp2
          go_roundw
          case rel => exact ⟨k + 1, by omega, by go_num, hbel.drew⟩
          case measure => simp [intOf]; omega
      · have : k = n := by omega
        subst this
        go_wp2
        go_ret
        exact ⟨rfl, hbel⟩
set_option maxHeartbeats 400000 in
theorem equalInts_no (v1 v2 : Value) (B1 B2 : Nat) (L M : List Int) (w : World) (h1 : Row w B1 v1 L) (h2 : Row w B2 v2 M) (hlen : L.length = M.length) (hne : L ≠ M) :
    Calls Tro.prog 15 #[v1, v2] w fun e w' => e = .returned (.bool false) ∧ Below w.heap.size w w' := by
  obtain ⟨m, hm, hbef, hat⟩ := first_diff L M hlen hne
  have hL : L ≠ [] := fun e => by rw [e] at hm; simp at hm
  have hM : M ≠ [] := fun e => by rw [e] at hlen; exact hL (List.eq_nil_of_length_eq_zero hlen)
  have hl2 := h1.2
  rcases h1.cases with ⟨_, e⟩ | ⟨g1, c1, rfl, _, hg1, hc1, _⟩
  · exact absurd e hL
  rcases h2.cases with ⟨_, e⟩ | ⟨g2, c2, rfl, _, hg2, hc2, _⟩
  · exact absurd e hM
  rw [← hlen] at hc2 ⊢
  · generalize hn : L.length = n at hm hl2 hc1 hc2
    have HC1 := Lib.hid hc1
    have HC2 := Lib.hid hc2
    have HBEF := Lib.hid hbef
    have HAT := Lib.hid hat
    clear hn hc1 hc2 h1 h2 hL hM hlen hne hbef hat
    go_enter Tro.func15, Tro.ntmps15
    go_wp2
    go_loopw [5] (fun t5 wr => ∃ k : Nat, k ≤ m ∧ t5 = .int .i64 k ∧ Below w.heap.size w wr) (fun t5 _ => n - (intOf t5).toNat)
    case atStart => exact ⟨0, Nat.zero_le _, rfl, Below.refl _ _⟩
    case round =>
      obtain ⟨k, hk, rfl, hbel⟩ := hrel
      have d1 := (hbel.cell (p := ⟨g1, k, none⟩) hg1).trans (HC1.out k (by omega))
      have d2 := (hbel.cell (p := ⟨g2, k, none⟩) hg2).trans (HC2.out k (by omega))
      have hi0 : (0 : Int) ≤ (k : Int) := by omega
      have hi1 : (k : Int) < (n : Int) := by omega
      by_cases hlt2 : k < m
      · rw [← HBEF.out k hlt2] at d2
        go_wp2
        go_region
        all_goals
          go_wp2
          go_roundw
          case rel => exact ⟨k + 1, by omega, by go_num, hbel.drew⟩
          case measure => simp [intOf]; omega
      · have : k = m := by omega
        subst this
        have hx : (L.getD k 0 != M.getD k 0) = true := by rw [bne_iff_ne]; exact HAT.out
        generalize L.getD k 0 = x at d1 hx
        generalize M.getD k 0 = y at d2 hx
        go_wp2
        go_region
        all_goals
          go_wp2
          go_ret
          exact ⟨rfl, hbel.drew⟩
theorem equalInts_lens (v1 v2 : Value) (B1 B2 : Nat) (L M : List Int) (w : World) (h1 : Row w B1 v1 L) (h2 : Row w B2 v2 M) (hne : L.length ≠ M.length) :
    Calls Tro.prog 15 #[v1, v2] w fun e w' => e = .returned (.bool false) ∧ Below w.heap.size w w' := by
  have e1 : ∃ a c, v1 = .slice a L.length c := by
    rcases h1.cases with ⟨rfl, rfl⟩ | ⟨g1, c1, rfl, _⟩
    · exact ⟨_, _, rfl⟩
    · exact ⟨_, _, rfl⟩
  have e2 : ∃ a c, v2 = .slice a M.length c := by
    rcases h2.cases with ⟨rfl, rfl⟩ | ⟨g1, c1, rfl, _⟩
    · exact ⟨_, _, rfl⟩
    · exact ⟨_, _, rfl⟩
  obtain ⟨a1, c1, rfl⟩ := e1
  obtain ⟨a2, c2, rfl⟩ := e2
  have hx : ((L.length : Int) != (M.length : Int)) = true := by rw [bne_iff_ne]; omega
  generalize L.length = l at hx
  generalize M.length = m at hx
  clear h1 h2 hne
  go_enter Tro.func15, Tro.ntmps15
  go_wp2
  go_ret
  exact ⟨rfl, Below.refl _ _⟩

end Go.Proofs.YtjgkignnfkbeaaaTro

/-
  Plain mathematics: counts of pairs of tones as sums over two tones, under shifts, turns and complements. No program in sight.
-/
namespace Go.Proofs.YtjgkignnfkbeaaaTro.Tic
set_option linter.unusedVariables false

/-- 1 if the tone is in the set -/
def bx (s x : Nat) : Nat := if s.testBit x then 1 else 0
def Q (n : Nat) (F : Nat → Nat → Nat) (s : Nat) : Nat := gsum (fun x => gsum (fun y => F x y * (bx s x * bx s y)) n) n
/-- the pair x < y is d + 1 apart round a circle of n -/
def Ap (n d x y : Nat) : Nat := if x < y ∧ min (y - x) (n - (y - x)) = d + 1 then 1 else 0
theorem gAll_Q (n s d : Nat) : gAll n s d = Q n (Ap n d) s := by
  unfold gAll Q
  refine gsum_congr n fun x _ => gsum_congr n fun y _ => ?_
  unfold hit Ap bx
  cases s.testBit x <;> cases s.testBit y <;> simp

theorem gsum_succ (f : Nat → Nat) (k : Nat) : gsum f (k + 1) = gsum f k + f k := rfl
theorem gsum_mul (f : Nat → Nat) (c : Nat) : ∀ k, gsum (fun x => c * f x) k = c * gsum f k
  | 0 => by simp [gsum]
  | k + 1 => by unfold gsum; rw [gsum_mul f c k, Nat.mul_add]
theorem Q_swap (n : Nat) (F : Nat → Nat → Nat) (s : Nat) : Q n F s = Q n (fun x y => F y x) s := by
  unfold Q
  rw [gsum_swap (fun x y => F x y * (bx s x * bx s y)) n n]
  refine gsum_congr n fun y _ => gsum_congr n fun x _ => ?_
  show F x y * (bx s x * bx s y) = F x y * (bx s y * bx s x)
  rw [Nat.mul_comm (bx s x)]
theorem Q_add (n : Nat) (F G : Nat → Nat → Nat) (s : Nat) : Q n (fun x y => F x y + G x y) s = Q n F s + Q n G s := by
  unfold Q
  rw [← gsum_add]
  refine gsum_congr n fun x _ => ?_
  rw [← gsum_add]
  refine gsum_congr n fun y _ => ?_
  rw [Nat.add_mul]
theorem Q_congr {n : Nat} {F G : Nat → Nat → Nat} (s : Nat) (h : ∀ x y, x < n → y < n → F x y = G x y) : Q n F s = Q n G s := by
  unfold Q
  refine gsum_congr n fun x hx => gsum_congr n fun y hy => ?_
  rw [h x y hx hy]
theorem Q_sym {n : Nat} {F G : Nat → Nat → Nat} (s : Nat) (h : ∀ x y, x < n → y < n → F x y + F y x = G x y + G y x) : Q n F s = Q n G s := by
  have h1 : Q n F s + Q n F s = Q n G s + Q n G s := by
    conv => lhs; rhs; rw [Q_swap]
    conv => rhs; rhs; rw [Q_swap]
    rw [← Q_add, ← Q_add]
    exact Q_congr s h
  omega

/-- a sum over the tones of an image -/
theorem gsum_or (n : Nat) (G : Nat → Nat) {a i : Nat} (hi : i < n) (ha : a.testBit i = false) : gsum (fun x => G x * bx (a ||| 2 ^ i) x) n = gsum (fun x => G x * bx a x) n + G i := by
  have e : ∀ x, G x * bx (a ||| 2 ^ i) x = G x * bx a x + (if x = i then G i else 0) := fun x => by
    unfold bx
    rw [Nat.testBit_or, Nat.testBit_two_pow]
    by_cases h : x = i
    · subst h; simp [ha]
    · have : decide (i = x) = false := by simpa using fun e => h e.symm
      rw [this, if_neg h]; simp
  rw [gsum_congr n (fun x _ => e x), gsum_add]
  congr 1
  clear e ha
  induction n with
  | zero => omega
  | succ n ih =>
    unfold gsum
    by_cases h : n = i
    · subst h
      rw [if_pos rfl, gsum_congr (g := fun _ => 0) n (fun x hx => by rw [if_neg (by omega)]), gsum_zero]; omega
    · rw [ih (by omega), if_neg h]; omega
theorem gsum_img (n s : Nat) (f : Nat → Nat) (G : Nat → Nat) (hf : ∀ x, x < n → f x < n) (inj : ∀ x y, x < n → y < n → f x = f y → x = y) : ∀ k, k ≤ n →
    gsum (fun x => G x * bx (img f s k) x) n = gsum (fun z => G (f z) * bx s z) k
  | 0, _ => by
    rw [gsum_congr (g := fun _ => 0) n (fun x _ => by simp [img, bx]), gsum_zero]; rfl
  | k + 1, hk => by
    have ih := gsum_img n s f G hf inj k (by omega)
    cases h : s.testBit k with
    | false =>
      rw [img_no f h, gsum_succ, ih]; simp [bx, h]
    | true =>
      rw [img_yes f h]
      have hno : (img f s k).testBit (f k) = false := by
        cases e : (img f s k).testBit (f k) with
        | false => rfl
        | true =>
          obtain ⟨x, hx, _, e2⟩ := (img_testBit f s _ k).1 e
          have := inj x k (by omega) (by omega) e2
          omega
      rw [gsum_or n G (hf k (by omega)) hno, ih, gsum_succ]
      simp [bx, h]
theorem Q_img (n s : Nat) (f : Nat → Nat) (F : Nat → Nat → Nat) (hf : ∀ x, x < n → f x < n) (inj : ∀ x y, x < n → y < n → f x = f y → x = y) :
    Q n F (img f s n) = Q n (fun z u => F (f z) (f u)) s := by
  unfold Q
  have e1 : ∀ x, gsum (fun y => F x y * (bx (img f s n) x * bx (img f s n) y)) n = (gsum (fun u => F x (f u) * bx s u) n) * bx (img f s n) x := fun x => by
    have := gsum_img n s f (fun y => F x y) hf inj n (Nat.le_refl _)
    rw [← this, Nat.mul_comm, ← gsum_mul]
    refine gsum_congr n fun y _ => ?_
    rw [Nat.mul_left_comm]
  rw [gsum_congr n (fun x _ => e1 x), gsum_img n s f (fun x => gsum (fun u => F x (f u) * bx s u) n) hf inj n (Nat.le_refl _)]
  refine gsum_congr n fun z _ => ?_
  rw [Nat.mul_comm, ← gsum_mul]
  refine gsum_congr n fun u _ => ?_
  show bx s z * (F (f z) (f u) * bx s u) = F (f z) (f u) * (bx s z * bx s u)
  rw [Nat.mul_left_comm]

theorem mvd_mod (n : Nat) (w t : Int) (x : Nat) : mvd n w t x = mvd n w (t % (n : Int)) x := by
  unfold mvd
  rw [Int.emod_add_emod]
/-- the distance of two tones is that of the tones moved -/
def apOk (w : Int) : Bool := (List.range 13).all fun n => (List.range n).all fun t => (List.range n).all fun x => (List.range n).all fun y => (List.range 6).all fun d =>
  Ap n d (mvd n w t x) (mvd n w t y) + Ap n d (mvd n w t y) (mvd n w t x) == Ap n d x y + Ap n d y x
theorem apOk_up : apOk 1 = true := by decide +kernel
theorem apOk_down : apOk (-1) = true := by decide +kernel
theorem ap_moved {n : Nat} (hn : n ≤ 12) (h0 : 0 < n) (w : Int) (hw : w = 1 ∨ w = -1) (t : Int) {d x y : Nat} (hd : d < 6) (hx : x < n) (hy : y < n) :
    Ap n d (mvd n w t x) (mvd n w t y) + Ap n d (mvd n w t y) (mvd n w t x) = Ap n d x y + Ap n d y x := by
  have ht1 := Int.emod_nonneg t (b := (n : Int)) (by omega)
  have ht2 := Int.emod_lt_of_pos t (b := (n : Int)) (by omega)
  obtain ⟨T, hT⟩ := Int.eq_ofNat_of_zero_le ht1
  have hok : apOk w = true := by rcases hw with rfl | rfl; exact apOk_up; exact apOk_down
  unfold apOk at hok
  simp only [List.all_eq_true, List.mem_range, beq_iff_eq] at hok
  rw [mvd_mod n w t x, mvd_mod n w t y, hT]
  exact hok n (by omega) T (by omega) x hx y hy d hd
theorem gAll_moved {n : Nat} (hn : n ≤ 12) (h0 : 0 < n) (w : Int) (hw : w = 1 ∨ w = -1) (t : Int) {d : Nat} (hd : d < 6) (s : Nat) : gAll n (img (mvd n w t) s n) d = gAll n s d := by
  rw [gAll_Q, gAll_Q, Q_img n s _ _ (fun x _ => mvd_lt h0 w t x) (mvd_inj h0 w t hw)]
  exact Q_sym s fun x y hx hy => ap_moved hn h0 w hw t hd hx hy
theorem cts_congr2 {m : Nat} {C C' : Nat → Nat} (h : ∀ d, d < m → C d = C' d) : cts m C = cts m C' := by
  unfold cts
  refine List.map_congr_left fun d hd => ?_
  rw [h d (List.mem_range.1 hd)]
theorem gaps_shf {n : Nat} (hn : n ≤ 12) (h0 : 0 < n) (t : Int) (s : Nat) : gapsOf n (shf n t s) = gapsOf n s :=
  cts_congr2 fun d hd => gAll_moved hn h0 1 (.inl rfl) t (by omega) s
theorem gaps_tur {n : Nat} (hn : n ≤ 12) (h0 : 0 < n) (t : Int) (s : Nat) : gapsOf n (tur n t s) = gapsOf n s :=
  cts_congr2 fun d hd => gAll_moved hn h0 (-1) (.inr rfl) t (by omega) s
end Go.Proofs.YtjgkignnfkbeaaaTro.Tic

/-
  Plain mathematics of the laws of sets: weights, shifts back, others, common tones. No program in sight.
-/
namespace Go.Proofs.YtjgkignnfkbeaaaTro.Tic
set_option linter.unusedVariables false

theorem gsum_shift (f : Nat → Nat) : ∀ k, gsum f (k + 1) = f 0 + gsum (fun x => f (x + 1)) k
  | 0 => by simp [gsum]
  | k + 1 => by rw [gsum_succ, gsum_shift f k, gsum_succ]; omega
theorem bx_zero (s : Nat) : bx s 0 = s % 2 := by
  unfold bx
  rw [Nat.testBit_zero]
  rcases Nat.mod_two_eq_zero_or_one s with h | h <;> simp [h]
theorem bx_succ (s x : Nat) : bx s (x + 1) = bx (s / 2) x := by unfold bx; rw [Nat.testBit_succ]
theorem wt_gsum : ∀ f s, wt f s = gsum (bx s) f
  | 0, _ => rfl
  | f + 1, s => by
    rw [gsum_shift, bx_zero]
    show s % 2 + wt f (s / 2) = _
    rw [wt_gsum f (s / 2), gsum_congr f (fun x _ => (bx_succ s x).symm)]
theorem bx_big {s n x : Nat} (h : s < 2 ^ n) (hx : n ≤ x) : bx s x = 0 := by
  unfold bx
  rw [Nat.testBit_lt_two_pow (Nat.lt_of_lt_of_le h (Nat.pow_le_pow_right (by omega) hx))]; rfl
theorem wt_n {s n : Nat} (h : s < 2 ^ n) (hn : n ≤ 12) : wt 12 s = gsum (bx s) n := by
  rw [wt_gsum, gsum_stop (f := bx s) (m := n) (fun x hx => bx_big h hx) 12 hn]
theorem wt_img {n s : Nat} (hs : s < 2 ^ n) (hn : n ≤ 12) (f : Nat → Nat) (hf : ∀ x, x < n → f x < n) (inj : ∀ x y, x < n → y < n → f x = f y → x = y) : wt 12 (img f s n) = wt 12 s := by
  rw [wt_n hs hn, wt_n (img_lt f s n n hf) hn]
  have := gsum_img n s f (fun _ => 1) hf inj n (Nat.le_refl _)
  simpa using this
theorem wt_shf {n s : Nat} (h0 : 0 < n) (hn : n ≤ 12) (hs : s < 2 ^ n) (t : Int) : wt 12 (shf n t s) = wt 12 s :=
  wt_img hs hn _ (fun x _ => mvd_lt h0 1 t x) (mvd_inj h0 1 t (.inl rfl))
theorem wt_tur {n s : Nat} (h0 : 0 < n) (hn : n ≤ 12) (hs : s < 2 ^ n) (t : Int) : wt 12 (tur n t s) = wt 12 s :=
  wt_img hs hn _ (fun x _ => mvd_lt h0 (-1) t x) (mvd_inj h0 (-1) t (.inr rfl))
theorem img_mod (n : Nat) (w t : Int) (s k : Nat) : img (mvd n w t) s k = img (mvd n w (t % (n : Int))) s k := img_congr _ _ _ _ fun x _ => mvd_mod n w t x
theorem shf_n {n s : Nat} (h : 0 < n) (hs : s < 2 ^ n) : shf n n s = s := by
  unfold shf
  rw [img_mod, Int.emod_self]
  exact shf_zero h hs
theorem shf_back {n s : Nat} (h : 0 < n) (hs : s < 2 ^ n) (t : Int) : shf n (-t) (shf n t s) = s := by
  rw [shf_shf h, show -t + t = 0 by omega, shf_zero h hs]
theorem tur_back {n s : Nat} (h : 0 < n) (hs : s < 2 ^ n) (t : Int) : tur n t (tur n t s) = s := by
  rw [tur_tur h, show t - t = 0 by omega, shf_zero h hs]

/-- the other tones -/
def oth (n s : Nat) : Nat := 2 ^ n - 1 - s
theorem oth_lt {n s : Nat} : oth n s < 2 ^ n := by unfold oth; have := Nat.two_pow_pos n; omega
theorem oth_bit {n s x : Nat} (hs : s < 2 ^ n) : (oth n s).testBit x = (decide (x < n) && !s.testBit x) := by
  unfold oth
  rw [Nat.sub_sub, Nat.add_comm 1 s]
  exact Nat.testBit_two_pow_sub_succ hs x
theorem oth_and {n s : Nat} (hs : s < 2 ^ n) : oth n s &&& s = 0 := by
  apply Nat.eq_of_testBit_eq
  intro x
  rw [Nat.testBit_and, oth_bit hs, Nat.zero_testBit]
  cases s.testBit x <;> simp
theorem bx_oth {n s x : Nat} (hs : s < 2 ^ n) (hx : x < n) : bx (oth n s) x + bx s x = 1 := by
  unfold bx
  rw [oth_bit hs]
  cases s.testBit x <;> simp [hx]
theorem wt_oth {n s : Nat} (hs : s < 2 ^ n) (hn : n ≤ 12) : wt 12 (oth n s) + wt 12 s = n := by
  rw [wt_n oth_lt hn, wt_n hs hn, ← gsum_add, gsum_congr (g := fun _ => 1) n (fun x hx => bx_oth hs hx)]
  have : ∀ k, gsum (fun _ => 1) k = k := fun k => by
    induction k with
    | zero => rfl
    | succ k ih => rw [gsum_succ, ih]
  exact this n

/-- a mixed sum over two sets -/
def M (n : Nat) (F : Nat → Nat → Nat) (s o : Nat) : Nat := gsum (fun x => gsum (fun y => F x y * (bx s x * bx o y)) n) n
theorem M_swap (n : Nat) (F : Nat → Nat → Nat) (s o : Nat) : M n F s o = M n (fun x y => F y x) o s := by
  unfold M
  rw [gsum_swap (fun x y => F x y * (bx s x * bx o y)) n n]
  refine gsum_congr n fun y _ => gsum_congr n fun x _ => ?_
  show F x y * (bx s x * bx o y) = F x y * (bx o y * bx s x)
  rw [Nat.mul_comm (bx s x)]
theorem M_row {n r : Nat} {F : Nat → Nat → Nat} {s o : Nat} (hs : ∀ x, x < n → bx o x + bx s x = 1) (hr : ∀ x, x < n → gsum (fun y => F x y) n = r) : M n F s s + M n F s o = r * gsum (bx s) n := by
  unfold M
  rw [← gsum_add, ← gsum_mul]
  refine gsum_congr n fun x hx => ?_
  rw [← gsum_add, ← hr x hx, Nat.mul_comm, ← gsum_mul]
  refine gsum_congr n fun y hy => ?_
  have := hs y hy
  show F x y * (bx s x * bx s y) + F x y * (bx s x * bx o y) = bx s x * F x y
  rw [← Nat.mul_add, ← Nat.mul_add, show bx s y + bx o y = 1 by omega, Nat.mul_one, Nat.mul_comm]
/-- both sides of a distance -/
def Ad (n d x y : Nat) : Nat := Ap n d x y + Ap n d y x
def rowsOk : Bool := (List.range 13).all fun n => (List.range (n / 2)).all fun d => (List.range n).all fun x => gsum (fun y => Ad n d x y) n == if 2 * (d + 1) = n then 1 else 2
theorem rowsOk_true : rowsOk = true := by decide +kernel
theorem Ad_row {n d x : Nat} (hn : n ≤ 12) (hd : d < n / 2) (hx : x < n) : gsum (fun y => Ad n d x y) n = if 2 * (d + 1) = n then 1 else 2 := by
  have hok := rowsOk_true
  unfold rowsOk at hok
  simp only [List.all_eq_true, List.mem_range, beq_iff_eq] at hok
  exact hok n (by omega) d hd x hx
theorem two_gAll (n s d : Nat) : 2 * gAll n s d = M n (Ad n d) s s := by
  have h : M n (Ad n d) s s = Q n (Ad n d) s := rfl
  have h2 : Q n (Ad n d) s = Q n (Ap n d) s + Q n (fun x y => Ap n d y x) s := Q_add n (Ap n d) (fun x y => Ap n d y x) s
  have e := Q_swap n (Ap n d) s
  rw [h, h2, gAll_Q]; omega
/-- gaps of others differ by the same -/
theorem gAll_oth {n s d : Nat} (hs : s < 2 ^ n) (hn : n ≤ 12) (hd : d < n / 2) :
    2 * gAll n (oth n s) d + (if 2 * (d + 1) = n then 1 else 2) * wt 12 s = 2 * gAll n s d + (if 2 * (d + 1) = n then 1 else 2) * wt 12 (oth n s) := by
  have e1 := M_row (F := Ad n d) (s := s) (o := oth n s) (fun x hx => bx_oth hs hx) (fun x hx => Ad_row hn hd hx)
  have e2 := M_row (F := Ad n d) (s := oth n s) (o := s) (fun x hx => by rw [Nat.add_comm]; exact bx_oth hs hx) (fun x hx => Ad_row hn hd hx)
  have e3 : M n (Ad n d) s (oth n s) = M n (Ad n d) (oth n s) s := by
    rw [M_swap]
    unfold M
    refine gsum_congr n fun x _ => gsum_congr n fun y _ => ?_
    show Ad n d y x * _ = _
    rw [show Ad n d y x = Ad n d x y from Nat.add_comm _ _]
  rw [two_gAll, two_gAll, wt_n hs hn, wt_n oth_lt hn, ← e1, ← e2, e3]
  omega

/-- common tones of a set and its shift -/
theorem wt_and_shf {n s : Nat} (hs : s < 2 ^ n) (h0 : 0 < n) (hn : n ≤ 12) (t : Int) : wt 12 (s &&& shf n t s) = Q n (fun z y => if mvd n 1 t z = y then 1 else 0) s := by
  have hl : s &&& shf n t s < 2 ^ n := Nat.and_lt_two_pow _ (shf_lt h0 t s)
  rw [wt_n hl hn]
  have e : ∀ x, bx (s &&& shf n t s) x = bx s x * bx (shf n t s) x := fun x => by
    unfold bx; rw [Nat.testBit_and]; cases s.testBit x <;> cases (shf n t s).testBit x <;> rfl
  rw [gsum_congr n (fun x _ => e x)]
  have := gsum_img n s (mvd n 1 t) (fun x => bx s x) (fun x _ => mvd_lt h0 1 t x) (mvd_inj h0 1 t (.inl rfl)) n (Nat.le_refl _)
  unfold shf
  rw [this]
  unfold Q
  refine gsum_congr n fun z _ => ?_
  have hz := mvd_lt h0 1 t z
  show bx s (mvd n 1 t z) * bx s z = gsum (fun y => (if mvd n 1 t z = y then 1 else 0) * (bx s z * bx s y)) n
  generalize mvd n 1 t z = y at hz
  have one : ∀ k, y < k → gsum (fun y' => (if y = y' then 1 else 0) * (bx s z * bx s y')) k = bx s z * bx s y := fun k => by
    induction k with
    | zero => omega
    | succ k ih =>
      intro hk
      rw [gsum_succ]
      by_cases h : y = k
      · subst h
        rw [if_pos rfl, gsum_congr (g := fun _ => 0) y (fun x hx => by rw [if_neg (by omega)]; omega), gsum_zero]; omega
      · rw [ih (by omega), if_neg h]; omega
  rw [one n hz, Nat.mul_comm]
def comOk : Bool := (List.range 13).all fun n => (List.range n).all fun t => (List.range n).all fun x => (List.range n).all fun y =>
  (t == 0) || ((if mvd n 1 t x = y then 1 else 0) + (if mvd n 1 t y = x then 1 else 0) == (if 2 * min t (n - t) = n then 2 else 1) * Ap n (min t (n - t) - 1) x y + (if 2 * min t (n - t) = n then 2 else 1) * Ap n (min t (n - t) - 1) y x)
theorem comOk_true : comOk = true := by decide +kernel
theorem common_gaps {n s T : Nat} (hs : s < 2 ^ n) (hn : n ≤ 12) (h0 : 0 < T) (hT : T < n) : wt 12 (s &&& shf n T s) = (if 2 * min T (n - T) = n then 2 else 1) * gAll n s (min T (n - T) - 1) := by
  rw [wt_and_shf hs (by omega) hn, gAll_Q]
  have e : (if 2 * min T (n - T) = n then 2 else 1) * Q n (Ap n (min T (n - T) - 1)) s = Q n (fun x y => (if 2 * min T (n - T) = n then 2 else 1) * Ap n (min T (n - T) - 1) x y) s := by
    unfold Q
    rw [← gsum_mul]
    refine gsum_congr n fun x _ => ?_
    rw [← gsum_mul]
    refine gsum_congr n fun y _ => ?_
    rw [Nat.mul_assoc]
  rw [e]
  refine Q_sym s fun x y hx hy => ?_
  have hok := comOk_true
  unfold comOk at hok
  simp only [List.all_eq_true, List.mem_range, Bool.or_eq_true, beq_iff_eq] at hok
  rcases hok n (by omega) T hT x hx y hy with h | h
  · omega
  · exact h

/-! ### the least of a kind -/
theorem shf_mod (n s : Nat) (t : Int) : shf n t s = shf n (t % (n : Int)) s := img_mod n 1 t s n
theorem tur_mod (n s : Nat) (t : Int) : tur n t s = tur n (t % (n : Int)) s := img_mod n (-1) t s n
theorem prm_le_shf {n : Nat} (h : 0 < n) (s : Nat) (t : Int) : prm n s ≤ shf n t s := by
  have h1 := Int.emod_nonneg t (b := (n : Int)) (by omega)
  have h2 := Int.emod_lt_of_pos t (b := (n : Int)) (by omega)
  obtain ⟨T, hT⟩ := Int.eq_ofNat_of_zero_le h1
  rw [shf_mod, hT]
  exact kTo_shf n s n T (by omega)
theorem prm_le_tur {n : Nat} (h : 0 < n) (s : Nat) (t : Int) : prm n s ≤ tur n t s := by
  have h1 := Int.emod_nonneg t (b := (n : Int)) (by omega)
  have h2 := Int.emod_lt_of_pos t (b := (n : Int)) (by omega)
  obtain ⟨T, hT⟩ := Int.eq_ofNat_of_zero_le h1
  rw [tur_mod, hT]
  exact kTo_tur n s n T (by omega)
theorem prm_mem {n s : Nat} (h : 0 < n) (hs : s < 2 ^ n) : ∃ t : Int, prm n s = shf n t s ∨ prm n s = tur n t s := by
  rcases kTo_mem n s n with e | ⟨t, _, e⟩
  · exact ⟨0, .inl (by rw [shf_zero h hs]; exact e)⟩
  · exact ⟨t, e⟩
theorem prm_shf {n s : Nat} (h : 0 < n) (hs : s < 2 ^ n) (u : Int) : prm n (shf n u s) = prm n s := by
  apply Nat.le_antisymm
  · obtain ⟨t, e | e⟩ := prm_mem h hs
    · rw [e]
      have := prm_le_shf h (shf n u s) (t - u)
      rw [shf_shf h, show t - u + u = t by omega] at this
      exact this
    · rw [e]
      have := prm_le_tur h (shf n u s) (t + u)
      rw [tur_shf h, show t + u - u = t by omega] at this
      exact this
  · obtain ⟨t, e | e⟩ := prm_mem h (shf_lt h u s)
    · rw [e, shf_shf h]; exact prm_le_shf h s _
    · rw [e, tur_shf h]; exact prm_le_tur h s _
theorem prm_tur {n s : Nat} (h : 0 < n) (hs : s < 2 ^ n) (u : Int) : prm n (tur n u s) = prm n s := by
  apply Nat.le_antisymm
  · obtain ⟨t, e | e⟩ := prm_mem h hs
    · rw [e]
      have := prm_le_tur h (tur n u s) (t + u)
      rw [tur_tur h, show t + u - u = t by omega] at this
      exact this
    · rw [e]
      have := prm_le_shf h (tur n u s) (t - u)
      rw [shf_tur h, show t - u + u = t by omega] at this
      exact this
  · obtain ⟨t, e | e⟩ := prm_mem h (tur_lt h u s)
    · rw [e, shf_tur h]; exact prm_le_tur h s _
    · rw [e, tur_tur h]; exact prm_le_shf h s _
theorem prm_prm {n s : Nat} (h : 0 < n) (hs : s < 2 ^ n) : prm n (prm n s) = prm n s := by
  obtain ⟨t, e | e⟩ := prm_mem h hs
  · conv => lhs; rw [e]
    exact prm_shf h hs t
  · conv => lhs; rw [e]
    exact prm_tur h hs t
theorem prm_gaps {n s : Nat} (h : 0 < n) (hn : n ≤ 12) (hs : s < 2 ^ n) : gapsOf n (prm n s) = gapsOf n s := by
  obtain ⟨t, e | e⟩ := prm_mem h hs
  · rw [e]; exact gaps_shf hn h t s
  · rw [e]; exact gaps_tur hn h t s
theorem prm_le {n s : Nat} : prm n s ≤ s := kTo_le n s n
theorem prm_wt {n s : Nat} (h : 0 < n) (hn : n ≤ 12) (hs : s < 2 ^ n) : wt 12 (prm n s) = wt 12 s := by
  obtain ⟨t, e | e⟩ := prm_mem h hs
  · rw [e]; exact wt_shf h hn hs t
  · rw [e]; exact wt_tur h hn hs t
/-- common tones of a set and any shift -/
theorem common_zero {n s : Nat} (h : 0 < n) (hs : s < 2 ^ n) {t : Int} (ht : t % (n : Int) = 0) : wt 12 (s &&& shf n t s) = wt 12 s := by
  rw [shf_mod, ht, shf_zero h hs, Nat.and_self]
theorem common_at {n s T : Nat} (hs : s < 2 ^ n) (hn : n ≤ 12) {t : Int} (ht : t % (n : Int) = T) (h0 : 0 < T) (hT : T < n) : wt 12 (s &&& shf n t s) = (if 2 * min T (n - T) = n then 2 else 1) * gAll n s (min T (n - T) - 1) := by
  rw [shf_mod, ht]; exact common_gaps hs hn h0 hT

/-! ### all pairs -/
theorem gsum_comm3 (f : Nat → Nat → Nat → Nat) (m n : Nat) : gsum (fun d => gsum (fun x => gsum (fun y => f d x y) n) n) m = gsum (fun x => gsum (fun y => gsum (fun d => f d x y) m) n) n := by
  rw [gsum_swap (fun d x => gsum (fun y => f d x y) n) n m]
  exact gsum_congr n fun x _ => gsum_swap (fun d y => f d x y) n m
def allOk : Bool := (List.range 13).all fun n => (List.range n).all fun x => (List.range n).all fun y => gsum (fun d => Ap n d x y) (n / 2) == if x < y then 1 else 0
theorem allOk_true : allOk = true := by decide +kernel
theorem gaps_total {n s : Nat} (hs : s < 2 ^ n) (hn : n ≤ 12) : 2 * gsum (gAll n s) (n / 2) + wt 12 s = wt 12 s * wt 12 s := by
  have e : gsum (gAll n s) (n / 2) = Q n (fun x y => if x < y then 1 else 0) s := by
    rw [gsum_congr (n / 2) (fun d _ => gAll_Q n s d)]
    unfold Q
    rw [gsum_comm3 (fun d x y => Ap n d x y * (bx s x * bx s y))]
    refine gsum_congr n fun x hx => gsum_congr n fun y hy => ?_
    have hok := allOk_true
    unfold allOk at hok
    simp only [List.all_eq_true, List.mem_range, beq_iff_eq] at hok
    show _ = (if x < y then 1 else 0) * (bx s x * bx s y)
    rw [← hok n (by omega) x hx y hy]
    rw [gsum_congr (g := fun d => (bx s x * bx s y) * Ap n d x y) (n / 2) (fun d _ => Nat.mul_comm _ _), gsum_mul, Nat.mul_comm]
  have h2 : Q n (fun x y => if x < y then 1 else 0) s + Q n (fun x y => if x < y then 1 else 0) s + Q n (fun x y => if x = y then 1 else 0) s = Q n (fun _ _ => 1) s := by
    conv => lhs; lhs; rhs; rw [Q_swap]
    rw [← Q_add, ← Q_add]
    refine Q_congr s fun x y _ _ => ?_
    rcases Nat.lt_trichotomy x y with h | h | h
    · rw [if_pos h, if_neg (by omega), if_neg (by omega)]
    · subst h; simp
    · rw [if_neg (by omega), if_pos h, if_neg (by omega)]
  have h3 : Q n (fun _ _ => 1) s = wt 12 s * wt 12 s := by
    rw [wt_n hs hn]
    unfold Q
    rw [gsum_congr (g := fun x => gsum (bx s) n * bx s x) n (fun x _ => by
      rw [gsum_congr (g := fun y => bx s x * bx s y) n (fun y _ => Nat.one_mul _), gsum_mul, Nat.mul_comm]), gsum_mul]
  have h4 : Q n (fun x y => if x = y then 1 else 0) s = wt 12 s := by
    rw [wt_n hs hn]
    unfold Q
    refine gsum_congr n fun x hx => ?_
    have one : ∀ k, x < k → gsum (fun y => (if x = y then 1 else 0) * (bx s x * bx s y)) k = bx s x := fun k => by
      induction k with
      | zero => omega
      | succ k ih =>
        intro hk
        rw [gsum_succ]
        by_cases h : x = k
        · subst h
          rw [if_pos rfl, gsum_congr (g := fun _ => 0) x (fun z hz => by rw [if_neg (by omega)]; omega), gsum_zero]
          unfold bx; cases s.testBit x <;> rfl
        · rw [ih (by omega), if_neg h]; omega
    exact one n hx
  omega
end Go.Proofs.YtjgkignnfkbeaaaTro.Tic

/-
  Contracts of the laws' own helpers on numbers.
-/
namespace Go.Proofs.YtjgkignnfkbeaaaTro
open Go.RowKit
set_option linter.unusedVariables false

theorem lpower_any (n : Int) (w : World) (h0 : 0 ≤ n) (h1 : n ≤ 61) :
    Calls Tro.prog 49 #[.int .i64 n] w fun e w' => e = .returned (.int .i64 ((2 ^ n.toNat : Nat) : Int)) ∧ w = w' := by
  obtain ⟨N, rfl⟩ := Int.eq_ofNat_of_zero_le h0
  rw [Int.toNat_natCast]
  have HN := Lib.hid (Tic.pow_le_62 (k := N) (by omega))
  go_enter Tro.func49, Tro.ntmps49
  go_wp2
  go_loop [0, 3] (fun t0 t3 => ∃ k P : Nat, k ≤ N ∧ t0 = .int .i64 k ∧ t3 = .int .i64 P ∧ Hid (P * 2 ^ k = 2 ^ N)) (fun t0 _ => (intOf t0).toNat)
  case atStart => exact ⟨N, 1, Nat.le_refl _, rfl, rfl, Nat.one_mul _⟩
  case round =>
    obtain ⟨k, P, hk, rfl, rfl, hP⟩ := hrel
    by_cases hlt : 0 < k
    · have hb : P ≤ 2305843009213693952 := by
        have h2 : 2 ≤ 2 ^ k := by
          have := Nat.pow_le_pow_right (n := 2) (by omega) hlt
          simpa using this
        have h3 := hP.out
        have h4 := HN.out
        have h5 : P * 2 ≤ P * 2 ^ k := Nat.mul_le_mul_left _ h2
        omega
      go_wp2
      go_round
      case rel =>
        refine ⟨k - 1, 2 * P, by omega, ?_, ?_, ?_⟩
        · have : ((k : Int) - 1) = ((k - 1 : Nat) : Int) := by omega
          rw [this]
        · have : (2 * (P : Int)) = ((2 * P : Nat) : Int) := by omega
          rw [this]
        · have h3 := hP.out
          show 2 * P * 2 ^ (k - 1) = 2 ^ N
          rw [← h3]
          obtain ⟨j, rfl⟩ : ∃ j, k = j + 1 := ⟨k - 1, by omega⟩
          simp only [Nat.add_sub_cancel, Nat.pow_succ]
          rw [Nat.mul_comm 2 P, Nat.mul_assoc, Nat.mul_comm 2]
      case measure => simp [intOf]; omega
    · have : k = 0 := by omega
      subst this
      go_wp2
      go_ret
      have h3 := hP.out
      exact ⟨ret_int (congrArg Int.ofNat (by rw [← h3, Nat.pow_zero, Nat.mul_one])), rfl⟩
theorem lweight_any (x : Int) (w : World) (h0 : 0 ≤ x) (hx : x < 4096) :
    Calls Tro.prog 35 #[.int .i64 x] w fun e w' => e = .returned (.int .i64 (Tic.wt 12 x.toNat : Int)) ∧ w = w' := by
  obtain ⟨s, rfl⟩ := Int.eq_ofNat_of_zero_le h0
  rw [Int.toNat_natCast]
  have hle := Tic.wt_le 12 s
  go_enter Tro.func35, Tro.ntmps35
  go_wp2
  go_loop [0, 3] (fun t0 t3 => ∃ f r c : Nat, f ≤ 12 ∧ c ≤ 12 ∧ r ≤ 4095 ∧ r < 2 ^ f ∧ t0 = .int .i64 r ∧ t3 = .int .i64 c ∧ Hid (c + Tic.wt f r = Tic.wt 12 s)) (fun t0 _ => (intOf t0).toNat)
  case atStart => exact ⟨12, s, 0, by omega, by omega, by omega, by omega, rfl, rfl, Nat.zero_add _⟩
  case round =>
    obtain ⟨f, r, c, hf, hc, hr', hr, rfl, rfl, hP⟩ := hrel
    by_cases hlt : 0 < r
    · obtain ⟨g, rfl⟩ : ∃ g, f = g + 1 := ⟨f - 1, by
        cases f with
        | zero => simp at hr; omega
        | succ f => omega⟩
      have h3 : c + (r % 2 + Tic.wt g (r / 2)) = Tic.wt 12 s := hP.out
      have hm : c + r % 2 ≤ 12 := by omega
      have H3 := Lib.hid h3
      clear h3
      rw [Nat.pow_succ] at hr
      go_wp2
      go_round
      case rel => exact ⟨g, r / 2, c + r % 2, by omega, by omega, by omega, by omega, by go_num, by go_num, by have := H3.out; show c + r % 2 + Tic.wt g (r / 2) = Tic.wt 12 s; omega⟩
      case measure => simp [intOf]; omega
    · have : r = 0 := by omega
      subst this
      go_wp2
      go_ret
      have h3 := hP.out
      rw [Tic.wt_zero] at h3
      exact ⟨ret_int (by omega), rfl⟩
theorem lapart_any (n y : Int) (w : World) (h1 : 3 ≤ n) (h2 : n ≤ 12) (h3 : 0 ≤ y) (h4 : y < n) :
    Calls Tro.prog 17 #[.int .i64 n, .int .i64 0, .int .i64 y] w fun e w' => e = .returned (.int .i64 (min y (n - y))) ∧ w = w' := by
  have hm : (y - 0 + n) % n = y := by rw [Int.sub_zero, Int.add_emod_right, Int.emod_eq_of_lt h3 h4]
  have hm2 : (y + n) % n = y := by rw [Int.add_emod_right, Int.emod_eq_of_lt h3 h4]
  rcases (show y ≤ n - y ∨ n - y < y by omega) with c | c
  all_goals
    go_enter Tro.func17, Tro.ntmps17
    go_wp2
    go_ret
    exact ⟨ret_int (by omega), rfl⟩

end Go.Proofs.YtjgkignnfkbeaaaTro

/-
  The contract of the laws' leastPairs.
-/
namespace Go.Proofs.YtjgkignnfkbeaaaTro
open Go.RowKit
set_option linter.unusedVariables false
set_option maxRecDepth 20000

theorem lbit_any (x j : Int) (w : World) (h0 : 0 ≤ x) (hx : x ≤ 1000000) (h1 : 0 ≤ j) (h2 : j ≤ 61) :
    Calls Tro.prog 48 #[.int .i64 x, .int .i64 j] w fun e w' => e = .returned (.int .i64 (Tic.bitI x.toNat j.toNat)) ∧ w = w' := by
  obtain ⟨s, rfl⟩ := Int.eq_ofNat_of_zero_le h0
  have hp : 1 ≤ 2 ^ j.toNat := Nat.one_le_two_pow
  have hpl := Tic.pow_le_62 (k := j.toNat) (by omega)
  have HB := Lib.hid (Tic.bitI_eq s j.toNat)
  generalize hg : 2 ^ j.toNat = p at hp hpl
  have HG := Lib.hid hg
  clear hg
  obtain ⟨hq0, hq1⟩ := Tic.div_bd s p
  go_enter Tro.func48, Tro.ntmps48
  go_wp2_with (go_at_call 49; refine (lpower_any _ _ h1 h2).mono ?_; rintro e w' ⟨rfl, rfl⟩; rw [HG.out])
  go_ret
  refine ⟨ret_int ?_, rfl⟩
  rw [Int.toNat_natCast, HB.out, HG.out]
  rfl
theorem lapartN_any (N x y : Nat) (w : World) (h1 : 1 ≤ N) (h2 : N ≤ 12) (hx : x < N) (hy : y < N) :
    Calls Tro.prog 17 #[.int .i64 N, .int .i64 x, .int .i64 y] w fun e w' => e = .returned (.int .i64 (Tic.apt N x y : Int)) ∧ w = w' := by
  have he : ((y : Int) - (x : Int) + (N : Int)).tmod (N : Int) = (((y + N - x) % N : Nat) : Int) := by
    rw [show (y : Int) - (x : Int) + (N : Int) = ((y + N - x : Nat) : Int) by omega, Int.tmod_eq_emod_of_nonneg (by omega), ← Int.natCast_emod]
  have hlt : (y + N - x) % N < N := Nat.mod_lt _ (by omega)
  have HD : Hid (Tic.apt N x y = min ((y + N - x) % N) (N - (y + N - x) % N)) := rfl
  have k1 := IntWalk.i64_in ((y : Int) - (x : Int)) (by omega)
  have k2 := IntWalk.i64_in ((y : Int) - (x : Int) + (N : Int)) (by omega)
  generalize (y + N - x) % N = u at *
  have k3 := IntWalk.i64_in (u : Int) (by omega)
  have k4 := IntWalk.i64_in ((N : Int) - (u : Int)) (by omega)
  have hN0 : ((N : Int) == 0) = false := beq_eq_false_iff_ne.2 (by omega)
  have hN1 : ¬ (N : Int) = 0 := by omega
  have hN2 : ¬ N = 0 := by omega
  go_enter Tro.func17, Tro.ntmps17
  go_wp2
  all_goals
    go_ret
    exact ⟨ret_int (by rw [HD.out]; omega), rfl⟩
set_option maxHeartbeats 2000000 in
theorem leastPairs_any (N m gx cx gy cy : Nat) (x y : Nat → Nat) (h3 : 3 ≤ N) (h12 : N ≤ 12) (hm : m ≤ N) (hx : ∀ i, i < m → x i < N) (hy : ∀ i, i < m → y i < N) : ∀ (f i u : Nat) (w : World), i + f = m → u < 2 ^ m → (tonesTo u m).length + f = m → gx < w.heap.size → gy < w.heap.size →
    (∀ j, j < m → w.cell? ⟨gx, j, none⟩ = some (.int .i64 (x j : Int))) → (∀ j, j < m → w.cell? ⟨gy, j, none⟩ = some (.int .i64 (y j : Int))) →
    Calls Tro.prog 18 #[.int .i64 N, .slice (some ⟨gx, 0, none⟩) m cx, .slice (some ⟨gy, 0, none⟩) m cy, .int .i64 i, .int .i64 u] w fun e w' => e = .returned (.int .i64 (lp N m x y f i u : Int)) ∧ Below w.heap.size w w' := by
  intro f
  induction f with
  | zero =>
    intro i u w hi hu hc hgx hgy cx0 cy0
    obtain rfl : i = m := by omega
    clear cx0 cy0 hx hy hu hc
    go_enter Tro.func18, Tro.ntmps18
    go_wp2
    go_ret
    exact ⟨rfl, Below.refl _ _⟩
  | succ f ih =>
    intro i u w hi hu hc hgx hgy cx0 cy0
    have hp := Tic.pow_le_12 (n := (m : Int)) (by omega)
    rw [Int.toNat_natCast] at hp
    have hnn : N * N ≤ 12 * 12 := Nat.mul_le_mul h12 h12
    have enn : (N : Int) * (N : Int) = ((N * N : Nat) : Int) := (Int.natCast_mul _ _).symm
    have HIH : Hid (∀ (k : Nat) (W : World), Below w.heap.size w W → k < m → u.testBit k = false → Calls Tro.prog 18 #[.int .i64 N, .slice (some ⟨gx, 0, none⟩) m cx, .slice (some ⟨gy, 0, none⟩) m cy, .int .i64 ((i : Int) + 1), .int .i64 ((u + 2 ^ k : Nat) : Int)] W fun e w' => e = .returned (.int .i64 (lp N m x y f (i + 1) (u + 2 ^ k) : Int)) ∧ Below W.heap.size W w') := Lib.hid (fun k W hW hk hb => by
      have := ih (i + 1) (u + 2 ^ k) W (by omega) (by rw [add_bit hb]; exact Nat.or_lt_two_pow hu (Nat.pow_lt_pow_right (by decide) hk)) (by rw [len_add hb m hk]; omega) (Nat.lt_of_lt_of_le hgx hW.size) (Nat.lt_of_lt_of_le hgy hW.size) (fun j hj => (hW.cell (p := ⟨gx, j, none⟩) hgx).trans (cx0 j hj)) (fun j hj => (hW.cell (p := ⟨gy, j, none⟩) hgy).trans (cy0 j hj))
      rw [show ((i + 1 : Nat) : Int) = (i : Int) + 1 by omega] at this
      exact this)
    have HLB : Hid (∀ k, k < m → u.testBit k = false → lp N m x y f (i + 1) (u + 2 ^ k) ≤ 144) := Lib.hid (fun k hk hb => by
      obtain ⟨τ, _, _, _, e⟩ := lp_some (n := N) (m := m) (x := x) (y := y) (by omega) hm f (i + 1) (u + 2 ^ k) (by rw [len_add hb m hk]; omega)
      rw [e]
      have h1 := smv_half (n := N) (by omega) (g := fun l => Tic.apt N (x (i + 1 + l)) (y (τ (i + 1 + l)))) (fun l => Tic.apt_le (by omega)) f
      have h2 : f * N ≤ 12 * 12 := Nat.mul_le_mul (by omega) h12
      omega)
    have HCX : Hid (∀ W, Below w.heap.size w W → W.cell? ⟨gx, i, none⟩ = some (.int .i64 (x i : Int))) := Lib.hid (fun W hW => (hW.cell (p := ⟨gx, i, none⟩) hgx).trans (cx0 i (by omega)))
    have HCY : Hid (∀ W, Below w.heap.size w W → ∀ k, k < m → W.cell? ⟨gy, k, none⟩ = some (.int .i64 (y k : Int))) := Lib.hid (fun W hW k hk => (hW.cell (p := ⟨gy, k, none⟩) hgy).trans (cy0 k hk))
    have hxi := hx i (by omega)
    have HY := Lib.hid hy
    have HE : Hid (lp N m x y (f + 1) i u = lpK u (fun k => Tic.apt N (x i) (y k) + lp N m x y f (i + 1) (u + 2 ^ k)) (N * N) m) := Lib.hid rfl
    generalize hC : (fun k => Tic.apt N (x i) (y k) + lp N m x y f (i + 1) (u + 2 ^ k)) = C at *
    have HCC : Hid (∀ k, C k = Tic.apt N (x i) (y k) + lp N m x y f (i + 1) (u + 2 ^ k)) := Lib.hid (fun k => by rw [← hC])
    generalize hNN : N * N = NN at *
    have HBD := Lib.hid (fun k => (lpK_le (u := u) (c := C) (b := NN) k).1)
    have knn := IntWalk.i64_in (NN : Int) (by omega)
    have KNN := Lib.hid knn
    have ENN := Lib.hid enn
    have hi1 : ¬ (i : Int) = (m : Int) := by omega
    have hi2 : ((i : Int) == (m : Int)) = false := beq_eq_false_iff_ne.2 hi1
    have ki := IntWalk.i64_in ((i : Int) + 1) (by omega)
    have p0 : lpK u C NN 0 = NN := rfl
    clear ih cx0 cy0 hx hy hC hNN
    go_enter Tro.func18, Tro.ntmps18
    go_wp2
    clear enn knn
    go_loopw [11, 12] (fun t11 t12 wr => ∃ k : Nat, k ≤ m ∧ t12 = .int .i64 (k : Int) ∧ t11 = .int .i64 (lpK u C NN k : Int) ∧ Hid (Below w.heap.size w wr)) (fun _ t12 _ => m - (intOf t12).toNat)
    case atStart => exact ⟨0, Nat.zero_le _, rfl, by rw [p0], Below.refl _ _⟩
    case round =>
      obtain ⟨k, hk, rfl, rfl, HB⟩ := hrel
      have hzr := HB.out.size
      by_cases hlt : k < m
      · have k0 : (0 : Int) ≤ (k : Int) := by omega
        have k1 : (k : Int) < (m : Int) := by omega
        have kk := IntWalk.i64_in ((k : Int) + 1) (by omega)
        cases hbk : u.testBit k with
        | true =>
          have HN := Lib.hid (lpK_used (c := C) (b := NN) hbk)
          have HBT : Hid (∀ w, Calls Tro.prog 48 #[.int .i64 (u : Int), .int .i64 (k : Int)] w fun e w' => e = .returned (.int .i64 1) ∧ w = w') := Lib.hid (fun w => (lbit_any (u : Int) (k : Int) w (by omega) (by omega) (by omega) (by omega)).mono (fun e w' ⟨q1, q2⟩ => ⟨q1.trans (ret_int (by rw [Int.toNat_natCast, Int.toNat_natCast]; exact Tic.bitI_true hbk)), q2⟩))
          go_wp2_with fail
          refine (HBT.out _).mono ?_; rintro e w2 ⟨rfl, rfl⟩
          go_wp2
          go_roundw
          case rel => exact ⟨k + 1, by omega, by go_num, by rw [HN.out], HB⟩
          case measure => simp [intOf]; omega
        | false =>
          have HN := Lib.hid (lpK_free (c := C) (b := NN) hbk)
          have HBT : Hid (∀ w, Calls Tro.prog 48 #[.int .i64 (u : Int), .int .i64 (k : Int)] w fun e w' => e = .returned (.int .i64 0) ∧ w = w') := Lib.hid (fun w => (lbit_any (u : Int) (k : Int) w (by omega) (by omega) (by omega) (by omega)).mono (fun e w' ⟨q1, q2⟩ => ⟨q1.trans (ret_int (by rw [Int.toNat_natCast, Int.toNat_natCast]; exact Tic.bitI_false hbk)), q2⟩))
          have HAP := Lib.hid (fun w => lapartN_any N (x i) (y k) w (by omega) h12 hxi (HY.out k hlt))
          have HPW : Hid (∀ w, Calls Tro.prog 49 #[.int .i64 (k : Int)] w fun e w' => e = .returned (.int .i64 ((2 ^ k : Nat) : Int)) ∧ w = w') := Lib.hid (fun w => lpower_any (k : Int) w (by omega) (by omega))
          have HRC := Lib.hid (fun W hW => HIH.out k W hW hlt hbk)
          have hrb := HLB.out k hlt hbk
          have hck := HCC.out k
          have hap := Tic.apt_le (n := N) (x := x i) (y := y k) (by omega)
          have hbd := HBD.out k
          have cx1 := HCX.out wr HB.out
          have cy1 := HCY.out wr HB.out k hlt
          have HC2 : Hid (∀ W, Below wr.heap.size wr W → W.cell? ⟨gx, i, none⟩ = some (.int .i64 (x i : Int)) ∧ W.cell? ⟨gy, k, none⟩ = some (.int .i64 (y k : Int))) := Lib.hid (fun W hW => ⟨HCX.out W (HB.out.trans (hW.mono hzr)), HCY.out W (HB.out.trans (hW.mono hzr)) k hlt⟩)
          have hpk : 2 ^ k < 4096 := Nat.lt_of_lt_of_le (Nat.pow_lt_pow_right (by decide) hlt) hp
          have eup : ((u + 2 ^ k : Nat) : Int) = (u : Int) + ((2 ^ k : Nat) : Int) := by omega
          rw [eup] at HRC
          generalize lp N m x y f (i + 1) (u + 2 ^ k) = r at *
          generalize Tic.apt N (x i) (y k) = ap at *
          generalize lpK u C NN k = best at *
          generalize C k = s at *
          generalize x i = xi at *
          generalize y k = yk at *
          generalize 2 ^ k = pk at *
          have HS := Lib.hid hck
          have ku := IntWalk.i64_in ((u : Int) + (pk : Int)) (by omega)
          have ka := IntWalk.i64_in ((ap : Int) + (r : Int)) (by omega)
          have ii0 : (0 : Int) ≤ (i : Int) := by omega
          have ii1 : (i : Int) < (m : Int) := by omega
          clear hck eup cx1 cy1
          go_wp2_with fail
          refine (HBT.out _).mono ?_; rintro e w2 ⟨rfl, rfl⟩
          have hk0 : Below wr.heap.size wr wr := Below.refl _ _
          go_upto_region 8 with fail
          go_region_held3 (fun W => W.cell? ⟨gx, i, none⟩ = some (.int .i64 (xi : Int)) ∧ W.cell? ⟨gy, k, none⟩ = some (.int .i64 (yk : Int)))
            (exact HC2.out _ (by first | exact hk0 | exact hk0.drew))
            (first
              | (go_at_call 17; refine (HAP.out _).mono ?_; rintro e w6 ⟨rfl, rfl⟩)
              | (go_at_call 49; refine (HPW.out _).mono ?_; rintro e w6 ⟨rfl, rfl⟩)
              | (go_at_call 18; refine (HRC.out _ (HB.out.trans ((by first | exact hk0.drew | exact hk0 : Below wr.heap.size wr _).mono hzr))).mono ?_; rintro e w7 ⟨rfl, hb⟩; replace hk0 : Below wr.heap.size wr w7 := (by first | exact grow1 hk0 hb | exact grow0 hk0 hb); clear hb)
              | fail)
          have HMN : Hid ((if (ap : Int) + (r : Int) < (best : Int) then (ap : Int) + (r : Int) else (best : Int)) = ((min best s : Nat) : Int)) := Lib.hid (by
            rw [HS.out]
            split <;> omega)
          rw [HMN.out]
          have HB8 := Lib.hid (HB.out.trans (hk0.mono hzr))
          clear hk0 HMN
          generalize min best s = mn at *
          go_wp2
          go_roundw
          case rel => exact ⟨k + 1, by omega, by go_num, by rw [HN.out], HB8⟩
          case measure => simp [intOf]; omega
      · obtain rfl : k = m := by omega
        go_wp2
        go_ret
        exact ⟨ret_int (by rw [HE.out]), HB.out⟩
end Go.Proofs.YtjgkignnfkbeaaaTro

/-
  The walk of FnFarOf, where a sequential body stands for nearestTo.
-/
namespace Go.Proofs.YtjgkignnfkbeaaaTro
open Go.RowKit
set_option linter.unusedVariables false
set_option maxRecDepth 20000

theorem prF_at {n : Nat} {L M : List Int} (h : farTo n L (rotL M 0) L.length < n * n) : ∀ j, (prF n L M (j + 1)).1 = farTo n L (rotL M (prF n L M (j + 1)).2) L.length
  | 0 => by rw [prF_yes (j := 0) h]
  | j + 1 => by
    by_cases q : farTo n L (rotL M (j + 1)) L.length < (prF n L M (j + 1)).1
    · rw [prF_yes (j := j + 1) q]
    · rw [prF_no (j := j + 1) q]; exact prF_at h j
theorem stub_far {n A B : Int} (hv : Voices n A B) : (stubP n A B).1 = farTo n.toNat (tonesTo A.toNat n.toNat) (rotL (tonesTo B.toNat n.toNat) (stubP n A B).2) (tonesTo A.toNat n.toNat).length := by
  have g1 := hv.1.1
  have hp := hv.pos
  have hle := tonesTo_le A.toNat n.toNat
  have hfar := farTo_le (n := n.toNat) (by omega) (tonesTo A.toNat n.toNat) (rotL (tonesTo B.toNat n.toNat) 0) (tonesTo A.toNat n.toNat).length
  have hmul := Nat.mul_le_mul_right n.toNat hle
  have hnn : 0 < n.toNat * n.toNat := Nat.mul_pos (by omega) (by omega)
  unfold stubP
  have := prF_at (n := n.toNat) (L := tonesTo A.toNat n.toNat) (M := tonesTo B.toNat n.toNat) (by omega) ((tonesTo A.toNat n.toNat).length - 1)
  rw [show (tonesTo A.toNat n.toNat).length - 1 + 1 = (tonesTo A.toNat n.toNat).length by omega] at this
  exact this
theorem FnFarOf_no (x : Option Addr) (len cap : Nat) (w : World) (hl : 1048576 < len) :
    Calls Tro.prog 3 #[.slice x len cap] w fun e w' => e = .returned (.bool true) ∧ Below w.heap.size w w' := by
  go_enter Tro.func3, Tro.ntmps3
  go_wp2_with fail
  go_ret
  exact ⟨rfl, Below.refl _ _⟩
set_option maxHeartbeats 2000000 in
theorem FnFarOf_walk (x : Option Addr) (len cap : Nat) (w : World) (h : Code w x len cap) :
    Calls Tro.prog 3 #[.slice x len cap] w fun e w' => e = .returned (.bool true) ∧ Below w.heap.size w w' := by
  by_cases hl : 1048576 < len
  · exact FnFarOf_no x len cap w hl
  · go_enter Tro.func3, Tro.ntmps3
    go_wp2_with fail
    refine (drawFarOf _ _ _ _ h).mono ?_; rintro e w1 ⟨n, a, b, rfl, n0, n1, a0, a1, b0, b1, hb⟩
    have HB := Lib.hid hb
    clear hb h hl
    have hz := HB.out.size
    rcases Classical.em (Voices n a b) with hv | hv
    · have hI : ∀ w, Calls Tro.prog 13 #[.int .i64 n, .int .i64 a, .int .i64 b] w (GivesP (stubP n a b).1 (rotL (tonesTo b.toNat n.toNat) (stubP n a b).2) w) := fun w => iFarOf_yes n a b w hv (stub_lt hv)
      have hS : ∀ w, Calls Tro.prog 14 #[.int .i64 n, .int .i64 a, .int .i64 b] w (GivesP (stubP n a b).1 (rotL (tonesTo b.toNat n.toNat) (stubP n a b).2) w) := fun w => sFarOf_yes n a b w hv (stub_lt hv)
      have hsy : (stubP n b a).1 = (stubP n a b).1 := (dst_symm (by have := hv.1.2.1; omega) (by have := hv.1.1; omega) hv.lens hv.symm.pos).symm
      have HBK : Hid (∀ w, Calls Tro.prog 13 #[.int .i64 n, .int .i64 b, .int .i64 a] w fun e w' => ∃ v, e = .returned (.tuple #[.int .i64 ((stubP n a b).1 : Int), v]) ∧ Below w.heap.size w w') := Lib.hid (fun w => (iFarOf_yes n b a w hv.symm (stub_lt hv.symm)).mono (fun e w' ⟨v, h1, _, h3⟩ => ⟨v, by rw [h1, hsy], h3⟩))
      have HTA : Hid (∀ w, Calls Tro.prog 16 #[.int .i64 n, .int .i64 a] w (Gives (tonesTo a.toNat n.toNat) w)) := Lib.hid (fun w => iTonesOf_yes n a w hv.1)
      have HTB : Hid (∀ w, Calls Tro.prog 16 #[.int .i64 n, .int .i64 b] w (Gives (tonesTo b.toNat n.toNat) w)) := Lib.hid (fun w => iTonesOf_yes n b w hv.2.1)
      have HZ : Hid ((stubP n a b).1 = 0 ↔ a = b) := Lib.hid (by
        have := dst_pos (n := n.toNat) (A := a.toNat) (B := b.toNat) (by have := hv.1.2.1; omega) (by have := hv.1.1; omega) (valid_lt hv.1) (valid_lt hv.2.1) hv.lens hv.symm.pos
        have h1 := hv.1.2.2.1
        have h2 := hv.2.1.2.2.1
        constructor
        · intro q; have := this.1 q; omega
        · intro q; exact this.2 (by omega))
      have HSF := Lib.hid (stub_far hv)
      have HLP : Hid (∀ (gx cx gy cy : Nat) (w : World), gx < w.heap.size → gy < w.heap.size → (∀ j, j < (tonesTo a.toNat n.toNat).length → w.cell? ⟨gx, j, none⟩ = some (.int .i64 ((tonesTo a.toNat n.toNat).getD j 0))) → (∀ j, j < (tonesTo a.toNat n.toNat).length → w.cell? ⟨gy, j, none⟩ = some (.int .i64 ((tonesTo b.toNat n.toNat).getD j 0))) →
          Calls Tro.prog 18 #[.int .i64 n, .slice (some ⟨gx, 0, none⟩) (tonesTo a.toNat n.toNat).length cx, .slice (some ⟨gy, 0, none⟩) (tonesTo a.toNat n.toNat).length cy, .int .i64 0, .int .i64 0] w fun e w' => e = .returned (.int .i64 ((stubP n a b).1 : Int)) ∧ Below w.heap.size w w') := Lib.hid (fun gx cx gy cy w q1 q2 q3 q4 => by
        have g1 := hv.1.1
        have g2 := hv.1.2.1
        have hla := tonesTo_le a.toNat n.toNat
        have ea := en_tones a.toNat n.toNat
        have eb := en_tones b.toNat n.toNat
        have hll := hv.lens
        have conv : ∀ (A : Nat) j, j < (tonesTo A n.toNat).length → (tonesTo A n.toNat).getD j 0 = (tn A n.toNat j : Int) := fun A j hj => by
          obtain ⟨y, _, _, h3, _⟩ := tonesTo_at A n.toNat j hj
          unfold tn; rw [h3]; rfl
        have := leastPairs_any n.toNat (tonesTo a.toNat n.toNat).length gx cx gy cy (tn a.toNat n.toNat) (tn b.toNat n.toNat) (by omega) (by omega) hla (fun i hi => ea.lt i hi) (fun i hi => eb.lt i (by omega)) (tonesTo a.toNat n.toNat).length 0 0 w (by omega) (Nat.two_pow_pos _) (by
          have : ∀ k, (tonesTo 0 k).length = 0 := fun k => by
            induction k with
            | zero => rfl
            | succ k ih => rw [tonesTo_no (Nat.zero_testBit k)]; exact ih
          rw [this]; omega) q1 q2 (fun j hj => by rw [q3 j hj, conv a.toNat j hj]) (fun j hj => by rw [q4 j hj, conv b.toNat j (by omega)])
        rw [lp_dst (by omega) (by omega) (valid_lt hv.1) (valid_lt hv.2.1) hll (by have := hv.symm.pos; omega)] at this
        rw [show ((n.toNat : Nat) : Int) = n by omega] at this
        exact this)
      have HAP : Hid (∀ i w, i < (tonesTo a.toNat n.toNat).length → Calls Tro.prog 17 #[.int .i64 n, .int .i64 ((tonesTo a.toNat n.toNat).getD i 0), .int .i64 ((rotL (tonesTo b.toNat n.toNat) (stubP n a b).2).getD i 0)] w fun e w' => e = .returned (.int .i64 (Tic.apt n.toNat ((tonesTo a.toNat n.toNat).getD i 0).toNat ((rotL (tonesTo b.toNat n.toNat) (stubP n a b).2).getD i 0).toNat : Int)) ∧ w = w') := Lib.hid (fun i w hi => by
        have g1 := hv.1.1
        have g2 := hv.1.2.1
        have hll := hv.lens
        obtain ⟨p, p1, p2⟩ := ton_tones a.toNat n.toNat i hi
        have hj := stub_lt hv
        obtain ⟨q, q1, q2⟩ := ton_rot (ton_tones b.toNat n.toNat) hj i (by rw [rotL_len _ (by omega)]; omega)
        rw [p2, q2, Int.toNat_natCast, Int.toNat_natCast]
        have := lapartN_any n.toNat p q w (by omega) (by omega) p1 q1
        rw [show ((n.toNat : Nat) : Int) = n by omega] at this
        exact this)
      have HFB : Hid (∀ i, i ≤ (tonesTo a.toNat n.toNat).length → farTo n.toNat (tonesTo a.toNat n.toNat) (rotL (tonesTo b.toNat n.toNat) (stubP n a b).2) i ≤ 144) := Lib.hid (fun i hi => by
        have g1 := hv.1.1
        have g2 := hv.1.2.1
        have hla := tonesTo_le a.toNat n.toNat
        have := farTo_le (n := n.toNat) (by omega) (tonesTo a.toNat n.toNat) (rotL (tonesTo b.toNat n.toNat) (stubP n a b).2) i
        have h2 : i * n.toNat ≤ 12 * 12 := Nat.mul_le_mul (by omega) (by omega)
        omega)
      have HRL : Hid ((rotL (tonesTo b.toNat n.toNat) (stubP n a b).2).length = (tonesTo a.toNat n.toNat).length) := Lib.hid (by
        rw [rotL_len _ (Nat.le_of_lt (stub_lt hv)), hv.lens])
      have HLB : Hid ((tonesTo b.toNat n.toNat).length = (tonesTo a.toNat n.toNat).length) := Lib.hid hv.lens.symm
      have HFN : Hid (∀ i, farTo n.toNat (tonesTo a.toNat n.toNat) (rotL (tonesTo b.toNat n.toNat) (stubP n a b).2) (i + 1) = farTo n.toNat (tonesTo a.toNat n.toNat) (rotL (tonesTo b.toNat n.toNat) (stubP n a b).2) i + Tic.apt n.toNat ((tonesTo a.toNat n.toNat).getD i 0).toNat ((rotL (tonesTo b.toNat n.toNat) (stubP n a b).2).getD i 0).toNat) := Lib.hid (fun i => rfl)
      have hf0 : farTo n.toNat (tonesTo a.toNat n.toNat) (rotL (tonesTo b.toNat n.toNat) (stubP n a b).2) 0 = 0 := rfl
      have hpos := hv.pos
      have hle12 : (tonesTo a.toNat n.toNat).length ≤ 12 := by have := tonesTo_le a.toNat n.toNat; have := hv.1.2.1; omega
      have HI := Lib.hid hI
      have HS := Lib.hid hS
      clear hI hS hsy n0 n1 a0 a1 b0 b1 hv
      generalize farTo n.toNat (tonesTo a.toNat n.toNat) (rotL (tonesTo b.toNat n.toNat) (stubP n a b).2) = fa at *
      generalize rotL (tonesTo b.toNat n.toNat) (stubP n a b).2 = R at *
      generalize tonesTo a.toNat n.toNat = L at *
      generalize tonesTo b.toNat n.toNat = M at *
      generalize (stubP n a b).1 = d at *
      have HF0 := Lib.hid hf0
      clear hf0
      have hd0 : ¬ (d : Int) < 0 := by omega
      go_wp2_with fail
      refine (HI.out _).mono ?_; rintro e w2 ⟨v2, rfl, hr2, hb2⟩
      have HR2 := Lib.hid hr2
      have HB2 := Lib.hid (HB.out.trans (hb2.mono hz))
      have hz2 := HB2.out.size
      clear hr2 hb2
      go_wp2_with fail
      refine (HS.out _).mono ?_; rintro e w3 ⟨v3, rfl, hr3, hb3⟩
      have HR3 := Lib.hid hr3
      have HRk := Lib.hid (HR2.out.kept hb3)
      have HB3 := Lib.hid (HB2.out.trans (hb3.mono hz2))
      have hz3 := HB3.out.size
      clear hr3 hb3 HR2
      go_wp2_with fail
      refine (equalInts_yes _ _ _ _ _ _ HRk.out HR3.out).mono ?_; rintro e w4 ⟨rfl, hb4⟩
      have HR4 := Lib.hid (HRk.out.kept hb4)
      have HB4 := Lib.hid (HB3.out.trans (hb4.mono hz3))
      have hz4 := HB4.out.size
      clear hb4 HRk HR3 HI HS
      go_wp2_with fail
      refine (HTA.out _).mono ?_; rintro e w5 ⟨v5, rfl, hr5, hb5⟩
      have HR5 := Lib.hid hr5
      have HRl := Lib.hid (HR4.out.kept hb5)
      have HB5 := Lib.hid (HB4.out.trans (hb5.mono hz4))
      have hz5 := HB5.out.size
      clear hr5 hb5 HR4 HTA
      obtain ⟨gl, cl, e0, hgl, hgll, hcl, _⟩ := HRl.out.cases.resolve_left (fun q => by have := HRL.out; rw [q.2] at this; simp at this; omega)
      subst e0
      obtain ⟨gx, cx, e0, hgx, hgxl, hcx, _⟩ := HR5.out.cases.resolve_left (fun q => by rw [q.2] at hpos; simp at hpos)
      subst e0
      rw [HRL.out] at hcl ⊢
      have HCL : Hid (∀ W, Below w5.heap.size w5 W → ∀ j, j < L.length → W.cell? ⟨gl, j, none⟩ = some (.int .i64 (R.getD j 0))) := Lib.hid (fun W hW j hj => (hW.cell (p := ⟨gl, j, none⟩) hgll).trans (hcl j hj))
      have HCX : Hid (∀ W, Below w5.heap.size w5 W → ∀ j, j < L.length → W.cell? ⟨gx, j, none⟩ = some (.int .i64 (L.getD j 0))) := Lib.hid (fun W hW j hj => (hW.cell (p := ⟨gx, j, none⟩) hgxl).trans (hcx j hj))
      clear hcl hcx HR5 HRl
      obtain ⟨m, hm⟩ : ∃ m, m = L.length := ⟨_, rfl⟩
      rw [← hm] at hpos hle12 HCL HCX HLP HAP HFB HRL HLB HSF ⊢
      clear hm
      go_wp2
      go_loopw [11, 12] (fun t11 t12 wr => ∃ i : Nat, i ≤ m ∧ t12 = .int .i64 (i : Int) ∧ t11 = .int .i64 (fa i : Int) ∧ Hid (Below w5.heap.size w5 wr)) (fun _ t12 _ => m - (intOf t12).toNat)
      case atStart => exact ⟨0, Nat.zero_le _, rfl, by rw [HF0.out]; rfl, Below.refl _ _⟩
      case round =>
        obtain ⟨i, hi, rfl, rfl, HBI⟩ := hrel
        have hzi := HBI.out.size
        by_cases hlt : i < m
        · have HA1 := Lib.hid (fun w => HAP.out i w hlt)
          have HC1 : Hid (∀ W, Below wr.heap.size wr W → W.cell? ⟨gx, i, none⟩ = some (.int .i64 (L.getD i 0)) ∧ W.cell? ⟨gl, i, none⟩ = some (.int .i64 (R.getD i 0))) := Lib.hid (fun W hW => ⟨HCX.out W (HBI.out.trans (hW.mono hzi)) i hlt, HCL.out W (HBI.out.trans (hW.mono hzi)) i hlt⟩)
          have HN := Lib.hid (HFN.out i)
          have hfb := HFB.out (i + 1) hlt
          rw [HN.out] at hfb
          generalize fa i = fi at *
          generalize L.getD i 0 = xi at *
          generalize R.getD i 0 = yi at *
          generalize Tic.apt n.toNat xi.toNat yi.toNat = ap at *
          have i0 : (0 : Int) ≤ (i : Int) := by omega
          have i1 : (i : Int) < (m : Int) := by omega
          have k1 := IntWalk.i64_in ((i : Int) + 1) (by omega)
          have k2 := IntWalk.i64_in ((fi : Int) + (ap : Int)) (by omega)
          have hk0 : Below wr.heap.size wr wr := Below.refl _ _
          go_upto_region 13 with fail
          go_region_held3 (fun W => W.cell? ⟨gx, i, none⟩ = some (.int .i64 xi) ∧ W.cell? ⟨gl, i, none⟩ = some (.int .i64 yi))
            (exact HC1.out _ (by first | exact hk0 | exact hk0.drew))
            (first
              | (go_at_call 17; refine (HA1.out _).mono ?_; rintro e w6 ⟨rfl, rfl⟩)
              | fail)
          all_goals
            have HB8 : Hid (Below w5.heap.size w5 _) := Lib.hid (HBI.out.trans ((by first | exact hk0.drew | exact hk0 : Below wr.heap.size wr wr.drew).mono hzi))
            clear hk0
            go_wp2
            go_roundw
            case rel => exact ⟨i + 1, by omega, by go_num, by rw [HN.out]; simp, HB8⟩
            case measure => simp [intOf]; omega
        · obtain rfl : i = m := by omega
          rw [← HSF.out]
          have HC5 : Hid (5 < i ∨ ¬ 5 < i) := Lib.hid (Classical.em _)
          have HCZ : Hid ((d = 0 ∧ a = b) ∨ (d ≠ 0 ∧ a ≠ b)) := Lib.hid (by
            by_cases q : d = 0
            · exact .inl ⟨q, HZ.out.1 q⟩
            · exact .inr ⟨q, fun e => q (HZ.out.2 e)⟩)
          have hnl : ¬ ((i : Int) < (i : Int)) := by omega
          clear HFN HAP HFB HSF HF0 HRL
          rcases HCZ.out with ⟨e1, e2⟩ | ⟨e1, e2⟩
          · subst e1 e2
            clear HCZ HZ
            go_wp2_with fail
            refine (HBK.out _).mono ?_; rintro e w6 ⟨v6, rfl, hb6⟩
            have HB6 := Lib.hid (HBI.out.trans (hb6.mono hzi))
            have hz6 := HB6.out.size
            have HBW6 := Lib.hid (HB5.out.trans (HB6.out.mono hz5))
            clear hb6
            rcases HC5.out with h5 | h5
            · have c5 : (5 : Int) < (i : Int) := by omega
              go_wp2_with fail
              go_ret
              exact ⟨rfl, HBW6.out⟩
            · have c5 : ¬ (5 : Int) < (i : Int) := by omega
              go_wp2_with fail
              refine (HTB.out _).mono ?_; rintro e w7 ⟨v7, rfl, hr7, hb7⟩
              have HB7 := Lib.hid (HB6.out.trans (hb7.mono hz6))
              have hz7 := HB7.out.size
              obtain ⟨gy, cy, e0, hgy, hgyl, hcy, _⟩ := hr7.cases.resolve_left (fun q => by have := HLB.out; rw [q.2] at this; simp at this; omega)
              subst e0
              rw [HLB.out] at hcy ⊢
              have HCY := Lib.hid hcy
              have HBW7 := Lib.hid (HB5.out.trans (HB7.out.mono hz5))
              clear hr7 hb7 hcy
              go_wp2_with fail
              refine (HLP.out gx cx gy cy _ (by omega) hgyl (HCX.out _ HB7.out) HCY.out).mono ?_; rintro e w8 ⟨rfl, hb8⟩
              have HBW8 := Lib.hid (HBW7.out.trans (hb8.mono HBW7.out.size))
              clear hb8
              go_wp2_with fail
              go_ret
              exact ⟨rfl, HBW8.out⟩
          · have q1 : ((d : Int) == 0) = false := beq_eq_false_iff_ne.2 (by omega)
            have q2 : ¬ (d : Int) = 0 := by omega
            have q3 : (a == b) = false := beq_eq_false_iff_ne.2 e2
            clear HCZ HZ
            go_wp2_with fail
            refine (HBK.out _).mono ?_; rintro e w6 ⟨v6, rfl, hb6⟩
            have HB6 := Lib.hid (HBI.out.trans (hb6.mono hzi))
            have hz6 := HB6.out.size
            have HBW6 := Lib.hid (HB5.out.trans (HB6.out.mono hz5))
            clear hb6
            rcases HC5.out with h5 | h5
            · have c5 : (5 : Int) < (i : Int) := by omega
              go_wp2_with fail
              go_ret
              exact ⟨rfl, HBW6.out⟩
            · have c5 : ¬ (5 : Int) < (i : Int) := by omega
              go_wp2_with fail
              refine (HTB.out _).mono ?_; rintro e w7 ⟨v7, rfl, hr7, hb7⟩
              have HB7 := Lib.hid (HB6.out.trans (hb7.mono hz6))
              have hz7 := HB7.out.size
              obtain ⟨gy, cy, e0, hgy, hgyl, hcy, _⟩ := hr7.cases.resolve_left (fun q => by have := HLB.out; rw [q.2] at this; simp at this; omega)
              subst e0
              rw [HLB.out] at hcy ⊢
              have HCY := Lib.hid hcy
              have HBW7 := Lib.hid (HB5.out.trans (HB7.out.mono hz5))
              clear hr7 hb7 hcy
              go_wp2_with fail
              refine (HLP.out gx cx gy cy _ (by omega) hgyl (HCX.out _ HB7.out) HCY.out).mono ?_; rintro e w8 ⟨rfl, hb8⟩
              have HBW8 := Lib.hid (HBW7.out.trans (hb8.mono HBW7.out.size))
              clear hb8
              go_wp2_with fail
              go_ret
              exact ⟨rfl, HBW8.out⟩
    · have HI := Lib.hid (fun w => iFarOf_no n a b w hv)
      have HS := Lib.hid (fun w => sFarOf_no n a b w hv)
      clear n0 n1 a0 a1 b0 b1 hv
      go_wp2_with fail
      refine (HI.out _).mono ?_; rintro e w2 ⟨v2, rfl, hr2, hb2⟩
      have HR2 := Lib.hid hr2
      have HB2 := Lib.hid (HB.out.trans (hb2.mono hz))
      have hz2 := HB2.out.size
      clear hr2 hb2
      go_wp2_with fail
      refine (HS.out _).mono ?_; rintro e w3 ⟨v3, rfl, hr3, hb3⟩
      have HR3 := Lib.hid hr3
      have HRk := Lib.hid (HR2.out.kept hb3)
      have HB3 := Lib.hid (HB2.out.trans (hb3.mono hz2))
      have hz3 := HB3.out.size
      clear hr3 hb3 HR2
      go_wp2_with fail
      refine (equalInts_yes _ _ _ _ _ _ HRk.out HR3.out).mono ?_; rintro e w4 ⟨rfl, hb4⟩
      have HR4 := Lib.hid (HRk.out.kept hb4)
      have HR5 := Lib.hid (HR3.out.kept hb4)
      have HB4 := Lib.hid (HB3.out.trans (hb4.mono hz3))
      have hz4 := HB4.out.size
      clear hb4 HRk HR3 HI HS
      go_wp2_with fail
      refine (equalInts_yes _ _ _ _ _ _ HR4.out HR5.out).mono ?_; rintro e w5 ⟨rfl, hb5⟩
      have HB5 := Lib.hid (HB4.out.trans (hb5.mono hz4))
      clear hb5
      go_wp2_with fail
      go_ret
      exact ⟨rfl, HB5.out⟩
end Go.Proofs.YtjgkignnfkbeaaaTro
