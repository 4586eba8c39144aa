/-
  Lists of choices in memory, two cells each: read, appended to at a step of a region that draws its order.
-/
import Derived.Test.YtjgkignnfkbeaaaTroLib
import Derived.Maps.AppendAt
import Derived.Deep.RegionHeld3
import Derived.Deep.Cut
import Derived.Deep.AppendLies
import Derived.BigQuiet
import Derived.Deep.QuietTactic
import Derived.WalkLawsBesides
import Derived.OpenShut
namespace Go.Proofs.YtjgkignnfkbeaaaTro
open Go.RowKit
set_option linter.unusedVariables false
set_option maxRecDepth 20000

/-- a choice as a row of cells -/
def chR (p : Int × Int) : List Value := [.int .i64 p.1, .int .i64 p.2]
theorem chFlat_len : ∀ M : List (Int × Int), (M.map chR).flatten.length = M.length * 2
  | [] => rfl
  | m :: M => by
    rw [List.map_cons, List.flatten_cons, List.length_append, chFlat_len M, List.length_cons, Nat.add_mul]
    show 2 + _ = _
    omega
theorem chFlat_at : ∀ (M : List (Int × Int)) (i j : Nat), i < M.length → j < 2 → (M.map chR).flatten[i * 2 + j]? = (chR (M.getD i (0, 0)))[j]?
  | [], i, j, hi, _ => by simp at hi
  | m :: M, 0, j, _, hj => by
    rw [List.map_cons, List.flatten_cons, Nat.zero_mul, Nat.zero_add, List.getElem?_append_left (by show j < 2; exact hj)]
    simp
  | m :: M, i + 1, j, hi, hj => by
    have := chFlat_at M i j (by simpa using hi) hj
    rw [List.map_cons, List.flatten_cons, List.getElem?_append_right (by show 2 ≤ _; omega), show (i + 1) * 2 + j - (chR m).length = i * 2 + j by show _ - 2 = _; omega, this]
    simp
/-- a list of choices, two cells each -/
def Chs (w : World) (B : Nat) (v : Value) (M : List (Int × Int)) : Prop := w.ownsRow B 49 2 v M.length (M.map chR).flatten ∧ M.length ≤ 64
theorem Chs.nil (w : World) (B : Nat) : Chs w B (.slice none 0 0) [] := ⟨World.ownsRow_nil _ _ _ _, Nat.zero_le _⟩
theorem Chs.kept {w w' : World} {B : Nat} {v : Value} {M : List (Int × Int)} (h : Chs w B v M) (hb : Below w.heap.size w w') : Chs w' B v M :=
  ⟨h.1.kept (row := none) ⟨hb.os, hb.tape, hb.output, hb.size, fun k hk _ => hb.block k hk⟩ (by cases v.ownBlock <;> simp), h.2⟩
theorem Chs.mono {w : World} {B B' : Nat} {v : Value} {M : List (Int × Int)} (h : Chs w B v M) (hB : B' ≤ B) : Chs w B' v M := by
  obtain ⟨⟨h31, h3⟩, r⟩ := h
  refine ⟨⟨h31, ?_⟩, r⟩
  rcases h3 with h3 | ⟨g, cap, cur, e, hg, r⟩
  · exact .inl h3
  · exact .inr ⟨g, cap, cur, e, by omega, r⟩
theorem Chs.lt {w : World} {B : Nat} {v : Value} {M : List (Int × Int)} (h : Chs w B v M) : ∀ q, v.ownBlock = some q → B ≤ q ∧ q < w.heap.size := fun q hq => by
  rcases h.1.2 with ⟨e, _⟩ | ⟨g, cap, cur, e, hg, hb, _⟩
  · subst e; cases hq
  · subst e; simp [Value.ownBlock] at hq; subst hq; exact ⟨hg, (Array.getElem?_eq_some_iff.1 hb).1⟩
theorem Chs.cases {w : World} {B : Nat} {v : Value} {M : List (Int × Int)} (h : Chs w B v M) (h0 : 0 < M.length) :
    ∃ g cap, v = .slice (some ⟨g, 0, none⟩) M.length cap ∧ B ≤ g ∧ g < w.heap.size ∧ M.length ≤ cap ∧ ∀ i, i < M.length → w.cell? ⟨g, i * 2, none⟩ = some (.int .i64 (M.getD i (0, 0)).1) ∧ w.cell? ⟨g, i * 2 + 1, none⟩ = some (.int .i64 (M.getD i (0, 0)).2) := by
  have h1 := h.1
  rcases h1.2 with ⟨_, e⟩ | ⟨g, cap, cur, e, hg, hb, r1, r2, r3, r4⟩
  · omega
  · subst e
    refine ⟨g, cap, rfl, hg, (Array.getElem?_eq_some_iff.1 hb).1, r1, fun i hi => ⟨?_, ?_⟩⟩
    · have := h1.cellAt (i * 2 + 0) (by omega)
      rw [chFlat_at M i 0 hi (by decide)] at this
      exact this
    · have := h1.cellAt (i * 2 + 1) (by omega)
      rw [chFlat_at M i 1 hi (by decide)] at this
      exact this
theorem info_choice : (Tro.prog.info? 49).map (fun i => (i.zero, i.size, i.bytes)) = some (some (.agg #[.int .i64 0, .int .i64 0]), 2, 16) := by kernel_rfl
theorem info_partsC {o : Option TypeInfo} {z : Option Value} {a b : Nat} (h : o.map (fun i => (i.zero, i.size, i.bytes)) = some (z, a, b)) : ∃ i, o = some i ∧ i.zero = z ∧ i.size = a ∧ i.bytes = b := by
  cases o with
  | none => cases h
  | some i => simp at h; exact ⟨i, rfl, h.1, h.2.1, h.2.2⟩
/-- a choice is appended, at a step of a region that draws its order; B: the first block that the list may lie in, V: the world ahead of the region -/
theorem step_app_ch {ops : Array Oper} {o : Oper} {a : Act} {w : World} {K : Act → World → Prop} {Q : Exit → Act → World → Prop} {E : Prop} (hgd : o.guard = none) (s x : Operand)
    (ho : o.op = .call { callee := .builtin .append, args := #[s, x], argTypes := #[57, 57] })
    (B : Nat) (V : World) (v : Value) (M : List (Int × Int)) (hs : a.eval s = v) (g c : Nat) (p : Int × Int) (hx : a.eval x = .slice (some ⟨g, 0, none⟩) 1 c)
    (hk : Below B V w) (hr : Chs w B v M) (hc : w.cell? ⟨g, 0, none⟩ = some (.int .i64 p.1) ∧ w.cell? ⟨g, 1, none⟩ = some (.int .i64 p.2)) (hM : M.length < 64) (hBw : B ≤ w.heap.size)
    (h : ∀ v' w', Chs w' B v' (M ++ [p]) → Below B V w' → (∀ b k u, v.ownBlock ≠ some b → w.cell? ⟨b, k, none⟩ = some u → w'.cell? ⟨b, k, none⟩ = some u) → K (a.put o.dst v') w') :
    if Region.wanted o (yielded ops a.tmps) = true then Oper.wp Tro.prog o a w K Q else E := by
  have hw : Region.wanted o (yielded ops a.tmps) = true := by simp [Region.wanted, hgd]
  rw [if_pos hw]
  obtain ⟨i0, hi, hz0, hz1, hz2⟩ := info_partsC info_choice
  obtain ⟨v', w', hr', h2, h3, h4, h5'⟩ := run_append_own_at (P := Tro.prog) w B 57 o.type 49 i0 _ 2 16 Tro.underlying57 hi hz0 hz1 hz2 rfl (by decide) v M.length _ hr.1 ⟨g, 0, none⟩ 1 c (chR p)
    rfl (fun j u hj => by
      have e : (⟨g, 0, none⟩ : Addr).add j = ⟨g, j, none⟩ := by unfold Addr.add; split <;> simp_all
      rw [e]
      match j, hj with
      | 0, hj => simp [chR] at hj; subst hj; exact hc.1
      | 1, hj => simp [chR] at hj; subst hj; exact hc.2) (by intro u hu; simp [chR] at hu; rcases hu with rfl | rfl <;> rfl) (by unfold maxLen; omega) (by omega) hBw
  unfold Oper.wp execOp
  simp only [ho, resolve, invoke, builtin, Sem.run_bind, Sem.run_pure, Result.andThen_ok, List.map_toArray, List.map_cons, List.map_nil, hs, hx, hr']
  refine h v' w' ⟨?_, by simp; omega⟩ (hk.grown h3 hBw (fun q hq => (hr.lt q hq).1)) (fun b k u hb hc => (h3.cell_far _ (block_lt_of_cell hc) (fun e => hb e.symm)).trans hc)
  rw [List.length_append, List.map_append, List.flatten_append]
  simpa using h2
/-- a choice is appended -/
theorem wpList_append_ch {ops : Array Oper} {rest : List Oper} {o : Oper} {a : Act} {Q : Exit → Act → World → Prop} {w : World} (hgd : o.guard = none) (s x : Operand)
    (ho : o.op = .call { callee := .builtin .append, args := #[s, x], argTypes := #[57, 57] })
    (B : Nat) (v : Value) (M : List (Int × Int)) (hs : a.eval s = v) (hr : Chs w B v M) (g c : Nat) (p : Int × Int) (hx : a.eval x = .slice (some ⟨g, 0, none⟩) 1 c)
    (hc : w.cell? ⟨g, 0, none⟩ = some (.int .i64 p.1) ∧ w.cell? ⟨g, 1, none⟩ = some (.int .i64 p.2)) (hM : M.length < 64) (hB : B ≤ w.heap.size)
    (h : ∀ v' w', Chs w' B v' (M ++ [p]) → Below B w w' → wpList Tro.prog ops Q rest (a.put o.dst v') w') : wpList Tro.prog ops Q (o :: rest) a w := by
  obtain ⟨i0, hi, hz0, hz1, hz2⟩ := info_partsC info_choice
  refine wpList_append_own w hgd s x 57 ho B 49 i0 _ 2 16 Tro.underlying57 hi hz0 hz1 hz2 rfl (by decide) v M.length _ hs hr.1 ⟨g, 0, none⟩ 1 c (chR p) hx rfl ?_ ?_ ?_ ?_ hB ?_
  · intro j u hj
    have e : (⟨g, 0, none⟩ : Addr).add j = ⟨g, j, none⟩ := by unfold Addr.add; split <;> simp_all
    rw [e]
    match j, hj with
    | 0, hj => simp [chR] at hj; subst hj; exact hc.1
    | 1, hj => simp [chR] at hj; subst hj; exact hc.2
  · intro u hu; simp [chR] at hu; rcases hu with rfl | rfl <;> rfl
  · unfold maxLen; omega
  · omega
  · intro v' w' hown hg _
    refine h v' w' ⟨?_, by simp; omega⟩ ((Below.refl B w).grown hg hB fun k hk => (hr.lt k hk).1)
    rw [List.length_append, List.map_append, List.flatten_append]
    simpa using hown
theorem far_of (a b : Int) (w : World) : (Instr.field 49 (.agg #[.int .i64 a, .int .i64 b]) 1).run Tro.prog w = .ok (.int .i64 b) w := by kernel_rfl
theorem number_of (a b : Int) (w : World) : (Instr.field 49 (.agg #[.int .i64 a, .int .i64 b]) 0).run Tro.prog w = .ok (.int .i64 a) w := by kernel_rfl
/-- a block of two numbers just made -/
theorem ch_new (w : World) (x y : Int) (t : TypeId) (g : Nat) (hg : g = w.heap.size) : (w.alloc (.cells #[.int .i64 x, .int .i64 y] t)).cell? ⟨g, 0, none⟩ = some (.int .i64 x) ∧ (w.alloc (.cells #[.int .i64 x, .int .i64 y] t)).cell? ⟨g, 1, none⟩ = some (.int .i64 y) := by
  constructor <;> (rw [World.cell?_alloc_at _ _ _ _ hg]; rfl)
theorem ch_froz (w : World) (x y : Int) (t : TypeId) (g : Nat) (hg : g = w.heap.size) : (w.alloc (.cells #[.int .i64 x, .int .i64 y] t)).frozen? ⟨g, 0, none⟩ = false ∧ (w.alloc (.cells #[.int .i64 x, .int .i64 y] t)).frozen? ⟨g, 1, none⟩ = false := by
  subst hg
  constructor <;> go_simp
/-- what a call behind an alloc leaves -/
theorem after_alloc {wr w1 : World} {t : TypeId} (hb : Below (wr.alloc (.cells #[.int .i64 0, .int .i64 0] t)).heap.size (wr.alloc (.cells #[.int .i64 0, .int .i64 0] t)) w1) :
    Hid (Below wr.heap.size wr w1) ∧ w1.cell? ⟨wr.heap.size, 0, none⟩ = some (.int .i64 0) ∧ w1.cell? ⟨wr.heap.size, 1, none⟩ = some (.int .i64 0) ∧ w1.frozen? ⟨wr.heap.size, 0, none⟩ = false ∧ w1.frozen? ⟨wr.heap.size, 1, none⟩ = false := by
  have h0 := (Below.refl wr.heap.size wr).alloc (Nat.le_refl _) (.cells #[.int .i64 0, .int .i64 0] t)
  exact ⟨h0.trans (hb.mono h0.size), (hb.cell (p := ⟨wr.heap.size, 0, none⟩) (by simp)).trans (ch_new wr 0 0 t _ rfl).1, (hb.cell (p := ⟨wr.heap.size, 1, none⟩) (by simp)).trans (ch_new wr 0 0 t _ rfl).2, (hb.frozen (p := ⟨wr.heap.size, 0, none⟩) (by simp)).trans (ch_froz wr 0 0 t _ rfl).1, (hb.frozen (p := ⟨wr.heap.size, 1, none⟩) (by simp)).trans (ch_froz wr 0 0 t _ rfl).2⟩
theorem after_alloc1 {wr w1 : World} {t : TypeId} (hb : Below (wr.alloc (.cells #[.int .i64 0, .int .i64 0] t)).drew.heap.size (wr.alloc (.cells #[.int .i64 0, .int .i64 0] t)).drew w1) :
    Hid (Below wr.heap.size wr w1) ∧ w1.cell? ⟨wr.heap.size, 0, none⟩ = some (.int .i64 0) ∧ w1.cell? ⟨wr.heap.size, 1, none⟩ = some (.int .i64 0) ∧ w1.frozen? ⟨wr.heap.size, 0, none⟩ = false ∧ w1.frozen? ⟨wr.heap.size, 1, none⟩ = false :=
  after_alloc (t := t) (Below.trans (Below.refl _ _).drew hb)
theorem ch_put {w : World} {g : Nat} {u0 u1 : Value} (h0 : w.cell? ⟨g, 0, none⟩ = some u0) (h1 : w.cell? ⟨g, 1, none⟩ = some u1) (x y : Int) :
    ((w.setCell ⟨g, 0, none⟩ (.int .i64 x)).setCell ⟨g, 1, none⟩ (.int .i64 y)).cell? ⟨g, 0, none⟩ = some (.int .i64 x) ∧ ((w.setCell ⟨g, 0, none⟩ (.int .i64 x)).setCell ⟨g, 1, none⟩ (.int .i64 y)).cell? ⟨g, 1, none⟩ = some (.int .i64 y) := by
  have n01 : (⟨g, 1, none⟩ : Addr) ≠ ⟨g, 0, none⟩ := by simp
  have n10 : (⟨g, 0, none⟩ : Addr) ≠ ⟨g, 1, none⟩ := by simp
  exact ⟨by rw [World.cell?_setCell_other _ _ _ _ n01, World.cell?_setCell_same _ _ _ h0], World.cell?_setCell_same _ _ _ ((World.cell?_setCell_other _ _ _ _ n10).trans h1)⟩
end Go.Proofs.YtjgkignnfkbeaaaTro

/-
  StepsTo of the model and of the program, where a sequential body stands for nearestTo, and the walk of FnExactStepsTo.
-/
namespace Go.Proofs.YtjgkignnfkbeaaaTro
open Go.RowKit
set_option linter.unusedVariables false
set_option maxRecDepth 20000

/-- a number -/
def Gives1 (a : Int) (w : World) (e : Ending) (w' : World) : Prop := e = .returned (.int .i64 a) ∧ Below w.heap.size w w'
/-- how many steps -/
def stP (n A B : Int) : Int := (dst n.toNat A.toNat B.toNat : Int)
theorem Voices.lens {n A B : Int} (h : Voices n A B) : (tonesTo A.toNat n.toNat).length = (tonesTo B.toNat n.toNat).length := by rw [← wt_len h.1, ← wt_len h.2.1]; exact h.2.2.2
theorem valid_lt {n A : Int} (h : Tic.Valid n A) : A.toNat < 2 ^ n.toNat := by
  obtain ⟨h1, h2, h3, h4⟩ := h
  omega
theorem Voices.pos {n A B : Int} (h : Voices n A B) : 0 < (tonesTo A.toNat n.toNat).length := len_pos (valid_lt h.1) (by have := h.1.2.2.1; have := h.2.2.1; omega)
theorem Voices.lk {n A B : Int} (h : Voices n A B) : Lk n.toNat A.toNat B.toNat := ⟨valid_lt h.2.1, h.lens.symm⟩
theorem Voices.ne0 {n A B : Int} (h : Voices n A B) : B ≠ 0 := fun e => by
  have h1 := h.lens
  have h2 := h.pos
  subst e
  have : ∀ k, (tonesTo 0 k).length = 0 := fun k => by
    induction k with
    | zero => rfl
    | succ k ih => rw [tonesTo_no (Nat.zero_testBit k)]; exact ih
  rw [show (0 : Int).toNat = 0 from rfl, this] at h1
  omega
theorem Voices.symm {n A B : Int} (h : Voices n A B) : Voices n B A := ⟨h.2.1, h.1, h.ne0, h.2.2.2.symm⟩
theorem iStepsTo_no (n A B : Int) (w : World) (h : ¬ Voices n A B) : Calls Tro.prog 26 #[.int .i64 n, .int .i64 A, .int .i64 B] w (Gives1 (-1) w) := by
  have HV : Hid (∀ w, Calls Tro.prog 41 #[.int .i64 n, .int .i64 A, .int .i64 B] w fun e w' => e = .returned (.bool false) ∧ Below w.heap.size w w') := Lib.hid (fun w => by have := validVoices_any n A B w; rw [vv_no h] at this; exact this)
  go_enter Tro.func26, Tro.ntmps26
  go_wp2_with fail
  refine (HV.out _).mono ?_; rintro e w1 ⟨rfl, hb1⟩
  go_wp2_with fail
  go_ret
  exact ⟨rfl, hb1⟩
theorem iStepsTo_yes (n A B : Int) (w : World) (h : Voices n A B) : Calls Tro.prog 26 #[.int .i64 n, .int .i64 A, .int .i64 B] w (Gives1 (stP n A B) w) := by
  have HV : Hid (∀ w, Calls Tro.prog 41 #[.int .i64 n, .int .i64 A, .int .i64 B] w fun e w' => e = .returned (.bool true) ∧ Below w.heap.size w w') := Lib.hid (fun w => by have := validVoices_any n A B w; rw [vv_yes h] at this; exact this)
  have HP : Hid (∀ w, Calls Tro.prog 42 #[.agg #[.int .i64 n, .int .i64 A], .agg #[.int .i64 n, .int .i64 B]] w fun e w' => ∃ p : Nat, e = .returned (.agg #[.int .i64 (p : Int), .int .i64 (stP n A B)]) ∧ Below w.heap.size w w') := Lib.hid (fun w => (stub_any n A B w h).mono (fun e w' ⟨h1, h2⟩ => ⟨_, h1, h2⟩))
  generalize stP n A B = d at *
  go_enter Tro.func26, Tro.ntmps26
  go_wp2_with fail
  refine (HV.out _).mono ?_; rintro e w1 ⟨rfl, hb1⟩
  have HB1 := Lib.hid hb1
  clear hb1
  go_wp2_with fail
  refine (HP.out _).mono ?_; rintro e w2 ⟨p, rfl, hb2⟩
  have HB2 := Lib.hid (HB1.out.trans (hb2.mono HB1.out.size))
  have hfl := far_of (p : Int) d
  clear hb2
  go_wp2
  go_ret
  exact ⟨rfl, HB2.out⟩
theorem sStepsTo_no (n A B : Int) (w : World) (h : ¬ Voices n A B) : Calls Tro.prog 27 #[.int .i64 n, .int .i64 A, .int .i64 B] w (Gives1 (-1) w) := by
  have HV : Hid (∀ w, Calls Tro.prog 44 #[.int .i64 n, .int .i64 A, .int .i64 B] w fun e w' => e = .returned (.bool false) ∧ w = w') := Lib.hid (fun w => by have := validPair_any n A B w; rw [vv_no h] at this; exact this)
  go_enter Tro.func27, Tro.ntmps27
  go_wp2_with fail
  refine (HV.out _).mono ?_; rintro e w1 ⟨rfl, rfl⟩
  go_wp2_with fail
  go_ret
  exact ⟨rfl, Below.refl _ _⟩
theorem sStepsTo_yes (n A B : Int) (w : World) (h : Voices n A B) : Calls Tro.prog 27 #[.int .i64 n, .int .i64 A, .int .i64 B] w (Gives1 (stP n A B) w) := by
  have HV : Hid (∀ w, Calls Tro.prog 44 #[.int .i64 n, .int .i64 A, .int .i64 B] w fun e w' => e = .returned (.bool true) ∧ w = w') := Lib.hid (fun w => by have := validPair_any n A B w; rw [vv_yes h] at this; exact this)
  have HF : Hid (∀ w, Calls Tro.prog 55 #[.int .i64 n, .int .i64 A] w fun e w' => ∃ v O, e = .returned v ∧ Row w' w.heap.size v O ∧ O.length = 2 ^ n.toNat ∧ O.getD B.toNat 0 = stP n A B ∧ Below w.heap.size w w') := Lib.hid (fun w => (fars_any n A w h.1 h.2.2.1).mono (fun e w' ⟨v, O, h1, h2, h3, h4, h5⟩ => ⟨v, O, h1, h2, h3, by
    rw [h4 _ h.lk]
    unfold stP
    rw [dst_symm (by have := h.1.2.1; omega) (by have := h.1.1; omega) h.lk.2 h.pos], h5⟩))
  have hBl := valid_lt h.2.1
  have hB0 := h.2.1.2.2.1
  obtain ⟨S, rfl⟩ := Int.eq_ofNat_of_zero_le hB0
  rw [Int.toNat_natCast] at *
  generalize stP n A (S : Int) = d at *
  generalize 2 ^ n.toNat = p at *
  clear h
  go_enter Tro.func27, Tro.ntmps27
  go_wp2_with fail
  refine (HV.out _).mono ?_; rintro e w1 ⟨rfl, rfl⟩
  go_wp2_with fail
  refine (HF.out _).mono ?_; rintro e w2 ⟨v, O, rfl, hr, hl, ho, hb⟩
  obtain ⟨g, c, rfl, hg, hgl, hcell, _⟩ := hr.cases.resolve_left (fun q => by rw [q.2] at hl; simp at hl; omega)
  have c0 := hcell S (by omega)
  rw [ho] at c0
  rw [hl]
  have s0 : (0 : Int) ≤ (S : Int) := by omega
  have s1 : (S : Int) < (p : Int) := by omega
  have HB := Lib.hid hb
  clear hcell hr hl ho hb
  go_wp2
  go_ret
  exact ⟨rfl, HB.out⟩
theorem FnExactStepsTo_core (a0 a1 a2 d : Int) (hs : ∀ w, Calls Tro.prog 27 #[.int .i64 a0, .int .i64 a1, .int .i64 a2] w (Gives1 d w)) (hi : ∀ w, Calls Tro.prog 26 #[.int .i64 a0, .int .i64 a1, .int .i64 a2] w (Gives1 d w)) (w : World) :
    Calls Tro.prog 9 #[.int .i64 a0, .int .i64 a1, .int .i64 a2] w fun e w' => e = .returned (.bool true) ∧ Below w.heap.size w w' := by
  have HS := Lib.hid hs
  have HI := Lib.hid hi
  clear hs hi
  go_enter Tro.func9, Tro.ntmps9
  go_wp2_with fail
  refine (HS.out _).mono ?_; rintro e w1 ⟨rfl, b1⟩
  have B1 := Lib.hid b1
  have hz := b1.size
  clear b1
  go_wp2_with fail
  refine (HI.out _).mono ?_; rintro e w2 ⟨rfl, b2⟩
  have B2 := Lib.hid (B1.out.trans (b2.mono hz))
  clear b2
  go_wp2_with fail
  go_ret
  exact ⟨rfl, B2.out⟩
theorem FnExactStepsTo_walk (a0 a1 a2 : Int) (w : World) :
    Calls Tro.prog 9 #[.int .i64 a0, .int .i64 a1, .int .i64 a2] w fun e w' => e = .returned (.bool true) ∧ Below w.heap.size w w' := by
  rcases Classical.em (Voices a0 a1 a2) with h | h
  · exact FnExactStepsTo_core _ _ _ _ (fun w => sStepsTo_yes _ _ _ w h) (fun w => iStepsTo_yes _ _ _ w h) w
  · exact FnExactStepsTo_core _ _ _ _ (fun w => sStepsTo_no _ _ _ w h) (fun w => iStepsTo_no _ _ _ w h) w
end Go.Proofs.YtjgkignnfkbeaaaTro

/-
  Contracts of the reader of drawn numbers: newReader, pick, one.
-/
namespace Go.Proofs.YtjgkignnfkbeaaaTro
open Go.RowKit
set_option linter.unusedVariables false

/-- a row of bytes that can be read -/
def Bytes (w : World) (x : Option Addr) (len : Nat) (zs : List Int) : Prop :=
  len = 0 ∨ ∃ g o, x = some ⟨g, o, none⟩ ∧ g < w.heap.size ∧ ∀ i, i < len → w.cell? ⟨g, o + i, none⟩ = some (.int .u8 (zs.getD i 0)) ∧ 0 ≤ zs.getD i 0 ∧ zs.getD i 0 ≤ 255

/-- the reader in block B has drawn p numbers -/
def Rd (w : World) (B p : Nat) : Prop := ∃ (x : Option Addr) (len cap : Nat) (zs : List Int), len ≤ 2000 ∧ w.cell? ⟨B, 0, none⟩ = some (.slice x len cap) ∧ w.cell? ⟨B, 1, none⟩ = some (.int .i64 p) ∧ w.frozen? ⟨B, 1, none⟩ = false ∧
  B < w.heap.size ∧ (len = 0 ∨ ∃ g o, x = some ⟨g, o, none⟩ ∧ g < B ∧ ∀ i, i < len → w.cell? ⟨g, o + i, none⟩ = some (.int .u8 (zs.getD i 0)) ∧ 0 ≤ zs.getD i 0 ∧ zs.getD i 0 ≤ 255)

/-- what a draw gives -/
def Picks (n : Int) (B p : Nat) (w : World) (e : Ending) (w' : World) : Prop :=
  ∃ r : Int, e = .returned (.int .i64 r) ∧ 0 ≤ r ∧ (1 ≤ n → r < n) ∧ (n < 1 → r = 0) ∧ Rd w' B (p + 1) ∧ w.grownBy w' (some B)

/-- the reader behind a draw -/
theorem Rd.step {w : World} {B p : Nat} (h : Rd w B p) : Rd (w.setCell ⟨B, 1, none⟩ (.int .i64 ((p : Int) + 1))) B (p + 1) ∧ w.grownBy (w.setCell ⟨B, 1, none⟩ (.int .i64 ((p : Int) + 1))) (some B) := by
  obtain ⟨x, len, cap, zs, hlen, c0, c1, f1, hB, hb⟩ := h
  refine ⟨⟨x, len, cap, zs, hlen, ?_, ?_, by simpa using f1, by simpa using hB, ?_⟩, ⟨rfl, rfl, rfl, by simp, fun k _ hk => heap_setCell_other w ⟨B, 1, none⟩ k _ (fun e => hk (by simp [e]))⟩⟩
  · rw [World.cell?_setCell_other _ _ _ _ (by simp)]; exact c0
  · exact World.cell?_setCell_same _ _ _ c1
  · rcases hb with hb | ⟨g, o, rfl, hg, hcell⟩
    · exact .inl hb
    · refine .inr ⟨g, o, rfl, hg, fun i hi => ?_⟩
      rw [World.cell?_setCell_other _ _ _ _ (by intro e; injection e with e1 e2 e3; omega)]; exact hcell i hi
theorem Rd.drew {w : World} {B p : Nat} (h : Rd w B p) : Rd w.drew B p := h
theorem grown_drew {w w' : World} {r : Option Nat} (h : w.grownBy w' r) : w.grownBy w'.drew r := ⟨h.os, h.tape, h.output, h.size, h.block⟩

theorem i64_xor_nat (a b : Nat) (ha : a < 4611686018427387904) (hb : b < 4611686018427387904) : bits .xor .i64 (a : Int) (b : Int) = ((a ^^^ b : Nat) : Int) := by
  have hx : a ^^^ b < 2 ^ 62 := Nat.xor_lt_two_pow (by omega) (by omega)
  show IntKind.i64.wrap ((BitVec.ofInt 64 (a : Int) ^^^ BitVec.ofInt 64 (b : Int)).toNat : Int) = _
  rw [BitVec.toNat_xor, ofInt_i64 a ha, ofInt_i64 b hb]
  exact IntWalk.i64_in _ (by omega)
theorem xor_bd {X : Int} (h0 : 0 ≤ X) (h1 : X ≤ 100000000) : 0 ≤ bits .xor .i64 X (X / 64) ∧ bits .xor .i64 X (X / 64) ≤ 1000000000 := by
  obtain ⟨N, rfl⟩ := Int.eq_ofNat_of_zero_le h0
  have e : (N : Int) / 64 = ((N / 64 : Nat) : Int) := by omega
  rw [e, i64_xor_nat N (N / 64) (by omega) (by omega)]
  have hx : N ^^^ (N / 64) < 2 ^ 27 := Nat.xor_lt_two_pow (by omega) (by omega)
  omega

set_option maxRecDepth 20000 in
set_option maxHeartbeats 1000000 in
theorem pick_any (n : Int) (B p : Nat) (w : World) (h : Rd w B p) (hp : p ≤ 10000) (hn : -1000 ≤ n) (hn2 : n ≤ 100000) :
    Calls Tro.prog 62 #[.pointer (some ⟨B, 0, none⟩), .int .i64 n] w (Picks n B p w) := by
  have HS := Lib.hid h.step
  obtain ⟨x, len, cap, zs, hlen, c0, c1, f1, hB, hb⟩ := h
  by_cases hz : n < 1
  · go_enter Tro.func62, Tro.ntmps62
    go_wp2
    go_ret
    exact ⟨0, rfl, Int.le_refl _, by omega, fun _ => rfl, HS.out.1, HS.out.2⟩
  · rcases hb with hb | ⟨g, o, rfl, hg, hcell⟩
    · subst hb
      go_enter Tro.func62, Tro.ntmps62
      go_wp2
      go_ret
      exact ⟨0, rfl, Int.le_refl _, by omega, fun _ => rfl, HS.out.1, HS.out.2⟩
    · by_cases hl0 : len = 0
      · subst hl0
        go_enter Tro.func62, Tro.ntmps62
        go_wp2
        go_ret
        exact ⟨0, rfl, Int.le_refl _, by omega, fun _ => rfl, HS.out.1, HS.out.2⟩
      · by_cases hpl : p < len
        · obtain ⟨h1, h2, h3⟩ := hcell p hpl
          generalize zs.getD p 0 = z at h1 h2 h3
          clear hcell
          go_enter Tro.func62, Tro.ntmps62
          go_wp2
          go_ret
          refine ⟨z % n, rfl, Int.emod_nonneg _ (by omega), fun _ => Int.emod_lt_of_pos _ (by omega), fun h => by omega, HS.out.1, HS.out.2⟩
        · obtain ⟨h1, h2, h3⟩ := hcell (p % len) (Nat.mod_lt _ (by omega))
          obtain ⟨h4, h5, h6⟩ := hcell ((p * 7 + 3) % len) (Nat.mod_lt _ (by omega))
          generalize zs.getD (p % len) 0 = z at h1 h2 h3
          generalize zs.getD ((p * 7 + 3) % len) 0 = y at h4 h5 h6
          clear hcell
          have i1 := Int.emod_nonneg (p : Int) (b := (len : Int)) (by omega)
          have i2 := Int.emod_lt_of_pos (p : Int) (b := (len : Int)) (by omega)
          have i3 := Int.emod_nonneg ((p : Int) * 7 + 3) (b := (len : Int)) (by omega)
          have i4 := Int.emod_lt_of_pos ((p : Int) * 7 + 3) (b := (len : Int)) (by omega)
          obtain ⟨i5, i6⟩ := Tic.div_bd p len
          go_enter Tro.func62, Tro.ntmps62
          go_wp2
          go_region
          have x0 : 0 ≤ z * 131 + y * 1117 + (p : Int) * 29 + (p : Int) / (len : Int) * 53 := by omega
          have x1 : z * 131 + y * 1117 + (p : Int) * 29 + (p : Int) / (len : Int) * 53 ≤ 100000000 := by omega
          clear i1 i2 i3 i4 i5 i6
          generalize z * 131 + y * 1117 + (p : Int) * 29 + (p : Int) / (len : Int) * 53 = X at x0 x1
          obtain ⟨y0, y1⟩ := xor_bd x0 x1
          go_wp2
          go_ret
          exact ⟨bits .xor .i64 X (X / 64) % n, rfl, Int.emod_nonneg _ (by omega), fun _ => Int.emod_lt_of_pos _ (by omega), fun h => by omega, HS.out.1, grown_drew HS.out.2⟩

/-- the reader was made; nothing that was there is written -/
def Made (w : World) (e : Ending) (w' : World) : Prop := e = .returned (.pointer (some ⟨w.heap.size, 0, none⟩)) ∧ Rd w' w.heap.size 0 ∧ Below w.heap.size w w' ∧ w.heap.size < w'.heap.size

theorem rd_new {w : World} {x : Option Addr} {len cap : Nat} {zs : List Int} {t : TypeId} (hl : len ≤ 2000) (hb : Bytes w x len zs) : Rd (w.alloc (.cells #[.slice x len cap, .int .i64 0] t)) w.heap.size 0 := by
  refine ⟨x, len, cap, zs, hl, ?_, ?_, ?_, by simp, ?_⟩
  · go_simp
  · go_simp
  · go_simp
  · rcases hb with hb | ⟨g, o, rfl, hg, hc⟩
    · exact .inl hb
    · refine .inr ⟨g, o, rfl, hg, fun i hi => ?_⟩
      obtain ⟨h1, h2, h3⟩ := hc i hi
      exact ⟨((Below.refl w.heap.size w).alloc (Nat.le_refl _) _ |>.cell (p := ⟨g, o + i, none⟩) hg).trans h1, h2, h3⟩

theorem newReader_any (x : Option Addr) (len cap : Nat) (zs : List Int) (w : World) (hb : Bytes w x len zs) (hlc : len ≤ cap) (hc : cap ≤ maxLen) :
    Calls Tro.prog 40 #[.slice x len cap] w (Made w) := by
  unfold maxLen at hc
  by_cases hl : len ≤ 2000
  · have HR := fun t => rd_new (t := t) (cap := cap) hl hb
    have HR := Lib.hid HR
    go_enter Tro.func40, Tro.ntmps40
    go_wp2
    go_ret
    exact ⟨rfl, HR.out _, (Below.refl _ _).alloc (Nat.le_refl _) _, by simp⟩
  · have hb2 : Bytes w x 2000 zs := by
      rcases hb with hb | ⟨g, o, rfl, hg, hc⟩
      · omega
      · exact .inr ⟨g, o, rfl, hg, fun i hi => hc i (by omega)⟩
    have HR := fun t => rd_new (t := t) (cap := cap) (Nat.le_refl 2000) hb2
    have HR := Lib.hid HR
    rcases hb with hb | ⟨g, o, rfl, hg, hc⟩
    · omega
    · clear hc
      go_enter Tro.func40, Tro.ntmps40
      go_wp2
      go_ret
      exact ⟨rfl, HR.out _, (Below.refl _ _).alloc (Nat.le_refl _) _, by simp⟩

/-- one of the numbers L is drawn -/
def Ones (L : List Int) (B p : Nat) (w : World) (e : Ending) (w' : World) : Prop := ∃ y, y ∈ L ∧ e = .returned (.int .i64 y) ∧ Rd w' B (p + 1) ∧ w.grownBy w' (some B)

theorem one_any (v : Value) (BL : Nat) (L : List Int) (B p : Nat) (w : World) (h : Rd w B p) (hp : p ≤ 10000) (hr : Row w BL v L) (hv : v.ownBlock ≠ some B) (hne : L ≠ []) (hl4 : L.length ≤ 4096) :
    Calls Tro.prog 80 #[.pointer (some ⟨B, 0, none⟩), v] w (Ones L B p w) := by
  have hl2 := hr.2
  have hl0 : 0 < L.length := List.length_pos_iff.2 hne
  have HK : Hid (∀ w', w.grownBy w' (some B) → Row w' BL v L) := fun w' hg => ⟨hr.1.kept hg (.inr hv), hr.2⟩
  rcases hr.cases with ⟨_, e⟩ | ⟨g, c, rfl, _, hg, hc, _⟩
  · exact absurd e hne
  generalize hn : L.length = n at hl2 hl0 hc hl4
  have HN := Lib.hid hn
  clear hn hc hv hne hr
  go_enter Tro.func80, Tro.ntmps80
  go_wp2_with fail
  refine (pick_any _ _ _ _ h hp (by omega) (by omega)).mono ?_; rintro e w1 ⟨r, rfl, h0, h1, _, hrd, hgr⟩
  have h2 := h1 (by omega)
  obtain ⟨R, rfl⟩ := Int.eq_ofNat_of_zero_le h0
  have hRn : R < n := by omega
  have hc1 : w1.cell? ⟨g, R, none⟩ = some (.int .i64 (L.getD R 0)) := by
    rcases (HK.out w1 hgr).cases with ⟨e, _⟩ | ⟨g', c', e, _, _, hc, _⟩
    · cases e
    · simp only [Value.slice.injEq, Option.some.injEq, Addr.mk.injEq, and_true, true_and] at e
      obtain ⟨rfl, _, rfl⟩ := e
      exact hc R (by rw [HN.out]; exact hRn)
  have hmem : L.getD R 0 ∈ L := by
    rw [List.getD_eq_getElem?_getD, List.getElem?_eq_getElem (by rw [HN.out]; exact hRn)]
    exact List.getElem_mem _
  have HM := Lib.hid hmem
  have HRD := Lib.hid hrd
  have HG := Lib.hid hgr
  clear hmem hrd hgr h1
  generalize L.getD R 0 = y at hc1 HM
  go_wp2
  go_ret
  exact ⟨y, HM.out, rfl, HRD.out, HG.out⟩

end Go.Proofs.YtjgkignnfkbeaaaTro

/-
  Contracts of the drawn arguments: circles, sets, shifts.
-/
namespace Go.Proofs.YtjgkignnfkbeaaaTro
open Go.RowKit
set_option linter.unusedVariables false

theorem grown_trans {a b c : World} {r : Option Nat} (h : a.grownBy b r) (k : b.grownBy c r) : a.grownBy c r :=
  ⟨k.os.trans h.os, k.tape.trans h.tape, k.output.trans h.output, Nat.le_trans h.size k.size, fun i hi hr => (k.block i (Nat.lt_of_lt_of_le hi h.size) hr).trans (h.block i hi hr)⟩
theorem grown_alloc (w : World) (o : Obj) (r : Option Nat) : w.grownBy (w.alloc o) r := World.grownBy_alloc w o r
theorem grown_below {w w' : World} {r : Option Nat} (hb : Below w.heap.size w w') : w.grownBy w' r := ⟨hb.os, hb.tape, hb.output, hb.size, fun k hk _ => hb.block k hk⟩
theorem Rd.kept {w w' : World} {B p : Nat} (h : Rd w B p) (hb : Below w.heap.size w w') : Rd w' B p := by
  obtain ⟨x, len, cap, zs, hlen, c0, c1, f1, hB, hb2⟩ := h
  refine ⟨x, len, cap, zs, hlen, (hb.cell (p := ⟨B, 0, none⟩) hB).trans c0, (hb.cell (p := ⟨B, 1, none⟩) hB).trans c1, (hb.frozen (p := ⟨B, 1, none⟩) hB).trans f1, Nat.lt_of_lt_of_le hB hb.size, ?_⟩
  rcases hb2 with hb2 | ⟨g, o, e, hg, hc⟩
  · exact .inl hb2
  · exact .inr ⟨g, o, e, hg, fun i hi => ⟨(hb.cell (p := ⟨g, o + i, none⟩) (Nat.lt_trans hg hB)).trans (hc i hi).1, (hc i hi).2⟩⟩
theorem Rd.alloc {w : World} {B p : Nat} (h : Rd w B p) (o : Obj) : Rd (w.alloc o) B p := h.kept ((Below.refl _ _).alloc (Nat.le_refl _) _)
theorem Rd.lt {w : World} {B p : Nat} (h : Rd w B p) : B < w.heap.size := by obtain ⟨_, _, _, _, _, _, _, _, hB, _⟩ := h; exact hB

/-- a number from lo to hi is drawn, by at most c draws -/
def Dr (lo hi : Int) (c B p : Nat) (w : World) (e : Ending) (w' : World) : Prop :=
  ∃ (y : Int) (p' : Nat), e = .returned (.int .i64 y) ∧ lo ≤ y ∧ y ≤ hi ∧ p' ≤ p + c ∧ Rd w' B p' ∧ w.grownBy w' (some B)

theorem row_lit (w : World) (L : List Int) (hl : L.length ≤ 4096) : Row (w.alloc (.cells (L.map (Value.int .i64)).toArray 3)) w.heap.size (.slice (some ⟨w.heap.size, 0, none⟩) L.length L.length) L := by
  refine ⟨?_, by omega⟩
  have := World.ownsRow_lit (base := w.heap.size) (e := 3) (size := 1) w (L.map (Value.int .i64)).toArray L.length (Nat.le_refl _) (by unfold maxLen; omega) (by simp)
  simpa using this

/-- one of the numbers of a list just written out -/
theorem one_lit (L : List Int) (cs : Array Value) (n : Nat) (lo hi : Int) (B p : Nat) (w : World) (hcs : cs = (L.map (Value.int .i64)).toArray) (hn : n = L.length) (h : Rd w B p) (hp : p ≤ 10000) (hl : L.length ≤ 4096) (hne : L ≠ [])
    (hlo : ∀ y ∈ L, lo ≤ y ∧ y ≤ hi) :
    Calls Tro.prog 80 #[.pointer (some ⟨B, 0, none⟩), .slice (some ⟨w.heap.size, 0, none⟩) n n] (w.alloc (.cells cs 3)) (Dr lo hi 1 B p w) := by
  subst hcs hn
  refine (one_any _ _ L B p _ (h.alloc _) hp (row_lit w L hl) ?_ hne hl).mono ?_
  · intro e
    have := h.lt
    simp [Value.ownBlock] at e
    omega
  · rintro e w' ⟨y, hy, rfl, hr, hg⟩
    exact ⟨y, p + 1, rfl, (hlo y hy).1, (hlo y hy).2, by omega, hr, grown_trans (grown_alloc _ _ _) hg⟩

theorem circle_any (B p : Nat) (w : World) (h : Rd w B p) (hp : p ≤ 9000) :
    Calls Tro.prog 72 #[.pointer (some ⟨B, 0, none⟩)] w (Dr (-1) 13 2 B p w) := by
  go_enter Tro.func72, Tro.ntmps72
  go_wp2_with fail
  refine (pick_any _ _ _ _ h (by omega) (by omega) (by omega)).mono ?_; rintro e w1 ⟨r, rfl, h0, h1, _, hrd, hgr⟩
  have HRD := Lib.hid hrd
  have HG := Lib.hid hgr
  clear hrd hgr h1
  by_cases hr : r = 0
  · subst hr
    go_wp2_with fail
    refine (one_lit [2, 13, 0, -1] _ _ (-1) 13 _ _ _ rfl rfl HRD.out (by omega) (by decide) (by decide) (by decide)).mono ?_; rintro e w2 ⟨y, p', rfl, y0, y1, hp', hrd, hgr⟩
    go_wp2_with fail
    go_ret
    exact ⟨y, p', rfl, y0, y1, by omega, hrd, grown_trans HG.out hgr⟩
  · go_wp2_with fail
    refine (one_lit [12, 7, 8, 12, 5, 6, 10, 9, 11, 4, 3] _ _ (-1) 13 _ _ _ rfl rfl HRD.out (by omega) (by decide) (by decide) (by decide)).mono ?_; rintro e w2 ⟨y, p', rfl, y0, y1, hp', hrd, hgr⟩
    go_wp2_with fail
    go_ret
    exact ⟨y, p', rfl, y0, y1, by omega, hrd, grown_trans HG.out hgr⟩

theorem spread_any (n k m : Int) (w : World) (h1 : 1 ≤ n) (h2 : n ≤ 12) (h3 : 1 ≤ k) (h4 : k ≤ 12) (h5 : 0 ≤ m) (h6 : m ≤ 12) :
    Calls Tro.prog 81 #[.int .i64 n, .int .i64 k, .int .i64 m] w fun e w' => ∃ y : Int, e = .returned (.int .i64 y) ∧ 0 ≤ y ∧ y ≤ 50000 ∧ w = w' := by
  obtain ⟨N, rfl⟩ := Int.eq_ofNat_of_zero_le (show 0 ≤ n by omega)
  obtain ⟨K, rfl⟩ := Int.eq_ofNat_of_zero_le (show 0 ≤ k by omega)
  obtain ⟨M, rfl⟩ := Int.eq_ofNat_of_zero_le h5
  have HP : Hid (∃ Q : Ending → World → Prop, Q = fun e w' => ∃ y : Int, e = .returned (.int .i64 y) ∧ 0 ≤ y ∧ y ≤ 50000 ∧ w = w') := ⟨_, rfl⟩
  obtain ⟨Q, hQ⟩ := HP.out
  rw [← hQ]
  have HQ := Lib.hid hQ
  clear hQ HP
  go_enter Tro.func81, Tro.ntmps81
  go_wp2
  go_loop [7, 8] (fun t7 t8 => ∃ i y : Nat, i ≤ K ∧ y ≤ i * 4096 ∧ t8 = .int .i64 i ∧ t7 = .int .i64 y) (fun _ t8 => K - (intOf t8).toNat)
  case atStart => exact ⟨0, 0, by omega, by omega, rfl, rfl⟩
  case round =>
    obtain ⟨i, y, hi, hy, rfl, rfl⟩ := hrel
    by_cases hlt : i < K
    · have a1 : i * N ≤ 144 := by have := Nat.mul_le_mul (show i ≤ 12 by omega) (show N ≤ 12 by omega); omega
      have a2 : (0 : Int) ≤ (i : Int) * (N : Int) := by rw [← Int.natCast_mul]; omega
      have a3 : (i : Int) * (N : Int) ≤ 144 := by rw [← Int.natCast_mul]; omega
      have a4 : 0 ≤ ((i : Int) * (N : Int) + (M : Int)) / (K : Int) := Int.ediv_nonneg (by omega) (by omega)
      have a5 : ((i : Int) * (N : Int) + (M : Int)) / (K : Int) ≤ 200 := by
        have := Int.ediv_le_self (K : Int) (show 0 ≤ (i : Int) * (N : Int) + (M : Int) by omega); omega
      have a6 := Int.emod_nonneg (((i : Int) * (N : Int) + (M : Int)) / (K : Int)) (b := (N : Int)) (by omega)
      have a7 := Int.emod_lt_of_pos (((i : Int) * (N : Int) + (M : Int)) / (K : Int)) (b := (N : Int)) (by omega)
      have hp : 2 ^ (((i : Int) * (N : Int) + (M : Int)) / (K : Int) % (N : Int)).toNat ≤ 4096 := Tic.pow_le_12 (by omega)
      go_wp2_with fail
      refine (power_any _ _ (by omega) (by omega)).mono ?_; rintro e w1 ⟨rfl, rfl⟩
      generalize 2 ^ (((i : Int) * (N : Int) + (M : Int)) / (K : Int) % (N : Int)).toNat = P at hp
      clear a1 a2 a3 a4 a5 a6 a7
      go_wp2
      go_round
      case rel => exact ⟨i + 1, y + P, by omega, by omega, by go_num, by go_num⟩
      case measure => simp [intOf]; omega
    · have : i = K := by omega
      subst this
      go_wp2
      rw [HQ.out]
      exact ⟨y, rfl, by omega, by omega, rfl⟩

theorem power_ex (n : Int) (w : World) (h0 : 0 ≤ n) (h1 : n ≤ 12) :
    Calls Tro.prog 65 #[.int .i64 n] w fun e w' => ∃ P : Nat, e = .returned (.int .i64 P) ∧ 1 ≤ P ∧ P ≤ 4096 ∧ w = w' :=
  (power_any n w h0 (by omega)).mono fun e w' ⟨h2, h3⟩ => ⟨_, h2, Nat.one_le_two_pow, Tic.pow_le_12 h1, h3⟩
theorem and_bd {x y : Int} (h0 : 0 ≤ x) (h1 : x ≤ 100000) (h2 : 0 ≤ y) (h3 : y ≤ 100000) : 0 ≤ bits .and .i64 x y ∧ bits .and .i64 x y ≤ x := by
  obtain ⟨a, rfl⟩ := Int.eq_ofNat_of_zero_le h0
  obtain ⟨b, rfl⟩ := Int.eq_ofNat_of_zero_le h2
  rw [i64_and_nat a b (by omega) (by omega)]
  have := Nat.and_le_left (n := a) (m := b)
  omega
/-- a draw of a number, as the walks use it -/
def Pk (n : Int) (B p : Nat) (w : World) (e : Ending) (w' : World) : Prop := ∃ r : Int, e = .returned (.int .i64 r) ∧ 0 ≤ r ∧ r < n ∧ Hid (Rd w' B (p + 1)) ∧ Hid (w.grownBy w' (some B))
theorem pick_pos (n : Int) (B p : Nat) (w : World) (h : Rd w B p) (hp : p ≤ 10000) (hn : 1 ≤ n) (hn2 : n ≤ 100000) :
    Calls Tro.prog 62 #[.pointer (some ⟨B, 0, none⟩), .int .i64 n] w (Pk n B p w) :=
  (pick_any n B p w h hp (by omega) hn2).mono fun e w' ⟨r, h1, h2, h3, _, h5, h6⟩ => ⟨r, h1, h2, h3 hn, h5, h6⟩

set_option maxRecDepth 20000 in
set_option maxHeartbeats 2000000 in
theorem setOf_any (n : Int) (B p : Nat) (w : World) (h : Rd w B p) (hp : p ≤ 8000) (hn : -1000 ≤ n) (hn2 : n ≤ 1000) :
    Calls Tro.prog 61 #[.pointer (some ⟨B, 0, none⟩), .int .i64 n] w (Dr (-1) 1000000 8 B p w) := by
  have H := Lib.hid h
  clear h
  rcases (show n < 0 ∨ (0 ≤ n ∧ n ≤ 2) ∨ (2 < n ∧ n ≤ 12) ∨ 12 < n by omega) with c | ⟨c, c2⟩ | ⟨c, c2⟩ | c
  all_goals
    go_enter Tro.func61, Tro.ntmps61
    go_wp2_with fail
    refine (pick_pos _ _ _ _ H.out (by omega) (by omega) (by omega)).mono ?_; rintro e w1 ⟨r0, rfl, h0, h1, H1, G1⟩
    by_cases hr0 : r0 = 0
    · subst hr0
      go_wp2_with fail
      refine (power_ex _ _ (by omega) (by omega)).mono ?_; rintro e w2 ⟨P, rfl, p1, p2, rfl⟩
      go_wp2_with fail
      refine (one_lit [-1, (P : Int), 0] _ _ (-1) 1000000 _ _ _ rfl rfl H1.out (by omega) (by simp) (by simp) ?_).mono ?_
      · intro y hy; simp at hy; omega
      rintro e w2 ⟨y, p', rfl, y0, y1, hp', hrd, hgr⟩
      go_wp2_with fail
      go_ret
      exact ⟨y, p', rfl, y0, y1, by omega, hrd, grown_trans G1.out hgr⟩
    · go_wp2_with fail
      refine (pick_pos _ _ _ _ H1.out (by omega) (by omega) (by omega)).mono ?_; rintro e w2 ⟨r1, rfl, h2, h3, H2, G2⟩
      replace G2 := Lib.hid (grown_trans G1.out G2.out)
      clear H1 G1
      go_wp2_with fail
      refine (pick_pos _ _ _ _ H2.out (by omega) (by omega) (by omega)).mono ?_; rintro e w3 ⟨r2, rfl, h4, h5, H3, G3⟩
      replace G3 := Lib.hid (grown_trans G2.out G3.out)
      clear H2 G2
      go_wp2_with fail
      refine (power_ex _ _ (by omega) (by omega)).mono ?_; rintro e w4 ⟨P, rfl, p1, p2, rfl⟩
      have x0 := Int.emod_nonneg (r1 + 256 * r2) (b := (P : Int)) (by omega)
      have x1 := Int.emod_lt_of_pos (r1 + 256 * r2) (b := (P : Int)) (by omega)
      go_wp2_with fail
      refine (pick_pos _ _ _ _ H3.out (by omega) (by omega) (by omega)).mono ?_; rintro e w5 ⟨r3, rfl, h6, h7, H4, G4⟩
      replace G4 := Lib.hid (grown_trans G3.out G4.out)
      clear H3 G3
      generalize (r1 + 256 * r2) % (P : Int) = x at x0 x1
      rcases (show r3 = 0 ∨ r3 = 1 ∨ (r3 ≠ 0 ∧ r3 ≠ 1) by omega) with c3 | c3 | ⟨c3, c4⟩
      · subst c3
        go_wp2_with fail
        refine (pick_pos _ _ _ _ H4.out (by omega) (by omega) (by omega)).mono ?_; rintro e w6 ⟨r4, rfl, h8, h9, H5, G5⟩
        replace G5 := Lib.hid (grown_trans G4.out G5.out)
        clear H4 G4
        go_wp2_with fail
        refine (pick_pos _ _ _ _ H5.out (by omega) (by omega) (by omega)).mono ?_; rintro e w7 ⟨r5, rfl, h10, h11, H6, G6⟩
        replace G6 := Lib.hid (grown_trans G5.out G6.out)
        clear H5 G5
        obtain ⟨z0, z1⟩ := and_bd (x := x) (y := r4 + 256 * r5) x0 (by omega) (by omega) (by omega)
        go_wp2
        go_ret
        exact ⟨_, _, rfl, by omega, by omega, by omega, H6.out, G6.out⟩
      · subst c3
        first
          | (exfalso; omega)
          | (go_wp2_with fail
             go_ret
             exact ⟨x, _, rfl, by omega, by omega, by omega, H4.out, G4.out⟩)
          | (go_wp2_with fail
             refine (pick_pos _ _ _ _ H4.out (by omega) (by omega) (by omega)).mono ?_; rintro e w6 ⟨r4, rfl, h8, h9, H5, G5⟩
             replace G5 := Lib.hid (grown_trans G4.out G5.out)
             clear H4 G4
             go_wp2_with fail
             refine (pick_pos _ _ _ _ H5.out (by omega) (by omega) (by omega)).mono ?_; rintro e w7 ⟨r5, rfl, h10, h11, H6, G6⟩
             replace G6 := Lib.hid (grown_trans G5.out G6.out)
             clear H5 G5
             go_wp2_with fail
             refine (spread_any _ _ _ _ (by omega) (by omega) (by omega) (by omega) (by omega) (by omega)).mono ?_; rintro e w8 ⟨y, rfl, y0, y1, rfl⟩
             go_wp2_with fail
             go_ret
             exact ⟨y, _, rfl, by omega, by omega, by omega, H6.out, G6.out⟩)
      · go_wp2_with fail
        go_ret
        exact ⟨x, _, rfl, by omega, by omega, by omega, H4.out, G4.out⟩

/-- a circle and a set of its tones are drawn -/
def DrSet (c B p : Nat) (w : World) (e : Ending) (w' : World) : Prop :=
  ∃ (n s : Int) (p' : Nat), e = .returned (.tuple #[.int .i64 n, .int .i64 s]) ∧ -1 ≤ n ∧ n ≤ 13 ∧ -1 ≤ s ∧ s ≤ 1000000 ∧ p' ≤ p + c ∧ Rd w' B p' ∧ w.grownBy w' (some B)
theorem aSet_any (B p : Nat) (w : World) (h : Rd w B p) (hp : p ≤ 7000) :
    Calls Tro.prog 50 #[.pointer (some ⟨B, 0, none⟩)] w (DrSet 10 B p w) := by
  go_enter Tro.func50, Tro.ntmps50
  go_wp2_with fail
  refine (circle_any _ _ _ h (by omega)).mono ?_; rintro e w1 ⟨n, p1, rfl, n0, n1, hp1, hr1, hg1⟩
  have H1 := Lib.hid hr1
  have G1 := Lib.hid hg1
  clear hr1 hg1
  go_wp2_with fail
  refine (setOf_any _ _ _ _ H1.out (by omega) (by omega) (by omega)).mono ?_; rintro e w2 ⟨s, p2, rfl, s0, s1, hp2, hr2, hg2⟩
  have H2 := Lib.hid hr2
  have G2 := Lib.hid (grown_trans G1.out hg2)
  clear hr2 hg2
  go_wp2_with fail
  go_ret2
  exact ⟨n, s, p2, rfl, n0, n1, by omega, s1, by omega, H2.out, G2.out⟩


/-- the arguments of a function of a circle and a set -/
def Two (w : World) (e : Ending) (w' : World) : Prop := ∃ n s : Int, e = .returned (.tuple #[.int .i64 n, .int .i64 s]) ∧ -1 ≤ n ∧ n ≤ 13 ∧ -1 ≤ s ∧ s ≤ 1000000 ∧ Below w.heap.size w w'
/-- the arguments of a function of a circle, a set and a number -/
def Three (w : World) (e : Ending) (w' : World) : Prop := ∃ n s t : Int, e = .returned (.tuple #[.int .i64 n, .int .i64 s, .int .i64 t]) ∧ -1 ≤ n ∧ n ≤ 13 ∧ -1 ≤ s ∧ s ≤ 1000000 ∧ -60 ≤ t ∧ t ≤ 60 ∧ Below w.heap.size w w'
theorem below_grown {w w1 w2 : World} (h : Below w.heap.size w w1) (hg : w1.grownBy w2 (some w.heap.size)) : Below w.heap.size w w2 :=
  h.grown hg h.size (fun k hk => by injection hk with hk; omega)

end Go.Proofs.YtjgkignnfkbeaaaTro

/-
  Contracts of the drawers of arguments of a circle and a set, and of a shift beside them.
-/
namespace Go.Proofs.YtjgkignnfkbeaaaTro
open Go.RowKit
set_option linter.unusedVariables false

/-- a code that came in, byte by byte -/
def Code (w : World) (x : Option Addr) (len cap : Nat) : Prop := ∃ zs, Bytes w x len zs ∧ len ≤ cap ∧ cap ≤ maxLen
theorem code_nil (w : World) : Code w none 0 0 := ⟨[], .inl rfl, Nat.le_refl _, Nat.zero_le _⟩
theorem code_row {w : World} {x : Addr} {len cap : Nat} {z : List Int} (hl : len ≤ cap) (hm : cap ≤ maxLen) (hz : z.length = cap) (hcell : ∀ i, i < z.length → w.cell? (x.add i) = some (.int .u8 (z.getD i 0))) (hwz : ∀ n ∈ z, (Lit.int .u8 n).wf = true) : Code w (some x) len cap := by
  refine ⟨z, ?_, hl, hm⟩
  by_cases h0 : len = 0
  · exact .inl h0
  · obtain ⟨b, off, spot⟩ := x
    have hc := hcell 0 (by omega)
    have hspot : spot = none := by simpa [Addr.add] using World.cell?_spot hc
    subst hspot
    have hb : b < w.heap.size := by simpa [Addr.add] using World.block_lt_of_cell? w _ hc
    refine .inr ⟨b, off, rfl, hb, fun i hi => ⟨(show (⟨b, off + i, none⟩ : Addr) = (⟨b, off, none⟩ : Addr).add i by unfold Addr.add; split <;> simp_all) ▸ hcell i (by omega), ?_⟩⟩
    have hmem : z.getD i 0 ∈ z := by
      rw [List.getD_eq_getElem?_getD, List.getElem?_eq_getElem (by omega)]
      exact List.getElem_mem _
    have hw := hwz _ hmem
    exact bounds_u8 hw

theorem drawNearOf (x : Option Addr) (len cap : Nat) (w : World) (h : Code w x len cap) : Calls Tro.prog 19 #[.slice x len cap] w (Two w) := by
  obtain ⟨zs, h1, h2, h3⟩ := h
  go_enter Tro.func19, Tro.ntmps19
  go_wp2_with fail
  refine (newReader_any _ _ _ _ _ h1 h2 h3).mono ?_; rintro e w1 ⟨rfl, hrd, hb, _⟩
  have HB := Lib.hid hb
  clear hb
  go_wp2_with fail
  refine (aSet_any _ _ _ hrd (by omega)).mono ?_; rintro e w2 ⟨n, s, p', rfl, n0, n1, s0, s1, _, _, hg⟩
  go_wp2_with fail
  go_ret2
  exact ⟨n, s, rfl, n0, n1, s0, s1, below_grown HB.out hg⟩
theorem drawSmoothOf (x : Option Addr) (len cap : Nat) (w : World) (h : Code w x len cap) : Calls Tro.prog 31 #[.slice x len cap] w (Two w) := by
  obtain ⟨zs, h1, h2, h3⟩ := h
  go_enter Tro.func31, Tro.ntmps31
  go_wp2_with fail
  refine (newReader_any _ _ _ _ _ h1 h2 h3).mono ?_; rintro e w1 ⟨rfl, hrd, hb, _⟩
  have HB := Lib.hid hb
  clear hb
  go_wp2_with fail
  refine (aSet_any _ _ _ hrd (by omega)).mono ?_; rintro e w2 ⟨n, s, p', rfl, n0, n1, s0, s1, _, _, hg⟩
  go_wp2_with fail
  go_ret2
  exact ⟨n, s, rfl, n0, n1, s0, s1, below_grown HB.out hg⟩

end Go.Proofs.YtjgkignnfkbeaaaTro

/-
  Plain mathematics of kinds of sets: shifts and turns composed, and the least of them. No program in sight.
-/
namespace Go.Proofs.YtjgkignnfkbeaaaTro.Tic
set_option linter.unusedVariables false
/-- how many t below k have p -/
def cnt (p : Nat → Bool) : Nat → Nat
  | 0 => 0
  | k + 1 => if p k then cnt p k + 1 else cnt p k
theorem cnt_le (p : Nat → Bool) : ∀ k, cnt p k ≤ k
  | 0 => Nat.le_refl _
  | k + 1 => by unfold cnt; have := cnt_le p k; split <;> omega
theorem cnt_yes {p : Nat → Bool} {k : Nat} (h : p k = true) : cnt p (k + 1) = cnt p k + 1 := by conv => lhs; unfold cnt; rw [if_pos h]
theorem cnt_no {p : Nat → Bool} {k : Nat} (h : p k = false) : cnt p (k + 1) = cnt p k := by conv => lhs; unfold cnt; rw [if_neg (by simp [h])]

theorem emod_mul_emod (a b c : Int) (n : Nat) : (a + b * (c % (n : Int))) % (n : Int) = (a + b * c) % (n : Int) := by
  have h := Int.mul_ediv_add_emod c n
  have e : a + b * c = (a + b * (c % (n : Int))) + n * (b * (c / n)) := by
    conv => lhs; rw [← h]
    rw [Int.mul_add, Int.mul_left_comm b]
    omega
  rw [e, Int.add_mul_emod_self_left]

theorem mvd_comp {n : Nat} (h : 0 < n) (w1 t1 w2 t2 : Int) (x : Nat) : mvd n w1 t1 (mvd n w2 t2 x) = mvd n (w1 * w2) (t1 + w1 * t2) x := by
  have h1 := Int.emod_nonneg (t2 + w2 * x) (b := (n : Int)) (by omega)
  unfold mvd
  rw [Int.toNat_of_nonneg h1, emod_mul_emod]
  congr 2
  rw [Int.mul_add, Int.add_assoc, Int.mul_assoc]

theorem img_congr (f g : Nat → Nat) (s : Nat) : ∀ k, (∀ x, x < k → f x = g x) → img f s k = img g s k
  | 0, _ => rfl
  | k + 1, h => by unfold img; rw [img_congr f g s k (fun x hx => h x (by omega)), h k (by omega)]

theorem img_img (f g : Nat → Nat) (s n : Nat) (hg : ∀ x, x < n → g x < n) : img f (img g s n) n = img (fun x => f (g x)) s n := by
  apply Nat.eq_of_testBit_eq
  intro y
  rw [Bool.eq_iff_iff, img_testBit, img_testBit]
  constructor
  · rintro ⟨x, hx, h1, rfl⟩
    obtain ⟨z, hz, h2, rfl⟩ := (img_testBit g s x n).1 h1
    exact ⟨z, hz, h2, rfl⟩
  · rintro ⟨z, hz, h2, rfl⟩
    exact ⟨g z, hg z hz, (img_testBit g s _ n).2 ⟨z, hz, h2, rfl⟩, rfl⟩

theorem img_id {s n : Nat} (hs : s < 2 ^ n) (f : Nat → Nat) (hf : ∀ x, x < n → f x = x) : img f s n = s := by
  apply Nat.eq_of_testBit_eq
  intro y
  rw [Bool.eq_iff_iff, img_testBit]
  constructor
  · rintro ⟨x, hx, h1, rfl⟩; rw [hf x hx]; exact h1
  · intro h
    have hy : y < n := by
      rcases Nat.lt_or_ge y n with g | g
      · exact g
      · have := Nat.testBit_lt_two_pow (Nat.lt_of_lt_of_le hs (Nat.pow_le_pow_right (by omega : 0 < 2) g))
        rw [this] at h; cases h
    exact ⟨y, hy, h, hf y hy⟩

theorem img_mvd_comp {n : Nat} (h : 0 < n) (w1 t1 w2 t2 : Int) (s : Nat) : img (mvd n w1 t1) (img (mvd n w2 t2) s n) n = img (mvd n (w1 * w2) (t1 + w1 * t2)) s n := by
  rw [img_img _ _ _ _ (fun x _ => mvd_lt h _ _ x)]
  exact img_congr _ _ _ _ fun x _ => mvd_comp h _ _ _ _ x

theorem shf_zero {n s : Nat} (h : 0 < n) (hs : s < 2 ^ n) : shf n 0 s = s := by
  refine img_id hs _ fun x hx => ?_
  unfold mvd
  rw [Int.one_mul, Int.zero_add, Int.emod_eq_of_lt (by omega) (by omega)]
  rfl
theorem shf_tur0 {n : Nat} (h : 0 < n) (t : Int) (s : Nat) : shf n t (tur n 0 s) = tur n t s := by
  unfold shf tur
  rw [img_mvd_comp h, show t + 1 * 0 = t from by omega]; rfl
theorem shf_shf {n : Nat} (h : 0 < n) (t u : Int) (s : Nat) : shf n t (shf n u s) = shf n (t + u) s := by
  unfold shf
  rw [img_mvd_comp h, show t + 1 * u = t + u from by omega]; rfl
theorem tur_shf {n : Nat} (h : 0 < n) (t u : Int) (s : Nat) : tur n t (shf n u s) = tur n (t - u) s := by
  unfold tur shf
  rw [img_mvd_comp h, show t + -1 * u = t - u from by omega]; rfl
theorem shf_tur {n : Nat} (h : 0 < n) (t u : Int) (s : Nat) : shf n t (tur n u s) = tur n (t + u) s := by
  unfold tur shf
  rw [img_mvd_comp h, show t + 1 * u = t + u from by omega]; rfl
theorem tur_tur {n : Nat} (h : 0 < n) (t u : Int) (s : Nat) : tur n t (tur n u s) = shf n (t - u) s := by
  unfold tur shf
  rw [img_mvd_comp h, show t + -1 * u = t - u from by omega]; rfl

/-- the least of s and its shifts and turns by all below k -/
def kTo (n s : Nat) : Nat → Nat
  | 0 => s
  | k + 1 => min (min (kTo n s k) (shf n k s)) (tur n k s)
/-- the least of s and its shifts by 1 to k -/
def lTo (n s : Nat) : Nat → Nat
  | 0 => s
  | k + 1 => min (lTo n s k) (shf n (k + 1 : Nat) s)
theorem lTo_next (n s : Nat) {k : Nat} (h : 1 ≤ k) : lTo n s (k + 1 - 1) = min (lTo n s (k - 1)) (shf n k s) := by
  obtain ⟨j, rfl⟩ : ∃ j, k = j + 1 := ⟨k - 1, by omega⟩
  rfl
theorem kTo_le (n s : Nat) : ∀ k, kTo n s k ≤ s
  | 0 => Nat.le_refl _
  | k + 1 => by unfold kTo; have := kTo_le n s k; omega
theorem lTo_le (n s : Nat) : ∀ k, lTo n s k ≤ s
  | 0 => Nat.le_refl _
  | k + 1 => by unfold lTo; have := lTo_le n s k; omega
theorem kTo_shf (n s : Nat) : ∀ k t, t < k → kTo n s k ≤ shf n t s
  | k + 1, t, h => by
    unfold kTo
    by_cases e : t = k
    · subst e; omega
    · have := kTo_shf n s k t (by omega); omega
theorem kTo_tur (n s : Nat) : ∀ k t, t < k → kTo n s k ≤ tur n t s
  | k + 1, t, h => by
    unfold kTo
    by_cases e : t = k
    · subst e; omega
    · have := kTo_tur n s k t (by omega); omega
theorem kTo_mem (n s : Nat) : ∀ k, kTo n s k = s ∨ ∃ t, t < k ∧ (kTo n s k = shf n t s ∨ kTo n s k = tur n t s)
  | 0 => .inl rfl
  | k + 1 => by
    have e : kTo n s (k + 1) = kTo n s k ∨ kTo n s (k + 1) = shf n k s ∨ kTo n s (k + 1) = tur n k s := by
      conv => lhs; lhs; unfold kTo
      conv => rhs; lhs; lhs; unfold kTo
      conv => rhs; rhs; lhs; unfold kTo
      omega
    rcases e with e | e | e
    · rcases kTo_mem n s k with h | ⟨t, ht, h⟩
      · exact .inl (e.trans h)
      · exact .inr ⟨t, by omega, by rw [e]; exact h⟩
    · exact .inr ⟨k, by omega, .inl e⟩
    · exact .inr ⟨k, by omega, .inr e⟩
theorem lTo_shf (n s : Nat) : ∀ k t, 1 ≤ t → t ≤ k → lTo n s k ≤ shf n (t : Nat) s
  | 0, t, h, h2 => by omega
  | k + 1, t, h, h2 => by
    unfold lTo
    by_cases e : t = k + 1
    · subst e; omega
    · have := lTo_shf n s k t h (by omega); omega
theorem lTo_mem (n s : Nat) : ∀ k, lTo n s k = s ∨ ∃ t : Nat, 1 ≤ t ∧ t ≤ k ∧ lTo n s k = shf n t s
  | 0 => .inl rfl
  | k + 1 => by
    have e : lTo n s (k + 1) = lTo n s k ∨ lTo n s (k + 1) = shf n (k + 1 : Nat) s := by
      conv => lhs; lhs; unfold lTo
      conv => rhs; lhs; unfold lTo
      omega
    rcases e with e | e
    · rcases lTo_mem n s k with h | ⟨t, h0, ht, h⟩
      · exact .inl (e.trans h)
      · exact .inr ⟨t, h0, by omega, by rw [e]; exact h⟩
    · exact .inr ⟨k + 1, by omega, by omega, e⟩
/-- the least number of a kind -/
def prm (n s : Nat) : Nat := kTo n s n
theorem prm_spec {n s : Nat} (h : 0 < n) (hs : s < 2 ^ n) : min (lTo n s (n - 1)) (lTo n (tur n 0 s) (n - 1)) = prm n s := by
  apply Nat.le_antisymm
  · unfold prm
    rcases kTo_mem n s n with e | ⟨t, ht, e | e⟩
    · rw [e]; have := lTo_le n s (n - 1); omega
    · rw [e]
      by_cases e0 : t = 0
      · subst e0; rw [show ((0 : Nat) : Int) = 0 from rfl, shf_zero h hs]; have := lTo_le n s (n - 1); omega
      · have := lTo_shf n s (n - 1) t (by omega) (by omega); omega
    · rw [e]
      by_cases e0 : t = 0
      · subst e0; rw [show ((0 : Nat) : Int) = 0 from rfl]; have := lTo_le n (tur n 0 s) (n - 1); omega
      · have := lTo_shf n (tur n 0 s) (n - 1) t (by omega) (by omega); rw [shf_tur0 h] at this; omega
  · have h1 : prm n s ≤ lTo n s (n - 1) := by
      unfold prm
      rcases lTo_mem n s (n - 1) with e | ⟨t, h0, ht, e⟩
      · rw [e]; exact kTo_le _ _ _
      · rw [e]; exact kTo_shf n s n t (by omega)
    have h2 : prm n s ≤ lTo n (tur n 0 s) (n - 1) := by
      unfold prm
      rcases lTo_mem n (tur n 0 s) (n - 1) with e | ⟨t, h0, ht, e⟩
      · rw [e]; exact kTo_tur n s n 0 h
      · rw [e, shf_tur0 h]; exact kTo_tur n s n t (by omega)
    omega
theorem kTo_lt {n s : Nat} (hs : s < 2 ^ n) (k : Nat) : kTo n s k < 2 ^ n := Nat.lt_of_le_of_lt (kTo_le _ _ _) hs
theorem lTo_lt {n s : Nat} (hs : s < 2 ^ n) (k : Nat) : lTo n s k < 2 ^ n := Nat.lt_of_le_of_lt (lTo_le _ _ _) hs
theorem valid_shf {n s : Int} (h : Valid n s) (t : Int) : Valid n (shf n.toNat t s.toNat : Int) :=
  ⟨h.1, h.2.1, Int.natCast_nonneg _, by have := shf_lt (n := n.toNat) (by have := h.1; omega) t s.toNat; exact Int.ofNat_lt.2 this⟩
theorem valid_tur {n s : Int} (h : Valid n s) (t : Int) : Valid n (tur n.toNat t s.toNat : Int) :=
  ⟨h.1, h.2.1, Int.natCast_nonneg _, by have := tur_lt (n := n.toNat) (by have := h.1; omega) t s.toNat; exact Int.ofNat_lt.2 this⟩
theorem Valid.lt_pow {n s : Int} (h : Valid n s) : s.toNat < 2 ^ n.toNat := by
  have h1 := h.2.2.2
  have h2 := h.2.2.1
  omega
theorem valid_prm {n s : Int} (h : Valid n s) : Valid n (prm n.toNat s.toNat : Int) :=
  ⟨h.1, h.2.1, Int.natCast_nonneg _, Int.ofNat_lt.2 (kTo_lt h.lt_pow _)⟩
theorem prm_min {n s : Int} (h : Valid n s) : min (lTo n.toNat s.toNat (n.toNat - 1)) (lTo n.toNat (tur n.toNat 0 s.toNat) (n.toNat - 1)) = prm n.toNat s.toNat :=
  prm_spec (by have := h.1; omega) h.lt_pow
/-- how many shifts, turns below n leave the set -/
def shs (n s : Nat) : Nat → Nat := cnt fun t => shf n t s == s
def trs (n s : Nat) : Nat → Nat := cnt fun t => tur n t s == s
theorem shs_step (N S k : Nat) : ((((img (mvd N 1 k) S N : Nat) : Int) == (S : Int)) = true ∧ shs N S (k + 1) = shs N S k + 1) ∨ ((((img (mvd N 1 k) S N : Nat) : Int) == (S : Int)) = false ∧ shs N S (k + 1) = shs N S k) := by
  by_cases h : shf N k S = S
  · refine .inl ⟨?_, cnt_yes (by simpa using h)⟩
    rw [show img (mvd N 1 k) S N = S from h]; simp
  · refine .inr ⟨?_, cnt_no (by simpa using h)⟩
    have : ((img (mvd N 1 k) S N : Nat) : Int) ≠ (S : Int) := fun e => h (Int.ofNat.inj e)
    simpa using this
theorem trs_step (N S k : Nat) : ((((img (mvd N (-1) k) S N : Nat) : Int) == (S : Int)) = true ∧ trs N S (k + 1) = trs N S k + 1) ∨ ((((img (mvd N (-1) k) S N : Nat) : Int) == (S : Int)) = false ∧ trs N S (k + 1) = trs N S k) := by
  by_cases h : tur N k S = S
  · refine .inl ⟨?_, cnt_yes (by simpa using h)⟩
    rw [show img (mvd N (-1) k) S N = S from h]; simp
  · refine .inr ⟨?_, cnt_no (by simpa using h)⟩
    have : ((img (mvd N (-1) k) S N : Nat) : Int) ≠ (S : Int) := fun e => h (Int.ofNat.inj e)
    simpa using this
theorem shs_le (N S k : Nat) : shs N S k ≤ k := cnt_le _ k
theorem trs_le (N S k : Nat) : trs N S k ≤ k := cnt_le _ k
end Go.Proofs.YtjgkignnfkbeaaaTro.Tic

/-
  The draw of a circle and two sets of its tones.
-/
namespace Go.Proofs.YtjgkignnfkbeaaaTro
open Go.RowKit
set_option linter.unusedVariables false

/-- a circle and two sets are drawn -/
def DrTwo (B : Nat) (w : World) (e : Ending) (w' : World) : Prop :=
  ∃ n a b : Int, e = .returned (.tuple #[.int .i64 n, .int .i64 a, .int .i64 b]) ∧ -1 ≤ n ∧ n ≤ 13 ∧ -1 ≤ a ∧ a ≤ 1000000 ∧ -1 ≤ b ∧ b ≤ 1000000 ∧ w.grownBy w' (some B)
/-- the arguments of a function of a circle and two sets -/
def Pair2 (w : World) (e : Ending) (w' : World) : Prop := ∃ n a b : Int, e = .returned (.tuple #[.int .i64 n, .int .i64 a, .int .i64 b]) ∧ -1 ≤ n ∧ n ≤ 13 ∧ -1 ≤ a ∧ a ≤ 1000000 ∧ -1 ≤ b ∧ b ≤ 1000000 ∧ Below w.heap.size w w'
theorem turn_set (n s t : Int) (w : World) (hv : Tic.Valid n s) (ht : Tic.Turn t) :
    Calls Tro.prog 63 #[.int .i64 n, .int .i64 s, .int .i64 t] w fun e w' => ∃ P : Int, e = .returned (.int .i64 P) ∧ Tic.Valid n P ∧ w = w' :=
  (sturn_any n s t w hv ht).mono fun e w' ⟨h2, h3⟩ => ⟨_, h2, Tic.valid_tur hv t, h3⟩
theorem shift_set (n s t : Int) (w : World) (hv : Tic.Valid n s) (ht : Tic.Turn t) :
    Calls Tro.prog 59 #[.int .i64 n, .int .i64 s, .int .i64 t] w fun e w' => ∃ P : Int, e = .returned (.int .i64 P) ∧ 0 ≤ P ∧ P < 4096 ∧ w = w' :=
  (sshift_any n s t w hv ht).mono fun e w' ⟨h2, h3⟩ => ⟨_, h2, Int.natCast_nonneg _, by have := Tic.shf_lt12 hv t; omega, h3⟩
set_option maxRecDepth 20000 in
set_option maxHeartbeats 2000000 in
theorem twoSets_any (B p : Nat) (w : World) (h : Rd w B p) (hp : p ≤ 100) :
    Calls Tro.prog 39 #[.pointer (some ⟨B, 0, none⟩)] w (DrTwo B w) := by
  go_enter Tro.func39, Tro.ntmps39
  go_wp2_with fail
  refine (aSet_any _ _ _ h (by omega)).mono ?_; rintro e w1 ⟨n, s, p1, rfl, n0, n1, s0, s1, hp1, hr, hg⟩
  have HR := Lib.hid hr
  have HG := Lib.hid hg
  clear hr hg h
  by_cases hv : Tic.Valid n s
  · have g1 := hv.1
    have g2 := hv.2.1
    have hlt := hv.lt
    have HV := Lib.hid hv
    obtain ⟨N, rfl⟩ := Int.eq_ofNat_of_zero_le (show 0 ≤ n by omega)
    obtain ⟨S, rfl⟩ := Int.eq_ofNat_of_zero_le hv.2.2.1
    clear hv
    go_wp2_with fail
    refine (validSet_yes _ _ _ HV.out).mono ?_; rintro e w2 ⟨rfl, rfl⟩
    go_wp2_with fail
    refine (pick_pos _ _ _ _ HR.out (by omega) (by omega) (by omega)).mono ?_; rintro e w2 ⟨r0, rfl, h0, h1, H1, G1⟩
    have HG1 := Lib.hid (grown_trans HG.out G1.out)
    clear HR G1 HG
    by_cases hr0 : r0 = 0
    · subst hr0
      go_wp2_with fail
      refine (pick_pos _ _ _ _ H1.out (by omega) (by omega) (by omega)).mono ?_; rintro e w3 ⟨r1, rfl, q0, q1, H2, G2⟩
      replace HG1 := Lib.hid (grown_trans HG1.out G2.out)
      clear H1 G2
      go_wp2_with fail
      refine (pick_pos _ _ _ _ H2.out (by omega) (by omega) (by omega)).mono ?_; rintro e w4 ⟨r2, rfl, q2, q3, H3, G3⟩
      replace HG1 := Lib.hid (grown_trans HG1.out G3.out)
      clear H2 G3
      rcases (show r1 = 0 ∨ r1 = 1 by omega) with rfl | rfl
      all_goals
        go_wp2_with fail
        refine (turn_set _ _ _ _ HV.out ⟨by omega, by omega⟩).mono ?_; rintro e w5 ⟨T, rfl, hT, rfl⟩
        go_wp2_with fail
        refine (pick_pos _ _ _ _ H3.out (by omega) (by omega) (by omega)).mono ?_; rintro e w5 ⟨r3, rfl, q4, q5, H4, G4⟩
        replace HG1 := Lib.hid (grown_trans HG1.out G4.out)
        clear H3 G4
        go_wp2_with fail
        refine (shift_set _ _ _ _ hT ⟨by omega, by omega⟩).mono ?_; rintro e w6 ⟨X, rfl, hX0, hX1, rfl⟩
        go_wp2_with fail
        go_ret3
        exact ⟨_, _, _, rfl, by omega, by omega, by omega, by omega, by omega, by omega, HG1.out⟩
    · have hr1 : (r0 == 0) = false := by rw [beq_eq_false_iff_ne]; exact hr0
      go_wp2_with fail
      refine (weight_any _ _ (by omega) (by omega)).mono ?_; rintro e w3 ⟨rfl, rfl⟩
      rw [Int.toNat_natCast]
      have hk := Tic.wt_le 12 S
      generalize Tic.wt 12 S = k at hk ⊢
      have HG0 := HG1
      obtain ⟨p2, hp2⟩ : ∃ p2, p2 = p1 + 1 := ⟨_, rfl⟩
      rw [← hp2] at H1
      have hp3 : p2 ≤ 200 := by omega
      clear hp2 HG1 hr0 hr1 h0 h1
      go_wp2
      go_loopw [7, 9, 10] (fun t7 t9 t10 wr => ∃ x b q : Nat, x ≤ N ∧ b < 2 ^ x ∧ q ≤ p2 + x ∧ t9 = .int .i64 x ∧ t7 = .int .i64 b ∧ Hid (Rd wr B q) ∧ Hid (w.grownBy wr (some B))) (fun _ t9 _ _ => N - (intOf t9).toNat)
      case atStart => exact ⟨0, 0, p2, Nat.zero_le _, by decide, Nat.le_refl _, rfl, rfl, H1, HG0⟩
      case round =>
        clear H1 HG0
        obtain ⟨x, b, q, hx, hb, hq, rfl, rfl, H1, HG0⟩ := hrel
        have hp12 : 2 ^ x ≤ 2 ^ 12 := Nat.pow_le_pow_right (by omega) (by omega)
        by_cases hlt2 : x < N
        · have hp2x : 2 ^ (x + 1) = 2 * 2 ^ x := by rw [Nat.pow_succ]; omega
          have hwb := Tic.wt_le 12 b
          go_wp2_with fail
          refine (weight_any _ _ (by omega) (by omega)).mono ?_; rintro e w4 ⟨rfl, rfl⟩
          rw [Int.toNat_natCast]
          generalize Tic.wt 12 b = c at hwb ⊢
          by_cases hkc : c < k
          · go_wp2_with fail
            refine (pick_pos _ _ _ _ H1.out (by omega) (by omega) (by omega)).mono ?_; rintro e w5 ⟨r, rfl, q4, q5, H2, G2⟩
            have HG2 := Lib.hid (grown_trans HG0.out G2.out)
            clear H1 HG0 G2
            by_cases hrk : r < (k : Int)
            · have HPW := Lib.hid (fun w' => power_any (x : Int) w' (by omega) (by omega))
              simp only [Int.toNat_natCast] at HPW
              generalize 2 ^ x = P at *
              go_wp2_with fail
              refine (HPW.out _).mono ?_; rintro e w6 ⟨rfl, rfl⟩
              go_wp2
              go_roundw
              case rel => exact ⟨x + 1, b + P, q + 1, by omega, by omega, by omega, by go_num, by go_num, H2, HG2⟩
              case measure => simp [intOf]; omega
            · by_cases hnl : (N : Int) - (x : Int) ≤ (k : Int) - (c : Int)
              · have HPW := Lib.hid (fun w' => power_any (x : Int) w' (by omega) (by omega))
                simp only [Int.toNat_natCast] at HPW
                generalize 2 ^ x = P at *
                go_wp2_with fail
                refine (HPW.out _).mono ?_; rintro e w6 ⟨rfl, rfl⟩
                go_wp2
                go_roundw
                case rel => exact ⟨x + 1, b + P, q + 1, by omega, by omega, by omega, by go_num, by go_num, H2, HG2⟩
                case measure => simp [intOf]; omega
              · go_wp2
                go_roundw
                case rel => exact ⟨x + 1, b, q + 1, by omega, by omega, by omega, by go_num, rfl, H2, HG2⟩
                case measure => simp [intOf]; omega
          · go_wp2
            go_roundw
            case rel => exact ⟨x + 1, b, q, by omega, by omega, by omega, by go_num, rfl, H1, HG0⟩
            case measure => simp [intOf]; omega
        · obtain rfl : x = N := by omega
          go_wp2_with fail
          refine (pick_pos _ _ _ _ H1.out (by omega) (by omega) (by omega)).mono ?_; rintro e w5 ⟨r, rfl, q4, q5, H2, G2⟩
          have HG2 := Lib.hid (grown_trans HG0.out G2.out)
          clear H1 HG0 G2
          by_cases hr : r = 0
          · subst hr
            go_wp2_with fail
            refine (setOf_any _ _ _ _ H2.out (by omega) (by omega) (by omega)).mono ?_; rintro e w6 ⟨y, p9, rfl, y0, y1, _, _, hg9⟩
            have HG3 := Lib.hid (grown_trans HG2.out hg9)
            clear hg9
            go_wp2_with fail
            go_ret3
            exact ⟨_, _, _, rfl, by omega, by omega, by omega, by omega, by omega, by omega, HG3.out⟩
          · have hr1 : (r == 0) = false := by rw [beq_eq_false_iff_ne]; exact hr
            go_wp2_with fail
            go_ret3
            exact ⟨_, _, _, rfl, by omega, by omega, by omega, by omega, by omega, by omega, HG2.out⟩
  · go_wp2_with fail
    refine (validSet_no _ _ _ hv).mono ?_; rintro e w2 ⟨rfl, rfl⟩
    go_wp2_with fail
    refine (setOf_any _ _ _ _ HR.out (by omega) (by omega) (by omega)).mono ?_; rintro e w2 ⟨y, p', rfl, y0, y1, hp', _, hg2⟩
    have HG2 := Lib.hid (grown_trans HG.out hg2)
    clear hg2
    go_wp2_with fail
    go_ret3
    exact ⟨_, _, _, rfl, by omega, by omega, by omega, by omega, by omega, by omega, HG2.out⟩
theorem drawFarOf (x : Option Addr) (len cap : Nat) (w : World) (h : Code w x len cap) : Calls Tro.prog 12 #[.slice x len cap] w (Pair2 w) := by
  obtain ⟨zs, h1, h2, h3⟩ := h
  go_enter Tro.func12, Tro.ntmps12
  go_wp2_with fail
  refine (newReader_any _ _ _ _ _ h1 h2 h3).mono ?_; rintro e w1 ⟨rfl, hrd, hb, _⟩
  have HB := Lib.hid hb
  clear hb
  go_wp2_with fail
  refine (twoSets_any _ _ _ hrd (by omega)).mono ?_; rintro e w2 ⟨n, a, b, rfl, n0, n1, a0, a1, b0, b1, hg⟩
  have HG := Lib.hid (below_grown HB.out hg)
  clear hg
  go_wp2_with fail
  go_ret3
  exact ⟨n, a, b, rfl, n0, n1, a0, a1, b0, b1, HG.out⟩
theorem drawStepsTo (x : Option Addr) (len cap : Nat) (w : World) (h : Code w x len cap) : Calls Tro.prog 25 #[.slice x len cap] w (Pair2 w) := by
  obtain ⟨zs, h1, h2, h3⟩ := h
  go_enter Tro.func25, Tro.ntmps25
  go_wp2_with fail
  refine (newReader_any _ _ _ _ _ h1 h2 h3).mono ?_; rintro e w1 ⟨rfl, hrd, hb, _⟩
  have HB := Lib.hid hb
  clear hb
  go_wp2_with fail
  refine (twoSets_any _ _ _ hrd (by omega)).mono ?_; rintro e w2 ⟨n, a, b, rfl, n0, n1, a0, a1, b0, b1, hg⟩
  have HG := Lib.hid (below_grown HB.out hg)
  clear hg
  go_wp2_with fail
  go_ret3
  exact ⟨n, a, b, rfl, n0, n1, a0, a1, b0, b1, HG.out⟩
theorem drawPathTo (x : Option Addr) (len cap : Nat) (w : World) (h : Code w x len cap) : Calls Tro.prog 28 #[.slice x len cap] w (Pair2 w) := by
  obtain ⟨zs, h1, h2, h3⟩ := h
  go_enter Tro.func28, Tro.ntmps28
  go_wp2_with fail
  refine (newReader_any _ _ _ _ _ h1 h2 h3).mono ?_; rintro e w1 ⟨rfl, hrd, hb, _⟩
  have HB := Lib.hid hb
  clear hb
  go_wp2_with fail
  refine (twoSets_any _ _ _ hrd (by omega)).mono ?_; rintro e w2 ⟨n, a, b, rfl, n0, n1, a0, a1, b0, b1, hg⟩
  have HG := Lib.hid (below_grown HB.out hg)
  clear hg
  go_wp2_with fail
  go_ret3
  exact ⟨n, a, b, rfl, n0, n1, a0, a1, b0, b1, HG.out⟩
end Go.Proofs.YtjgkignnfkbeaaaTro

/-
  The walk of FnStepsTo, where a sequential body stands for nearestTo.
-/
namespace Go.Proofs.YtjgkignnfkbeaaaTro
open Go.RowKit
set_option linter.unusedVariables false
set_option maxRecDepth 20000

theorem FnStepsTo_no (x : Option Addr) (len cap : Nat) (w : World) (hl : 1048576 < len) :
    Calls Tro.prog 5 #[.slice x len cap] w fun e w' => e = .returned (.bool true) ∧ Below w.heap.size w w' := by
  go_enter Tro.func5, Tro.ntmps5
  go_wp2_with fail
  go_ret
  exact ⟨rfl, Below.refl _ _⟩
set_option maxHeartbeats 800000 in
theorem FnStepsTo_walk (x : Option Addr) (len cap : Nat) (w : World) (h : Code w x len cap) :
    Calls Tro.prog 5 #[.slice x len cap] w fun e w' => e = .returned (.bool true) ∧ Below w.heap.size w w' := by
  by_cases hl : 1048576 < len
  · exact FnStepsTo_no x len cap w hl
  · go_enter Tro.func5, Tro.ntmps5
    go_wp2_with fail
    refine (drawStepsTo _ _ _ _ h).mono ?_; rintro e w1 ⟨n, a, b, rfl, n0, n1, a0, a1, b0, b1, hb⟩
    have HB := Lib.hid hb
    clear hb h hl
    have hz := HB.out.size
    rcases Classical.em (Voices n a b) with hv | hv
    · have HI := Lib.hid (fun w => iStepsTo_yes n a b w hv)
      have HS := Lib.hid (fun w => sStepsTo_yes n a b w hv)
      have HF : Hid (∀ w, Calls Tro.prog 13 #[.int .i64 n, .int .i64 a, .int .i64 b] w fun e w' => ∃ v, e = .returned (.tuple #[.int .i64 (stP n a b), v]) ∧ Below w.heap.size w w') := Lib.hid (fun w => (iFarOf_yes n a b w hv (stub_lt hv)).mono (fun e w' ⟨v, h1, _, h3⟩ => ⟨v, h1, h3⟩))
      have hp : (0 : Int) ≤ stP n a b := Int.natCast_nonneg _
      generalize stP n a b = d at *
      have hp2 : ¬ d < 0 := by omega
      clear n0 n1 a0 a1 b0 b1 hv
      go_wp2_with fail
      refine (HI.out _).mono ?_; rintro e w2 ⟨rfl, hb2⟩
      have HB2 := Lib.hid (HB.out.trans (hb2.mono hz))
      have hz2 := HB2.out.size
      clear hb2
      go_wp2_with fail
      refine (HS.out _).mono ?_; rintro e w3 ⟨rfl, hb3⟩
      have HB3 := Lib.hid (HB2.out.trans (hb3.mono hz2))
      have hz3 := HB3.out.size
      clear hb3
      go_wp2_with fail
      refine (HF.out _).mono ?_; rintro e w4 ⟨v, rfl, hb4⟩
      have HB4 := Lib.hid (HB3.out.trans (hb4.mono hz3))
      clear hb4
      go_wp2_with fail
      go_ret
      exact ⟨rfl, HB4.out⟩
    · have HI := Lib.hid (fun w => iStepsTo_no n a b w hv)
      have HS := Lib.hid (fun w => sStepsTo_no n a b w hv)
      clear n0 n1 a0 a1 b0 b1 hv
      go_wp2_with fail
      refine (HI.out _).mono ?_; rintro e w2 ⟨rfl, hb2⟩
      have HB2 := Lib.hid (HB.out.trans (hb2.mono hz))
      have hz2 := HB2.out.size
      clear hb2
      go_wp2_with fail
      refine (HS.out _).mono ?_; rintro e w3 ⟨rfl, hb3⟩
      have HB3 := Lib.hid (HB2.out.trans (hb3.mono hz2))
      have hz3 := HB3.out.size
      clear hb3
      go_wp2_with fail
      refine (HS.out _).mono ?_; rintro e w4 ⟨rfl, hb4⟩
      have HB4 := Lib.hid (HB3.out.trans (hb4.mono hz3))
      clear hb4
      go_wp2_with fail
      go_ret
      exact ⟨rfl, HB4.out⟩
end Go.Proofs.YtjgkignnfkbeaaaTro
