/-
  Lists of choices in memory, two cells each: read, appended to at a step of a region that draws its order.
-/
import Derived.Test.YtjgkignnfkbeaaaTroLib
import Derived.Maps.AppendAt
import Derived.Deep.RegionHeld3
import Derived.Deep.Cut
import Derived.Deep.AppendLies
import Derived.BigQuiet
namespace Go.Proofs.YtjgkignnfkbeaaaTro
open Go.RowKit
set_option linter.unusedVariables false
set_option maxRecDepth 20000

/-- a choice as a row of cells -/
def chR (p : Int × Int) : List Value := [.int .i64 p.1, .int .i64 p.2]
theorem chFlat_len : ∀ M : List (Int × Int), (M.map chR).flatten.length = M.length * 2
  | [] => rfl
  | m :: M => by
    rw [List.map_cons, List.flatten_cons, List.length_append, chFlat_len M, List.length_cons, Nat.add_mul]
    show 2 + _ = _
    omega
theorem chFlat_at : ∀ (M : List (Int × Int)) (i j : Nat), i < M.length → j < 2 → (M.map chR).flatten[i * 2 + j]? = (chR (M.getD i (0, 0)))[j]?
  | [], i, j, hi, _ => by simp at hi
  | m :: M, 0, j, _, hj => by
    rw [List.map_cons, List.flatten_cons, Nat.zero_mul, Nat.zero_add, List.getElem?_append_left (by show j < 2; exact hj)]
    simp
  | m :: M, i + 1, j, hi, hj => by
    have := chFlat_at M i j (by simpa using hi) hj
    rw [List.map_cons, List.flatten_cons, List.getElem?_append_right (by show 2 ≤ _; omega), show (i + 1) * 2 + j - (chR m).length = i * 2 + j by show _ - 2 = _; omega, this]
    simp
/-- a list of choices, two cells each -/
def Chs (w : World) (B : Nat) (v : Value) (M : List (Int × Int)) : Prop := w.ownsRow B 49 2 v M.length (M.map chR).flatten ∧ M.length ≤ 16
theorem Chs.nil (w : World) (B : Nat) : Chs w B (.slice none 0 0) [] := ⟨World.ownsRow_nil _ _ _ _, Nat.zero_le _⟩
theorem Chs.kept {w w' : World} {B : Nat} {v : Value} {M : List (Int × Int)} (h : Chs w B v M) (hb : Below w.heap.size w w') : Chs w' B v M :=
  ⟨h.1.kept (row := none) ⟨hb.os, hb.tape, hb.output, hb.size, fun k hk _ => hb.block k hk⟩ (by cases v.ownBlock <;> simp), h.2⟩
theorem Chs.mono {w : World} {B B' : Nat} {v : Value} {M : List (Int × Int)} (h : Chs w B v M) (hB : B' ≤ B) : Chs w B' v M := by
  obtain ⟨⟨h31, h3⟩, r⟩ := h
  refine ⟨⟨h31, ?_⟩, r⟩
  rcases h3 with h3 | ⟨g, cap, cur, e, hg, r⟩
  · exact .inl h3
  · exact .inr ⟨g, cap, cur, e, by omega, r⟩
theorem Chs.lt {w : World} {B : Nat} {v : Value} {M : List (Int × Int)} (h : Chs w B v M) : ∀ q, v.ownBlock = some q → B ≤ q ∧ q < w.heap.size := fun q hq => by
  rcases h.1.2 with ⟨e, _⟩ | ⟨g, cap, cur, e, hg, hb, _⟩
  · subst e; cases hq
  · subst e; simp [Value.ownBlock] at hq; subst hq; exact ⟨hg, (Array.getElem?_eq_some_iff.1 hb).1⟩
theorem Chs.cases {w : World} {B : Nat} {v : Value} {M : List (Int × Int)} (h : Chs w B v M) (h0 : 0 < M.length) :
    ∃ g cap, v = .slice (some ⟨g, 0, none⟩) M.length cap ∧ B ≤ g ∧ g < w.heap.size ∧ M.length ≤ cap ∧ ∀ i, i < M.length → w.cell? ⟨g, i * 2, none⟩ = some (.int .i64 (M.getD i (0, 0)).1) ∧ w.cell? ⟨g, i * 2 + 1, none⟩ = some (.int .i64 (M.getD i (0, 0)).2) := by
  have h1 := h.1
  rcases h1.2 with ⟨_, e⟩ | ⟨g, cap, cur, e, hg, hb, r1, r2, r3, r4⟩
  · omega
  · subst e
    refine ⟨g, cap, rfl, hg, (Array.getElem?_eq_some_iff.1 hb).1, r1, fun i hi => ⟨?_, ?_⟩⟩
    · have := h1.cellAt (i * 2 + 0) (by omega)
      rw [chFlat_at M i 0 hi (by decide)] at this
      exact this
    · have := h1.cellAt (i * 2 + 1) (by omega)
      rw [chFlat_at M i 1 hi (by decide)] at this
      exact this
theorem info_choice : (Tro.prog.info? 49).map (fun i => (i.zero, i.size, i.bytes)) = some (some (.agg #[.int .i64 0, .int .i64 0]), 2, 16) := by kernel_rfl
theorem info_partsC {o : Option TypeInfo} {z : Option Value} {a b : Nat} (h : o.map (fun i => (i.zero, i.size, i.bytes)) = some (z, a, b)) : ∃ i, o = some i ∧ i.zero = z ∧ i.size = a ∧ i.bytes = b := by
  cases o with
  | none => cases h
  | some i => simp at h; exact ⟨i, rfl, h.1, h.2.1, h.2.2⟩
/-- a choice is appended, at a step of a region that draws its order; B: the first block that the list may lie in, V: the world ahead of the region -/
theorem step_app_ch {ops : Array Oper} {o : Oper} {a : Act} {w : World} {K : Act → World → Prop} {Q : Exit → Act → World → Prop} {E : Prop} (hgd : o.guard = none) (s x : Operand)
    (ho : o.op = .call { callee := .builtin .append, args := #[s, x], argTypes := #[57, 57] })
    (B : Nat) (V : World) (v : Value) (M : List (Int × Int)) (hs : a.eval s = v) (g c : Nat) (p : Int × Int) (hx : a.eval x = .slice (some ⟨g, 0, none⟩) 1 c)
    (hk : Below B V w) (hr : Chs w B v M) (hc : w.cell? ⟨g, 0, none⟩ = some (.int .i64 p.1) ∧ w.cell? ⟨g, 1, none⟩ = some (.int .i64 p.2)) (hM : M.length < 16) (hBw : B ≤ w.heap.size)
    (h : ∀ v' w', Chs w' B v' (M ++ [p]) → Below B V w' → (∀ b k u, v.ownBlock ≠ some b → w.cell? ⟨b, k, none⟩ = some u → w'.cell? ⟨b, k, none⟩ = some u) → K (a.put o.dst v') w') :
    if Region.wanted o (yielded ops a.tmps) = true then Oper.wp Tro.prog o a w K Q else E := by
  have hw : Region.wanted o (yielded ops a.tmps) = true := by simp [Region.wanted, hgd]
  rw [if_pos hw]
  obtain ⟨i0, hi, hz0, hz1, hz2⟩ := info_partsC info_choice
  obtain ⟨v', w', hr', h2, h3, h4, h5'⟩ := run_append_own_at (P := Tro.prog) w B 57 o.type 49 i0 _ 2 16 Tro.underlying57 hi hz0 hz1 hz2 rfl (by decide) v M.length _ hr.1 ⟨g, 0, none⟩ 1 c (chR p)
    rfl (fun j u hj => by
      have e : (⟨g, 0, none⟩ : Addr).add j = ⟨g, j, none⟩ := by unfold Addr.add; split <;> simp_all
      rw [e]
      match j, hj with
      | 0, hj => simp [chR] at hj; subst hj; exact hc.1
      | 1, hj => simp [chR] at hj; subst hj; exact hc.2) (by intro u hu; simp [chR] at hu; rcases hu with rfl | rfl <;> rfl) (by unfold maxLen; omega) (by omega) hBw
  unfold Oper.wp execOp
  simp only [ho, resolve, invoke, builtin, Sem.run_bind, Sem.run_pure, Result.andThen_ok, List.map_toArray, List.map_cons, List.map_nil, hs, hx, hr']
  refine h v' w' ⟨?_, by simp; omega⟩ (hk.grown h3 hBw (fun q hq => (hr.lt q hq).1)) (fun b k u hb hc => (h3.cell_far _ (block_lt_of_cell hc) (fun e => hb e.symm)).trans hc)
  rw [List.length_append, List.map_append, List.flatten_append]
  simpa using h2
theorem far_of (a b : Int) (w : World) : (Instr.field 49 (.agg #[.int .i64 a, .int .i64 b]) 1).run Tro.prog w = .ok (.int .i64 b) w := by kernel_rfl
theorem number_of (a b : Int) (w : World) : (Instr.field 49 (.agg #[.int .i64 a, .int .i64 b]) 0).run Tro.prog w = .ok (.int .i64 a) w := by kernel_rfl
/-- a block of two numbers just made -/
theorem ch_new (w : World) (x y : Int) (t : TypeId) (g : Nat) (hg : g = w.heap.size) : (w.alloc (.cells #[.int .i64 x, .int .i64 y] t)).cell? ⟨g, 0, none⟩ = some (.int .i64 x) ∧ (w.alloc (.cells #[.int .i64 x, .int .i64 y] t)).cell? ⟨g, 1, none⟩ = some (.int .i64 y) := by
  constructor <;> (rw [World.cell?_alloc_at _ _ _ _ hg]; rfl)
theorem ch_froz (w : World) (x y : Int) (t : TypeId) (g : Nat) (hg : g = w.heap.size) : (w.alloc (.cells #[.int .i64 x, .int .i64 y] t)).frozen? ⟨g, 0, none⟩ = false ∧ (w.alloc (.cells #[.int .i64 x, .int .i64 y] t)).frozen? ⟨g, 1, none⟩ = false := by
  subst hg
  constructor <;> go_simp
/-- what a call behind an alloc leaves -/
theorem after_alloc {wr w1 : World} {t : TypeId} (hb : Below (wr.alloc (.cells #[.int .i64 0, .int .i64 0] t)).heap.size (wr.alloc (.cells #[.int .i64 0, .int .i64 0] t)) w1) :
    Hid (Below wr.heap.size wr w1) ∧ w1.cell? ⟨wr.heap.size, 0, none⟩ = some (.int .i64 0) ∧ w1.cell? ⟨wr.heap.size, 1, none⟩ = some (.int .i64 0) ∧ w1.frozen? ⟨wr.heap.size, 0, none⟩ = false ∧ w1.frozen? ⟨wr.heap.size, 1, none⟩ = false := by
  have h0 := (Below.refl wr.heap.size wr).alloc (Nat.le_refl _) (.cells #[.int .i64 0, .int .i64 0] t)
  exact ⟨h0.trans (hb.mono h0.size), (hb.cell (p := ⟨wr.heap.size, 0, none⟩) (by simp)).trans (ch_new wr 0 0 t _ rfl).1, (hb.cell (p := ⟨wr.heap.size, 1, none⟩) (by simp)).trans (ch_new wr 0 0 t _ rfl).2, (hb.frozen (p := ⟨wr.heap.size, 0, none⟩) (by simp)).trans (ch_froz wr 0 0 t _ rfl).1, (hb.frozen (p := ⟨wr.heap.size, 1, none⟩) (by simp)).trans (ch_froz wr 0 0 t _ rfl).2⟩
theorem after_alloc1 {wr w1 : World} {t : TypeId} (hb : Below (wr.alloc (.cells #[.int .i64 0, .int .i64 0] t)).drew.heap.size (wr.alloc (.cells #[.int .i64 0, .int .i64 0] t)).drew w1) :
    Hid (Below wr.heap.size wr w1) ∧ w1.cell? ⟨wr.heap.size, 0, none⟩ = some (.int .i64 0) ∧ w1.cell? ⟨wr.heap.size, 1, none⟩ = some (.int .i64 0) ∧ w1.frozen? ⟨wr.heap.size, 0, none⟩ = false ∧ w1.frozen? ⟨wr.heap.size, 1, none⟩ = false :=
  after_alloc (t := t) (Below.trans (Below.refl _ _).drew hb)
theorem ch_put {w : World} {g : Nat} {u0 u1 : Value} (h0 : w.cell? ⟨g, 0, none⟩ = some u0) (h1 : w.cell? ⟨g, 1, none⟩ = some u1) (x y : Int) :
    ((w.setCell ⟨g, 0, none⟩ (.int .i64 x)).setCell ⟨g, 1, none⟩ (.int .i64 y)).cell? ⟨g, 0, none⟩ = some (.int .i64 x) ∧ ((w.setCell ⟨g, 0, none⟩ (.int .i64 x)).setCell ⟨g, 1, none⟩ (.int .i64 y)).cell? ⟨g, 1, none⟩ = some (.int .i64 y) := by
  have n01 : (⟨g, 1, none⟩ : Addr) ≠ ⟨g, 0, none⟩ := by simp
  have n10 : (⟨g, 0, none⟩ : Addr) ≠ ⟨g, 1, none⟩ := by simp
  exact ⟨by rw [World.cell?_setCell_other _ _ _ _ n01, World.cell?_setCell_same _ _ _ h0], World.cell?_setCell_same _ _ _ ((World.cell?_setCell_other _ _ _ _ n10).trans h1)⟩
end Go.Proofs.YtjgkignnfkbeaaaTro

/-
  StepsTo of the model and of the program, where a sequential body stands for nearestTo, and the walk of FnExactStepsTo.
-/
namespace Go.Proofs.YtjgkignnfkbeaaaTro
open Go.RowKit
set_option linter.unusedVariables false
set_option maxRecDepth 20000

/-- a number -/
def Gives1 (a : Int) (w : World) (e : Ending) (w' : World) : Prop := e = .returned (.int .i64 a) ∧ Below w.heap.size w w'
/-- how many steps -/
def stP (n A B : Int) : Int := (dst n.toNat A.toNat B.toNat : Int)
theorem Voices.lens {n A B : Int} (h : Voices n A B) : (tonesTo A.toNat n.toNat).length = (tonesTo B.toNat n.toNat).length := by rw [← wt_len h.1, ← wt_len h.2.1]; exact h.2.2.2
theorem valid_lt {n A : Int} (h : Tic.Valid n A) : A.toNat < 2 ^ n.toNat := by
  obtain ⟨h1, h2, h3, h4⟩ := h
  omega
theorem Voices.pos {n A B : Int} (h : Voices n A B) : 0 < (tonesTo A.toNat n.toNat).length := len_pos (valid_lt h.1) (by have := h.1.2.2.1; have := h.2.2.1; omega)
theorem Voices.lk {n A B : Int} (h : Voices n A B) : Lk n.toNat A.toNat B.toNat := ⟨valid_lt h.2.1, h.lens.symm⟩
theorem Voices.ne0 {n A B : Int} (h : Voices n A B) : B ≠ 0 := fun e => by
  have h1 := h.lens
  have h2 := h.pos
  subst e
  have : ∀ k, (tonesTo 0 k).length = 0 := fun k => by
    induction k with
    | zero => rfl
    | succ k ih => rw [tonesTo_no (Nat.zero_testBit k)]; exact ih
  rw [show (0 : Int).toNat = 0 from rfl, this] at h1
  omega
theorem Voices.symm {n A B : Int} (h : Voices n A B) : Voices n B A := ⟨h.2.1, h.1, h.ne0, h.2.2.2.symm⟩
theorem iStepsTo_no (n A B : Int) (w : World) (h : ¬ Voices n A B) : Calls Tro.prog 26 #[.int .i64 n, .int .i64 A, .int .i64 B] w (Gives1 (-1) w) := by
  have HV : Hid (∀ w, Calls Tro.prog 41 #[.int .i64 n, .int .i64 A, .int .i64 B] w fun e w' => e = .returned (.bool false) ∧ Below w.heap.size w w') := Lib.hid (fun w => by have := validVoices_any n A B w; rw [vv_no h] at this; exact this)
  go_enter Tro.func26, Tro.ntmps26
  go_wp2_with fail
  refine (HV.out _).mono ?_; rintro e w1 ⟨rfl, hb1⟩
  go_wp2_with fail
  go_ret
  exact ⟨rfl, hb1⟩
theorem iStepsTo_yes (n A B : Int) (w : World) (h : Voices n A B) : Calls Tro.prog 26 #[.int .i64 n, .int .i64 A, .int .i64 B] w (Gives1 (stP n A B) w) := by
  have HV : Hid (∀ w, Calls Tro.prog 41 #[.int .i64 n, .int .i64 A, .int .i64 B] w fun e w' => e = .returned (.bool true) ∧ Below w.heap.size w w') := Lib.hid (fun w => by have := validVoices_any n A B w; rw [vv_yes h] at this; exact this)
  have HP : Hid (∀ w, Calls Tro.prog 42 #[.agg #[.int .i64 n, .int .i64 A], .agg #[.int .i64 n, .int .i64 B]] w fun e w' => ∃ p : Nat, e = .returned (.agg #[.int .i64 (p : Int), .int .i64 (stP n A B)]) ∧ Below w.heap.size w w') := Lib.hid (fun w => (stub_any n A B w h).mono (fun e w' ⟨h1, h2⟩ => ⟨_, h1, h2⟩))
  generalize stP n A B = d at *
  go_enter Tro.func26, Tro.ntmps26
  go_wp2_with fail
  refine (HV.out _).mono ?_; rintro e w1 ⟨rfl, hb1⟩
  have HB1 := Lib.hid hb1
  clear hb1
  go_wp2_with fail
  refine (HP.out _).mono ?_; rintro e w2 ⟨p, rfl, hb2⟩
  have HB2 := Lib.hid (HB1.out.trans (hb2.mono HB1.out.size))
  have hfl := far_of (p : Int) d
  clear hb2
  go_wp2
  go_ret
  exact ⟨rfl, HB2.out⟩
theorem sStepsTo_no (n A B : Int) (w : World) (h : ¬ Voices n A B) : Calls Tro.prog 27 #[.int .i64 n, .int .i64 A, .int .i64 B] w (Gives1 (-1) w) := by
  have HV : Hid (∀ w, Calls Tro.prog 44 #[.int .i64 n, .int .i64 A, .int .i64 B] w fun e w' => e = .returned (.bool false) ∧ w = w') := Lib.hid (fun w => by have := validPair_any n A B w; rw [vv_no h] at this; exact this)
  go_enter Tro.func27, Tro.ntmps27
  go_wp2_with fail
  refine (HV.out _).mono ?_; rintro e w1 ⟨rfl, rfl⟩
  go_wp2_with fail
  go_ret
  exact ⟨rfl, Below.refl _ _⟩
theorem sStepsTo_yes (n A B : Int) (w : World) (h : Voices n A B) : Calls Tro.prog 27 #[.int .i64 n, .int .i64 A, .int .i64 B] w (Gives1 (stP n A B) w) := by
  have HV : Hid (∀ w, Calls Tro.prog 44 #[.int .i64 n, .int .i64 A, .int .i64 B] w fun e w' => e = .returned (.bool true) ∧ w = w') := Lib.hid (fun w => by have := validPair_any n A B w; rw [vv_yes h] at this; exact this)
  have HF : Hid (∀ w, Calls Tro.prog 55 #[.int .i64 n, .int .i64 A] w fun e w' => ∃ v O, e = .returned v ∧ Row w' w.heap.size v O ∧ O.length = 2 ^ n.toNat ∧ O.getD B.toNat 0 = stP n A B ∧ Below w.heap.size w w') := Lib.hid (fun w => (fars_any n A w h.1 h.2.2.1).mono (fun e w' ⟨v, O, h1, h2, h3, h4, h5⟩ => ⟨v, O, h1, h2, h3, by
    rw [h4 _ h.lk]
    unfold stP
    rw [dst_symm (by have := h.1.2.1; omega) (by have := h.1.1; omega) h.lk.2 h.pos], h5⟩))
  have hBl := valid_lt h.2.1
  have hB0 := h.2.1.2.2.1
  obtain ⟨S, rfl⟩ := Int.eq_ofNat_of_zero_le hB0
  rw [Int.toNat_natCast] at *
  generalize stP n A (S : Int) = d at *
  generalize 2 ^ n.toNat = p at *
  clear h
  go_enter Tro.func27, Tro.ntmps27
  go_wp2_with fail
  refine (HV.out _).mono ?_; rintro e w1 ⟨rfl, rfl⟩
  go_wp2_with fail
  refine (HF.out _).mono ?_; rintro e w2 ⟨v, O, rfl, hr, hl, ho, hb⟩
  obtain ⟨g, c, rfl, hg, hgl, hcell, _⟩ := hr.cases.resolve_left (fun q => by rw [q.2] at hl; simp at hl; omega)
  have c0 := hcell S (by omega)
  rw [ho] at c0
  rw [hl]
  have s0 : (0 : Int) ≤ (S : Int) := by omega
  have s1 : (S : Int) < (p : Int) := by omega
  have HB := Lib.hid hb
  clear hcell hr hl ho hb
  go_wp2
  go_ret
  exact ⟨rfl, HB.out⟩
theorem FnExactStepsTo_core (a0 a1 a2 d : Int) (hs : ∀ w, Calls Tro.prog 27 #[.int .i64 a0, .int .i64 a1, .int .i64 a2] w (Gives1 d w)) (hi : ∀ w, Calls Tro.prog 26 #[.int .i64 a0, .int .i64 a1, .int .i64 a2] w (Gives1 d w)) (w : World) :
    Calls Tro.prog 9 #[.int .i64 a0, .int .i64 a1, .int .i64 a2] w fun e w' => e = .returned (.bool true) ∧ Below w.heap.size w w' := by
  have HS := Lib.hid hs
  have HI := Lib.hid hi
  clear hs hi
  go_enter Tro.func9, Tro.ntmps9
  go_wp2_with fail
  refine (HS.out _).mono ?_; rintro e w1 ⟨rfl, b1⟩
  have B1 := Lib.hid b1
  have hz := b1.size
  clear b1
  go_wp2_with fail
  refine (HI.out _).mono ?_; rintro e w2 ⟨rfl, b2⟩
  have B2 := Lib.hid (B1.out.trans (b2.mono hz))
  clear b2
  go_wp2_with fail
  go_ret
  exact ⟨rfl, B2.out⟩
theorem FnExactStepsTo_walk (a0 a1 a2 : Int) (w : World) :
    Calls Tro.prog 9 #[.int .i64 a0, .int .i64 a1, .int .i64 a2] w fun e w' => e = .returned (.bool true) ∧ Below w.heap.size w w' := by
  rcases Classical.em (Voices a0 a1 a2) with h | h
  · exact FnExactStepsTo_core _ _ _ _ (fun w => sStepsTo_yes _ _ _ w h) (fun w => iStepsTo_yes _ _ _ w h) w
  · exact FnExactStepsTo_core _ _ _ _ (fun w => sStepsTo_no _ _ _ w h) (fun w => iStepsTo_no _ _ _ w h) w
end Go.Proofs.YtjgkignnfkbeaaaTro
