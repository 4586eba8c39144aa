/-
  The functions that the laws reach are nice, in both programs.
-/
import Derived.Test.YtjgkignnfkbeaaaTroBase
import Derived.Test.YtjgkignnfkbeaaaSimTwo
import Derived.KernelRfl
import Derived.Test.YtjgkignnfkbeaaaPair
import Derived.Test.YtjgkignnfkbeaaaTroLib
import Derived.Test.YtjgkignnfkbeaaaLib
namespace Go.Proofs.Ytjgkignnfkbeaaa
open Go Go.Conc Sim
set_option linter.unusedVariables false
set_option maxRecDepth 100000

def callsOf (c : Code) : List Nat := match c with
  | .region _ ops _ => ops.toList.filterMap fun o => match o.op with | .call c => (match c.callee with | .value (.func f) => some f | _ => none) | _ => none
  | .seq a b => callsOf a ++ callsOf b
  | .cond _ a b => callsOf a ++ callsOf b
  | .block _ b | .loop b | .scope b => callsOf b
  | _ => []
def reach (P : Program) : Nat → List Nat → List Nat → List Nat
  | 0, _, seen => seen
  | _ + 1, [], seen => seen
  | n + 1, f :: r, seen => if seen.contains f then reach P n r seen else reach P n (((P.funcs[f]?).bind (·.body)).elim [] callsOf ++ r) (f :: seen)
def niceFn (P : Program) (F : FuncId → Bool) (f : FuncId) : Bool := match P.funcs[f]? with
  | some fn => (match fn.body with | some c => niceCode P F c | none => true)
  | none => true
noncomputable def FL0 : List Nat := reach Tro.prog 5000 [3, 4, 5, 6, 7, 8, 9, 10, 11] []
noncomputable def FL1 : List Nat := reach Try.prog 5000 [66, 43, 84, 58] []
noncomputable def F0 (f : FuncId) : Bool := FL0.contains f
noncomputable def F1 (f : FuncId) : Bool := FL1.contains f
theorem nice_at {P : Program} {F : FuncId → Bool} {f : FuncId} {fn : Func} {c : Code} (h : niceFn P F f = true) (h1 : P.funcs[f]? = some fn) (h2 : fn.body = some c) : niceCode P F c = true := by
  unfold niceFn at h
  rw [h1] at h
  simp only [h2] at h
  exact h
theorem all_in {l : List Nat} {p : Nat → Bool} (h : l.all p = true) {f : Nat} (hf : l.contains f = true) : p f = true := List.all_eq_true.1 h f (by simpa using hf)
theorem tro_funcs : Tro.prog.funcs = Try.prog.funcs.setIfInBounds 42 Tro.f42 := by kernel_rfl
theorem tro_tables : Tro.prog.toTables = Try.prog.toTables := by kernel_rfl
theorem no_bad_try : NoBad Try.prog := ⟨by kernel_rfl⟩
theorem no_bad_tro : NoBad Tro.prog := ⟨by kernel_rfl⟩
theorem globals0 : Try.prog.globals.size = 0 := by kernel_rfl
theorem call00 : FL0.all (fun f => callOk Tro.prog f) = true := by kernel_rfl
theorem call01 : FL0.all (fun f => callOk Try.prog f) = true := by kernel_rfl
theorem nice00 : FL0.all (fun f => niceFn Tro.prog F0 f) = true := by kernel_rfl
theorem nice01 : FL0.all (fun f => f == 42 || niceFn Try.prog F0 f) = true := by kernel_rfl
theorem call11 : FL1.all (fun f => callOk Try.prog f) = true := by kernel_rfl
theorem nice11 : FL1.all (fun f => niceFn Try.prog F1 f) = true := by kernel_rfl
noncomputable def K0 : FuncId := Try.prog.funcs.size
theorem k0_0 : F0 K0 = false := by kernel_rfl
theorem k0_1 : F1 K0 = false := by kernel_rfl
theorem good_two : Sim.Good Tro.prog Try.prog F0 42 where
  tables := tro_tables
  globals := globals0
  bad := no_bad_try
  call f hf := ⟨all_in call00 hf, all_in call01 hf⟩
  same f hf hne := by rw [tro_funcs, Array.getElem?_setIfInBounds_ne (fun e => hne e.symm)]
  nice f fn c hf hne h1 h2 := by
    have := all_in nice01 hf
    rw [Bool.or_eq_true] at this
    rcases this with q | q
    · exact absurd (by simpa using q) hne
    · exact nice_at q h1 h2
theorem good_tro : Sim.Good Tro.prog Tro.prog F0 K0 := ⟨rfl, globals0, no_bad_tro, fun f hf => ⟨all_in call00 hf, all_in call00 hf⟩, fun _ _ _ => rfl, fun f fn c hf _ h1 h2 => nice_at (all_in nice00 hf) h1 h2⟩
theorem good_try : Sim.Good Try.prog Try.prog F1 K0 := ⟨rfl, globals0, no_bad_try, fun f hf => ⟨all_in call11 hf, all_in call11 hf⟩, fun _ _ _ => rfl, fun f fn c hf _ h1 h2 => nice_at (all_in nice11 hf) h1 h2⟩
theorem f1_count : F1 66 = true := by kernel_rfl
theorem f1_list : F1 43 = true := by kernel_rfl
theorem f1_far : F1 84 = true := by kernel_rfl
theorem f1_near : F1 58 = true := by kernel_rfl
end Go.Proofs.Ytjgkignnfkbeaaa

/-
  What is known of the sequential body's arguments, out of a lone run that ends well.
-/
namespace Go.Proofs.Ytjgkignnfkbeaaa
open Go Go.Conc Sim
set_option linter.unusedVariables false
set_option maxRecDepth 20000
variable [Low]

section
variable {P : Program} {F : FuncId → Bool} {K0 : FuncId} {S : Frame → World → Prop}
theorem Sim.Tree.adv {f f' : Frame} {cs cs' : List Frame} {w w' : World} {es : Array Event} (T : Sim.Tree P F K0 S f cs w) (hr : f.mode = .run) (h : stepG P true (G f (cs ++ [Z])) w = .go (G f' (cs' ++ [Z])) w' es) : Sim.Tree P F K0 S f' cs' w' :=
  T.child (c' := ⟨f', cs', w'⟩) (c := ⟨f, cs, w⟩) ⟨.inl hr, w.tape, w.drawn, es, h⟩
theorem Sim.Tree.goes {f : Frame} {cs : List Frame} {w : World} (T : Sim.Tree P F K0 S f cs w) (hr : f.mode = .run) : ∃ f' cs' w' es, stepG P true (G f (cs ++ [Z])) w = .go (G f' (cs' ++ [Z])) w' es := by
  cases T with
  | stop _ hm _ => rw [hm] at hr; cases hr
  | step _ _ hgo _ =>
    obtain ⟨f', cs', w', es, h, _⟩ := hgo w.tape w.drawn
    exact ⟨f', cs', w', es, h⟩
theorem Sim.Tree.no_halt {b : Frame} {a : Act} {k : List Item} {cs : List Frame} {w w' : World} {ops : Array Oper} {i : Nat} {rest : List Nat} {o : Oper} {h : Halt} (T : Sim.Tree P F K0 S (b.at a (.inRegion ops (i :: rest) :: k)) cs w) (hb : b.mode = .run) (ho : ops[i]? = some o) (hg : o.guard = none)
    (hr : (execOp a.eval o).run P w = .halt h w') (ht : Tame h) (hp : ∀ v, h ≠ .panic v) : False := by
  obtain ⟨f', cs', w2, es, h1⟩ := T.goes rfl
  obtain ⟨q, es2, h2⟩ := stepG_halt (P := P) (m := true) (b := b) (a := a) (k := k) (cs := cs ++ [Z]) ho (wanted_none hg) hr ht hp
  rw [h2] at h1
  cases h1
end
def sFr : Frame := { (default : Frame) with fn := 42, kind := .normal }
def sAct (x y : Value) : Act := { tmps := #[x, y] ++ Array.replicate 18 undef, defers := [] }
omit [Low] in
theorem enter_s (x y : Value) : Frame.enter Tro.prog 42 #[x, y] .normal = sFr.at (sAct x y) [.code Tro.body] := by
  have hf := Tro.func42
  simp [Frame.enter, Frame.at, hf, sFr, sAct, Tro.ntmps42]
  rfl
omit [Low] in
theorem sAct_facts (x y : Value) : (sAct x y).tmps.size = 20 ∧ (sAct x y).defers = [] ∧ (sAct x y).eval (.tmp 0) = x ∧ (sAct x y).eval (.tmp 1) = y := ⟨by simp [sAct], rfl, by simp [sAct, Act.eval], by simp [sAct, Act.eval]⟩
omit [Low] in
theorem run_allocS {e : Operand → Value} {o : Oper} (h : o.op = .alloc 47) (w : World) : (execOp e o).run Tro.prog w = .ok (.value (.pointer (some ⟨w.heap.size, 0, none⟩))) { w with heap := w.heap.push (.cells #[.int .i64 0, .int .i64 0] 47 (0, 0)) } := by
  unfold execOp
  rw [h]
  simp [go_sem]
omit [Low] in
theorem exec_store {e : Operand → Value} {o : Oper} {t : TypeId} {x y : Operand} (h : o.op = .store t x y) : execOp e o = (do Instr.storeAt t (e x) (e y); Pure.pure Next.skip) := by
  unfold execOp
  rw [h]
omit [Low] in
theorem exec_bin {e : Operand → Value} {o : Oper} {op : BinOp} {t u : TypeId} {x y : Operand} (h : o.op = .binOp op t x y u) : execOp e o = (do let r ← (do eqGuard op t x y (e x) (e y); binOp op t (e x) (e y)); Pure.pure (Next.value r)) := by
  unfold execOp
  rw [h]
omit [Low] in
theorem store_not {P : Program} {v : Value} (h : ¬ v.oneCell' = true) (a : Addr) (m : Mode) (w : World) : ∃ s, (store a v m).run P w = .halt (.stuck s) w := by
  cases v
  case agg cs => exact ⟨_, by simp only [store, Sem.run]; rfl⟩
  case tuple cs => exact ⟨_, by simp only [store, Sem.run]; rfl⟩
  all_goals exact absurd rfl h
omit [Low] in
/-- what is stored in a circle set's variable is two cells -/
theorem run_storeS {e : Operand → Value} {o : Oper} {x y : Operand} {b : Nat} (h : o.op = .store 47 x y) (hx : e x = .pointer (some ⟨b, 0, none⟩)) {w : World} (hw : w.heap[b]? = some (.cells #[.int .i64 0, .int .i64 0] 47 (0, 0))) :
    (∃ p q, e y = .agg #[p, q] ∧ (execOp e o).run Tro.prog w = .ok .skip ((w.setCell ⟨b, 0, none⟩ p).setCell ⟨b, 1, none⟩ q)) ∨ ∃ h' w', (execOp e o).run Tro.prog w = .halt h' w' ∧ Tame h' ∧ ∀ v, h' ≠ .panic v := by
  have c0 : w.cell? ⟨b, 0, none⟩ = some (.int .i64 0) := by simp [World.cell?, hw]
  have c1 : w.cell? ⟨b, 1, none⟩ = some (.int .i64 0) := by simp [World.cell?, hw]
  have f0 : w.frozen? ⟨b, 0, none⟩ = false := by simp [World.frozen?, hw]
  have f1 : w.frozen? ⟨b, 1, none⟩ = false := by simp [World.frozen?, hw]
  rw [exec_store h, hx]
  generalize e y = v
  by_cases hy : ∃ p q, v = .agg #[p, q]
  · obtain ⟨p, q, rfl⟩ := hy
    by_cases hp : p.oneCell' = true
    · by_cases hq : q.oneCell' = true
      · left
        refine ⟨p, q, rfl, ?_⟩
        simp [go_sem, run_store, hp, hq, c0, c1, f0, f1]
      · right
        obtain ⟨s, hs⟩ := store_not (P := Tro.prog) hq ⟨b, 1, none⟩ .plain (w.setCell ⟨b, 0, none⟩ p)
        refine ⟨.stuck s, w.setCell ⟨b, 0, none⟩ p, ?_, trivial, fun v e => by cases e⟩
        simp [go_sem, run_store, hp, c0, c1, f0, f1, hs]
    · right
      obtain ⟨s, hs⟩ := store_not (P := Tro.prog) hp ⟨b, 0, none⟩ .plain w
      refine ⟨.stuck s, w, ?_, trivial, fun v e => by cases e⟩
      simp [go_sem, hs]
  · right
    cases v
    case agg cs =>
      have hs : ¬ cs.size = 2 := fun hs => hy (by
        obtain ⟨l⟩ := cs
        match l, hs with
        | [p, q], _ => exact ⟨p, q, rfl⟩)
      refine ⟨.stuck "storeVar: the value has not the size of the variable", w, ?_, trivial, fun v e => by cases e⟩
      simp [go_sem, hs]
    all_goals
      refine ⟨.stuck "storeVar: the value has not the size of the variable", w, ?_, trivial, fun v e => by cases e⟩
      simp [go_sem]
omit [Low] in
theorem run_mulS {a : Act} {o : Oper} {x : Operand} (h : o.op = .binOp .mul 3 x (.const (.int .i64 1)) 3) (w : World) :
    (∃ n, a.eval x = .int .i64 n ∧ (execOp a.eval o).run Tro.prog w = .ok (.value (.int .i64 (IntKind.i64.wrap (n * 1)))) w) ∨ ∃ h' w', (execOp a.eval o).run Tro.prog w = .halt h' w' ∧ Tame h' ∧ ∀ v, h' ≠ .panic v := by
  rw [exec_bin h]
  generalize a.eval x = v
  have hc : a.eval (.const (.int .i64 1)) = .int .i64 1 := rfl
  rw [hc]
  by_cases hy : ∃ n, v = .int .i64 n
  · obtain ⟨n, rfl⟩ := hy
    left
    refine ⟨n, rfl, ?_⟩
    simp [go_sem]
  · right
    cases v
    all_goals simp [go_sem, binOp, eqGuard] at hy ⊢
    all_goals first | trivial | (rw [if_neg hy]; exact ⟨_, ⟨_, rfl⟩, trivial, fun v e => by cases e⟩)
omit [Low] in
theorem s0_0 : ∃ o, Tro.s0[0]? = some o ∧ o.op = .alloc 47 ∧ o.dst = some 18 ∧ o.guard = none := ⟨_, rfl, rfl, rfl, rfl⟩
omit [Low] in
theorem s0_1 : ∃ o, Tro.s0[1]? = some o ∧ o.op = .store 47 (.tmp 18) (.tmp 0) ∧ o.dst = none ∧ o.guard = none := ⟨_, rfl, rfl, rfl, rfl⟩
omit [Low] in
theorem s0_2 : ∃ o, Tro.s0[2]? = some o ∧ o.op = .alloc 47 ∧ o.dst = some 19 ∧ o.guard = none := ⟨_, rfl, rfl, rfl, rfl⟩
omit [Low] in
theorem s0_3 : ∃ o, Tro.s0[3]? = some o ∧ o.op = .store 47 (.tmp 19) (.tmp 1) ∧ o.dst = none ∧ o.guard = none := ⟨_, rfl, rfl, rfl, rfl⟩
omit [Low] in
theorem s0_4 : ∃ o, Tro.s0[4]? = some o ∧ o.op = .field 47 (.tmp 0) 0 ∧ o.dst = some 5 ∧ o.guard = none := ⟨_, rfl, rfl, rfl, rfl⟩
omit [Low] in
theorem s0_5 : ∃ o, Tro.s0[5]? = some o ∧ o.op = .field 47 (.tmp 0) 1 ∧ o.dst = some 6 ∧ o.guard = none := ⟨_, rfl, rfl, rfl, rfl⟩
omit [Low] in
theorem s0_6 : ∃ o, Tro.s0[6]? = some o ∧ o.op = .field 47 (.tmp 1) 1 ∧ o.dst = some 7 ∧ o.guard = none := ⟨_, rfl, rfl, rfl, rfl⟩
omit [Low] in
theorem s0_7 : ∃ o, Tro.s0[7]? = some o ∧ o.op = .field 47 (.tmp 1) 0 ∧ o.dst = some 8 ∧ o.guard = none := ⟨_, rfl, rfl, rfl, rfl⟩
omit [Low] in
theorem s0_8 : ∃ o, Tro.s0[8]? = some o ∧ o.op = .binOp .mul 3 (.tmp 5) (.const (.int .i64 1)) 3 ∧ o.dst = some 14 ∧ o.guard = none := ⟨_, rfl, rfl, rfl, rfl⟩
omit [Low] in
theorem s0_9 : ∃ o, Tro.s0[9]? = some o ∧ o.op = .binOp .mul 3 (.tmp 6) (.const (.int .i64 1)) 3 ∧ o.dst = some 15 ∧ o.guard = none := ⟨_, rfl, rfl, rfl, rfl⟩
omit [Low] in
theorem s0_10 : ∃ o, Tro.s0[10]? = some o ∧ o.op = .binOp .mul 3 (.tmp 7) (.const (.int .i64 1)) 3 ∧ o.dst = some 16 ∧ o.guard = none := ⟨_, rfl, rfl, rfl, rfl⟩
omit [Low] in
theorem s0_11 : ∃ o, Tro.s0[11]? = some o ∧ o.op = .binOp .mul 3 (.tmp 8) (.const (.int .i64 1)) 3 ∧ o.dst = some 17 ∧ o.guard = none := ⟨_, rfl, rfl, rfl, rfl⟩
omit [Low] in
theorem s0_12 : ∃ o, Tro.s0[12]? = some o ∧ (∃ ats, o.op = .call { callee := .value (.func 41), args := #[.tmp 5, .tmp 6, .tmp 7], argTypes := ats }) ∧ o.dst = some 9 ∧ o.guard = none := ⟨_, rfl, ⟨_, rfl⟩, rfl, rfl⟩
omit [Low] in
theorem s1_0 : ∃ o, Tro.s1[0]? = some o ∧ o.op = .binOp .eql 3 (.tmp 5) (.tmp 8) 3 ∧ o.dst = some 10 ∧ o.guard = none := ⟨_, rfl, rfl, rfl, rfl⟩
omit [Low] in
theorem s_sizes : Tro.s0.size = 13 ∧ Tro.s1.size = 1 ∧ Tro.s2.size = 4 := ⟨rfl, rfl, rfl⟩
omit [Low] in
theorem run_fieldS {e : Operand → Value} {o : Oper} {x : Operand} {k : Nat} {p q : Value} (h : o.op = .field 47 x k) (hx : e x = .agg #[p, q]) (hk : k = 0 ∨ k = 1) (w : World) : (execOp e o).run Tro.prog w = .ok (.value (if k = 0 then p else q)) w := by
  unfold execOp
  rw [h]
  rcases hk with rfl | rfl <;> simp [go_sem, hx, Instr.field, part, asAgg]
theorem Sim.Tree.val {P : Program} {F : FuncId → Bool} {K0 : FuncId} {S : Frame → World → Prop} {b : Frame} {a : Act} {k : List Item} {cs : List Frame} {w w' : World} {ops : Array Oper} {i : Nat} {rest : List Nat} {o : Oper} {v : Value} (T : Sim.Tree P F K0 S (b.at a (.inRegion ops (i :: rest) :: k)) cs w) (hm : b.mode = .run) (hb : b.kind ≠ .early) (ho : ops[i]? = some o) (hg : o.guard = none)
    (hr : (execOp a.eval o).run P w = .ok (.value v) w') : Sim.Tree P F K0 S (b.at (a.put o.dst v) (.inRegion ops rest :: k)) cs w' := T.adv rfl (stepG_value ho (wanted_none hg) hb hr)
theorem Sim.Tree.skp {P : Program} {F : FuncId → Bool} {K0 : FuncId} {S : Frame → World → Prop} {b : Frame} {a : Act} {k : List Item} {cs : List Frame} {w w' : World} {ops : Array Oper} {i : Nat} {rest : List Nat} {o : Oper} (T : Sim.Tree P F K0 S (b.at a (.inRegion ops (i :: rest) :: k)) cs w) (hm : b.mode = .run) (hb : b.kind ≠ .early) (ho : ops[i]? = some o) (hg : o.guard = none)
    (hr : (execOp a.eval o).run P w = .ok .skip w') (hd : o.dst = none) : Sim.Tree P F K0 S (b.at a (.inRegion ops rest :: k)) cs w' := by
  have := T.adv rfl (stepG_none ho (wanted_none hg) hb hr)
  rw [hd] at this
  exact this
set_option maxHeartbeats 1000000 in
theorem stub_args_at {F : FuncId → Bool} {K0 : FuncId} {S : Frame → World → Prop} {x y : Value} {cs : List Frame} {k : List Item} {w : World} {a0 : Act} (hsz : a0.tmps.size = 20) (hd : a0.defers = []) (e0 : a0.eval (.tmp 0) = x) (e1 : a0.eval (.tmp 1) = y)
    (T : Sim.Tree Tro.prog F K0 S (sFr.at a0 (.inRegion Tro.s0 [0, 1, 2, 3, 4, 5, 6, 7, 8, 9, 10, 11, 12] :: k)) cs w) : ∃ (n A B n' : Int) (a : Act) (w' : World), x = .agg #[.int .i64 n, .int .i64 A] ∧ y = .agg #[.int .i64 n', .int .i64 B] ∧ a.tmps.size = 20 ∧ a.defers = [] ∧ a.eval (.tmp 5) = .int .i64 n ∧ a.eval (.tmp 6) = .int .i64 A ∧ a.eval (.tmp 7) = .int .i64 B ∧ a.eval (.tmp 8) = .int .i64 n' ∧
      Sim.Tree Tro.prog F K0 S (sFr.at a (.inRegion Tro.s0 [12] :: k)) cs w' := by
  have hb : sFr.kind ≠ .early := by simp [sFr]
  have hm : sFr.mode = .run := rfl
  obtain ⟨o, q1, q2, q3, q4⟩ := s0_0
  have l0 : ({ w with heap := w.heap.push (.cells #[.int .i64 0, .int .i64 0] 47 (0, 0)) } : World).heap[w.heap.size]? = some (.cells #[.int .i64 0, .int .i64 0] 47 (0, 0)) := by simp
  replace T := T.val hm hb q1 q4 (run_allocS q2 w)
  rw [q3] at T
  generalize ({ w with heap := w.heap.push (.cells #[.int .i64 0, .int .i64 0] 47 (0, 0)) } : World) = w0 at l0 T
  generalize w.heap.size = g0 at l0 T
  have p0 : (a0.put (some 18) (.pointer (some ⟨g0, 0, none⟩))).eval (.tmp 18) = .pointer (some ⟨g0, 0, none⟩) := put_self (by rw [hsz]; omega)
  replace e0 := (put_ne (a := a0) (v := .pointer (some ⟨g0, 0, none⟩)) (show 18 ≠ 0 by omega)).trans e0
  replace e1 := (put_ne (a := a0) (v := .pointer (some ⟨g0, 0, none⟩)) (show 18 ≠ 1 by omega)).trans e1
  replace hsz := (put_size (a := a0) (v := .pointer (some ⟨g0, 0, none⟩)) (some 18)).trans hsz
  replace hd := (put_defers (a := a0) (v := .pointer (some ⟨g0, 0, none⟩)) (some 18)).trans hd
  generalize a0.put (some 18) (.pointer (some ⟨g0, 0, none⟩)) = a1 at hsz hd e0 e1 p0 T
  obtain ⟨o, q1, q2, q3, q4⟩ := s0_1
  rcases run_storeS q2 p0 l0 with ⟨c1, d1, r1, r2⟩ | ⟨h', w', r1, r2, r3⟩
  case inr => exact (T.no_halt hm q1 q4 r1 r2 r3).elim
  replace T := T.skp hm hb q1 q4 r2 q3
  rw [e0] at r1
  subst r1
  clear r2 l0 p0
  generalize (w0.setCell ⟨g0, 0, none⟩ c1).setCell ⟨g0, 1, none⟩ d1 = w1 at T
  obtain ⟨o, q1, q2, q3, q4⟩ := s0_2
  have l2 : ({ w1 with heap := w1.heap.push (.cells #[.int .i64 0, .int .i64 0] 47 (0, 0)) } : World).heap[w1.heap.size]? = some (.cells #[.int .i64 0, .int .i64 0] 47 (0, 0)) := by simp
  replace T := T.val hm hb q1 q4 (run_allocS q2 w1)
  rw [q3] at T
  generalize ({ w1 with heap := w1.heap.push (.cells #[.int .i64 0, .int .i64 0] 47 (0, 0)) } : World) = w2 at l2 T
  generalize w1.heap.size = g2 at l2 T
  have p2 : (a1.put (some 19) (.pointer (some ⟨g2, 0, none⟩))).eval (.tmp 19) = .pointer (some ⟨g2, 0, none⟩) := put_self (by rw [hsz]; omega)
  replace e0 := (put_ne (a := a1) (v := .pointer (some ⟨g2, 0, none⟩)) (show 19 ≠ 0 by omega)).trans e0
  replace e1 := (put_ne (a := a1) (v := .pointer (some ⟨g2, 0, none⟩)) (show 19 ≠ 1 by omega)).trans e1
  replace hsz := (put_size (a := a1) (v := .pointer (some ⟨g2, 0, none⟩)) (some 19)).trans hsz
  replace hd := (put_defers (a := a1) (v := .pointer (some ⟨g2, 0, none⟩)) (some 19)).trans hd
  generalize a1.put (some 19) (.pointer (some ⟨g2, 0, none⟩)) = a2 at hsz hd e0 e1 p2 T
  obtain ⟨o, q1, q2, q3, q4⟩ := s0_3
  rcases run_storeS q2 p2 l2 with ⟨c3, d3, r1, r2⟩ | ⟨h', w', r1, r2, r3⟩
  case inr => exact (T.no_halt hm q1 q4 r1 r2 r3).elim
  replace T := T.skp hm hb q1 q4 r2 q3
  rw [e1] at r1
  subst r1
  clear r2 l2 p2
  generalize (w2.setCell ⟨g2, 0, none⟩ c3).setCell ⟨g2, 1, none⟩ d3 = w3 at T
  obtain ⟨o, q1, q2, q3, q4⟩ := s0_4
  have hr := run_fieldS q2 e0 (.inl rfl) w3
  simp only [if_true] at hr
  replace T := T.val hm hb q1 q4 hr
  rw [q3] at T
  clear hr
  have f5 : (a2.put (some 5) (c1)).eval (.tmp 5) = c1 := put_self (by rw [hsz]; omega)
  replace e0 := (put_ne (a := a2) (v := c1) (show 5 ≠ 0 by omega)).trans e0
  replace e1 := (put_ne (a := a2) (v := c1) (show 5 ≠ 1 by omega)).trans e1
  replace hsz := (put_size (a := a2) (v := c1) (some 5)).trans hsz
  replace hd := (put_defers (a := a2) (v := c1) (some 5)).trans hd
  generalize a2.put (some 5) (c1) = a3 at hsz hd e0 e1 f5 T
  obtain ⟨o, q1, q2, q3, q4⟩ := s0_5
  have hr := run_fieldS q2 e0 (.inr rfl) w3
  simp only [Nat.one_ne_zero, if_false] at hr
  replace T := T.val hm hb q1 q4 hr
  rw [q3] at T
  clear hr
  have f6 : (a3.put (some 6) (d1)).eval (.tmp 6) = d1 := put_self (by rw [hsz]; omega)
  replace e0 := (put_ne (a := a3) (v := d1) (show 6 ≠ 0 by omega)).trans e0
  replace e1 := (put_ne (a := a3) (v := d1) (show 6 ≠ 1 by omega)).trans e1
  replace f5 := (put_ne (a := a3) (v := d1) (show 6 ≠ 5 by omega)).trans f5
  replace hsz := (put_size (a := a3) (v := d1) (some 6)).trans hsz
  replace hd := (put_defers (a := a3) (v := d1) (some 6)).trans hd
  generalize a3.put (some 6) (d1) = a4 at hsz hd e0 e1 f5 f6 T
  obtain ⟨o, q1, q2, q3, q4⟩ := s0_6
  have hr := run_fieldS q2 e1 (.inr rfl) w3
  simp only [Nat.one_ne_zero, if_false] at hr
  replace T := T.val hm hb q1 q4 hr
  rw [q3] at T
  clear hr
  have f7 : (a4.put (some 7) (d3)).eval (.tmp 7) = d3 := put_self (by rw [hsz]; omega)
  replace e0 := (put_ne (a := a4) (v := d3) (show 7 ≠ 0 by omega)).trans e0
  replace e1 := (put_ne (a := a4) (v := d3) (show 7 ≠ 1 by omega)).trans e1
  replace f5 := (put_ne (a := a4) (v := d3) (show 7 ≠ 5 by omega)).trans f5
  replace f6 := (put_ne (a := a4) (v := d3) (show 7 ≠ 6 by omega)).trans f6
  replace hsz := (put_size (a := a4) (v := d3) (some 7)).trans hsz
  replace hd := (put_defers (a := a4) (v := d3) (some 7)).trans hd
  generalize a4.put (some 7) (d3) = a5 at hsz hd e0 e1 f5 f6 f7 T
  obtain ⟨o, q1, q2, q3, q4⟩ := s0_7
  have hr := run_fieldS q2 e1 (.inl rfl) w3
  simp only [if_true] at hr
  replace T := T.val hm hb q1 q4 hr
  rw [q3] at T
  clear hr
  have f8 : (a5.put (some 8) (c3)).eval (.tmp 8) = c3 := put_self (by rw [hsz]; omega)
  replace e0 := (put_ne (a := a5) (v := c3) (show 8 ≠ 0 by omega)).trans e0
  replace e1 := (put_ne (a := a5) (v := c3) (show 8 ≠ 1 by omega)).trans e1
  replace f5 := (put_ne (a := a5) (v := c3) (show 8 ≠ 5 by omega)).trans f5
  replace f6 := (put_ne (a := a5) (v := c3) (show 8 ≠ 6 by omega)).trans f6
  replace f7 := (put_ne (a := a5) (v := c3) (show 8 ≠ 7 by omega)).trans f7
  replace hsz := (put_size (a := a5) (v := c3) (some 8)).trans hsz
  replace hd := (put_defers (a := a5) (v := c3) (some 8)).trans hd
  generalize a5.put (some 8) (c3) = a6 at hsz hd e0 e1 f5 f6 f7 f8 T
  obtain ⟨o, q1, q2, q3, q4⟩ := s0_8
  rcases run_mulS q2 w3 with ⟨n, r1, r2⟩ | ⟨h', w', r1, r2, r3⟩
  case inr => exact (T.no_halt hm q1 q4 r1 r2 r3).elim
  rw [f5] at r1
  subst r1
  replace T := T.val hm hb q1 q4 r2
  rw [q3] at T
  clear r2
  replace e0 := (put_ne (a := a6) (v := .int .i64 (IntKind.i64.wrap (n * 1))) (show 14 ≠ 0 by omega)).trans e0
  replace e1 := (put_ne (a := a6) (v := .int .i64 (IntKind.i64.wrap (n * 1))) (show 14 ≠ 1 by omega)).trans e1
  replace f5 := (put_ne (a := a6) (v := .int .i64 (IntKind.i64.wrap (n * 1))) (show 14 ≠ 5 by omega)).trans f5
  replace f6 := (put_ne (a := a6) (v := .int .i64 (IntKind.i64.wrap (n * 1))) (show 14 ≠ 6 by omega)).trans f6
  replace f7 := (put_ne (a := a6) (v := .int .i64 (IntKind.i64.wrap (n * 1))) (show 14 ≠ 7 by omega)).trans f7
  replace f8 := (put_ne (a := a6) (v := .int .i64 (IntKind.i64.wrap (n * 1))) (show 14 ≠ 8 by omega)).trans f8
  replace hsz := (put_size (a := a6) (v := .int .i64 (IntKind.i64.wrap (n * 1))) (some 14)).trans hsz
  replace hd := (put_defers (a := a6) (v := .int .i64 (IntKind.i64.wrap (n * 1))) (some 14)).trans hd
  generalize a6.put (some 14) (.int .i64 (IntKind.i64.wrap (n * 1))) = a7 at hsz hd e0 e1 f5 f6 f7 f8 T
  obtain ⟨o, q1, q2, q3, q4⟩ := s0_9
  rcases run_mulS q2 w3 with ⟨A, r1, r2⟩ | ⟨h', w', r1, r2, r3⟩
  case inr => exact (T.no_halt hm q1 q4 r1 r2 r3).elim
  rw [f6] at r1
  subst r1
  replace T := T.val hm hb q1 q4 r2
  rw [q3] at T
  clear r2
  replace e0 := (put_ne (a := a7) (v := .int .i64 (IntKind.i64.wrap (A * 1))) (show 15 ≠ 0 by omega)).trans e0
  replace e1 := (put_ne (a := a7) (v := .int .i64 (IntKind.i64.wrap (A * 1))) (show 15 ≠ 1 by omega)).trans e1
  replace f5 := (put_ne (a := a7) (v := .int .i64 (IntKind.i64.wrap (A * 1))) (show 15 ≠ 5 by omega)).trans f5
  replace f6 := (put_ne (a := a7) (v := .int .i64 (IntKind.i64.wrap (A * 1))) (show 15 ≠ 6 by omega)).trans f6
  replace f7 := (put_ne (a := a7) (v := .int .i64 (IntKind.i64.wrap (A * 1))) (show 15 ≠ 7 by omega)).trans f7
  replace f8 := (put_ne (a := a7) (v := .int .i64 (IntKind.i64.wrap (A * 1))) (show 15 ≠ 8 by omega)).trans f8
  replace hsz := (put_size (a := a7) (v := .int .i64 (IntKind.i64.wrap (A * 1))) (some 15)).trans hsz
  replace hd := (put_defers (a := a7) (v := .int .i64 (IntKind.i64.wrap (A * 1))) (some 15)).trans hd
  generalize a7.put (some 15) (.int .i64 (IntKind.i64.wrap (A * 1))) = a8 at hsz hd e0 e1 f5 f6 f7 f8 T
  obtain ⟨o, q1, q2, q3, q4⟩ := s0_10
  rcases run_mulS q2 w3 with ⟨B, r1, r2⟩ | ⟨h', w', r1, r2, r3⟩
  case inr => exact (T.no_halt hm q1 q4 r1 r2 r3).elim
  rw [f7] at r1
  subst r1
  replace T := T.val hm hb q1 q4 r2
  rw [q3] at T
  clear r2
  replace e0 := (put_ne (a := a8) (v := .int .i64 (IntKind.i64.wrap (B * 1))) (show 16 ≠ 0 by omega)).trans e0
  replace e1 := (put_ne (a := a8) (v := .int .i64 (IntKind.i64.wrap (B * 1))) (show 16 ≠ 1 by omega)).trans e1
  replace f5 := (put_ne (a := a8) (v := .int .i64 (IntKind.i64.wrap (B * 1))) (show 16 ≠ 5 by omega)).trans f5
  replace f6 := (put_ne (a := a8) (v := .int .i64 (IntKind.i64.wrap (B * 1))) (show 16 ≠ 6 by omega)).trans f6
  replace f7 := (put_ne (a := a8) (v := .int .i64 (IntKind.i64.wrap (B * 1))) (show 16 ≠ 7 by omega)).trans f7
  replace f8 := (put_ne (a := a8) (v := .int .i64 (IntKind.i64.wrap (B * 1))) (show 16 ≠ 8 by omega)).trans f8
  replace hsz := (put_size (a := a8) (v := .int .i64 (IntKind.i64.wrap (B * 1))) (some 16)).trans hsz
  replace hd := (put_defers (a := a8) (v := .int .i64 (IntKind.i64.wrap (B * 1))) (some 16)).trans hd
  generalize a8.put (some 16) (.int .i64 (IntKind.i64.wrap (B * 1))) = a9 at hsz hd e0 e1 f5 f6 f7 f8 T
  obtain ⟨o, q1, q2, q3, q4⟩ := s0_11
  rcases run_mulS q2 w3 with ⟨m, r1, r2⟩ | ⟨h', w', r1, r2, r3⟩
  case inr => exact (T.no_halt hm q1 q4 r1 r2 r3).elim
  rw [f8] at r1
  subst r1
  replace T := T.val hm hb q1 q4 r2
  rw [q3] at T
  clear r2
  replace e0 := (put_ne (a := a9) (v := .int .i64 (IntKind.i64.wrap (m * 1))) (show 17 ≠ 0 by omega)).trans e0
  replace e1 := (put_ne (a := a9) (v := .int .i64 (IntKind.i64.wrap (m * 1))) (show 17 ≠ 1 by omega)).trans e1
  replace f5 := (put_ne (a := a9) (v := .int .i64 (IntKind.i64.wrap (m * 1))) (show 17 ≠ 5 by omega)).trans f5
  replace f6 := (put_ne (a := a9) (v := .int .i64 (IntKind.i64.wrap (m * 1))) (show 17 ≠ 6 by omega)).trans f6
  replace f7 := (put_ne (a := a9) (v := .int .i64 (IntKind.i64.wrap (m * 1))) (show 17 ≠ 7 by omega)).trans f7
  replace f8 := (put_ne (a := a9) (v := .int .i64 (IntKind.i64.wrap (m * 1))) (show 17 ≠ 8 by omega)).trans f8
  replace hsz := (put_size (a := a9) (v := .int .i64 (IntKind.i64.wrap (m * 1))) (some 17)).trans hsz
  replace hd := (put_defers (a := a9) (v := .int .i64 (IntKind.i64.wrap (m * 1))) (some 17)).trans hd
  generalize a9.put (some 17) (.int .i64 (IntKind.i64.wrap (m * 1))) = a10 at hsz hd e0 e1 f5 f6 f7 f8 T
  exact ⟨n, A, B, m, a10, w3, rfl, rfl, hsz, hd, f5, f6, f7, f8, T⟩
theorem no_refuse {P : Program} {F : FuncId → Bool} {K0 : FuncId} {S : Frame → World → Prop} {b : Frame} {a : Act} {k : List Item} {cs : List Frame} {w : World} {why : String} (T : Sim.Tree P F K0 S (b.at a (.code (.refuse why) :: k)) cs w) : False := by
  obtain ⟨f', cs', w', es, h⟩ := T.goes rfl
  simp [G, stepG, stepG.exec, Frame.at] at h
omit [Low] in
theorem run_eqlS {a : Act} {o : Oper} {n m : Int} (h : o.op = .binOp .eql 3 (.tmp 5) (.tmp 8) 3) (h5 : a.eval (.tmp 5) = .int .i64 n) (h8 : a.eval (.tmp 8) = .int .i64 m) (w : World) : (execOp a.eval o).run Tro.prog w = .ok (.value (.bool (n == m))) w := by
  rw [exec_bin h, h5, h8]
  simp [go_sem]
set_option maxHeartbeats 1000000 in
theorem stub_args {F : FuncId → Bool} {K0 : FuncId} {S : Frame → World → Prop} (hG0 : Sim.Good Tro.prog Tro.prog F K0) {vv : Int → Int → Int → Bool} (HV : ∀ n A B w, Calls Tro.prog 41 #[.int .i64 n, .int .i64 A, .int .i64 B] w fun e w' => ∃ v, e = .returned v ∧ v = .bool (vv n A B))
    {x y : Value} {cs : List Frame} {w : World} (T : Sim.Tree Tro.prog F K0 S (Frame.enter Tro.prog 42 #[x, y] .normal) cs w) : ∃ n A B : Int, x = .agg #[.int .i64 n, .int .i64 A] ∧ y = .agg #[.int .i64 n, .int .i64 B] ∧ vv n A B = true := by
  have hb : sFr.kind ≠ .early := by simp [sFr]
  rw [enter_s] at T
  obtain ⟨hsz, hd, e0, e1⟩ := sAct_facts x y
  replace T := T.adv rfl stepG_seq
  replace T := T.adv rfl stepG_region
  rw [s_sizes.1] at T
  obtain ⟨n, A, B, m, a, w1, rfl, rfl, hsz, hd, f5, f6, f7, f8, T⟩ := stub_args_at hsz hd e0 e1 T
  obtain ⟨o, q1, ⟨ats, q2⟩, q3, q4⟩ := s0_12
  have hrun := run_call (P := Tro.prog) (e := a.eval) q2 rfl Tro.func41 (by kernel_rfl) (by simp [Try.f41])
  have hargs : (#[Operand.tmp 5, .tmp 6, .tmp 7] : Array Operand).map a.eval = #[.int .i64 n, .int .i64 A, .int .i64 B] := by simp [f5, f6, f7]
  rw [hargs] at hrun
  replace T := Sim.Tree.adv (cs' := _ :: cs) T rfl (Go.Conc.stepG_enter q1 (wanted_none q4) hb (hrun w1).1)
  obtain ⟨v, w2, rfl, hdsc⟩ := desc_of_calls hG0 (fc := sFr.at a (.inRegion Tro.s0 [12] :: _)) T (HV n A B w1)
  have T2 := T.desc hdsc
  simp only [Frame.finish_at, q1, Option.bind_some, q3] at T2
  have e9 : (a.put (some 9) (.bool (vv n A B))).eval (.tmp 9) = .bool (vv n A B) := put_self (by rw [hsz]; omega)
  have g5 := (put_ne (a := a) (v := .bool (vv n A B)) (show 9 ≠ 5 by omega)).trans f5
  have g8 := (put_ne (a := a) (v := .bool (vv n A B)) (show 9 ≠ 8 by omega)).trans f8
  have hsz2 := (put_size (a := a) (v := .bool (vv n A B)) (some 9)).trans hsz
  generalize a.put (some 9) (.bool (vv n A B)) = a2 at e9 g5 g8 hsz2 T2
  clear T hdsc
  replace T2 := T2.adv rfl stepG_region_end
  replace T2 := T2.adv rfl stepG_seq
  replace T2 := T2.adv rfl (stepG_cond e9)
  cases hvv : vv n A B with
  | false => rw [hvv] at T2; exact (no_refuse T2).elim
  | true =>
    rw [hvv] at T2
    replace T2 := T2.adv rfl stepG_skip
    replace T2 := T2.adv rfl stepG_seq
    replace T2 := T2.adv rfl stepG_region
    rw [s_sizes.2.1] at T2
    obtain ⟨o, q1, q2, q3, q4⟩ := s1_0
    replace T2 := Sim.Tree.val (rest := []) T2 rfl hb q1 q4 (run_eqlS q2 g5 g8 w2)
    rw [q3] at T2
    have e10 : (a2.put (some 10) (.bool (n == m))).eval (.tmp 10) = .bool (n == m) := put_self (by rw [hsz2]; omega)
    generalize a2.put (some 10) (.bool (n == m)) = a3 at e10 T2
    replace T2 := T2.adv rfl stepG_region_end
    replace T2 := T2.adv rfl stepG_seq
    replace T2 := T2.adv rfl (stepG_cond e10)
    cases hnm : n == m with
    | false => rw [hnm] at T2; exact (no_refuse T2).elim
    | true =>
      have : n = m := by simpa using hnm
      subst this
      exact ⟨n, A, B, rfl, rfl, hvv⟩
end Go.Proofs.Ytjgkignnfkbeaaa

/-
  The sequential body and the program's, side by side.
-/
namespace Go.Proofs.Ytjgkignnfkbeaaa
open Go Go.Conc Sim
open Go.RowKit (Below)
set_option linter.unusedVariables false
set_option maxRecDepth 20000
variable [Low]

omit [Low] in
theorem foldC_last (far : Nat → Int) : ∀ (m i : Nat) (a : Int × Int), foldC far a i (m + 1) = nearC (foldC far a i m) (((i + m : Nat) : Int), far (i + m))
  | 0, i, a => rfl
  | m + 1, i, a => by
    show foldC far (nearC a ((i : Int), far i)) (i + 1) (m + 1) = nearC (foldC far (nearC a ((i : Int), far i)) (i + 1) m) _
    rw [foldC_last far m (i + 1), show i + 1 + m = i + (m + 1) by omega]
omit [Low] in
theorem farTo_tro : @Go.Proofs.YtjgkignnfkbeaaaTro.farTo = @farTo := by kernel_rfl
omit [Low] in
theorem rotL_tro : @Go.Proofs.YtjgkignnfkbeaaaTro.rotL = @rotL := by kernel_rfl
omit [Low] in
theorem tonesTo_tro : @Go.Proofs.YtjgkignnfkbeaaaTro.tonesTo = @tonesTo := by kernel_rfl
omit [Low] in
theorem fold_prF {n : Nat} {L M : List Int} (h : farTo n L (rotL M 0) L.length < n * n) : ∀ j, foldC (fun i => (farTo n L (rotL M i) L.length : Int)) (((0 : Nat) : Int), (farTo n L (rotL M 0) L.length : Int)) 1 j = (((Go.Proofs.YtjgkignnfkbeaaaTro.prF n L M (j + 1)).2 : Int), ((Go.Proofs.YtjgkignnfkbeaaaTro.prF n L M (j + 1)).1 : Int))
  | 0 => by
    rw [Go.Proofs.YtjgkignnfkbeaaaTro.prF_yes (by rw [farTo_tro, rotL_tro]; exact h), farTo_tro, rotL_tro]; rfl
  | j + 1 => by
    rw [foldC_last, fold_prF h j, Nat.add_comm 1 j]
    unfold nearC
    by_cases hlt : farTo n L (rotL M (j + 1)) L.length < (Go.Proofs.YtjgkignnfkbeaaaTro.prF n L M (j + 1)).1
    · rw [Go.Proofs.YtjgkignnfkbeaaaTro.prF_yes (j := j + 1) (by rw [farTo_tro, rotL_tro]; exact hlt), if_pos (Int.ofNat_lt.2 hlt), farTo_tro, rotL_tro]
    · rw [Go.Proofs.YtjgkignnfkbeaaaTro.prF_no (j := j + 1) (by rw [farTo_tro, rotL_tro]; exact hlt), if_neg (fun h => hlt (Int.ofNat_lt.1 h))]
omit [Low] in
theorem len_pos {s f : Nat} (h : s < 2 ^ f) (h0 : s ≠ 0) : 0 < (tonesTo s f).length := by
  rcases Nat.eq_zero_or_pos (tonesTo s f).length with q | q
  · exfalso
    apply h0
    apply Nat.eq_of_testBit_eq
    intro i
    rw [Nat.zero_testBit]
    cases hb : s.testBit i with
    | false => rfl
    | true =>
      exfalso
      by_cases hi : i < f
      · have h1 := tonesTo_next hb
        have h2 := tonesTo_mono s (i + 1) f (by omega)
        omega
      · have := Nat.testBit_lt_two_pow (i := i) (Nat.lt_of_lt_of_le h (Nat.pow_le_pow_right (by decide) (by omega : f ≤ i)))
        rw [this] at hb; cases hb
  · exact q
omit [Low] in
theorem voice_lt {n A : Int} (h : Tic.Valid n A) : A.toNat < 2 ^ n.toNat := by
  obtain ⟨h1, h2, h3, h4⟩ := h
  omega
omit [Low] in
theorem voice_ne {n A : Int} (h : Tic.Valid n A) (h0 : A ≠ 0) : A.toNat ≠ 0 := by
  have := h.2.2.1
  omega
omit [Low] in
/-- both give the same -/
theorem near_stub {n A B : Int} (h : Go.Proofs.YtjgkignnfkbeaaaTro.Voices n A B) : nearP n A B = (((Go.Proofs.YtjgkignnfkbeaaaTro.stubP n A B).2 : Int), ((Go.Proofs.YtjgkignnfkbeaaaTro.stubP n A B).1 : Int)) := by
  obtain ⟨hA, hB, h0, hw⟩ := h
  have hn1 := hA.1
  have hp : 0 < (tonesTo A.toNat n.toNat).length := len_pos (voice_lt hA) (voice_ne hA h0)
  have hle := tonesTo_le A.toNat n.toNat
  have hfar := farTo_le (n := n.toNat) (by omega) (tonesTo A.toNat n.toNat) (rotL (tonesTo B.toNat n.toNat) 0) (tonesTo A.toNat n.toNat).length
  have hmul := Nat.mul_le_mul_right n.toNat hle
  have hnn : 0 < n.toNat * n.toNat := Nat.mul_pos (by omega) (by omega)
  unfold nearP Go.Proofs.YtjgkignnfkbeaaaTro.stubP
  rw [tonesTo_tro, fold_prF (by omega), show (tonesTo A.toNat n.toNat).length - 1 + 1 = (tonesTo A.toNat n.toNat).length by omega]
theorem two_rel {ρ : Ren} {n A : Int} {v : Value} (h : VRel ρ (.agg #[.int .i64 n, .int .i64 A]) v) : v = .agg #[.int .i64 n, .int .i64 A] := by
  cases h with
  | @agg _ a' hs h =>
    have h0 := h 0 (by simp) (by rw [← hs]; simp)
    have h1 := h 1 (by simp) (by rw [← hs]; simp)
    match a', hs with
    | ⟨[x, y]⟩, _ =>
      have h0' : VRel ρ (.int .i64 n) x := h0
      have h1' : VRel ρ (.int .i64 A) y := h1
      cases h0'; cases h1'; rfl
theorem two_self (ρ : Ren) (n A : Int) : VRel ρ (.agg #[.int .i64 n, .int .i64 A]) (.agg #[.int .i64 n, .int .i64 A]) := by
  refine .agg rfl fun i h1 h2 => ?_
  match i, h1 with
  | 0, _ => exact .int _ _
  | 1, _ => exact .int _ _
theorem Sim.Tree.self {P : Program} {F : FuncId → Bool} {K0 : FuncId} {S : Frame → World → Prop} {f : Frame} {cs : List Frame} {w : World} (T : Sim.Tree P F K0 S f cs w) : Sim.Self P F K0 f cs w := by
  cases T with
  | stop h _ _ => exact h
  | step h _ _ _ => exact h
omit [Low] in
theorem ar_two {n : Nat} (h : arOk Try.prog 42 n = true) : n = 2 := by
  have hf := Try.func42
  unfold arOk at h
  simp [hf, Try.f42] at h
  omega
set_option maxHeartbeats 1000000 in
theorem kspec {F F1 : FuncId → Bool} {K0 : FuncId} {S : Frame → World → Prop} {b' : List Frame} (hG0 : Sim.Good Tro.prog Tro.prog F K0) (hG1 : Sim.Good Try.prog Try.prog F1 K0) (hK1 : F1 K0 = false)
    (hFc : F1 66 = true) (hFl : F1 43 = true) (hFf : F1 84 = true) (hFn : F1 58 = true) :
    KSpec Tro.prog Try.prog F 42 K0 S b' := by
  intro ρ args args' fc fc' cs cs' w W O gs sl t q har ha hfc hm hcs hw hO hi T hg lv past
  have h2 := ar_two har
  obtain ⟨x, y, rfl⟩ : ∃ x y, args = #[x, y] := by
    match args, h2 with
    | ⟨[x, y]⟩, _ => exact ⟨x, y, rfl⟩
  obtain ⟨n, A, B, rfl, rfl, hv⟩ := stub_args hG0 (fun n A B w => (Go.Proofs.YtjgkignnfkbeaaaTro.validVoices_any n A B w).mono (by rintro e w2 ⟨rfl, _⟩; exact ⟨_, rfl, rfl⟩)) T
  have hV := Go.Proofs.YtjgkignnfkbeaaaTro.of_vv hv
  obtain ⟨x', y', rfl⟩ : ∃ x y, args' = #[x, y] := by
    have := ha.1
    match args', this with
    | ⟨[x, y]⟩, _ => exact ⟨x, y, rfl⟩
  have e1 : x' = _ := two_rel (ha.2 0 (by simp) (by simp))
  have e2 : y' = _ := two_rel (ha.2 1 (by simp) (by simp))
  subst e1; subst e2
  obtain ⟨v, w2, ⟨rfl, hbl⟩, hdsc⟩ := desc_of_calls (R := fun v w' => v = .agg #[.int .i64 ((Go.Proofs.YtjgkignnfkbeaaaTro.stubP n A B).2 : Int), .int .i64 ((Go.Proofs.YtjgkignnfkbeaaaTro.stubP n A B).1 : Int)] ∧ Below w.heap.size w w') hG0 T ((Go.Proofs.YtjgkignnfkbeaaaTro.stub_any n A B w hV).mono (by rintro e w2 ⟨rfl, h⟩; exact ⟨_, rfl, rfl, h⟩))
  refine ⟨_, w2, hdsc, ?_⟩
  have hall : Cells w2 := (T.desc hdsc).self.cells
  have hl : (tonesTo A.toNat n.toNat).length = (tonesTo B.toNat n.toNat).length := by rw [← wt_len hV.1, ← wt_len hV.2.1]; exact hV.2.2.2
  refine Comes'.then (near_comes hG1 hK1 hFc hFl hFf hFn hV.1 hV.2.1 hl (len_pos (voice_lt hV.1) (voice_ne hV.1 hV.2.2.1)) (wt_len hV.2.1) (cs := cs' ++ b') hg lv past) fun m1 t1 hst => ?_
  obtain ⟨gs1, a1, W1, sl1, q1, O1, e1,  h01, lv1, past1, e2, hre⟩ := hst
  subst e1; subst e2
  rw [near_stub hV] at h01
  refine ⟨0, _, _, rfl, gs1, _, W1, sl1, q1, O1, rfl, h01, lv1, past1, _, two_self _ _ _, rfl, ⟨hw.inj, fun a x hx hns => ?_, fun a x hx hs => ?_, fun q => ?_, hall, rfl, rfl⟩, hre⟩
  rotate_left
  · obtain ⟨c, c', e, f, h1, h2, h4, h3⟩ := hw.special a x hx hs
    exact ⟨c, c', e, f, (hbl.block a (Array.getElem?_eq_some_iff.1 h1).1).trans h1, (hre.keep x (hi x (hO a x hx))).trans h2, h4, h3⟩
  · exact Nat.lt_of_lt_of_le (hw.grd q) hbl.size
  have hxW := hi x (hO a x hx)
  have eW := hre.keep x hxW
  rcases hw.blocks a x hx hns with ⟨c, c', ty, f, h1, h2, h3, h4⟩ | ⟨p, p', l, h1, h2, h3⟩
  · exact .inl ⟨c, c', ty, f, (hbl.block a (Array.getElem?_eq_some_iff.1 h1).1).trans h1, eW.trans h2, h3, h4⟩
  · exact .inr ⟨p, p', l, (hbl.block a (Array.getElem?_eq_some_iff.1 h1).1).trans h1, eW.trans h2, h3⟩
end Go.Proofs.Ytjgkignnfkbeaaa

/-
  A law over whole numbers, from its lone walk over the sequential body to a run in company.
-/
namespace Go.Proofs.Ytjgkignnfkbeaaa
open Go Go.Conc Sim
open Go.RowKit (Below)
set_option linter.unusedVariables false
set_option maxRecDepth 20000

theorem wrel_none (w W : World) (h : w.heap = #[]) (ht : w.tape = W.tape) (hd : w.drawn = W.drawn) : WRel (fun _ => none) w W := by
  refine ⟨fun a b x h1 h2 => ?_, fun a x h1 => ?_, fun a x h1 => ?_, fun q => (by cases q), fun a o ho => ?_, ht, hd⟩
  · simp at h1
  · simp at h1
  · simp at h1
  · rw [h] at ho; simp at ho
theorem ints_rel (ρ : Ren) (L : List Int) : ARel ρ (L.map (Value.int .i64)).toArray (L.map (Value.int .i64)).toArray := by
  refine ⟨rfl, fun i h1 h2 => ?_⟩
  simp only [List.getElem_toArray, List.getElem_map]
  exact .int _ _
/-- a law over whole numbers -/
theorem run_ints {law : FuncId} (hF : F0 law = true) (hlaw : law ≠ 42) (hi : Try.prog.inits.idxOf? law = none) {args : Array Value} (ha : ∀ ρ : Ren, ARel ρ args args)
    (hc : ∀ w, Calls Tro.prog law args w fun e w' => e = .returned (.bool true) ∧ Below w.heap.size w w') (W : World) :
    ∃ N last o w' t', runNT Try.prog (N + 1) (solo (G (Frame.enter Try.prog law args .normal) []) W) #[] = (.ended o w', t') ∧ runN Try.prog N (solo (G (Frame.enter Try.prog law args .normal) []) W) = .next last ∧ step Try.prog last = .ended o w' ∧
      Go.Conc.Good Try.prog (fun v W' => v = .bool true ∧ Below W.heap.size W W') last o w' t' := by
  refine carried good_two good_tro k0_0 hF hlaw hi (R := fun v _ => v = .bool true) (fun _ _ _ _ h => h) (fun S => kspec good_tro good_try k0_1 f1_count f1_list f1_far f1_near) (ρ := fun _ => none) (ρ' := fun _ => none) (w := { W with heap := #[] }) (ha _) (ha _) (wrel_none _ _ rfl rfl rfl) (wrel_none _ _ rfl rfl rfl)
    (fun τ d => (hc _).mono ?_) (fun v v' σ w2 W2 hv hr _ _ hre => ?_)
  · rintro e w' ⟨rfl, _⟩
    exact ⟨_, rfl, rfl⟩
  · subst hv
    cases hr
    exact ⟨rfl, hre.os, hre.tape, hre.output, hre.size, fun k hk => hre.keep k ⟨hk, fun a h => by cases h⟩⟩
/-- the same where a slice of bytes comes in that has no memory -/
theorem run_nil {law : FuncId} (hF : F0 law = true) (hlaw : law ≠ 42) (hi : Try.prog.inits.idxOf? law = none)
    (hc : ∀ w, Calls Tro.prog law #[.slice none 0 0] w fun e w' => e = .returned (.bool true) ∧ Below w.heap.size w w') (W : World) :
    ∃ N last o w' t', runNT Try.prog (N + 1) (solo (G (Frame.enter Try.prog law #[.slice none 0 0] .normal) []) W) #[] = (.ended o w', t') ∧ runN Try.prog N (solo (G (Frame.enter Try.prog law #[.slice none 0 0] .normal) []) W) = .next last ∧ step Try.prog last = .ended o w' ∧
      Go.Conc.Good Try.prog (fun v W' => v = .bool true ∧ Below W.heap.size W W') last o w' t' :=
  run_ints hF hlaw hi (fun ρ => ⟨rfl, fun i h1 h2 => by
    match i, h1 with
    | 0, _ => exact .snil 0 0⟩) hc W
/-- the bytes of a code at its place, alone -/
def codeC (off : Nat) (zs : List Int) : Array Value := Array.replicate off (.int .u8 0) ++ (zs.map (Value.int .u8)).toArray
theorem codeC_size (off : Nat) (zs : List Int) : (codeC off zs).size = off + zs.length := by simp [codeC]
theorem codeC_at {off : Nat} {zs : List Int} {i : Nat} (h : i < zs.length) : (codeC off zs)[off + i]? = some (.int .u8 (zs.getD i 0)) := by
  unfold codeC
  rw [Array.getElem?_append_right (by simp), Array.size_replicate, Nat.add_sub_cancel_left]
  simp [List.getD_eq_getElem?_getD, List.getElem?_eq_getElem h]
/-- the lone memory: the code's block at the place k -/
def codeH (k off : Nat) (zs : List Int) : Array Obj := if k = 0 then #[.cells (codeC off zs) badT (0, off + zs.length)] else #[.cells #[] badT (0, 0), .cells (codeC off zs) badT (0, off + zs.length)]
theorem codeH_at {k off : Nat} {zs : List Int} (hk : k = 0 ∨ k = 1) : (codeH k off zs)[k]? = some (.cells (codeC off zs) badT (0, off + zs.length)) := by
  rcases hk with rfl | rfl <;> simp [codeH]
theorem codeH_all {k off : Nat} {zs : List Int} : ∀ (a : Nat) (o : Obj), (codeH k off zs)[a]? = some o → (∃ (c : Array Value) (e : TypeId) (f : Nat × Nat), o = Obj.cells c e f) ∨ ∃ (p : Addr) (l : Bool), o = Obj.number p l := by
  intro a o h
  unfold codeH at h
  split at h
  · match a, h with
    | 0, h => simp at h; exact .inl ⟨_, _, _, h.symm⟩
    | a + 1, h => simp at h
  · match a, h with
    | 0, h => simp at h; exact .inl ⟨_, _, _, h.symm⟩
    | 1, h => simp at h; exact .inl ⟨_, _, _, h.symm⟩
    | a + 2, h => simp at h
theorem codeH_size {k off : Nat} {zs : List Int} (hk : k = 0 ∨ k = 1) : (codeH k off zs).size = k + 1 := by
  rcases hk with rfl | rfl <;> simp [codeH]
/-- .. and where it has some: the lone run sees the code's own bytes only -/
theorem run_row {law : FuncId} (hF : F0 law = true) (hlaw : law ≠ 42) (hi : Try.prog.inits.idxOf? law = none) {b off len cap : Nat} {zs : List Int} {W : World} (hz : zs.length = cap)
    (hb : ∃ c' e f, W.heap[b]? = some (.cells c' e f)) (hcell : ∀ i, i < cap → W.cell? ⟨b, off + i, none⟩ = some (.int .u8 (zs.getD i 0)))
    (hc : ∀ (w : World) (k : Nat), (∀ i, i < cap → w.cell? ⟨k, off + i, none⟩ = some (.int .u8 (zs.getD i 0))) → k < w.heap.size → Calls Tro.prog law #[.slice (some ⟨k, off, none⟩) len cap] w fun e w' => e = .returned (.bool true) ∧ Below w.heap.size w w') :
    ∃ N last o w' t', runNT Try.prog (N + 1) (solo (G (Frame.enter Try.prog law #[.slice (some ⟨b, off, none⟩) len cap] .normal) []) W) #[] = (.ended o w', t') ∧ runN Try.prog N (solo (G (Frame.enter Try.prog law #[.slice (some ⟨b, off, none⟩) len cap] .normal) []) W) = .next last ∧ step Try.prog last = .ended o w' ∧
      Go.Conc.Good Try.prog (fun v W' => v = .bool true ∧ Below W.heap.size W W') last o w' t' := by
  obtain ⟨c', e, f, hW⟩ := hb
  obtain ⟨k, hk, hkb⟩ : ∃ k : Nat, (k = 0 ∨ k = 1) ∧ b ≠ k := by
    by_cases q : b = 0
    · exact ⟨1, .inr rfl, by omega⟩
    · exact ⟨0, .inl rfl, q⟩
  letI L : Low := ⟨true, off, k, .cells c' e f⟩
  have hsp : Spc k := ⟨rfl, rfl⟩
  have hat : ∀ o, off ≤ o → o < (codeC off zs).size → ∃ x : Int, (codeC off zs)[o]? = some (.int .u8 x) ∧ c'[o]? = some (.int .u8 x) := fun o h1 h2 => by
    rw [codeC_size] at h2
    refine ⟨zs.getD (o - off) 0, ?_, ?_⟩
    · have := codeC_at (off := off) (zs := zs) (i := o - off) (by omega)
      rw [show off + (o - off) = o by omega] at this; exact this
    · have := hcell (o - off) (by omega)
      rw [show off + (o - off) = o by omega] at this
      simpa [World.cell?, hW] using this
  have wr : ∀ (W' : World) (x : Nat), (W'.heap[x]? = some (.cells c' e f) ∨ (x = k ∧ W'.heap[x]? = some (.cells (codeC off zs) badT (0, off + zs.length)))) → x < W'.heap.size → WRel (fun a => if a = k then some x else none) { W' with heap := codeH k off zs } W' := fun W' x hx hl => by
    refine ⟨fun a a' y h1 h2 => ?_, fun a y h1 hns => ?_, fun a y h1 hs => ?_, fun _ => ?_, codeH_all, rfl, rfl⟩
    · simp at h1 h2; omega
    · simp at h1
      exact absurd (h1.1 ▸ hsp) hns
    · simp at h1
      obtain ⟨rfl, rfl⟩ := h1
      rcases hx with hx | ⟨rfl, hx⟩
      · refine ⟨codeC off zs, c', e, f, ?_, hx, fun _ => rfl, fun o h1 h2 => ?_⟩
        · rw [codeC_size]; exact codeH_at hk
        · obtain ⟨z, q1, q2⟩ := hat o h1 h2
          exact ⟨_, _, q1, q2, .int _ _⟩
      · refine ⟨codeC off zs, codeC off zs, badT, (0, off + zs.length), ?_, hx, fun q => absurd rfl q, fun o h1 h2 => ?_⟩
        · rw [codeC_size]; exact codeH_at hk
        · obtain ⟨z, q1, q2⟩ := hat o h1 h2
          exact ⟨_, _, q1, q1, .int _ _⟩
    · show k < (codeH k off zs).size
      rw [codeH_size hk]; omega
  have ar : ∀ x : Nat, ARel (fun a => if a = k then some x else none) #[.slice (some ⟨k, off, none⟩) len cap] #[.slice (some ⟨x, off, none⟩) len cap] := fun x => ARel.one (.slice off none len cap ⟨by simp, fun _ => Nat.le_refl _⟩)
  refine carried good_two good_tro k0_0 hF hlaw hi (R := fun v _ => v = .bool true) (fun _ _ _ _ h => h) (fun S => kspec good_tro good_try k0_1 f1_count f1_list f1_far f1_near) (ρ := fun a => if a = k then some b else none) (ρ' := fun a => if a = k then some k else none) (w := { W with heap := codeH k off zs }) (ar b) (ar k)
    (wr { W with heap := codeH k off zs } k (.inr ⟨rfl, codeH_at hk⟩) (by show k < (codeH k off zs).size; rw [codeH_size hk]; omega)) (wr W b (.inl hW) (Array.getElem?_eq_some_iff.1 hW).1)
    (fun τ d => (hc _ k (fun i hi => ?_) ?_).mono ?_) (fun v v' σ w2 W2 hv hr hw2 hle hre => ?_)
  · have := codeH_at (off := off) (zs := zs) hk
    show World.cell? _ _ = _
    simp only [World.cell?, on, this]
    simpa using codeC_at (off := off) (by omega : i < zs.length)
  · show k < (codeH k off zs).size
    rw [codeH_size hk]; omega
  · rintro e w' ⟨rfl, _⟩
    exact ⟨_, rfl, rfl⟩
  · subst hv
    cases hr
    refine ⟨rfl, hre.os, hre.tape, hre.output, hre.size, fun j hj => ?_⟩
    by_cases q : j = b
    · subst q
      obtain ⟨_, _, _, _, _, h2, h3, _⟩ := hw2.special k j (hle k j (by simp)) hsp
      exact (h2.trans (congrArg some (h3 hkb))).trans hW.symm
    · exact hre.keep j ⟨hj, fun a h => by simp at h; omega⟩
end Go.Proofs.Ytjgkignnfkbeaaa
