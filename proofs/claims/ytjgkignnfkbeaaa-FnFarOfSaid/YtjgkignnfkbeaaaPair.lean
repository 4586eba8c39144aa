/-
  The goroutine that pairings starts: it sends each choice, and closes.
-/
import Derived.Test.YtjgkignnfkbeaaaSimTwo
import Derived.Test.YtjgkignnfkbeaaaLib
import Derived.Conc.CompanyWords
import Derived.Conc.Own2
namespace Go.Proofs.Ytjgkignnfkbeaaa
open Go Go.Conc Go.Proofs.Ytjgkignnfkbeaaa.Sim
set_option linter.unusedVariables false

theorem load_set (x : Nat) (n s : Int) (w : World) (h0 : w.cell? ⟨x, 0, none⟩ = some (.int .i64 n)) (h1 : w.cell? ⟨x, 1, none⟩ = some (.int .i64 s)) : (Instr.loadAt 47 (.pointer (some ⟨x, 0, none⟩))).run Try.prog w = .ok (.agg #[.int .i64 n, .int .i64 s]) w := by
  go_simp
theorem load_set_ev (x : Nat) (n s : Int) (w : World) (h0 : w.cell? ⟨x, 0, none⟩ = some (.int .i64 n)) (h1 : w.cell? ⟨x, 1, none⟩ = some (.int .i64 s)) : (Instr.loadAt 47 (.pointer (some ⟨x, 0, none⟩))).events Try.prog w #[] = #[⟨.cell ⟨x, 0, none⟩, false, false⟩, ⟨.cell ⟨x, 1, none⟩, false, false⟩] := by
  simp [go_sem, h0, h1]

section acts
variable {a : Act} {d t : Nat} {v : Value}
theorem put_self (h : d < a.tmps.size) : (a.put (some d) v).eval (.tmp d) = v := by simp [Act.put, Act.eval, h]
theorem put_ne (h : d ≠ t) : (a.put (some d) v).eval (.tmp t) = a.eval (.tmp t) := by simp [Act.put, Act.eval, Array.getElem?_setIfInBounds_ne h]
theorem put_size (x : Option Nat) : (a.put x v).tmps.size = a.tmps.size := by cases x <;> simp [Act.put]
theorem put_defers (x : Option Nat) : (a.put x v).defers = a.defers := by cases x <;> rfl
end acts

def lft : Code → Code | .seq a _ => a | .block _ b => b | .loop b => b | c => c
def rgt : Code → Code | .seq _ b => b | c => c
def regOps : Code → Array Oper | .region _ ops _ => ops | _ => #[]
noncomputable def wBody : Code := (Try.f83.body).getD .skip
noncomputable def wLoop : Code := lft (lft (rgt (lft wBody)))
noncomputable def w0 : Array Oper := regOps (lft (lft wBody))
noncomputable def w1 : Array Oper := regOps (lft wLoop)
noncomputable def w2 : Array Oper := regOps (lft (lft (lft (rgt (rgt wLoop)))))
noncomputable def w3 : Array Oper := regOps (rgt (lft (lft (rgt (rgt wLoop)))))
noncomputable def w4 : Array Oper := regOps (rgt (rgt (rgt wLoop)))
noncomputable def w5 : Array Oper := regOps (rgt wBody)
theorem wBody_eq : wBody = .seq (.seq (.region 0 w0 false) (.block 0 (.loop wLoop))) (.region 5 w5 false) := by rfl
theorem wLoop_eq : wLoop = .seq (.region 1 w1 false) (.seq (.cond (.tmp 7) .skip (.exit 0)) (.seq (.block 1 (.seq (.region 2 w2 false) (.region 3 w3 true))) (.region 4 w4 false))) := by rfl
theorem w_sizes : w0.size = 3 ∧ w1.size = 1 ∧ w2.size = 2 ∧ w3.size = 9 ∧ w4.size = 2 ∧ w5.size = 2 := ⟨rfl, rfl, rfl, rfl, rfl, rfl⟩

theorem run_move {P : Program} {e : Operand → Value} {o : Oper} {x : Operand} (h : o.op = .move x) (w : World) : (execOp e o).run P w = .ok (.value (e x)) w ∧ (execOp e o).events P w #[] = #[] := by
  unfold execOp
  rw [h]
  exact ⟨rfl, rfl⟩
theorem run_load {P : Program} {e : Operand → Value} {o : Oper} {t : TypeId} {x : Operand} {v : Value} {es : Array Event} {w : World} (h : o.op = .load t x) (h1 : (Instr.loadAt t (e x)).run P w = .ok v w) (h2 : (Instr.loadAt t (e x)).events P w #[] = es) :
    (execOp e o).run P w = .ok (.value v) w ∧ (execOp e o).events P w #[] = es := by
  unfold execOp
  rw [h]
  constructor
  · dsimp only
    rw [Sem.run_bind, h1]; rfl
  · dsimp only
    rw [Sem.events_bind, h1, h2]; rfl
theorem run_call {P : Program} {e : Operand → Value} {o : Oper} {f : FuncId} {xs : Array Operand} {ats : Array TypeId} {fn : Func} (h : o.op = .call { callee := .value (.func f), args := xs, argTypes := ats }) (he : e (.func f) = .func (.func f) #[] #[]) (hf : P.funcs[f]? = some fn) (hn : (fn.name == "runtime.NumGoroutine") = false) (hb : ¬ fn.body = none) (w : World) :
    (execOp e o).run P w = .ok (.enter f (xs.map e)) w ∧ (execOp e o).events P w #[] = #[] := by
  have hn' : ¬ fn.name = "runtime.NumGoroutine" := by simpa using hn
  unfold execOp
  rw [h]
  constructor
  · simp [resolve, he, Deferred.ofValue, Go.callFunc, Sem.run, hf, hb, hn', bind, Sem.bind, pure, program, invoke]
  · simp [resolve, he, Deferred.ofValue, Go.callFunc, Sem.events, Sem.runT, -Sem.runT_eq, hf, hb, hn', bind, Sem.bind, pure, program, invoke]

theorem Sim.Walks.opread {P : Program} {main : Bool} {Sh : Nat → Prop} {Stop : Goroutine → (Nat → Prop) → World → Prop} {b : Frame} {k : List Item} {cs : List Frame} {ops : Array Oper} {O : Nat → Prop} {w : World} {a : Act} {i : Nat} {rest : List Nat} {o : Oper} {v : Value}
    (ho : ops[i]? = some o) (hw : Region.wanted o (yielded ops a.tmps) = true) (hk : b.kind ≠ .early) (hi : ∀ x, O x → x < w.heap.size)
    (hr : ∀ w₁, Rely (fun x => O x ∨ Sh x) w w₁ → (execOp a.eval o).run P w₁ = .ok (.value v) w₁ ∧ ∀ e ∈ (execOp a.eval o).events P w₁ #[], EvOk Sh O e) (k' : Walks P main Sh Stop (G (b.at (a.put o.dst v) (.inRegion ops rest :: k)) cs) O w) :
    Walks P main Sh Stop (G (b.at a (.inRegion ops (i :: rest) :: k)) cs) O w :=
  .go rfl fun w₁ h₁ => ⟨_, O, w₁, _, stepG_value ho hw hk (hr w₁ h₁).1, Guar.same (fun x hx => Nat.lt_of_lt_of_le (hi x hx) h₁.size) (fun e hm => (hr w₁ h₁).2 e (mem_listed hm)), k'.rely h₁⟩

/-! ### one choice -/
/-- what lies in the shared boxes -/
structure PMem (c x0 x1 x2 : Nat) (n A B : Int) (w : World) : Prop where
  b0 : w.cell? ⟨x0, 0, none⟩ = some (.int .i64 n)
  b1 : w.cell? ⟨x0, 1, none⟩ = some (.int .i64 B)
  ch : w.cell? ⟨x1, 0, none⟩ = some (.chan (some c))
  a0 : w.cell? ⟨x2, 0, none⟩ = some (.int .i64 n)
  a1 : w.cell? ⟨x2, 1, none⟩ = some (.int .i64 A)
theorem cell_keep {Q : Nat → Prop} {w w₁ : World} (h : Rely Q w w₁) {x o : Nat} (hx : Q x) : w₁.cell? ⟨x, o, none⟩ = w.cell? ⟨x, o, none⟩ := by
  simp only [World.cell?, h.keep x hx]
theorem PMem.rely {c x0 x1 x2 : Nat} {n A B : Int} {w w₁ : World} {Q : Nat → Prop} (h : PMem c x0 x1 x2 n A B w) (hr : Rely Q w w₁) (q0 : Q x0) (q1 : Q x1) (q2 : Q x2) : PMem c x0 x1 x2 n A B w₁ :=
  ⟨(cell_keep hr q0).trans h.b0, (cell_keep hr q0).trans h.b1, (cell_keep hr q1).trans h.ch, (cell_keep hr q2).trans h.a0, (cell_keep hr q2).trans h.a1⟩

/-- the worker's slots, at place i -/
structure Regs (x0 x1 x2 : Nat) (len : Int) (i : Int) (a : Act) : Prop where
  size : a.tmps.size = 19
  defers : a.defers = []
  e0 : a.eval (.tmp 0) = .pointer (some ⟨x0, 0, none⟩)
  e1 : a.eval (.tmp 1) = .pointer (some ⟨x1, 0, none⟩)
  e2 : a.eval (.tmp 2) = .pointer (some ⟨x2, 0, none⟩)
  e5 : a.eval (.tmp 5) = .int .i64 len
  e6 : a.eval (.tmp 6) = .int .i64 i
theorem Regs.put {x0 x1 x2 : Nat} {len i : Int} {a : Act} (h : Regs x0 x1 x2 len i a) {d : Nat} (hd : 7 ≤ d) (v : Value) : Regs x0 x1 x2 len i (a.put (some d) v) :=
  ⟨(put_size _).trans h.size, (put_defers _).trans h.defers, (put_ne (by omega)).trans h.e0, (put_ne (by omega)).trans h.e1, (put_ne (by omega)).trans h.e2, (put_ne (by omega)).trans h.e5, (put_ne (by omega)).trans h.e6⟩

section
variable (c : Nat) (n A B : Int) (R : Nat → Value → World → Prop) (far : Nat → Int) (i : Nat)
def PVal (m : Nat) (v : Value) (O : Nat → Prop) (w : World) : Prop :=
  match m with
  | 0 => v = .chan (some c)
  | 1 => v = .int .i64 i
  | 2 => v = .agg #[.int .i64 n, .int .i64 A]
  | 3 => v = .agg #[.int .i64 n, .int .i64 B]
  | 4 => v = .int .i64 i
  | 5 => Held (R i) v O w
  | 6 => v = .int .i64 (far i)
  | 7 => v = .agg #[.int .i64 i, .int .i64 (far i)]
  | _ => True
def pdep : Nat → List Nat
  | 5 => [3, 4]
  | 6 => [2, 5]
  | 7 => [1, 6]
  | _ => []
theorem PVal.mono {m : Nat} {v : Value} {O O2 : Nat → Prop} {w w2 : World} (h : PVal c n A B R far i m v O w) (hh : m = 5 → Held (R i) v O w → Held (R i) v O2 w2) : PVal c n A B R far i m v O2 w2 := by
  unfold PVal at *
  split <;> simp_all
structure R3 (x0 x1 x2 : Nat) (len : Int) (Sh : Nat → Prop) (l : Array Bool) (a : Act) (O : Nat → Prop) (w : World) : Prop where
  regs : Regs x0 x1 x2 len i a
  e3 : a.eval (.tmp 3) = .int .i64 i
  ls : l.size = 9
  ino : ∀ x, O x → x < w.heap.size
  sh : ∀ x, Sh x → x < w.heap.size ∧ ¬ O x
  mem : PMem c x0 x1 x2 n A B w
  vals : ∀ m, m < 8 → l.getD m false = true → (m = 5 → l.getD 6 false = false) → PVal c n A B R far i m (a.eval (.tmp (9 + m))) O w
  deps : ∀ m, m < 8 → l.getD m false = true → ∀ e ∈ pdep m, l.getD e false = true
  v8 : l.getD 8 false = false
end
theorem getD_put {l : Array Bool} {j m : Nat} (h : j < l.size) : (l.setIfInBounds j true).getD m false = if m = j then true else l.getD m false := by
  simp only [Array.getD_eq_getD_getElem?, Array.getElem?_setIfInBounds]
  by_cases e : j = m
  · subst e; simp [h]
  · have e' : ¬ m = j := fun q => e q.symm
    simp [e, e']
theorem R3.put {c : Nat} {n A B : Int} {R : Nat → Value → World → Prop} {far : Nat → Int} {i x0 x1 x2 : Nat} {len : Int} {Sh : Nat → Prop} {l : Array Bool} {a : Act} {O : Nat → Prop} {w : World} (h : R3 c n A B R far i x0 x1 x2 len Sh l a O w) {j : Nat} (hj : j < 8) {v : Value} {O2 : Nat → Prop} {w2 : World}
    (ino : ∀ x, O2 x → x < w2.heap.size) (sh : ∀ x, Sh x → x < w2.heap.size ∧ ¬ O2 x) (mem : PMem c x0 x1 x2 n A B w2) (hv : PVal c n A B R far i j v O2 w2) (hh : j ≠ 6 → ∀ u, Held (R i) u O w → Held (R i) u O2 w2) (hd : ∀ e ∈ pdep j, l.getD e false = true) :
    R3 c n A B R far i x0 x1 x2 len Sh (l.setIfInBounds j true) (a.put (some (9 + j)) v) O2 w2 := by
  have hl : j < l.size := by rw [h.ls]; omega
  refine ⟨h.regs.put (by omega) v, (put_ne (by omega)).trans h.e3, by simp [h.ls], ino, sh, mem, fun m hm hlm h56 => ?_, fun m hm hlm e he => ?_, ?_⟩
  · by_cases e : m = j
    · subst e
      rw [put_self (by rw [h.regs.size]; omega)]
      exact hv
    · rw [getD_put hl, if_neg e] at hlm
      rw [put_ne (by omega)]
      have q6 : m = 5 → j ≠ 6 ∧ l.getD 6 false = false := fun q => by
        have := h56 q
        rw [getD_put hl] at this
        split at this
        · cases this
        · exact ⟨fun z => by omega, this⟩
      exact (h.vals m hm hlm fun q => (q6 q).2).mono _ _ _ _ _ _ _ fun q hheld => hh (q6 q).1 _ hheld
  · rw [getD_put hl]
    by_cases e2 : e = j
    · simp [e2]
    · rw [if_neg e2]
      rw [getD_put hl] at hlm
      by_cases e3 : m = j
      · subst e3; exact hd e he
      · rw [if_neg e3] at hlm
        exact h.deps m hm hlm e he
  · rw [getD_put hl, if_neg (by omega)]
    exact h.v8

theorem w3_0 : ∃ o, w3[0]? = some o ∧ o.op = .load 73 (.tmp 1) ∧ o.dst = some 9 ∧ o.guard = none := ⟨_, rfl, rfl, rfl, rfl⟩
theorem w3_1 : ∃ o, w3[1]? = some o ∧ o.op = .move (.tmp 3) ∧ o.dst = some 10 ∧ o.guard = none := ⟨_, rfl, rfl, rfl, rfl⟩
theorem w3_2 : ∃ o, w3[2]? = some o ∧ o.op = .load 47 (.tmp 2) ∧ o.dst = some 11 ∧ o.guard = none := ⟨_, rfl, rfl, rfl, rfl⟩
theorem w3_3 : ∃ o, w3[3]? = some o ∧ o.op = .load 47 (.tmp 0) ∧ o.dst = some 12 ∧ o.guard = none := ⟨_, rfl, rfl, rfl, rfl⟩
theorem w3_4 : ∃ o, w3[4]? = some o ∧ o.op = .move (.tmp 3) ∧ o.dst = some 13 ∧ o.guard = none := ⟨_, rfl, rfl, rfl, rfl⟩
theorem w3_5 : ∃ o, w3[5]? = some o ∧ (∃ ats, o.op = .call { callee := .value (.func 43), args := #[.tmp 12, .tmp 13], argTypes := ats }) ∧ o.dst = some 14 ∧ o.guard = none ∧ o.after = #[⟨3, .data⟩, ⟨4, .data⟩] := ⟨_, rfl, ⟨_, rfl⟩, rfl, rfl, rfl⟩
theorem w3_6 : ∃ o, w3[6]? = some o ∧ (∃ ats, o.op = .call { callee := .value (.func 84), args := #[.tmp 11, .tmp 14], argTypes := ats }) ∧ o.dst = some 15 ∧ o.guard = none ∧ o.after = #[⟨2, .data⟩, ⟨5, .data⟩, ⟨5, .chain⟩] := ⟨_, rfl, ⟨_, rfl⟩, rfl, rfl, rfl⟩
theorem w3_7 : ∃ o, w3[7]? = some o ∧ o.op = .build 49 #[(0, .tmp 10), (1, .tmp 15)] ∧ o.dst = some 16 ∧ o.guard = none ∧ o.after = #[⟨1, .data⟩, ⟨6, .data⟩] := ⟨_, rfl, rfl, rfl, rfl, rfl⟩
theorem w3_8 : ∃ o, w3[8]? = some o ∧ o.op = .send (.tmp 9) (.tmp 16) ∧ o.dst = none ∧ o.guard = none ∧ o.after = #[⟨0, .data⟩, ⟨7, .data⟩, ⟨6, .chain⟩] := ⟨_, rfl, rfl, rfl, rfl, rfl⟩
theorem load_chan (x : Nat) (v : Value) (w : World) (h : w.cell? ⟨x, 0, none⟩ = some v) : (Instr.loadAt 73 (.pointer (some ⟨x, 0, none⟩))).run Try.prog w = .ok v w := by go_simp
theorem load_chan_ev (x : Nat) (v : Value) (w : World) (h : w.cell? ⟨x, 0, none⟩ = some v) : (Instr.loadAt 73 (.pointer (some ⟨x, 0, none⟩))).events Try.prog w #[] = #[⟨.cell ⟨x, 0, none⟩, false, false⟩] := by simp [go_sem, h]
theorem build_choice {e : Operand → Value} {o : Oper} {u v : Int} (h : o.op = .build 49 #[(0, .tmp 10), (1, .tmp 15)]) (h1 : e (.tmp 10) = .int .i64 u) (h2 : e (.tmp 15) = .int .i64 v) (w : World) :
    (execOp e o).run Try.prog w = .ok (.value (.agg #[.int .i64 u, .int .i64 v])) w ∧ (execOp e o).events Try.prog w #[] = #[] := by
  unfold execOp
  rw [h]
  constructor
  · simp [go_sem, h1, h2]
  · simp [go_sem, h1, h2]
theorem send_chan {e : Operand → Value} {o : Oper} {c : Nat} {v : Value} (h : o.op = .send (.tmp 9) (.tmp 16)) (h1 : e (.tmp 9) = .chan (some c)) (h2 : e (.tmp 16) = v) : ∃ z, ∀ w, 
    (execOp e o).run Try.prog w = .ok (.comm #[scase c v z] true .send) w ∧ (execOp e o).events Try.prog w #[] = #[] := by
  unfold execOp
  rw [h]
  refine ⟨?_, fun w => ⟨?_, ?_⟩⟩
  rotate_left
  · simp [go_sem, h1, h2, scase]; rfl
  · simp [go_sem, h1, h2]
end Go.Proofs.Ytjgkignnfkbeaaa

/-
  The goroutine that pairings starts: one round.
-/
namespace Go.Proofs.Ytjgkignnfkbeaaa
open Go Go.Conc Go.Proofs.Ytjgkignnfkbeaaa.Sim
set_option linter.unusedVariables false

theorem wanted_none {o : Oper} {y : Nat → Option Bool} (h : o.guard = none) : Region.wanted o y = true := by simp [Region.wanted, h]
theorem dep_of {o : Oper} {l : Array Bool} {es : Array Edge} (he : o.after = es) (h : ∀ e ∈ o.after, (!Region.binds .any e || l.getD e.on false) = true) {j : Nat} {gr : Ground} (hm : (⟨j, gr⟩ : Edge) ∈ es) (hb : Region.binds .any ⟨j, gr⟩ = true) : l.getD j false = true := by
  have := h ⟨j, gr⟩ (he ▸ hm)
  simpa [hb] using this

theorem w3_low : ∀ m, m < 9 → ((w3[m]?).map (fun o => o.after.toList.all fun e => decide (e.on < m))).getD true = true := by
  intro m hm
  have : m = 0 ∨ m = 1 ∨ m = 2 ∨ m = 3 ∨ m = 4 ∨ m = 5 ∨ m = 6 ∨ m = 7 ∨ m = 8 := by omega
  rcases this with rfl | rfl | rfl | rfl | rfl | rfl | rfl | rfl | rfl <;> rfl

theorem w_region3 {F : FuncId → Bool} {K0 : FuncId} (hG0 : Sim.Good Try.prog Try.prog F K0) (hK0 : F K0 = false) (hFl : F 43 = true) (hFf : F 84 = true)
    {c x0 x1 x2 : Nat} {n A B : Int} {R : Nat → Value → World → Prop} {far : Nat → Int} {i : Nat} {len : Int} {Sh : Nat → Prop} (s0 : Sh x0) (s1 : Sh x1) (s2 : Sh x2) (hR : ∀ v w τ d, R i v w → R i v (on w τ d))
    (HL : ∀ w, Calls Try.prog 43 #[.agg #[.int .i64 n, .int .i64 B], .int .i64 i] w fun e w' => ∃ v, e = .returned v ∧ R i v w')
    (HF : ∀ v w, R i v w → Calls Try.prog 84 #[.agg #[.int .i64 n, .int .i64 A], v] w fun e w' => e = .returned (.int .i64 (far i)))
    {b : Frame} {k : List Item} {cs : List Frame} {id : Nat} (hb : b.kind ≠ .early) {a : Act} {O : Nat → Prop} {w : World} (hregs : Regs x0 x1 x2 len i a) (h3 : a.eval (.tmp 3) = .int .i64 i) (hino : ∀ x, O x → x < w.heap.size) (hsh : ∀ x, Sh x → x < w.heap.size ∧ ¬ O x) (hmem : PMem c x0 x1 x2 n A B w) {vs : List Value}
    (hnext : ∀ a' O' w', Regs x0 x1 x2 len i a' → (∀ x, O' x → x < w'.heap.size) → (∀ x, Sh x → x < w'.heap.size ∧ ¬ O' x) → PMem c x0 x1 x2 n A B w' → SendsW Try.prog c Sh vs (G (b.at a' (.inRegion w3 [] :: k)) cs) O' w') :
    Walks Try.prog false Sh (StopW Try.prog c Sh (.agg #[.int .i64 i, .int .i64 (far i)] :: vs)) (G (b.at a (.code (.region id w3 true) :: k)) cs) O w := by
  have hsub : ∀ {O : Nat → Prop} {w w₁ : World}, Rely (fun x => O x ∨ Sh x) w w₁ → PMem c x0 x1 x2 n A B w → PMem c x0 x1 x2 n A B w₁ := fun hr hm => hm.rely hr (.inr s0) (.inr s1) (.inr s2)
  have hshr : ∀ {O : Nat → Prop} {w w₁ : World}, Rely (fun x => O x ∨ Sh x) w w₁ → (∀ x, Sh x → x < w.heap.size ∧ ¬ O x) → ∀ x, Sh x → x < w₁.heap.size ∧ ¬ O x := fun hr h x hx => ⟨Nat.lt_of_lt_of_le (h x hx).1 hr.size, (h x hx).2⟩
  have hsz : w3.size = 9 := w_sizes.2.2.2.1
  refine Walks.draw (by rfl) (R3 c n A B R far i x0 x1 x2 len Sh) hino (fun w₁ hr => ?_) (fun l a O w j rest hI hready hrest hk => ?_) (fun l a O w hI hready => ?_)
  · have hf : ∀ m, (Array.replicate w3.size false).getD m false = false := fun m => by
      simp only [Array.getD_eq_getD_getElem?, Array.getElem?_replicate]
      split <;> rfl
    exact ⟨hregs, h3, by simp [hsz], fun x hx => Nat.lt_of_lt_of_le (hino x hx) hr.size, hshr hr hsh, hsub hr hmem, fun m _ h => absurd h (by rw [hf]; simp), fun m _ h => absurd h (by rw [hf]; simp), hf 8⟩
  · obtain ⟨hlt, hun, o, ho, hafter⟩ := ready_mem hready
    rw [hsz] at hlt
    have hj : j = 0 ∨ j = 1 ∨ j = 2 ∨ j = 3 ∨ j = 4 ∨ j = 5 ∨ j = 6 ∨ j = 7 ∨ j = 8 := by omega
    -- an operation that reads, or only moves
    have read : ∀ {v : Value}, j < 8 → j ≠ 5 → j ≠ 6 → o.dst = some (9 + j) → o.guard = none → PVal c n A B R far i j v O w → (∀ O w, PVal c n A B R far i j v O w) → (∀ e ∈ pdep j, l.getD e false = true) →
        (∀ w₁, PMem c x0 x1 x2 n A B w₁ → (execOp a.eval o).run Try.prog w₁ = .ok (.value v) w₁ ∧ ∀ e ∈ (execOp a.eval o).events Try.prog w₁ #[], EvOk Sh O e) → Walks Try.prog false Sh (StopW Try.prog c Sh (.agg #[.int .i64 i, .int .i64 (far i)] :: vs)) (G (b.at a (.inRegion w3 (j :: rest) :: k)) cs) O w := by
      intro v hj8 h5 h6 hdst hg hv hv' hd hrun
      refine Walks.opread ho (wanted_none hg) hb hI.ino (fun w₁ hr => hrun w₁ (hsub hr hI.mem)) ?_
      rw [hdst]
      exact hk _ _ _ (hI.put hj8 hI.ino hI.sh hI.mem hv (fun _ u h => h) hd)
    rcases hj with rfl | rfl | rfl | rfl | rfl | rfl | rfl | rfl | rfl
    · obtain ⟨o', q1, q2, q3, q4⟩ := w3_0
      obtain rfl : o = o' := Option.some.inj (ho.symm.trans q1)
      refine read (v := .chan (some c)) (by omega) (by omega) (by omega) q3 q4 rfl (fun _ _ => rfl) (fun e he => by cases he) fun w₁ hm => ?_
      obtain ⟨r1, r2⟩ := run_load (P := Try.prog) (e := a.eval) (v := .chan (some c)) (es := #[⟨.cell ⟨x1, 0, none⟩, false, false⟩]) q2 (by rw [hI.regs.e1]; exact load_chan x1 _ w₁ hm.ch) (by rw [hI.regs.e1]; exact load_chan_ev x1 _ w₁ hm.ch)
      refine ⟨r1, fun e he => ?_⟩
      rw [r2] at he
      have : e = ⟨.cell ⟨x1, 0, none⟩, false, false⟩ := by simpa using he
      exact .inr (.inr (.inl ⟨x1, 0, none, s1, this⟩))
    · obtain ⟨o', q1, q2, q3, q4⟩ := w3_1
      obtain rfl : o = o' := Option.some.inj (ho.symm.trans q1)
      refine read (v := .int .i64 i) (by omega) (by omega) (by omega) q3 q4 rfl (fun _ _ => rfl) (fun e he => by cases he) fun w₁ hm => ?_
      obtain ⟨r1, r2⟩ := run_move (P := Try.prog) (e := a.eval) q2 w₁
      rw [hI.e3] at r1
      exact ⟨r1, fun e he => by rw [r2] at he; simp at he⟩
    · obtain ⟨o', q1, q2, q3, q4⟩ := w3_2
      obtain rfl : o = o' := Option.some.inj (ho.symm.trans q1)
      refine read (v := .agg #[.int .i64 n, .int .i64 A]) (by omega) (by omega) (by omega) q3 q4 rfl (fun _ _ => rfl) (fun e he => by cases he) fun w₁ hm => ?_
      obtain ⟨r1, r2⟩ := run_load (P := Try.prog) (e := a.eval) (v := .agg #[.int .i64 n, .int .i64 A]) (es := #[⟨.cell ⟨x2, 0, none⟩, false, false⟩, ⟨.cell ⟨x2, 1, none⟩, false, false⟩]) q2 (by rw [hI.regs.e2]; exact load_set x2 _ _ w₁ hm.a0 hm.a1) (by rw [hI.regs.e2]; exact load_set_ev x2 _ _ w₁ hm.a0 hm.a1)
      refine ⟨r1, fun e he => ?_⟩
      rw [r2] at he
      rcases (by simpa using he : e = ⟨.cell ⟨x2, 0, none⟩, false, false⟩ ∨ e = ⟨.cell ⟨x2, 1, none⟩, false, false⟩) with q | q
      · exact .inr (.inr (.inl ⟨x2, 0, none, s2, q⟩))
      · exact .inr (.inr (.inl ⟨x2, 1, none, s2, q⟩))
    · obtain ⟨o', q1, q2, q3, q4⟩ := w3_3
      obtain rfl : o = o' := Option.some.inj (ho.symm.trans q1)
      refine read (v := .agg #[.int .i64 n, .int .i64 B]) (by omega) (by omega) (by omega) q3 q4 rfl (fun _ _ => rfl) (fun e he => by cases he) fun w₁ hm => ?_
      obtain ⟨r1, r2⟩ := run_load (P := Try.prog) (e := a.eval) (v := .agg #[.int .i64 n, .int .i64 B]) (es := #[⟨.cell ⟨x0, 0, none⟩, false, false⟩, ⟨.cell ⟨x0, 1, none⟩, false, false⟩]) q2 (by rw [hI.regs.e0]; exact load_set x0 _ _ w₁ hm.b0 hm.b1) (by rw [hI.regs.e0]; exact load_set_ev x0 _ _ w₁ hm.b0 hm.b1)
      refine ⟨r1, fun e he => ?_⟩
      rw [r2] at he
      rcases (by simpa using he : e = ⟨.cell ⟨x0, 0, none⟩, false, false⟩ ∨ e = ⟨.cell ⟨x0, 1, none⟩, false, false⟩) with q | q
      · exact .inr (.inr (.inl ⟨x0, 0, none, s0, q⟩))
      · exact .inr (.inr (.inl ⟨x0, 1, none, s0, q⟩))
    · obtain ⟨o', q1, q2, q3, q4⟩ := w3_4
      obtain rfl : o = o' := Option.some.inj (ho.symm.trans q1)
      refine read (v := .int .i64 i) (by omega) (by omega) (by omega) q3 q4 rfl (fun _ _ => rfl) (fun e he => by cases he) fun w₁ hm => ?_
      obtain ⟨r1, r2⟩ := run_move (P := Try.prog) (e := a.eval) q2 w₁
      rw [hI.e3] at r1
      exact ⟨r1, fun e he => by rw [r2] at he; simp at he⟩
    · obtain ⟨o', q1, ⟨ats, q2⟩, q3, q4, q5⟩ := w3_5
      obtain rfl : o = o' := Option.some.inj (ho.symm.trans q1)
      have l3 := dep_of (j := 3) (gr := .data) q5 hafter (by simp) rfl
      have l4 := dep_of (j := 4) (gr := .data) q5 hafter (by simp) rfl
      have v12 : a.eval (.tmp 12) = .agg #[.int .i64 n, .int .i64 B] := hI.vals 3 (by omega) l3 (by omega)
      have v13 : a.eval (.tmp 13) = .int .i64 i := hI.vals 4 (by omega) l4 (by omega)
      have hrun := run_call (P := Try.prog) (e := a.eval) q2 rfl Try.func43 (by kernel_rfl) (by simp [Try.f43])
      have hargs : (#[Operand.tmp 12, .tmp 13]).map a.eval = #[.agg #[.int .i64 n, .int .i64 B], .int .i64 i] := by simp [v12, v13]
      rw [hargs] at hrun
      refine Walks.enter ho (wanted_none q4) hb hI.ino (fun w => (hrun w).1) (fun w => (hrun w).2) ?_
      refine walks_gives hG0 hK0 hFl (fun m v hv => ?_) hR hI.ino hI.sh HL fun v' W2 O2 hheld g1 g2 g3 g4 => ?_
      · match m, hv with
        | 0, hv => simp at hv; subst hv; exact plain_two _ _ _ _
        | 1, hv => simp at hv; subst hv; exact plain_int _ _
        | m + 2, hv => simp at hv
      · rw [Frame.finish_at, ho]
        have hput := hI.put (j := 5) (v := v') (O2 := O2) (w2 := W2) (by omega) g2 (fun x hx => ⟨Nat.lt_of_lt_of_le (hI.sh x hx).1 g4.size, fun h => (g3 x h).elim (hI.sh x hx).2 fun q => by have := (hI.sh x hx).1; omega⟩) (hI.mem.rely g4 (.inl s0) (.inl s1) (.inl s2)) hheld (fun _ u hu => (hu.rely g4 fun x hx => .inr hx).sub g1) (fun e he => by
          have : e = 3 ∨ e = 4 := by simpa [pdep] using he
          rcases this with rfl | rfl
          · exact l3
          · exact l4)
        show Walks _ _ _ _ (G (b.at (a.put o.dst v') (.inRegion w3 rest :: k)) cs) O2 W2
        rw [q3]
        exact hk _ _ _ hput
    · obtain ⟨o', q1, ⟨ats, q2⟩, q3, q4, q5⟩ := w3_6
      obtain rfl : o = o' := Option.some.inj (ho.symm.trans q1)
      have l2 := dep_of (j := 2) (gr := .data) q5 hafter (by simp) rfl
      have l5 := dep_of (j := 5) (gr := .data) q5 hafter (by simp) rfl
      have l6 : l.getD 6 false = false := by
        have : l.getD 6 true = false := hun
        simp only [Array.getD_eq_getD_getElem?] at this ⊢
        rw [Array.getElem?_eq_getElem (by rw [hI.ls]; omega)] at this ⊢
        simpa using this
      have v11 : a.eval (.tmp 11) = .agg #[.int .i64 n, .int .i64 A] := hI.vals 2 (by omega) l2 (by omega)
      have v14 : Held (R i) (a.eval (.tmp 14)) O w := hI.vals 5 (by omega) l5 fun _ => l6
      have hrun := run_call (P := Try.prog) (e := a.eval) q2 rfl Try.func84 (by kernel_rfl) (by simp [Try.f84])
      have hargs : (#[Operand.tmp 11, .tmp 14]).map a.eval = #[.agg #[.int .i64 n, .int .i64 A], a.eval (.tmp 14)] := by simp [v11]
      rw [hargs] at hrun
      refine Walks.enter ho (wanted_none q4) hb hI.ino (fun w => (hrun w).1) (fun w => (hrun w).2) ?_
      refine walks_takes hG0 hK0 hFf (plain_two _ _ _ _) (plain_int _ _) hR v14 hI.ino hI.sh HF fun W2 O2 g1 g2 g3 g4 => ?_
      rw [Frame.finish_at, ho]
      have hput := hI.put (j := 6) (v := .int .i64 (far i)) (O2 := O2) (w2 := W2) (by omega) g2 (fun x hx => ⟨Nat.lt_of_lt_of_le (hI.sh x hx).1 g4.size, fun h => (g3 x h).elim (hI.sh x hx).2 fun q => by have := (hI.sh x hx).1; omega⟩) (hI.mem.rely g4 s0 s1 s2) rfl (fun h => absurd rfl h) (fun e he => by
        have : e = 2 ∨ e = 5 := by simpa [pdep] using he
        rcases this with rfl | rfl
        · exact l2
        · exact l5)
      show Walks _ _ _ _ (G (b.at (a.put o.dst (.int .i64 (far i))) (.inRegion w3 rest :: k)) cs) O2 W2
      rw [q3]
      exact hk _ _ _ hput
    · obtain ⟨o', q1, q2, q3, q4, q5⟩ := w3_7
      obtain rfl : o = o' := Option.some.inj (ho.symm.trans q1)
      have l1 := dep_of (j := 1) (gr := .data) q5 hafter (by simp) rfl
      have l6 := dep_of (j := 6) (gr := .data) q5 hafter (by simp) rfl
      have v10 : a.eval (.tmp 10) = .int .i64 i := hI.vals 1 (by omega) l1 (by omega)
      have v15 : a.eval (.tmp 15) = .int .i64 (far i) := hI.vals 6 (by omega) l6 (by omega)
      refine read (v := .agg #[.int .i64 i, .int .i64 (far i)]) (by omega) (by omega) (by omega) q3 q4 rfl (fun _ _ => rfl) (fun e he => by
        have : e = 1 ∨ e = 6 := by simpa [pdep] using he
        rcases this with rfl | rfl
        · exact l1
        · exact l6) fun w₁ hm => ?_
      obtain ⟨r1, r2⟩ := build_choice q2 v10 v15 w₁
      exact ⟨r1, fun e he => by rw [r2] at he; simp at he⟩
    · obtain ⟨o', q1, q2, q3, q4, q5⟩ := w3_8
      obtain rfl : o = o' := Option.some.inj (ho.symm.trans q1)
      have l0 := dep_of (j := 0) (gr := .data) q5 hafter (by simp) rfl
      have l7 := dep_of (j := 7) (gr := .data) q5 hafter (by simp) rfl
      have v9 : a.eval (.tmp 9) = .chan (some c) := hI.vals 0 (by omega) l0 (by omega)
      have v16 : a.eval (.tmp 16) = .agg #[.int .i64 i, .int .i64 (far i)] := hI.vals 7 (by omega) l7 (by omega)
      obtain ⟨z, hz⟩ := send_chan (e := a.eval) (c := c) q2 v9 v16
      have hall : rest = [] := by
        refine hrest ?_
        have l1 := hI.deps 7 (by omega) l7 1 (by simp [pdep])
        have l6 := hI.deps 7 (by omega) l7 6 (by simp [pdep])
        have l2 := hI.deps 6 (by omega) l6 2 (by simp [pdep])
        have l5 := hI.deps 6 (by omega) l6 5 (by simp [pdep])
        have l3 := hI.deps 5 (by omega) l5 3 (by simp [pdep])
        have l4 := hI.deps 5 (by omega) l5 4 (by simp [pdep])
        rw [List.eq_nil_iff_forall_not_mem]
        intro m hm
        obtain ⟨p1, p2, _⟩ := ready_mem hm
        rw [hsz] at p1
        rw [getD_set] at p2
        have hto : ∀ m, m < 9 → l.getD m false = true → l.getD m true = true := fun m hm h => by
          simp only [Array.getD_eq_getD_getElem?] at h ⊢
          rw [Array.getElem?_eq_getElem (by rw [hI.ls]; omega)] at h ⊢
          simpa using h
        have : m = 0 ∨ m = 1 ∨ m = 2 ∨ m = 3 ∨ m = 4 ∨ m = 5 ∨ m = 6 ∨ m = 7 ∨ m = 8 := by omega
        rcases this with rfl | rfl | rfl | rfl | rfl | rfl | rfl | rfl | rfl <;> simp_all
      subst hall
      refine .stop fun w₁ hr => ⟨_, _, z, rfl, fun w₂ hr2 => ⟨_, stepG_comm ho (wanted_none q4) hb (hz w₂).1, fun e he => ?_, ?_⟩⟩
      · have := mem_listed he
        rw [(hz w₂).2] at this
        simp at this
      · dsimp only
        rw [Frame.finish_at, ho]
        have hr3 := hr.trans hr2
        show SendsW _ _ _ vs (G (b.at (a.put o.dst undef) (.inRegion w3 [] :: k)) cs) O w₂
        rw [q3]
        exact hnext _ _ _ hI.regs (fun x hx => Nat.lt_of_lt_of_le (hI.ino x hx) hr3.size) (hshr hr3 hI.sh) (hsub hr3 hI.mem)
  · exfalso
    have key : ∀ m, m < 9 → (∀ e, e < m → l.getD e false = true) → l.getD m false = true := by
      intro m hm hlo
      refine Classical.byContradiction fun hno => ?_
      have hmem : m ∈ Region.ready .any w3 l := by
        unfold Region.ready
        rw [List.mem_filter]
        refine ⟨List.mem_range.2 (by rw [hsz]; exact hm), ?_⟩
        rw [Bool.and_eq_true]
        constructor
        · simp only [Array.getD_eq_getD_getElem?] at hno ⊢
          rw [Array.getElem?_eq_getElem (by rw [hI.ls]; omega)] at hno ⊢
          simpa using hno
        · have hlow := w3_low m hm
          cases ho : w3[m]? with
          | none =>
            have : ¬ m < w3.size := fun h => by rw [Array.getElem?_eq_getElem h] at ho; cases ho
            rw [hsz] at this
            exact absurd hm this
          | some o =>
            rw [ho] at hlow
            simp only [Option.map_some, Option.getD_some] at hlow ⊢
            rw [List.all_eq_true] at hlow
            rw [Array.all_eq_true']
            intro e he
            have := hlow e (Array.mem_toList_iff.2 he)
            rw [hlo e.on (by simpa using this)]
            simp
      rw [hready] at hmem
      cases hmem
    have all : ∀ m, m < 9 → l.getD m false = true := by
      intro m
      induction m using Nat.strongRecOn with
      | _ m ih => exact fun hm => key m hm fun e he => ih e he (by omega)
    have := all 8 (by omega)
    rw [hI.v8] at this
    cases this
end Go.Proofs.Ytjgkignnfkbeaaa

/-
  The goroutine that pairings starts: its rounds.
-/
namespace Go.Proofs.Ytjgkignnfkbeaaa
open Go Go.Conc Go.Proofs.Ytjgkignnfkbeaaa.Sim
set_option linter.unusedVariables false

theorem w1_0 : ∃ o, w1[0]? = some o ∧ o.op = .binOp .lss 3 (.tmp 6) (.tmp 5) 3 ∧ o.dst = some 7 ∧ o.guard = none := ⟨_, rfl, rfl, rfl, rfl⟩
theorem w2_0 : ∃ o, w2[0]? = some o ∧ o.op = .move (.tmp 6) ∧ o.dst = some 8 ∧ o.guard = none := ⟨_, rfl, rfl, rfl, rfl⟩
theorem w2_1 : ∃ o, w2[1]? = some o ∧ o.op = .assign (.tmp 8) ∧ o.dst = some 3 ∧ o.guard = none := ⟨_, rfl, rfl, rfl, rfl⟩
theorem w4_0 : ∃ o, w4[0]? = some o ∧ o.op = .binOp .add 3 (.tmp 6) (.const (.int .i64 1)) 3 ∧ o.dst = some 17 ∧ o.guard = none := ⟨_, rfl, rfl, rfl, rfl⟩
theorem w4_1 : ∃ o, w4[1]? = some o ∧ o.op = .move (.tmp 17) ∧ o.dst = some 6 ∧ o.guard = none := ⟨_, rfl, rfl, rfl, rfl⟩
theorem run_assign {P : Program} {e : Operand → Value} {o : Oper} {x : Operand} (h : o.op = .assign x) (w : World) : (execOp e o).run P w = .ok (.value (e x)) w ∧ (execOp e o).events P w #[] = #[] := by
  unfold execOp
  rw [h]
  exact ⟨rfl, rfl⟩
theorem run_lss {e : Operand → Value} {o : Oper} {x y : Operand} {u v : Int} (h : o.op = .binOp .lss 3 x y 3) (h1 : e x = .int .i64 u) (h2 : e y = .int .i64 v) (w : World) : (execOp e o).run Try.prog w = .ok (.value (.bool (decide (u < v)))) w ∧ (execOp e o).events Try.prog w #[] = #[] := by
  unfold execOp
  rw [h]
  constructor
  · simp [go_sem, h1, h2]
  · simp [go_sem, h1, h2]
theorem run_add1 {e : Operand → Value} {o : Oper} {x : Operand} {u : Int} (h : o.op = .binOp .add 3 x (.const (.int .i64 1)) 3) (h1 : e x = .int .i64 u) (h2 : e (.const (.int .i64 1)) = .int .i64 1) (w : World) : (execOp e o).run Try.prog w = .ok (.value (.int .i64 (IntKind.i64.wrap (u + 1)))) w ∧ (execOp e o).events Try.prog w #[] = #[] := by
  unfold execOp
  rw [h]
  constructor
  · simp [go_sem, h1, h2]
  · simp [go_sem, h1, h2]

/-- the choices from a place on -/
def pvs (far : Nat → Int) (i m : Nat) : List Value := (List.range' i m).map fun (j : Nat) => Value.agg #[.int .i64 (j : Int), .int .i64 (far j)]
theorem pvs_succ (far : Nat → Int) (i m : Nat) : pvs far i (m + 1) = .agg #[.int .i64 (i : Int), .int .i64 (far i)] :: pvs far (i + 1) m := by
  simp [pvs, List.range'_succ]
theorem Regs.next {x0 x1 x2 : Nat} {len i j : Int} {a : Act} (h : Regs x0 x1 x2 len i a) : Regs x0 x1 x2 len j (a.put (some 6) (.int .i64 j)) :=
  ⟨(put_size _).trans h.size, (put_defers _).trans h.defers, (put_ne (by omega)).trans h.e0, (put_ne (by omega)).trans h.e1, (put_ne (by omega)).trans h.e2, (put_ne (by omega)).trans h.e5, put_self (by rw [h.size]; omega)⟩
theorem Regs.three {x0 x1 x2 : Nat} {len i : Int} {a : Act} (h : Regs x0 x1 x2 len i a) (v : Value) : Regs x0 x1 x2 len i (a.put (some 3) v) :=
  ⟨(put_size _).trans h.size, (put_defers _).trans h.defers, (put_ne (by omega)).trans h.e0, (put_ne (by omega)).trans h.e1, (put_ne (by omega)).trans h.e2, (put_ne (by omega)).trans h.e5, (put_ne (by omega)).trans h.e6⟩

theorem w_rounds {F : FuncId → Bool} {K0 : FuncId} (hG0 : Sim.Good Try.prog Try.prog F K0) (hK0 : F K0 = false) (hFl : F 43 = true) (hFf : F 84 = true)
    {c x0 x1 x2 : Nat} {n A B : Int} {R : Nat → Value → World → Prop} {far : Nat → Int} {len : Nat} {Sh : Nat → Prop} (s0 : Sh x0) (s1 : Sh x1) (s2 : Sh x2) (hlen : len ≤ 4096) (hR : ∀ i v w τ d, R i v w → R i v (on w τ d))
    (HL : ∀ i, i < len → ∀ w, Calls Try.prog 43 #[.agg #[.int .i64 n, .int .i64 B], .int .i64 (i : Int)] w fun e w' => ∃ v, e = .returned v ∧ R i v w')
    (HF : ∀ i, i < len → ∀ v w, R i v w → Calls Try.prog 84 #[.agg #[.int .i64 n, .int .i64 A], v] w fun e w' => e = .returned (.int .i64 (far i)))
    {b : Frame} {k : List Item} {cs : List Frame} (hb : b.kind ≠ .early)
    (hclose : ∀ a O w, Regs x0 x1 x2 len len a → (∀ x, O x → x < w.heap.size) → (∀ x, Sh x → x < w.heap.size ∧ ¬ O x) → PMem c x0 x1 x2 n A B w → Walks Try.prog false Sh (AtCloseW Try.prog c Sh) (G (b.at a (.code (.region 5 w5 false) :: k)) cs) O w) :
    ∀ (m i : Nat) (a : Act) (O : Nat → Prop) (w : World), i + m = len → Regs x0 x1 x2 len i a → (∀ x, O x → x < w.heap.size) → (∀ x, Sh x → x < w.heap.size ∧ ¬ O x) → PMem c x0 x1 x2 n A B w →
      SendsW Try.prog c Sh (pvs far i m) (G (b.at a (.code wLoop :: .inLoop wLoop :: .inBlock 0 :: .code (.region 5 w5 false) :: k)) cs) O w := by
  intro m
  induction m with
  | zero =>
    intro i a O w him hregs hino hsh hmem
    have hi : i = len := by omega
    subst hi
    rw [sendsW_eq]
    show Walks _ _ _ (StopW _ c Sh []) _ _ _
    rw [wLoop_eq]
    refine Walks.ctl rfl (fun w => stepG_seq) hino ?_
    refine Walks.ctl rfl (fun w => stepG_region) hino ?_
    rw [w_sizes.2.1]
    obtain ⟨o, q1, q2, q3, q4⟩ := w1_0
    have hrun := run_lss (e := a.eval) q2 hregs.e6 hregs.e5
    refine Walks.op0 q1 (wanted_none q4) hb hino (fun w => (hrun w).1) (fun w => (hrun w).2) ?_
    rw [q3]
    have hregs1 := hregs.put (d := 7) (by omega) (.bool (decide ((i : Int) < i)))
    have h7 : (a.put (some 7) (.bool (decide ((i : Int) < i)))).eval (.tmp 7) = .bool false := by
      rw [put_self (by rw [hregs.size]; omega)]
      simp
    generalize a.put (some 7) (.bool (decide ((i : Int) < i))) = a1 at hregs1 h7 ⊢
    refine Walks.ctl rfl (fun w => stepG_region_end) hino ?_
    refine Walks.ctl rfl (fun w => stepG_seq) hino ?_
    refine Walks.ctl rfl (fun w => stepG_cond h7) hino ?_
    refine Walks.ctl rfl (fun w => stepG_exit (k' := .code (.region 5 w5 false) :: k) rfl) hino ?_
    exact hclose a1 O w hregs1 hino hsh hmem
  | succ m ih =>
    intro i a O w him hregs hino hsh hmem
    have hi : i < len := by omega
    rw [pvs_succ, sendsW_eq]
    rw [wLoop_eq]
    refine Walks.ctl rfl (fun w => stepG_seq) hino ?_
    refine Walks.ctl rfl (fun w => stepG_region) hino ?_
    rw [w_sizes.2.1]
    obtain ⟨o, q1, q2, q3, q4⟩ := w1_0
    have hrun := run_lss (e := a.eval) q2 hregs.e6 hregs.e5
    refine Walks.op0 q1 (wanted_none q4) hb hino (fun w => (hrun w).1) (fun w => (hrun w).2) ?_
    rw [q3]
    have hregs1 := hregs.put (d := 7) (by omega) (.bool (decide ((i : Int) < len)))
    have h7 : (a.put (some 7) (.bool (decide ((i : Int) < len)))).eval (.tmp 7) = .bool true := by
      rw [put_self (by rw [hregs.size]; omega)]
      have : (i : Int) < len := by omega
      simp [this]
    generalize a.put (some 7) (.bool (decide ((i : Int) < len))) = a1 at hregs1 h7 ⊢
    refine Walks.ctl rfl (fun w => stepG_region_end) hino ?_
    refine Walks.ctl rfl (fun w => stepG_seq) hino ?_
    refine Walks.ctl rfl (fun w => stepG_cond h7) hino ?_
    refine Walks.ctl rfl (fun w => stepG_skip) hino ?_
    refine Walks.ctl rfl (fun w => stepG_seq) hino ?_
    refine Walks.ctl rfl (fun w => stepG_block) hino ?_
    refine Walks.ctl rfl (fun w => stepG_seq) hino ?_
    refine Walks.ctl rfl (fun w => stepG_region) hino ?_
    rw [w_sizes.2.2.1]
    obtain ⟨o, q1, q2, q3, q4⟩ := w2_0
    have hrun := run_move (P := Try.prog) (e := a1.eval) q2
    rw [hregs1.e6] at hrun
    refine Walks.op0 q1 (wanted_none q4) hb hino (fun w => (hrun w).1) (fun w => (hrun w).2) ?_
    rw [q3]
    have hregs2 := hregs1.put (d := 8) (by omega) (.int .i64 (i : Int))
    have h8 : (a1.put (some 8) (.int .i64 (i : Int))).eval (.tmp 8) = .int .i64 (i : Int) := put_self (by rw [hregs1.size]; omega)
    generalize a1.put (some 8) (.int .i64 (i : Int)) = a2 at hregs2 h8 ⊢
    obtain ⟨o, q1, q2, q3, q4⟩ := w2_1
    have hrun := run_assign (P := Try.prog) (e := a2.eval) q2
    rw [h8] at hrun
    refine Walks.op0 q1 (wanted_none q4) hb hino (fun w => (hrun w).1) (fun w => (hrun w).2) ?_
    rw [q3]
    have hregs3 := hregs2.three (.int .i64 (i : Int))
    have h3 : (a2.put (some 3) (.int .i64 (i : Int))).eval (.tmp 3) = .int .i64 (i : Int) := put_self (by rw [hregs2.size]; omega)
    generalize a2.put (some 3) (.int .i64 (i : Int)) = a3 at hregs3 h3 ⊢
    refine Walks.ctl rfl (fun w => stepG_region_end) hino ?_
    refine w_region3 hG0 hK0 hFl hFf s0 s1 s2 (hR i) (HL i hi) (HF i hi) hb hregs3 h3 hino hsh hmem fun a4 O4 w4' hregs4 hino4 hsh4 hmem4 => ?_
    rw [sendsW_eq]
    refine Walks.ctl rfl (fun w => stepG_region_end) hino4 ?_
    refine Walks.ctl rfl (fun w => stepG_inBlock) hino4 ?_
    refine Walks.ctl rfl (fun w => stepG_region) hino4 ?_
    rw [w_sizes.2.2.2.2.1]
    obtain ⟨o, q1, q2, q3, q4⟩ := w4_0
    have hrun := run_add1 (e := a4.eval) q2 hregs4.e6 rfl
    have hw1 : IntKind.i64.wrap ((i : Int) + 1) = ((i + 1 : Nat) : Int) := by
      rw [IntWalk.i64_in _ (by omega)]; simp
    rw [hw1] at hrun
    refine Walks.op0 q1 (wanted_none q4) hb hino4 (fun w => (hrun w).1) (fun w => (hrun w).2) ?_
    rw [q3]
    have hregs5 := hregs4.put (d := 17) (by omega) (.int .i64 ((i + 1 : Nat) : Int))
    have h17 : (a4.put (some 17) (.int .i64 ((i + 1 : Nat) : Int))).eval (.tmp 17) = .int .i64 ((i + 1 : Nat) : Int) := put_self (by rw [hregs4.size]; omega)
    generalize a4.put (some 17) (.int .i64 ((i + 1 : Nat) : Int)) = a5 at hregs5 h17 ⊢
    obtain ⟨o, q1, q2, q3, q4⟩ := w4_1
    have hrun := run_move (P := Try.prog) (e := a5.eval) q2
    rw [h17] at hrun
    refine Walks.op0 q1 (wanted_none q4) hb hino4 (fun w => (hrun w).1) (fun w => (hrun w).2) ?_
    rw [q3]
    have hregs6 := hregs5.next (j := ((i + 1 : Nat) : Int))
    generalize a5.put (some 6) (.int .i64 ((i + 1 : Nat) : Int)) = a6 at hregs6 ⊢
    refine Walks.ctl rfl (fun w => stepG_region_end) hino4 ?_
    refine Walks.ctl rfl (fun w => stepG_inLoop) hino4 ?_
    have := ih (i + 1) a6 O4 w4' (by omega) hregs6 hino4 hsh4 hmem4
    rw [sendsW_eq, wLoop_eq] at this
    exact this
end Go.Proofs.Ytjgkignnfkbeaaa

/-
  The goroutine that pairings starts: it closes the channel, and leaves.
-/
namespace Go.Proofs.Ytjgkignnfkbeaaa
open Go Go.Conc Go.Proofs.Ytjgkignnfkbeaaa.Sim
set_option linter.unusedVariables false

theorem w5_0 : ∃ o, w5[0]? = some o ∧ o.op = .load 73 (.tmp 1) ∧ o.dst = some 18 ∧ o.guard = none := ⟨_, rfl, rfl, rfl, rfl⟩
theorem w5_1 : ∃ o, w5[1]? = some o ∧ (∃ ats, o.op = .call { callee := .builtin .close, args := #[.tmp 18], argTypes := ats }) ∧ o.dst = none ∧ o.guard = none := ⟨_, rfl, ⟨_, rfl⟩, rfl, rfl⟩
theorem run_close {e : Operand → Value} {o : Oper} {c : Nat} {ats : Array TypeId} (h : o.op = .call { callee := .builtin .close, args := #[.tmp 18], argTypes := ats }) (h1 : e (.tmp 18) = .chan (some c)) {w : World} {s r : Nat} {tm : Bool} (hc : w.heap[c]? = some (.chan 0 #[] false s r tm)) :
    (execOp e o).run Try.prog w = .ok (.value (.tuple #[])) (w.shut c s r tm) ∧ (execOp e o).events Try.prog w #[] = (#[⟨.obj c, false, true⟩] : Array Event).push ⟨.obj c, true, true⟩ := by
  have hr := run_close_open (P := Try.prog) ats o.type hc
  have he := events_close_open (P := Try.prog) (es := #[]) ats o.type hc
  unfold execOp
  rw [h]
  constructor
  · simp [resolve, h1, bind, pure, invoke, builtin]
    refine Eq.trans (b := Sem.run Try.prog (Builtin.close_ ats o.type #[.chan (some c)] >>= fun v => Pure.pure (Next.value v)) w) rfl ?_
    rw [Sem.run_bind, hr]
    rfl
  · simp [resolve, h1, bind, pure, invoke, builtin]
    refine Eq.trans (b := Sem.events Try.prog (Builtin.close_ ats o.type #[.chan (some c)] >>= fun v => Pure.pure (Next.value v)) w #[]) rfl ?_
    rw [Sem.events_bind, hr, he]
    rfl

/-- the frame below: it was made to call the closure, and is to end -/
noncomputable def wBase : Frame := { (default : Frame) with fn := Try.prog.funcs.size, defers := [], mode := .panicking [goexitEntry] }
theorem w_quits {b : Frame} {a : Act} (hn : b.kind = .deferred) (hf : b.fn = 83) (hd : a.defers = []) : QuitsIn Try.prog 4 (G (b.at a (.inRegion w5 [] :: [])) [wBase]) := by
  have hfn : Try.prog.funcs[b.fn]? = some Try.f83 := by rw [hf]; exact Try.func83
  refine .inr ⟨rfl, G (b.at a []) [wBase], fun w => stepG_region_end, ?_⟩
  refine .inr ⟨rfl, G { b.at a [] with mode := .returning } [wBase], fun w => stepG_end, ?_⟩
  refine .inr ⟨rfl, G wBase [], fun w => ?_, ?_⟩
  · have hr : (results Try.f83 a.tmps).run Try.prog w = .ok (.tuple #[]) w := results_none rfl _ _ _
    have he : (results Try.f83 a.tmps).events Try.prog w #[] = #[] := events_results_none rfl _ _
    simp [G, stepG, unwind, doReturn, Frame.at, hn, hd, hfn, hr, he, seen_none, GStep.after, wBase, goexitEntry]
  · refine .inr ⟨rfl, { G wBase [] with status := .finished }, fun w => ?_, ?_⟩
    · simp [G, stepG, unwind, wBase, Frame.catches, goexitEntry]
      rfl
    · exact rfl

theorem w_close {c x0 x1 x2 : Nat} {n A B : Int} {len : Nat} {Sh : Nat → Prop} (s1 : Sh x1) {b : Frame} (hn : b.kind = .deferred) (hf : b.fn = 83) {a : Act} {O : Nat → Prop} {w : World} (hregs : Regs x0 x1 x2 len len a) (hino : ∀ x, O x → x < w.heap.size) (hmem : PMem c x0 x1 x2 n A B w) :
    Walks Try.prog false Sh (AtCloseW Try.prog c Sh) (G (b.at a (.code (.region 5 w5 false) :: [])) [wBase]) O w := by
  have hb : b.kind ≠ .early := by rw [hn]; simp
  refine Walks.ctl rfl (fun w => stepG_region) hino ?_
  rw [w_sizes.2.2.2.2.2]
  obtain ⟨o, q1, q2, q3, q4⟩ := w5_0
  refine Walks.opread (v := .chan (some c)) q1 (wanted_none q4) hb hino (fun w₁ hr => ?_) ?_
  · have hm : w₁.cell? ⟨x1, 0, none⟩ = some (.chan (some c)) := (cell_keep hr (.inr s1)).trans hmem.ch
    obtain ⟨r1, r2⟩ := run_load (P := Try.prog) (e := a.eval) (v := .chan (some c)) (es := #[⟨.cell ⟨x1, 0, none⟩, false, false⟩]) q2 (by rw [hregs.e1]; exact load_chan x1 _ w₁ hm) (by rw [hregs.e1]; exact load_chan_ev x1 _ w₁ hm)
    refine ⟨r1, fun e he => ?_⟩
    rw [r2] at he
    have : e = ⟨.cell ⟨x1, 0, none⟩, false, false⟩ := by simpa using he
    exact .inr (.inr (.inl ⟨x1, 0, none, s1, this⟩))
  · rw [q3]
    have h18 : (a.put (some 18) (.chan (some c))).eval (.tmp 18) = .chan (some c) := put_self (by rw [hregs.size]; omega)
    have hd : (a.put (some 18) (.chan (some c))).defers = [] := (put_defers _).trans hregs.defers
    generalize a.put (some 18) (.chan (some c)) = a1 at h18 hd ⊢
    obtain ⟨o, q1, ⟨ats, q2⟩, q3, q4⟩ := w5_1
    refine .stop fun w₁ hr => ⟨rfl, ?_, G (b.at a1 (.inRegion w5 [] :: [])) [wBase], 4, w_quits hn hf hd, fun w₂ s r tm hr2 hc => ⟨#[⟨.obj c, false, true⟩], ?_, fun e he => ?_⟩⟩
    · show mayWake Try.prog (G (b.at a1 (.inRegion w5 (1 :: []) :: [])) [wBase]) = true
      simp [mayWake, G, Frame.at, q1, q2]
    · obtain ⟨r1, r2⟩ := run_close q2 h18 hc
      have hst := stepG_value (main := false) (b := b) (k := []) (cs := [wBase]) (rest := []) q1 (wanted_none q4) hb r1
      refine hst.trans ?_
      rw [q3]
      have hl : listed Try.prog b.fn a1 o w₂ = (#[⟨.obj c, false, true⟩] : Array Event).push ⟨.obj c, true, true⟩ := by
        unfold listed
        rw [r2]
        refine seen_eq (by rw [hf, Try.func83]; rfl) fun e he f => ?_
        rcases (by simpa using he : e = ⟨.obj c, false, true⟩ ∨ e = ⟨.obj c, true, true⟩) with q | q <;> rw [q] <;> simp
      rw [hl]
      rfl
    · have : e = ⟨.obj c, false, true⟩ := by simpa using he
      exact .inr (.inl ⟨c, true, .inr rfl, this⟩)
end Go.Proofs.Ytjgkignnfkbeaaa

/-
  The goroutine that pairings starts: from its beginning.
-/
namespace Go.Proofs.Ytjgkignnfkbeaaa
open Go Go.Conc Go.Proofs.Ytjgkignnfkbeaaa.Sim
set_option linter.unusedVariables false

theorem w0_0 : ∃ o, w0[0]? = some o ∧ o.op = .load 47 (.tmp 0) ∧ o.dst = some 4 ∧ o.guard = none := ⟨_, rfl, rfl, rfl, rfl⟩
theorem w0_1 : ∃ o, w0[1]? = some o ∧ (∃ ats, o.op = .call { callee := .value (.func 66), args := #[.tmp 4], argTypes := ats }) ∧ o.dst = some 5 ∧ o.guard = none := ⟨_, rfl, ⟨_, rfl⟩, rfl, rfl⟩
theorem w0_2 : ∃ o, w0[2]? = some o ∧ o.op = .move (.const (.int .i64 0)) ∧ o.dst = some 6 ∧ o.guard = none := ⟨_, rfl, rfl, rfl, rfl⟩

/-- the child, as the go statement makes it -/
noncomputable def wChild (x0 x1 x2 : Nat) : Goroutine := G { wBase with defers := [{ target := .fn (.func 83) #[.pointer (some ⟨x0, 0, none⟩), .pointer (some ⟨x1, 0, none⟩), .pointer (some ⟨x2, 0, none⟩)], args := #[] }] } []
def wFr : Frame := { (default : Frame) with fn := 83, kind := .deferred }
def wAct (x0 x1 x2 : Nat) : Act := { tmps := #[.pointer (some ⟨x0, 0, none⟩), .pointer (some ⟨x1, 0, none⟩), .pointer (some ⟨x2, 0, none⟩)] ++ Array.replicate 16 undef, defers := [] }
theorem child_start (x0 x1 x2 : Nat) (w : World) : stepG Try.prog false (wChild x0 x1 x2) w = .go (G (wFr.at (wAct x0 x1 x2) [.code wBody]) [wBase]) w #[] := by
  have hf := Try.func83
  have hfr : Frame.enter Try.prog 83 #[.pointer (some ⟨x0, 0, none⟩), .pointer (some ⟨x1, 0, none⟩), .pointer (some ⟨x2, 0, none⟩)] .deferred = wFr.at (wAct x0 x1 x2) [.code wBody] := by
    simp [Frame.enter, Frame.at, hf, wFr, wAct, Try.ntmps83]
    rfl
  rw [← hfr]
  have hn : ¬ (Try.f83).name = "runtime.NumGoroutine" := by simp [Try.f83]
  have hb : ¬ (Try.f83).body = none := by simp [Try.f83]
  simp [wChild, G, stepG, unwind, callDeferred, invoke, Go.callFunc, wBase, Sem.runT, -Sem.runT_eq, hf, hn, hb, bind, Sem.bind, pure, program, GStep.after, seen_none]

theorem w_child {F : FuncId → Bool} {K0 : FuncId} (hG0 : Sim.Good Try.prog Try.prog F K0) (hK0 : F K0 = false) (hFc : F 66 = true) (hFl : F 43 = true) (hFf : F 84 = true)
    {c x0 x1 x2 : Nat} {n A B : Int} {R : Nat → Value → World → Prop} {far : Nat → Int} {len : Nat} {Sh : Nat → Prop} (s0 : Sh x0) (s1 : Sh x1) (s2 : Sh x2) (hlen : len ≤ 4096) (hR : ∀ i v w τ d, R i v w → R i v (on w τ d))
    (HC : ∀ w, Calls Try.prog 66 #[.agg #[.int .i64 n, .int .i64 B]] w fun e w' => e = .returned (.int .i64 (len : Int)))
    (HL : ∀ i, i < len → ∀ w, Calls Try.prog 43 #[.agg #[.int .i64 n, .int .i64 B], .int .i64 (i : Int)] w fun e w' => ∃ v, e = .returned v ∧ R i v w')
    (HF : ∀ i, i < len → ∀ v w, R i v w → Calls Try.prog 84 #[.agg #[.int .i64 n, .int .i64 A], v] w fun e w' => e = .returned (.int .i64 (far i)))
    {w : World} (hsh : ∀ x, Sh x → x < w.heap.size) (hmem : PMem c x0 x1 x2 n A B w) : SendsW Try.prog c Sh (pvs far 0 len) (wChild x0 x1 x2) NoSh w := by
  have hb : wFr.kind ≠ .early := by simp [wFr]
  have hno : ∀ {w : World} x, NoSh x → x < w.heap.size := fun x h => h.elim
  have hs1 : ∀ x, Sh x → x < w.heap.size ∧ ¬ NoSh x := fun x hx => ⟨hsh x hx, id⟩
  rw [sendsW_eq]
  refine Walks.ctl rfl (child_start x0 x1 x2) hno ?_
  rw [wBody_eq]
  refine Walks.ctl rfl (fun w => stepG_seq) hno ?_
  refine Walks.ctl rfl (fun w => stepG_seq) hno ?_
  refine Walks.ctl rfl (fun w => stepG_region) hno ?_
  rw [w_sizes.1]
  have e0 : (wAct x0 x1 x2).eval (.tmp 0) = .pointer (some ⟨x0, 0, none⟩) := by simp [wAct, Act.eval]
  have e1 : (wAct x0 x1 x2).eval (.tmp 1) = .pointer (some ⟨x1, 0, none⟩) := by simp [wAct, Act.eval]
  have e2 : (wAct x0 x1 x2).eval (.tmp 2) = .pointer (some ⟨x2, 0, none⟩) := by simp [wAct, Act.eval]
  have esz : (wAct x0 x1 x2).tmps.size = 19 := by simp [wAct]
  have ed : (wAct x0 x1 x2).defers = [] := rfl
  generalize wAct x0 x1 x2 = a at e0 e1 e2 esz ed ⊢
  obtain ⟨o, q1, q2, q3, q4⟩ := w0_0
  refine Walks.opread (v := .agg #[.int .i64 n, .int .i64 B]) q1 (wanted_none q4) hb hno (fun w₁ hr => ?_) ?_
  · have hm := hmem.rely hr (.inr s0) (.inr s1) (.inr s2)
    obtain ⟨r1, r2⟩ := run_load (P := Try.prog) (e := a.eval) (v := .agg #[.int .i64 n, .int .i64 B]) (es := #[⟨.cell ⟨x0, 0, none⟩, false, false⟩, ⟨.cell ⟨x0, 1, none⟩, false, false⟩]) q2 (by rw [e0]; exact load_set x0 _ _ w₁ hm.b0 hm.b1) (by rw [e0]; exact load_set_ev x0 _ _ w₁ hm.b0 hm.b1)
    refine ⟨r1, fun e he => ?_⟩
    rw [r2] at he
    rcases (by simpa using he : e = ⟨.cell ⟨x0, 0, none⟩, false, false⟩ ∨ e = ⟨.cell ⟨x0, 1, none⟩, false, false⟩) with q | q
    · exact .inr (.inr (.inl ⟨x0, 0, none, s0, q⟩))
    · exact .inr (.inr (.inl ⟨x0, 1, none, s0, q⟩))
  rw [q3]
  have e4 : (a.put (some 4) (.agg #[.int .i64 n, .int .i64 B])).eval (.tmp 4) = .agg #[.int .i64 n, .int .i64 B] := put_self (by rw [esz]; omega)
  replace e0 := (put_ne (d := 4) (v := .agg #[.int .i64 n, .int .i64 B]) (by omega)).trans e0
  replace e1 := (put_ne (d := 4) (v := .agg #[.int .i64 n, .int .i64 B]) (by omega)).trans e1
  replace e2 := (put_ne (d := 4) (v := .agg #[.int .i64 n, .int .i64 B]) (by omega)).trans e2
  replace esz := (put_size (v := .agg #[.int .i64 n, .int .i64 B]) (some 4)).trans esz
  replace ed := (put_defers (v := .agg #[.int .i64 n, .int .i64 B]) (some 4)).trans ed
  generalize a.put (some 4) (.agg #[.int .i64 n, .int .i64 B]) = a1 at e0 e1 e2 e4 esz ed ⊢
  obtain ⟨o, q1, ⟨ats, q2⟩, q3, q4⟩ := w0_1
  have hrun := run_call (P := Try.prog) (e := a1.eval) q2 rfl Try.func66 (by kernel_rfl) (by simp [Try.f66])
  have hargs : (#[Operand.tmp 4]).map a1.eval = #[.agg #[.int .i64 n, .int .i64 B]] := by simp [e4]
  rw [hargs] at hrun
  refine Walks.enter q1 (wanted_none q4) hb hno (fun w => (hrun w).1) (fun w => (hrun w).2) ?_
  refine walks_plain hG0 hK0 hFc (fun m v hv => ?_) (plain_int _ _) hno hs1 HC fun W2 O2 g1 g2 g3 g4 => ?_
  · match m, hv with
    | 0, hv => simp at hv; subst hv; exact plain_two _ _ _ _
    | m + 1, hv => simp at hv
  rw [Frame.finish_at, q1]
  show Walks _ _ _ _ (G (wFr.at (a1.put o.dst (.int .i64 (len : Int))) _) _) _ _
  rw [q3]
  have hmem2 := hmem.rely g4 (.inl s0) (.inl s1) (.inl s2)
  have hsh2 : ∀ x, Sh x → x < W2.heap.size ∧ ¬ O2 x := fun x hx => ⟨Nat.lt_of_lt_of_le (hsh x hx) g4.size, fun h => (g3 x h).elim id fun q => by have := hsh x hx; omega⟩
  have e5 : (a1.put (some 5) (.int .i64 (len : Int))).eval (.tmp 5) = .int .i64 (len : Int) := put_self (by rw [esz]; omega)
  replace e0 := (put_ne (d := 5) (v := .int .i64 (len : Int)) (by omega)).trans e0
  replace e1 := (put_ne (d := 5) (v := .int .i64 (len : Int)) (by omega)).trans e1
  replace e2 := (put_ne (d := 5) (v := .int .i64 (len : Int)) (by omega)).trans e2
  replace esz := (put_size (v := .int .i64 (len : Int)) (some 5)).trans esz
  replace ed := (put_defers (v := .int .i64 (len : Int)) (some 5)).trans ed
  generalize a1.put (some 5) (.int .i64 (len : Int)) = a2 at e0 e1 e2 e5 esz ed ⊢
  obtain ⟨o, q1, q2, q3, q4⟩ := w0_2
  have hrun := run_move (P := Try.prog) (e := a2.eval) q2
  refine Walks.op0 q1 (wanted_none q4) hb g2 (fun w => (hrun w).1) (fun w => (hrun w).2) ?_
  rw [q3]
  have hregs : Regs x0 x1 x2 len ((0 : Nat) : Int) (a2.put (some 6) (a2.eval (.const (.int .i64 0)))) :=
    ⟨(put_size _).trans esz, (put_defers _).trans ed, (put_ne (by omega)).trans e0, (put_ne (by omega)).trans e1, (put_ne (by omega)).trans e2, (put_ne (by omega)).trans e5, (put_self (by rw [esz]; omega)).trans rfl⟩
  generalize a2.put (some 6) (a2.eval (.const (.int .i64 0))) = a3 at hregs ⊢
  refine Walks.ctl rfl (fun w => stepG_region_end) g2 ?_
  refine Walks.ctl rfl (fun w => stepG_block) g2 ?_
  refine Walks.ctl rfl (fun w => stepG_loop) g2 ?_
  have := w_rounds hG0 hK0 hFl hFf s0 s1 s2 hlen hR HL HF (b := wFr) (k := []) (cs := [wBase]) hb (fun a O w hr hi _ hm => w_close s1 rfl rfl hr hi hm) len 0 a3 O2 W2 (by omega) hregs g2 hsh2 hmem2
  rw [sendsW_eq] at this
  exact this
end Go.Proofs.Ytjgkignnfkbeaaa

/-
  Goroutine 0 in nearestTo: its operations.
-/
namespace Go.Proofs.Ytjgkignnfkbeaaa
open Go Go.Conc Go.Proofs.Ytjgkignnfkbeaaa.Sim
set_option linter.unusedVariables false

theorem run_allocC {e : Operand → Value} {o : Oper} (h : o.op = .alloc 49) (w : World) : (execOp e o).run Try.prog w = .ok (.value (.pointer (some ⟨w.heap.size, 0, none⟩))) { w with heap := w.heap.push (.cells #[.int .i64 0, .int .i64 0] 49 (0, 0)) } ∧ (execOp e o).events Try.prog w #[] = #[] := by
  unfold execOp
  rw [h]
  constructor
  · simp [go_sem]
  · simp [go_sem]
theorem load_choice (x : Nat) (u v : Int) (w : World) (h0 : w.cell? ⟨x, 0, none⟩ = some (.int .i64 u)) (h1 : w.cell? ⟨x, 1, none⟩ = some (.int .i64 v)) : (Instr.loadAt 49 (.pointer (some ⟨x, 0, none⟩))).run Try.prog w = .ok (.agg #[.int .i64 u, .int .i64 v]) w := by
  go_simp
theorem load_choice_ev (x : Nat) (u v : Int) (w : World) (h0 : w.cell? ⟨x, 0, none⟩ = some (.int .i64 u)) (h1 : w.cell? ⟨x, 1, none⟩ = some (.int .i64 v)) : (Instr.loadAt 49 (.pointer (some ⟨x, 0, none⟩))).events Try.prog w #[] = #[⟨.cell ⟨x, 0, none⟩, false, false⟩, ⟨.cell ⟨x, 1, none⟩, false, false⟩] := by
  simp [go_sem, h0, h1]
theorem run_storeC {e : Operand → Value} {o : Oper} {x y : Operand} {b : Nat} {u v p q : Int} (h : o.op = .store 49 x y) (hx : e x = .pointer (some ⟨b, 0, none⟩)) (hy : e y = .agg #[.int .i64 u, .int .i64 v]) {w : World} (hw : w.heap[b]? = some (.cells #[.int .i64 p, .int .i64 q] 49 (0, 0))) :
    (execOp e o).run Try.prog w = .ok .skip ((w.setCell ⟨b, 0, none⟩ (.int .i64 u)).setCell ⟨b, 1, none⟩ (.int .i64 v)) ∧ (execOp e o).events Try.prog w #[] = #[⟨.cell ⟨b, 0, none⟩, true, false⟩, ⟨.cell ⟨b, 1, none⟩, true, false⟩] := by
  have c0 : w.cell? ⟨b, 0, none⟩ = some (.int .i64 p) := by simp [World.cell?, hw]
  have c1 : w.cell? ⟨b, 1, none⟩ = some (.int .i64 q) := by simp [World.cell?, hw]
  have f0 : w.frozen? ⟨b, 0, none⟩ = false := by simp [World.frozen?, hw]
  have f1 : w.frozen? ⟨b, 1, none⟩ = false := by simp [World.frozen?, hw]
  unfold execOp
  rw [h]
  constructor
  · simp [go_sem, hx, hy, c0, c1, f0, f1]
  · simp [go_sem, hx, hy, c0, c1, f0, f1]
theorem after_storeC {b : Nat} {u v p q : Int} {w : World} (hw : w.heap[b]? = some (.cells #[.int .i64 p, .int .i64 q] 49 (0, 0))) : ((w.setCell ⟨b, 0, none⟩ (.int .i64 u)).setCell ⟨b, 1, none⟩ (.int .i64 v)).heap[b]? = some (.cells #[.int .i64 u, .int .i64 v] 49 (0, 0)) := by
  have h1 := heap_set hw 0 (.int .i64 u) b
  rw [if_pos rfl] at h1
  have h2 := heap_set h1 1 (.int .i64 v) b
  rw [if_pos rfl] at h2
  rw [h2]
  rfl
theorem run_extract {P : Program} {e : Operand → Value} {o : Oper} {x : Operand} {i : Nat} {a : Array Value} {v : Value} (h : o.op = .extract x i) (hx : e x = .tuple a) (hi : a[i]? = some v) (w : World) : (execOp e o).run P w = .ok (.value v) w ∧ (execOp e o).events P w #[] = #[] := by
  unfold execOp
  rw [h]
  constructor
  · simp [go_sem, hx, hi]
  · simp [go_sem, hx, hi]
theorem run_slice1 {e : Operand → Value} {o : Oper} {x : Operand} {u v : Int} (h : o.op = .buildSlice 57 1 #[(0, x)]) (hx : e x = .agg #[.int .i64 u, .int .i64 v]) : ∃ ty, ∀ w, (execOp e o).run Try.prog w = .ok (.value (.slice (some ⟨w.heap.size, 0, none⟩) 1 1)) { w with heap := w.heap.push (.cells #[.int .i64 u, .int .i64 v] ty (0, 0)) } ∧ (execOp e o).events Try.prog w #[] = #[] := by
  unfold execOp
  rw [h]
  refine ⟨?_, fun w => ⟨?_, ?_⟩⟩
  rotate_left
  · simp [go_sem, hx]; rfl
  · simp [go_sem, hx]
theorem run_recv {e : Operand → Value} {o : Oper} {x : Operand} {c : Nat} {ok : Bool} (h : o.op = .recv 64 x ok) (hx : e x = .chan (some c)) : ∃ z, ∀ w, (execOp e o).run Try.prog w = .ok (.comm #[rcase c z] true (.recv ok)) w ∧ (execOp e o).events Try.prog w #[] = #[] := by
  unfold execOp
  rw [h]
  refine ⟨?_, fun w => ⟨?_, ?_⟩⟩
  rotate_left
  · simp [go_sem, hx, rcase]; rfl
  · simp [go_sem, hx]

noncomputable def mBody : Code := (Try.f42.body).getD .skip
noncomputable def mTail : Code := rgt (rgt (rgt mBody))
noncomputable def mLoop : Code := lft (lft (rgt (lft mTail)))
noncomputable def m0 : Array Oper := regOps (lft mBody)
noncomputable def m1 : Array Oper := regOps (lft (rgt mBody))
noncomputable def m2 : Array Oper := regOps (lft (rgt (rgt mBody)))
noncomputable def m3 : Array Oper := regOps (lft (lft mTail))
noncomputable def m4 : Array Oper := regOps (lft mLoop)
noncomputable def m5 : Array Oper := regOps (lft (lft (rgt (rgt mLoop))))
noncomputable def m6 : Array Oper := regOps (rgt (lft (rgt (rgt mLoop))))
noncomputable def m7 : Array Oper := regOps (lft (rgt mTail))
theorem mBody_eq : mBody = .seq (.region 0 m0 false) (.seq (.region 1 m1 false) (.seq (.region 2 m2 false) mTail)) := by rfl
theorem mTail_eq : mTail = .seq (.seq (.region 3 m3 false) (.block 0 (.loop mLoop))) (.seq (.region 7 m7 false) .ret) := by rfl
theorem mLoop_eq : mLoop = .seq (.region 4 m4 false) (.seq (.cond (.tmp 15) .skip (.exit 0)) (.block 1 (.seq (.region 5 m5 false) (.region 6 m6 false)))) := by rfl
theorem m_sizes : m0.size = 3 ∧ m1.size = 4 ∧ m2.size = 4 ∧ m3.size = 1 ∧ m4.size = 2 ∧ m5.size = 3 ∧ m6.size = 5 ∧ m7.size = 2 := ⟨rfl, rfl, rfl, rfl, rfl, rfl, rfl, rfl⟩
theorem m4_0 : ∃ o, m4[0]? = some o ∧ o.op = .recv 64 (.tmp 13) true ∧ o.dst = some 14 ∧ o.guard = none := ⟨_, rfl, rfl, rfl, rfl⟩
theorem m4_1 : ∃ o, m4[1]? = some o ∧ o.op = .extract (.tmp 14) 1 ∧ o.dst = some 15 ∧ o.guard = none := ⟨_, rfl, rfl, rfl, rfl⟩
theorem m5_0 : ∃ o, m5[0]? = some o ∧ o.op = .extract (.tmp 14) 0 ∧ o.dst = some 16 ∧ o.guard = none := ⟨_, rfl, rfl, rfl, rfl⟩
theorem m5_1 : ∃ o, m5[1]? = some o ∧ o.op = .alloc 49 ∧ o.dst = some 7 ∧ o.guard = none := ⟨_, rfl, rfl, rfl, rfl⟩
theorem m5_2 : ∃ o, m5[2]? = some o ∧ o.op = .store 49 (.tmp 7) (.tmp 16) ∧ o.dst = none ∧ o.guard = none := ⟨_, rfl, rfl, rfl, rfl⟩
theorem m6_0 : ∃ o, m6[0]? = some o ∧ o.op = .load 49 (.tmp 6) ∧ o.dst = some 17 ∧ o.guard = none := ⟨_, rfl, rfl, rfl, rfl⟩
theorem m6_1 : ∃ o, m6[1]? = some o ∧ o.op = .load 49 (.tmp 7) ∧ o.dst = some 18 ∧ o.guard = none := ⟨_, rfl, rfl, rfl, rfl⟩
theorem m6_2 : ∃ o, m6[2]? = some o ∧ o.op = .buildSlice 57 1 #[(0, .tmp 18)] ∧ o.dst = some 19 ∧ o.guard = none := ⟨_, rfl, rfl, rfl, rfl⟩
theorem m6_3 : ∃ o, m6[3]? = some o ∧ (∃ ats, o.op = .call { callee := .value (.func 58), args := #[.tmp 17, .tmp 19], argTypes := ats }) ∧ o.dst = some 20 ∧ o.guard = none := ⟨_, rfl, ⟨_, rfl⟩, rfl, rfl⟩
theorem m6_4 : ∃ o, m6[4]? = some o ∧ o.op = .store 49 (.tmp 6) (.tmp 20) ∧ o.dst = none ∧ o.guard = none := ⟨_, rfl, rfl, rfl, rfl⟩
theorem m7_0 : ∃ o, m7[0]? = some o ∧ o.op = .load 49 (.tmp 6) ∧ o.dst = some 21 ∧ o.guard = none := ⟨_, rfl, rfl, rfl, rfl⟩
theorem m7_1 : ∃ o, m7[1]? = some o ∧ o.op = .store 49 (.tmp 4) (.tmp 21) ∧ o.dst = none ∧ o.guard = none := ⟨_, rfl, rfl, rfl, rfl⟩

/-- goroutine 0's slots in its rounds -/
structure MRegs (c x4 y6 : Nat) (a : Act) : Prop where
  size : a.tmps.size = 22
  defers : a.defers = []
  e4 : a.eval (.tmp 4) = .pointer (some ⟨x4, 0, none⟩)
  e6 : a.eval (.tmp 6) = .pointer (some ⟨y6, 0, none⟩)
  e13 : a.eval (.tmp 13) = .chan (some c)
theorem MRegs.put {c x4 y6 : Nat} {a : Act} (h : MRegs c x4 y6 a) {d : Nat} (hd : d = 7 ∨ 14 ≤ d) (v : Value) : MRegs c x4 y6 (a.put (some d) v) :=
  ⟨(put_size _).trans h.size, (put_defers _).trans h.defers, (put_ne (by omega)).trans h.e4, (put_ne (by omega)).trans h.e6, (put_ne (by omega)).trans h.e13⟩
theorem MRegs.none {c x4 y6 : Nat} {a : Act} (h : MRegs c x4 y6 a) (v : Value) : MRegs c x4 y6 (a.put .none v) := h
end Go.Proofs.Ytjgkignnfkbeaaa

/-
  Goroutine 0 in nearestTo: its rounds.
-/
namespace Go.Proofs.Ytjgkignnfkbeaaa
open Go Go.Conc Go.Proofs.Ytjgkignnfkbeaaa.Sim
set_option linter.unusedVariables false

section
variable {P : Program} {main : Bool} {Sh : Nat → Prop} {Stop : Goroutine → (Nat → Prop) → World → Prop} {b : Frame} {k : List Item} {cs : List Frame} {ops : Array Oper} {O : Nat → Prop} {w : World} {a : Act} {i : Nat} {rest : List Nat} {o : Oper}
theorem Walks.opval (ho : ops[i]? = some o) (hw : Region.wanted o (yielded ops a.tmps) = true) (hk : b.kind ≠ .early)
    (h : ∀ w₁, Rely (fun x => O x ∨ Sh x) w w₁ → ∃ v w' O', (execOp a.eval o).run P w₁ = .ok (.value v) w' ∧ Guar Sh O w₁ O' w' ((execOp a.eval o).events P w₁ #[]) ∧ Walks P main Sh Stop (G (b.at (a.put o.dst v) (.inRegion ops rest :: k)) cs) O' w') : Walks P main Sh Stop (G (b.at a (.inRegion ops (i :: rest) :: k)) cs) O w :=
  .go rfl fun w₁ hr => by
    obtain ⟨v, w', O', h1, h2, h3⟩ := h w₁ hr
    exact ⟨_, O', w', _, stepG_value ho hw hk h1, { h2 with ev := fun e he => h2.ev e (mem_listed he) }, h3⟩
theorem Walks.opskip (ho : ops[i]? = some o) (hw : Region.wanted o (yielded ops a.tmps) = true) (hk : b.kind ≠ .early)
    (h : ∀ w₁, Rely (fun x => O x ∨ Sh x) w w₁ → ∃ w' O', (execOp a.eval o).run P w₁ = .ok .skip w' ∧ Guar Sh O w₁ O' w' ((execOp a.eval o).events P w₁ #[]) ∧ Walks P main Sh Stop (G (b.at (a.put o.dst undef) (.inRegion ops rest :: k)) cs) O' w') : Walks P main Sh Stop (G (b.at a (.inRegion ops (i :: rest) :: k)) cs) O w :=
  .go rfl fun w₁ hr => by
    obtain ⟨w', O', h1, h2, h3⟩ := h w₁ hr
    exact ⟨_, O', w', _, stepG_none ho hw hk h1, { h2 with ev := fun e he => h2.ev e (mem_listed he) }, h3⟩
end
theorem cells_of {w : World} {y : Nat} {u v : Int} {ty : TypeId} (h : w.heap[y]? = some (.cells #[.int .i64 u, .int .i64 v] ty (0, 0))) : w.cell? ⟨y, 0, none⟩ = some (.int .i64 u) ∧ w.cell? ⟨y, 1, none⟩ = some (.int .i64 v) := by
  simp [World.cell?, h]
theorem Guar.store2 {Sh O : Nat → Prop} {w : World} {y : Nat} {p q : Value} {es : Array Event} (hi : ∀ x, O x → x < w.heap.size) (hy : O y) (he : ∀ e ∈ es, EvOk Sh O e) : Guar Sh O w O ((w.setCell ⟨y, 0, none⟩ p).setCell ⟨y, 1, none⟩ q) es := by
  have hs : ∀ (w : World) (o : Nat) (v : Value), (w.setCell ⟨y, o, none⟩ v).heap.size = w.heap.size := fun w o v => by simp [World.setCell]
  refine ⟨fun _ h => h, fun b hb => .inl hb, fun b hb => by rw [hs, hs]; exact hi b hb, by rw [hs, hs]; exact Nat.le_refl _, fun b hb hn => ?_, rfl, rfl, rfl, he⟩
  have hne : y ≠ b := fun e => hn (e ▸ hy)
  simp [World.setCell, Array.getElem?_modify, hne]
theorem keep_store2 {w : World} {y z : Nat} {p q : Value} (h : z ≠ y) : ((w.setCell ⟨y, 0, none⟩ p).setCell ⟨y, 1, none⟩ q).heap[z]? = w.heap[z]? := by
  have hne : y ≠ z := fun e => h e.symm
  simp [World.setCell, Array.getElem?_modify, hne]
theorem store_evs {Sh O : Nat → Prop} {y : Nat} (hy : O y) : ∀ e ∈ (#[⟨.cell ⟨y, 0, none⟩, true, false⟩, ⟨.cell ⟨y, 1, none⟩, true, false⟩] : Array Event), EvOk Sh O e := fun e he => by
  rcases (by simpa using he : e = ⟨.cell ⟨y, 0, none⟩, true, false⟩ ∨ e = ⟨.cell ⟨y, 1, none⟩, true, false⟩) with q | q
  · exact .inl ⟨y, 0, none, true, hy, q⟩
  · exact .inl ⟨y, 1, none, true, hy, q⟩
theorem load_evs {Sh O : Nat → Prop} {y : Nat} (hy : O y) : ∀ e ∈ (#[⟨.cell ⟨y, 0, none⟩, false, false⟩, ⟨.cell ⟨y, 1, none⟩, false, false⟩] : Array Event), EvOk Sh O e := fun e he => by
  rcases (by simpa using he : e = ⟨.cell ⟨y, 0, none⟩, false, false⟩ ∨ e = ⟨.cell ⟨y, 1, none⟩, false, false⟩) with q | q
  · exact .inl ⟨y, 0, none, false, hy, q⟩
  · exact .inl ⟨y, 1, none, false, hy, q⟩
theorem push_get {w : World} {o : Obj} : ({ w with heap := w.heap.push o } : World).heap[w.heap.size]? = some o := by simp
theorem push_old {w : World} {o : Obj} {z : Nat} (h : z < w.heap.size) : ({ w with heap := w.heap.push o } : World).heap[z]? = w.heap[z]? := by simp [Array.getElem?_push, Nat.ne_of_lt h]

/-- one block of a lone memory, and its image -/
def oneRen (y : Nat) : Ren := fun a => if a = 0 then some y else none
def oneMem (W : World) (o : Obj) : World := { W with heap := #[o] }
theorem wrel_one {W : World} {y : Nat} {u v : Int} {ty : TypeId} (h : W.heap[y]? = some (.cells #[.int .i64 u, .int .i64 v] ty (0, 0))) : WRel (oneRen y) (on (oneMem W (.cells #[.int .i64 u, .int .i64 v] ty (0, 0))) W.tape W.drawn) W := by
  refine ⟨fun a b x h1 h2 => ?_, fun a x h1 _ => ?_, fun a x _ hs => absurd hs (Sim.spc0 _), fun h => (by cases h), fun a o h1 => ?_, rfl, rfl⟩
  · unfold oneRen at h1 h2
    split at h1
    · split at h2
      · omega
      · cases h2
    · cases h1
  · unfold oneRen at h1
    split at h1
    · rename_i e
      subst e
      cases h1
      exact .inl ⟨_, _, ty, (0, 0), by simp [oneMem, on], h, (ARel.two (.int _ _) (.int _ _)), fun off => by simp⟩
    · cases h1
  · match a, h1 with
    | 0, h1 => simp [oneMem, on] at h1; exact .inl ⟨_, _, _, h1.symm⟩
    | a + 1, h1 => simp [oneMem, on] at h1

def nearC (a b : Int × Int) : Int × Int := if b.2 < a.2 then b else a

theorem m_round {F : FuncId → Bool} {K0 : FuncId} (hG0 : Sim.Good Try.prog Try.prog F K0) (hK0 : F K0 = false) (hFn : F 58 = true)
    (HN : ∀ (u v j f : Int) (w : World), w.cell? ⟨0, 0, none⟩ = some (.int .i64 j) → w.cell? ⟨0, 1, none⟩ = some (.int .i64 f) → Calls Try.prog 58 #[.agg #[.int .i64 u, .int .i64 v], .slice (some ⟨0, 0, none⟩) 1 1] w fun e w' => e = .returned (.agg #[.int .i64 (nearC (u, v) (j, f)).1, .int .i64 (nearC (u, v) (j, f)).2]))
    {c x4 y6 : Nat} {Sh : Nat → Prop} {Stop : Goroutine → (Nat → Prop) → World → Prop} {b : Frame} {K : List Item} {cs : List Frame} (hb : b.kind ≠ .early) {u v j f : Int} {a : Act} {O : Nat → Prop} {w : World} (hregs : MRegs c x4 y6 a) (h14 : a.eval (.tmp 14) = .tuple #[.agg #[.int .i64 j, .int .i64 f], .bool true])
    (hy : O y6) (hmem : w.heap[y6]? = some (.cells #[.int .i64 u, .int .i64 v] 49 (0, 0))) (hino : ∀ x, O x → x < w.heap.size) (hsh : ∀ x, Sh x → x < w.heap.size ∧ ¬ O x)
    (hk : ∀ a' O' w', MRegs c x4 y6 a' → O' y6 → w'.heap[y6]? = some (.cells #[.int .i64 (nearC (u, v) (j, f)).1, .int .i64 (nearC (u, v) (j, f)).2] 49 (0, 0)) → (∀ x, O' x → x < w'.heap.size) → (∀ x, Sh x → x < w'.heap.size ∧ ¬ O' x) → Rely Sh w w' →
      Walks Try.prog true Sh Stop (G (b.at a' (.code mLoop :: .inLoop mLoop :: K)) cs) O' w') :
    Walks Try.prog true Sh Stop (G (b.at a (.inRegion m4 [1] :: .code (.seq (.cond (.tmp 15) .skip (.exit 0)) (.block 1 (.seq (.region 5 m5 false) (.region 6 m6 false)))) :: .inLoop mLoop :: K)) cs) O w := by
  obtain ⟨o, q1, q2, q3, q4⟩ := m4_1
  have hrun := run_extract (P := Try.prog) (e := a.eval) q2 h14 (v := .bool true) (by simp)
  refine Walks.op0 q1 (wanted_none q4) hb hino (fun w => (hrun w).1) (fun w => (hrun w).2) ?_
  rw [q3]
  have r1 := hregs.put (d := 15) (by omega) (.bool true)
  have h15 : (a.put (some 15) (.bool true)).eval (.tmp 15) = .bool true := put_self (by rw [hregs.size]; omega)
  replace h14 := (put_ne (d := 15) (v := .bool true) (by omega)).trans h14
  generalize a.put (some 15) (.bool true) = a1 at r1 h14 h15 ⊢
  refine Walks.ctl rfl (fun w => stepG_region_end) hino ?_
  refine Walks.ctl rfl (fun w => stepG_seq) hino ?_
  refine Walks.ctl rfl (fun w => stepG_cond h15) hino ?_
  refine Walks.ctl rfl (fun w => stepG_skip) hino ?_
  refine Walks.ctl rfl (fun w => stepG_block) hino ?_
  refine Walks.ctl rfl (fun w => stepG_seq) hino ?_
  refine Walks.ctl rfl (fun w => stepG_region) hino ?_
  rw [m_sizes.2.2.2.2.2.1]
  obtain ⟨o, q1, q2, q3, q4⟩ := m5_0
  have hrun := run_extract (P := Try.prog) (e := a1.eval) q2 h14 (v := .agg #[.int .i64 j, .int .i64 f]) (by simp)
  refine Walks.op0 q1 (wanted_none q4) hb hino (fun w => (hrun w).1) (fun w => (hrun w).2) ?_
  rw [q3]
  have r2 := r1.put (d := 16) (by omega) (.agg #[.int .i64 j, .int .i64 f])
  have h16 : (a1.put (some 16) (.agg #[.int .i64 j, .int .i64 f])).eval (.tmp 16) = .agg #[.int .i64 j, .int .i64 f] := put_self (by rw [r1.size]; omega)
  generalize a1.put (some 16) (.agg #[.int .i64 j, .int .i64 f]) = a2 at r2 h16 ⊢
  obtain ⟨o, q1, q2, q3, q4⟩ := m5_1
  refine Walks.opval q1 (wanted_none q4) hb fun w₁ hr => ?_
  have hi1 : ∀ x, O x → x < w₁.heap.size := fun x hx => Nat.lt_of_lt_of_le (hino x hx) hr.size
  have hs1 : ∀ x, Sh x → x < w₁.heap.size ∧ ¬ O x := fun x hx => ⟨Nat.lt_of_lt_of_le (hsh x hx).1 hr.size, (hsh x hx).2⟩
  have hm1 := (hr.keep y6 (.inl hy)).trans hmem
  have hR1 : Rely Sh w w₁ := hr.sub fun x hx => .inr hx
  clear hr
  have hrun := run_allocC (e := a2.eval) q2 w₁
  have hgu : Guar Sh O w₁ (fun x => O x ∨ x = w₁.heap.size) { w₁ with heap := w₁.heap.push (.cells #[.int .i64 0, .int .i64 0] 49 (0, 0)) } ((execOp a2.eval o).events Try.prog w₁ #[]) := Guar.push hi1 (fun e he => by rw [hrun.2] at he; simp at he)
  refine ⟨_, _, _, hrun.1, hgu, ?_⟩
  rw [q3]
  have r3 := r2.put (d := 7) (by omega) (.pointer (some ⟨w₁.heap.size, 0, none⟩))
  have h7 : (a2.put (some 7) (.pointer (some ⟨w₁.heap.size, 0, none⟩))).eval (.tmp 7) = .pointer (some ⟨w₁.heap.size, 0, none⟩) := put_self (by rw [r2.size]; omega)
  replace h16 := (put_ne (d := 7) (v := .pointer (some ⟨w₁.heap.size, 0, none⟩)) (by omega)).trans h16
  generalize a2.put (some 7) (.pointer (some ⟨w₁.heap.size, 0, none⟩)) = a3 at r3 h7 h16 ⊢
  have hm2 := (push_old (o := .cells #[.int .i64 0, .int .i64 0] 49 (0, 0)) (hi1 y6 hy)).trans hm1
  have hz2 := push_get (w := w₁) (o := .cells #[.int .i64 0, .int .i64 0] 49 (0, 0))
  have hne : y6 ≠ w₁.heap.size := fun e => by have := hi1 y6 hy; omega
  have hi2 := hgu.inside
  have hR2 : Rely Sh w { w₁ with heap := w₁.heap.push (.cells #[.int .i64 0, .int .i64 0] 49 (0, 0)) } := hR1.trans (rely_guar hgu hs1)
  have hs2 : ∀ x, Sh x → x < ({ w₁ with heap := w₁.heap.push (.cells #[.int .i64 0, .int .i64 0] 49 (0, 0)) } : World).heap.size ∧ ¬ (O x ∨ x = w₁.heap.size) := fun x hx => ⟨Nat.lt_of_lt_of_le (hs1 x hx).1 hgu.size, fun h => h.elim (hs1 x hx).2 fun e => by have := (hs1 x hx).1; omega⟩
  generalize ({ w₁ with heap := w₁.heap.push (.cells #[.int .i64 0, .int .i64 0] 49 (0, 0)) } : World) = W1 at hm2 hz2 hi2 hR2 hs2 ⊢
  clear hgu hrun hm1 hs1 hi1 hR1
  generalize w₁.heap.size = y7 at *
  have hO1 : ∃ O1 : Nat → Prop, O1 = fun x => O x ∨ x = y7 := ⟨_, rfl⟩
  obtain ⟨O1, eO1⟩ := hO1
  rw [← eO1]
  have hy1 : O1 y6 := by rw [eO1]; exact .inl hy
  have hy7 : O1 y7 := by rw [eO1]; exact .inr rfl
  replace hi2 : ∀ x, O1 x → x < W1.heap.size := by rw [eO1]; exact hi2
  replace hs2 : ∀ x, Sh x → x < W1.heap.size ∧ ¬ O1 x := by rw [eO1]; exact hs2
  clear eO1
  -- the store into next
  obtain ⟨o, q1, q2, q3, q4⟩ := m5_2
  refine Walks.opskip q1 (wanted_none q4) hb fun w₁ hr => ?_
  have hi1 : ∀ x, O1 x → x < w₁.heap.size := fun x hx => Nat.lt_of_lt_of_le (hi2 x hx) hr.size
  have hs1 : ∀ x, Sh x → x < w₁.heap.size ∧ ¬ O1 x := fun x hx => ⟨Nat.lt_of_lt_of_le (hs2 x hx).1 hr.size, (hs2 x hx).2⟩
  have hm1 := (hr.keep y6 (.inl hy1)).trans hm2
  have hz1 := (hr.keep y7 (.inl hy7)).trans hz2
  have hR1 : Rely Sh w w₁ := hR2.trans (hr.sub fun x hx => .inr hx)
  clear hr hm2 hz2 hi2 hs2 hR2
  have hrun := run_storeC (e := a3.eval) q2 h7 h16 hz1
  have hgu : Guar Sh O1 w₁ O1 ((w₁.setCell ⟨y7, 0, none⟩ (.int .i64 j)).setCell ⟨y7, 1, none⟩ (.int .i64 f)) ((execOp a3.eval o).events Try.prog w₁ #[]) := Guar.store2 hi1 hy7 (by rw [hrun.2]; exact store_evs hy7)
  refine ⟨_, _, hrun.1, hgu, ?_⟩
  rw [q3]
  show Walks _ _ _ _ (G (b.at a3 (.inRegion m5 [] :: _)) cs) O1 _
  have hm2 := (keep_store2 (p := .int .i64 j) (q := .int .i64 f) hne).trans hm1
  have hz2 := after_storeC (u := j) (v := f) hz1
  have hi2 := hgu.inside
  have hR2 := hR1.trans (rely_guar hgu hs1)
  have hs2 : ∀ x, Sh x → x < ((w₁.setCell ⟨y7, 0, none⟩ (.int .i64 j)).setCell ⟨y7, 1, none⟩ (.int .i64 f)).heap.size ∧ ¬ O1 x := fun x hx => ⟨Nat.lt_of_lt_of_le (hs1 x hx).1 hgu.size, (hs1 x hx).2⟩
  generalize (w₁.setCell ⟨y7, 0, none⟩ (.int .i64 j)).setCell ⟨y7, 1, none⟩ (.int .i64 f) = W2 at hm2 hz2 hi2 hR2 hs2 ⊢
  clear hgu hrun hm1 hs1 hi1 hR1 hz1
  refine Walks.ctl rfl (fun w => stepG_region_end) hi2 ?_
  refine Walks.ctl rfl (fun w => stepG_region) hi2 ?_
  rw [m_sizes.2.2.2.2.2.2.1]
  -- the two loads
  obtain ⟨o, q1, q2, q3, q4⟩ := m6_0
  refine Walks.opread (v := .agg #[.int .i64 u, .int .i64 v]) q1 (wanted_none q4) hb hi2 (fun w₂ hr => ?_) ?_
  · obtain ⟨c0, c1⟩ := cells_of ((hr.keep y6 (.inl hy1)).trans hm2)
    obtain ⟨t1, t2⟩ := run_load (P := Try.prog) (e := a3.eval) (v := .agg #[.int .i64 u, .int .i64 v]) (es := #[⟨.cell ⟨y6, 0, none⟩, false, false⟩, ⟨.cell ⟨y6, 1, none⟩, false, false⟩]) q2 (by rw [r3.e6]; exact load_choice y6 _ _ w₂ c0 c1) (by rw [r3.e6]; exact load_choice_ev y6 _ _ w₂ c0 c1)
    exact ⟨t1, by rw [t2]; exact load_evs hy1⟩
  rw [q3]
  have r4 := r3.put (d := 17) (by omega) (.agg #[.int .i64 u, .int .i64 v])
  have h17 : (a3.put (some 17) (.agg #[.int .i64 u, .int .i64 v])).eval (.tmp 17) = .agg #[.int .i64 u, .int .i64 v] := put_self (by rw [r3.size]; omega)
  replace h7 := (put_ne (d := 17) (v := .agg #[.int .i64 u, .int .i64 v]) (by omega)).trans h7
  generalize a3.put (some 17) (.agg #[.int .i64 u, .int .i64 v]) = a4 at r4 h17 h7 ⊢
  obtain ⟨o, q1, q2, q3, q4⟩ := m6_1
  refine Walks.opread (v := .agg #[.int .i64 j, .int .i64 f]) q1 (wanted_none q4) hb hi2 (fun w₂ hr => ?_) ?_
  · obtain ⟨c0, c1⟩ := cells_of ((hr.keep y7 (.inl hy7)).trans hz2)
    obtain ⟨t1, t2⟩ := run_load (P := Try.prog) (e := a4.eval) (v := .agg #[.int .i64 j, .int .i64 f]) (es := #[⟨.cell ⟨y7, 0, none⟩, false, false⟩, ⟨.cell ⟨y7, 1, none⟩, false, false⟩]) q2 (by rw [h7]; exact load_choice y7 _ _ w₂ c0 c1) (by rw [h7]; exact load_choice_ev y7 _ _ w₂ c0 c1)
    exact ⟨t1, by rw [t2]; exact load_evs hy7⟩
  rw [q3]
  have r5 := r4.put (d := 18) (by omega) (.agg #[.int .i64 j, .int .i64 f])
  have h18 : (a4.put (some 18) (.agg #[.int .i64 j, .int .i64 f])).eval (.tmp 18) = .agg #[.int .i64 j, .int .i64 f] := put_self (by rw [r4.size]; omega)
  replace h17 := (put_ne (d := 18) (v := .agg #[.int .i64 j, .int .i64 f]) (by omega)).trans h17
  generalize a4.put (some 18) (.agg #[.int .i64 j, .int .i64 f]) = a5 at r5 h17 h18 ⊢
  -- the slice of one
  obtain ⟨o, q1, q2, q3, q4⟩ := m6_2
  obtain ⟨ty, hrun⟩ := run_slice1 (e := a5.eval) q2 h18
  refine Walks.opval q1 (wanted_none q4) hb fun w₁ hr => ?_
  have hi1 : ∀ x, O1 x → x < w₁.heap.size := fun x hx => Nat.lt_of_lt_of_le (hi2 x hx) hr.size
  have hs1 : ∀ x, Sh x → x < w₁.heap.size ∧ ¬ O1 x := fun x hx => ⟨Nat.lt_of_lt_of_le (hs2 x hx).1 hr.size, (hs2 x hx).2⟩
  have hm1 := (hr.keep y6 (.inl hy1)).trans hm2
  have hR1 : Rely Sh w w₁ := hR2.trans (hr.sub fun x hx => .inr hx)
  clear hr hm2 hz2 hi2 hs2 hR2
  have hgu : Guar Sh O1 w₁ (fun x => O1 x ∨ x = w₁.heap.size) { w₁ with heap := w₁.heap.push (.cells #[.int .i64 j, .int .i64 f] ty (0, 0)) } ((execOp a5.eval o).events Try.prog w₁ #[]) := Guar.push hi1 (fun e he => by rw [(hrun w₁).2] at he; simp at he)
  refine ⟨_, _, _, (hrun w₁).1, hgu, ?_⟩
  rw [q3]
  have r6 := r5.put (d := 19) (by omega) (.slice (some ⟨w₁.heap.size, 0, none⟩) 1 1)
  have h19 : (a5.put (some 19) (.slice (some ⟨w₁.heap.size, 0, none⟩) 1 1)).eval (.tmp 19) = .slice (some ⟨w₁.heap.size, 0, none⟩) 1 1 := put_self (by rw [r5.size]; omega)
  replace h17 := (put_ne (d := 19) (v := .slice (some ⟨w₁.heap.size, 0, none⟩) 1 1) (by omega)).trans h17
  generalize a5.put (some 19) (.slice (some ⟨w₁.heap.size, 0, none⟩) 1 1) = a6 at r6 h17 h19 ⊢
  have hm2 := (push_old (o := .cells #[.int .i64 j, .int .i64 f] ty (0, 0)) (hi1 y6 hy1)).trans hm1
  have hz2 := push_get (w := w₁) (o := .cells #[.int .i64 j, .int .i64 f] ty (0, 0))
  have hne9 : y6 ≠ w₁.heap.size := fun e => by have := hi1 y6 hy1; omega
  have hi2 := hgu.inside
  have hR2 : Rely Sh w { w₁ with heap := w₁.heap.push (.cells #[.int .i64 j, .int .i64 f] ty (0, 0)) } := hR1.trans (rely_guar hgu hs1)
  have hs2 : ∀ x, Sh x → x < ({ w₁ with heap := w₁.heap.push (.cells #[.int .i64 j, .int .i64 f] ty (0, 0)) } : World).heap.size ∧ ¬ (O1 x ∨ x = w₁.heap.size) := fun x hx => ⟨Nat.lt_of_lt_of_le (hs1 x hx).1 hgu.size, fun h => h.elim (hs1 x hx).2 fun e => by have := (hs1 x hx).1; omega⟩
  generalize ({ w₁ with heap := w₁.heap.push (.cells #[.int .i64 j, .int .i64 f] ty (0, 0)) } : World) = W3 at hm2 hz2 hi2 hR2 hs2 ⊢
  clear hgu hrun hm1 hs1 hi1 hR1
  generalize w₁.heap.size = y9 at *
  obtain ⟨O2, eO2⟩ : ∃ O2 : Nat → Prop, O2 = fun x => O1 x ∨ x = y9 := ⟨_, rfl⟩
  rw [← eO2]
  have hy2 : O2 y6 := by rw [eO2]; exact .inl hy1
  have hy9 : O2 y9 := by rw [eO2]; exact .inr rfl
  replace hi2 : ∀ x, O2 x → x < W3.heap.size := by rw [eO2]; exact hi2
  replace hs2 : ∀ x, Sh x → x < W3.heap.size ∧ ¬ O2 x := by rw [eO2]; exact hs2
  clear eO2
  -- the call of nearest
  obtain ⟨o, q1, ⟨ats, q2⟩, q3, q4⟩ := m6_3
  have hrun := run_call (P := Try.prog) (e := a6.eval) q2 rfl Try.func58 (by kernel_rfl) (by simp [Try.f58])
  have hargs : (#[Operand.tmp 17, .tmp 19]).map a6.eval = #[.agg #[.int .i64 u, .int .i64 v], .slice (some ⟨y9, 0, none⟩) 1 1] := by simp [h17, h19]
  rw [hargs] at hrun
  refine Walks.enter q1 (wanted_none q4) hb hi2 (fun w => (hrun w).1) (fun w => (hrun w).2) ?_
  have ha : ∀ y, ARel (oneRen y) #[.agg #[.int .i64 u, .int .i64 v], .slice (some ⟨0, 0, none⟩) 1 1] #[.agg #[.int .i64 u, .int .i64 v], .slice (some ⟨y, 0, none⟩) 1 1] := fun y => ARel.two (plain_two _ _ _ _ _).1 (.slice 0 none 1 1 ⟨rfl, fun h => absurd h (Sim.spc0 _)⟩)
  have hw0 : WRel (oneRen 0) (oneMem W3 (.cells #[.int .i64 j, .int .i64 f] ty (0, 0))) (oneMem W3 (.cells #[.int .i64 j, .int .i64 f] ty (0, 0))) := wrel_one (W := oneMem W3 (.cells #[.int .i64 j, .int .i64 f] ty (0, 0))) (y := 0) (by simp [oneMem])
  refine walks_call hG0 hK0 hFn (R := fun x _ => x = .agg #[.int .i64 (nearC (u, v) (j, f)).1, .int .i64 (nearC (u, v) (j, f)).2]) (fun _ _ _ _ h => h) (ha y9) (ha 0) hw0 (wrel_one hz2) (fun a x h => ?_) hi2 hs2 (fun τ d => (HN u v j f _ (by simp [World.cell?, oneMem, on]) (by simp [World.cell?, oneMem, on])).mono fun e w' h => ⟨_, h, rfl⟩) fun x v' σ w2 W4 O3 hx _ hvr _ _ g1 _ g2 g3 g4 => ?_
  · unfold oneRen at h
    split at h
    · cases h; exact hy9
    · cases h
  subst hx
  rw [(plain_two _ _ _ _ σ).2 v' hvr]
  rw [Frame.finish_at, q1]
  show Walks _ _ _ _ (G (b.at (a6.put o.dst _) _) _) _ _
  rw [q3]
  have r7 := r6.put (d := 20) (by omega) (.agg #[.int .i64 (nearC (u, v) (j, f)).1, .int .i64 (nearC (u, v) (j, f)).2])
  have h20 : (a6.put (some 20) (.agg #[.int .i64 (nearC (u, v) (j, f)).1, .int .i64 (nearC (u, v) (j, f)).2])).eval (.tmp 20) = .agg #[.int .i64 (nearC (u, v) (j, f)).1, .int .i64 (nearC (u, v) (j, f)).2] := put_self (by rw [r6.size]; omega)
  generalize a6.put (some 20) (.agg #[.int .i64 (nearC (u, v) (j, f)).1, .int .i64 (nearC (u, v) (j, f)).2]) = a7 at r7 h20 ⊢
  have nr : ∀ a x, (x ≠ y9) → oneRen y9 a ≠ some x := fun a x hx h => by
    unfold oneRen at h
    split at h
    · cases h; exact hx rfl
    · cases h
  have hm3 := (g4.keep y6 ⟨.inr hy2, fun a => nr a y6 hne9⟩).trans hm2
  have hR3 : Rely Sh w W4 := hR2.trans (g4.sub fun x hx => ⟨.inl hx, fun a => nr a x fun e => (hs2 x hx).2 (e ▸ hy9)⟩)
  have hs3 : ∀ x, Sh x → x < W4.heap.size ∧ ¬ O3 x := fun x hx => ⟨Nat.lt_of_lt_of_le (hs2 x hx).1 g4.size, fun h => (g3 x h).elim (hs2 x hx).2 fun q => by have := (hs2 x hx).1; omega⟩
  have hy3 := g1 y6 hy2
  -- the store into least
  obtain ⟨o, q1, q2, q3, q4⟩ := m6_4
  refine Walks.opskip q1 (wanted_none q4) hb fun w₁ hr => ?_
  have hi1 : ∀ x, O3 x → x < w₁.heap.size := fun x hx => Nat.lt_of_lt_of_le (g2 x hx) hr.size
  have hs1 : ∀ x, Sh x → x < w₁.heap.size ∧ ¬ O3 x := fun x hx => ⟨Nat.lt_of_lt_of_le (hs3 x hx).1 hr.size, (hs3 x hx).2⟩
  have hm1 := (hr.keep y6 (.inl hy3)).trans hm3
  have hR1 : Rely Sh w w₁ := hR3.trans (hr.sub fun x hx => .inr hx)
  have hrun := run_storeC (e := a7.eval) q2 r7.e6 h20 hm1
  have hgu : Guar Sh O3 w₁ O3 _ ((execOp a7.eval o).events Try.prog w₁ #[]) := Guar.store2 (p := .int .i64 (nearC (u, v) (j, f)).1) (q := .int .i64 (nearC (u, v) (j, f)).2) hi1 hy3 (by rw [hrun.2]; exact store_evs hy3)
  refine ⟨_, _, hrun.1, hgu, ?_⟩
  rw [q3]
  show Walks _ _ _ _ (G (b.at a7 (.inRegion m6 [] :: _)) cs) O3 _
  refine Walks.ctl rfl (fun w => stepG_region_end) hgu.inside ?_
  refine Walks.ctl rfl (fun w => stepG_inBlock) hgu.inside ?_
  refine Walks.ctl rfl (fun w => stepG_inLoop) hgu.inside ?_
  exact hk a7 O3 _ r7 hy3 (after_storeC hm1) hgu.inside (fun x hx => ⟨Nat.lt_of_lt_of_le (hs1 x hx).1 hgu.size, (hs1 x hx).2⟩) (hR1.trans (rely_guar hgu hs1))
end Go.Proofs.Ytjgkignnfkbeaaa

/-
  Goroutine 0 in nearestTo: all its rounds.
-/
namespace Go.Proofs.Ytjgkignnfkbeaaa
open Go Go.Conc Go.Proofs.Ytjgkignnfkbeaaa.Sim
set_option linter.unusedVariables false

def foldC (far : Nat → Int) : Int × Int → Nat → Nat → Int × Int
  | a, _, 0 => a
  | a, i, m + 1 => foldC far (nearC a ((i : Int), far i)) (i + 1) m
/-- what stands behind the receive, in a round -/
noncomputable def mRest (K : List Item) : List Item := .inRegion m4 [1] :: .code (.seq (.cond (.tmp 15) .skip (.exit 0)) (.block 1 (.seq (.region 5 m5 false) (.region 6 m6 false)))) :: .inLoop mLoop :: K

theorem m_rounds {F : FuncId → Bool} {K0 : FuncId} (hG0 : Sim.Good Try.prog Try.prog F K0) (hK0 : F K0 = false) (hFn : F 58 = true)
    (HN : ∀ (u v j f : Int) (w : World), w.cell? ⟨0, 0, none⟩ = some (.int .i64 j) → w.cell? ⟨0, 1, none⟩ = some (.int .i64 f) → Calls Try.prog 58 #[.agg #[.int .i64 u, .int .i64 v], .slice (some ⟨0, 0, none⟩) 1 1] w fun e w' => e = .returned (.agg #[.int .i64 (nearC (u, v) (j, f)).1, .int .i64 (nearC (u, v) (j, f)).2]))
    {c x4 y6 : Nat} {Sh : Nat → Prop} {Fin : Goroutine → (Nat → Prop) → World → Prop} {far : Nat → Int} {b : Frame} {K : List Item} {cs : List Frame} (hb : b.kind ≠ .early) {w0 : World} {p : Int × Int}
    (hFin : ∀ a' O' w' z, MRegs c x4 y6 a' → a'.eval (.tmp 14) = .tuple #[z, .bool false] → O' y6 → w'.heap[y6]? = some (.cells #[.int .i64 p.1, .int .i64 p.2] 49 (0, 0)) → (∀ x, O' x → x < w'.heap.size) → (∀ x, Sh x → x < w'.heap.size ∧ ¬ O' x) → Rely Sh w0 w' → Fin (G (b.at a' (mRest K)) cs) O' w') :
    ∀ (m i : Nat) (l : Int × Int) (a : Act) (O : Nat → Prop) (w : World), foldC far l i m = p → MRegs c x4 y6 a → O y6 → w.heap[y6]? = some (.cells #[.int .i64 l.1, .int .i64 l.2] 49 (0, 0)) → (∀ x, O x → x < w.heap.size) → (∀ x, Sh x → x < w.heap.size ∧ ¬ O x) → Rely Sh w0 w →
      RecvsW Try.prog c Sh Fin (pvs far i m) (G (b.at a (.code mLoop :: .inLoop mLoop :: K)) cs) O w := by
  intro m
  induction m with
  | zero =>
    intro i l a O w hl hregs hy hmem hino hsh hw0
    have hp : l = p := hl
    subst hp
    rw [recvsW_eq, mLoop_eq]
    refine Walks.ctl rfl (fun w => stepG_seq) hino ?_
    refine Walks.ctl rfl (fun w => stepG_region) hino ?_
    rw [m_sizes.2.2.2.2.1]
    obtain ⟨o, q1, q2, q3, q4⟩ := m4_0
    obtain ⟨z, hz⟩ := run_recv (e := a.eval) (ok := true) q2 hregs.e13
    refine .stop fun w₁ hr => ⟨_, _, true, z, rfl, fun w₂ hr2 => ⟨_, stepG_comm q1 (wanted_none q4) hb (hz w₂).1, fun e he => ?_, ?_⟩⟩
    · have := mem_listed he
      rw [(hz w₂).2] at this
      simp at this
    · have hr3 := hr.trans hr2
      show Fin (G ((b.at a (.inRegion m4 [0, 1] :: _)).finish (.tuple #[z, .bool false])) cs) O w₂
      rw [Frame.finish_at, q1]
      show Fin (G (b.at (a.put o.dst (.tuple #[z, .bool false])) (.inRegion m4 [1] :: _)) cs) O w₂
      rw [q3]
      have := hFin (a.put (some 14) (.tuple #[z, .bool false])) O w₂ z (hregs.put (by omega) _) (put_self (by rw [hregs.size]; omega)) hy ((hr3.keep y6 (.inl hy)).trans hmem) (fun x hx => Nat.lt_of_lt_of_le (hino x hx) hr3.size) (fun x hx => ⟨Nat.lt_of_lt_of_le (hsh x hx).1 hr3.size, (hsh x hx).2⟩) (hw0.trans (hr3.sub fun x hx => .inr hx))
      unfold mRest at this
      rw [mLoop_eq] at this
      exact this
  | succ m ih =>
    intro i l a O w hl hregs hy hmem hino hsh hw0
    rw [pvs_succ, recvsW_eq]
    have hloop : ∀ a' O' w', Walks Try.prog true Sh (AtRecvW Try.prog c Sh (NextR Try.prog c Sh Fin (.agg #[.int .i64 (i : Int), .int .i64 (far i)] :: pvs far (i + 1) m))) (G (b.at a' (.code mLoop :: .inLoop mLoop :: K)) cs) O' w' → Walks Try.prog true Sh (AtRecvW Try.prog c Sh (NextR Try.prog c Sh Fin (.agg #[.int .i64 (i : Int), .int .i64 (far i)] :: pvs far (i + 1) m))) (G (b.at a' (.code mLoop :: .inLoop mLoop :: K)) cs) O' w' := fun _ _ _ h => h
    refine hloop a O w ?_
    rw [mLoop_eq]
    refine Walks.ctl rfl (fun w => stepG_seq) hino ?_
    refine Walks.ctl rfl (fun w => stepG_region) hino ?_
    rw [m_sizes.2.2.2.2.1]
    obtain ⟨o, q1, q2, q3, q4⟩ := m4_0
    obtain ⟨z, hz⟩ := run_recv (e := a.eval) (ok := true) q2 hregs.e13
    refine .stop fun w₁ hr => ⟨_, _, true, z, rfl, fun w₂ hr2 => ⟨_, stepG_comm q1 (wanted_none q4) hb (hz w₂).1, fun e he => ?_, ?_⟩⟩
    · have := mem_listed he
      rw [(hz w₂).2] at this
      simp at this
    · have hr3 := hr.trans hr2
      show RecvsW _ _ _ Fin (pvs far (i + 1) m) (G ((b.at a (.inRegion m4 [0, 1] :: _)).finish (.tuple #[.agg #[.int .i64 (i : Int), .int .i64 (far i)], .bool true])) cs) O w₂
      rw [Frame.finish_at, q1]
      show RecvsW _ _ _ Fin (pvs far (i + 1) m) (G (b.at (a.put o.dst (.tuple #[.agg #[.int .i64 (i : Int), .int .i64 (far i)], .bool true])) (.inRegion m4 [1] :: _)) cs) O w₂
      rw [q3, recvsW_eq]
      have := m_round (Stop := AtRecvW Try.prog c Sh (NextR Try.prog c Sh Fin (pvs far (i + 1) m))) hG0 hK0 hFn HN (b := b) (K := K) (cs := cs) hb (u := l.1) (v := l.2) (j := (i : Int)) (f := far i) (hregs.put (d := 14) (by omega) (.tuple #[.agg #[.int .i64 (i : Int), .int .i64 (far i)], .bool true])) (put_self (by rw [hregs.size]; omega)) hy ((hr3.keep y6 (.inl hy)).trans hmem) (fun x hx => Nat.lt_of_lt_of_le (hino x hx) hr3.size) (fun x hx => ⟨Nat.lt_of_lt_of_le (hsh x hx).1 hr3.size, (hsh x hx).2⟩) (fun a' O' w' g1 g2 g3 g4 g5 g6 => by
        have := ih (i + 1) (nearC l ((i : Int), far i)) a' O' w' hl g1 g2 g3 g4 g5 ((hw0.trans (hr3.sub fun x hx => .inr hx)).trans g6)
        rw [recvsW_eq] at this
        exact this)
      rw [mLoop_eq] at this
      exact this
end Go.Proofs.Ytjgkignnfkbeaaa

/-
  Goroutine 0 in nearestTo: from its first receive.
-/
namespace Go.Proofs.Ytjgkignnfkbeaaa
open Go Go.Conc Go.Proofs.Ytjgkignnfkbeaaa.Sim
set_option linter.unusedVariables false

theorem m2_0 : ∃ o, m2[0]? = some o ∧ o.op = .move (.tmp 5) ∧ o.dst = some 11 ∧ o.guard = none := ⟨_, rfl, rfl, rfl, rfl⟩
theorem m2_1 : ∃ o, m2[1]? = some o ∧ o.op = .recv 64 (.tmp 11) false ∧ o.dst = some 12 ∧ o.guard = none := ⟨_, rfl, rfl, rfl, rfl⟩
theorem m2_2 : ∃ o, m2[2]? = some o ∧ o.op = .alloc 49 ∧ o.dst = some 6 ∧ o.guard = none := ⟨_, rfl, rfl, rfl, rfl⟩
theorem m2_3 : ∃ o, m2[3]? = some o ∧ o.op = .store 49 (.tmp 6) (.tmp 12) ∧ o.dst = none ∧ o.guard = none := ⟨_, rfl, rfl, rfl, rfl⟩
theorem m3_0 : ∃ o, m3[0]? = some o ∧ o.op = .move (.tmp 5) ∧ o.dst = some 13 ∧ o.guard = none := ⟨_, rfl, rfl, rfl, rfl⟩

theorem m_first {F : FuncId → Bool} {K0 : FuncId} (hG0 : Sim.Good Try.prog Try.prog F K0) (hK0 : F K0 = false) (hFn : F 58 = true)
    (HN : ∀ (u v j f : Int) (w : World), w.cell? ⟨0, 0, none⟩ = some (.int .i64 j) → w.cell? ⟨0, 1, none⟩ = some (.int .i64 f) → Calls Try.prog 58 #[.agg #[.int .i64 u, .int .i64 v], .slice (some ⟨0, 0, none⟩) 1 1] w fun e w' => e = .returned (.agg #[.int .i64 (nearC (u, v) (j, f)).1, .int .i64 (nearC (u, v) (j, f)).2]))
    {c x4 : Nat} {Sh : Nat → Prop} {Fin : Goroutine → (Nat → Prop) → World → Prop} {far : Nat → Int} {b : Frame} {k : List Item} {cs : List Frame} (hb : b.kind ≠ .early) {w0 : World} {m : Nat}
    (hFin : ∀ y6 a' O' w' z, MRegs c x4 y6 a' → a'.eval (.tmp 14) = .tuple #[z, .bool false] → O' y6 → w'.heap[y6]? = some (.cells #[.int .i64 (foldC far (((0 : Nat) : Int), far 0) 1 m).1, .int .i64 (foldC far (((0 : Nat) : Int), far 0) 1 m).2] 49 (0, 0)) → (∀ x, O' x → x < w'.heap.size) → (∀ x, Sh x → x < w'.heap.size ∧ ¬ O' x) → Rely Sh w0 w' →
      Fin (G (b.at a' (mRest (.inBlock 0 :: .code (.seq (.region 7 m7 false) .ret) :: k))) cs) O' w')
    {a : Act} {O : Nat → Prop} {w : World} (hsz : a.tmps.size = 22) (hd : a.defers = []) (h4 : a.eval (.tmp 4) = .pointer (some ⟨x4, 0, none⟩)) (h5 : a.eval (.tmp 5) = .chan (some c)) (hino : ∀ x, O x → x < w.heap.size) (hsh : ∀ x, Sh x → x < w.heap.size ∧ ¬ O x) (hw0 : Rely Sh w0 w) :
    RecvsW Try.prog c Sh Fin (pvs far 0 (m + 1)) (G (b.at a (.code (.region 2 m2 false) :: .code mTail :: k)) cs) O w := by
  rw [pvs_succ, recvsW_eq]
  refine Walks.ctl rfl (fun w => stepG_region) hino ?_
  rw [m_sizes.2.2.1]
  obtain ⟨o, q1, q2, q3, q4⟩ := m2_0
  have hrun := run_move (P := Try.prog) (e := a.eval) q2
  rw [h5] at hrun
  refine Walks.op0 q1 (wanted_none q4) hb hino (fun w => (hrun w).1) (fun w => (hrun w).2) ?_
  rw [q3]
  have h11 : (a.put (some 11) (.chan (some c))).eval (.tmp 11) = .chan (some c) := put_self (by rw [hsz]; omega)
  replace h4 := (put_ne (d := 11) (v := .chan (some c)) (by omega)).trans h4
  replace h5 := (put_ne (d := 11) (v := .chan (some c)) (by omega)).trans h5
  replace hsz := (put_size (v := .chan (some c)) (some 11)).trans hsz
  replace hd := (put_defers (v := .chan (some c)) (some 11)).trans hd
  generalize a.put (some 11) (.chan (some c)) = a1 at h4 h5 h11 hsz hd ⊢
  obtain ⟨o, q1, q2, q3, q4⟩ := m2_1
  obtain ⟨z, hz⟩ := run_recv (e := a1.eval) (ok := false) q2 h11
  refine .stop fun w₁ hr => ⟨_, _, false, z, rfl, fun w₂ hr2 => ⟨_, stepG_comm q1 (wanted_none q4) hb (hz w₂).1, fun e he => ?_, ?_⟩⟩
  · have := mem_listed he
    rw [(hz w₂).2] at this
    simp at this
  have hr3 := hr.trans hr2
  show RecvsW _ _ _ Fin (pvs far (0 + 1) m) (G ((b.at a1 (.inRegion m2 [1, 2, 3] :: _)).finish (.agg #[.int .i64 ((0 : Nat) : Int), .int .i64 (far 0)])) cs) O w₂
  rw [Frame.finish_at, q1]
  show RecvsW _ _ _ Fin (pvs far (0 + 1) m) (G (b.at (a1.put o.dst (.agg #[.int .i64 ((0 : Nat) : Int), .int .i64 (far 0)])) (.inRegion m2 [2, 3] :: _)) cs) O w₂
  rw [q3, recvsW_eq]
  have hi2 : ∀ x, O x → x < w₂.heap.size := fun x hx => Nat.lt_of_lt_of_le (hino x hx) hr3.size
  have hs2 : ∀ x, Sh x → x < w₂.heap.size ∧ ¬ O x := fun x hx => ⟨Nat.lt_of_lt_of_le (hsh x hx).1 hr3.size, (hsh x hx).2⟩
  have hR2 : Rely Sh w0 w₂ := hw0.trans (hr3.sub fun x hx => .inr hx)
  have h12 : (a1.put (some 12) (.agg #[.int .i64 ((0 : Nat) : Int), .int .i64 (far 0)])).eval (.tmp 12) = .agg #[.int .i64 ((0 : Nat) : Int), .int .i64 (far 0)] := put_self (by rw [hsz]; omega)
  replace h4 := (put_ne (d := 12) (v := .agg #[.int .i64 ((0 : Nat) : Int), .int .i64 (far 0)]) (by omega)).trans h4
  replace h5 := (put_ne (d := 12) (v := .agg #[.int .i64 ((0 : Nat) : Int), .int .i64 (far 0)]) (by omega)).trans h5
  replace hsz := (put_size (v := .agg #[.int .i64 ((0 : Nat) : Int), .int .i64 (far 0)]) (some 12)).trans hsz
  replace hd := (put_defers (v := .agg #[.int .i64 ((0 : Nat) : Int), .int .i64 (far 0)]) (some 12)).trans hd
  generalize a1.put (some 12) (.agg #[.int .i64 ((0 : Nat) : Int), .int .i64 (far 0)]) = a2 at h4 h5 h12 hsz hd ⊢
  obtain ⟨o, q1, q2, q3, q4⟩ := m2_2
  refine Walks.opval q1 (wanted_none q4) hb fun w₃ hr => ?_
  have hi1 : ∀ x, O x → x < w₃.heap.size := fun x hx => Nat.lt_of_lt_of_le (hi2 x hx) hr.size
  have hs1 : ∀ x, Sh x → x < w₃.heap.size ∧ ¬ O x := fun x hx => ⟨Nat.lt_of_lt_of_le (hs2 x hx).1 hr.size, (hs2 x hx).2⟩
  have hR1 : Rely Sh w0 w₃ := hR2.trans (hr.sub fun x hx => .inr hx)
  have hrun := run_allocC (e := a2.eval) q2 w₃
  have hgu : Guar Sh O w₃ (fun x => O x ∨ x = w₃.heap.size) { w₃ with heap := w₃.heap.push (.cells #[.int .i64 0, .int .i64 0] 49 (0, 0)) } ((execOp a2.eval o).events Try.prog w₃ #[]) := Guar.push hi1 (fun e he => by rw [hrun.2] at he; simp at he)
  refine ⟨_, _, _, hrun.1, hgu, ?_⟩
  rw [q3]
  have h6 : (a2.put (some 6) (.pointer (some ⟨w₃.heap.size, 0, none⟩))).eval (.tmp 6) = .pointer (some ⟨w₃.heap.size, 0, none⟩) := put_self (by rw [hsz]; omega)
  replace h4 := (put_ne (d := 6) (v := .pointer (some ⟨w₃.heap.size, 0, none⟩)) (by omega)).trans h4
  replace h5 := (put_ne (d := 6) (v := .pointer (some ⟨w₃.heap.size, 0, none⟩)) (by omega)).trans h5
  replace h12 := (put_ne (d := 6) (v := .pointer (some ⟨w₃.heap.size, 0, none⟩)) (by omega)).trans h12
  replace hsz := (put_size (v := .pointer (some ⟨w₃.heap.size, 0, none⟩)) (some 6)).trans hsz
  replace hd := (put_defers (v := .pointer (some ⟨w₃.heap.size, 0, none⟩)) (some 6)).trans hd
  generalize a2.put (some 6) (.pointer (some ⟨w₃.heap.size, 0, none⟩)) = a3 at h4 h5 h6 h12 hsz hd ⊢
  have hz3 := push_get (w := w₃) (o := .cells #[.int .i64 0, .int .i64 0] 49 (0, 0))
  have hi4 := hgu.inside
  have hR4 := hR1.trans (rely_guar hgu hs1)
  have hs4 : ∀ x, Sh x → x < ({ w₃ with heap := w₃.heap.push (.cells #[.int .i64 0, .int .i64 0] 49 (0, 0)) } : World).heap.size ∧ ¬ (O x ∨ x = w₃.heap.size) := fun x hx => ⟨Nat.lt_of_lt_of_le (hs1 x hx).1 hgu.size, fun h => h.elim (hs1 x hx).2 fun e => by have := (hs1 x hx).1; omega⟩
  obtain ⟨o, q1, q2, q3, q4⟩ := m2_3
  refine Walks.opskip q1 (wanted_none q4) hb fun w₅ hr => ?_
  have hy : (fun x => O x ∨ x = w₃.heap.size) w₃.heap.size := .inr rfl
  have hi5 : ∀ x, (O x ∨ x = w₃.heap.size) → x < w₅.heap.size := fun x hx => Nat.lt_of_lt_of_le (hi4 x hx) hr.size
  have hs5 : ∀ x, Sh x → x < w₅.heap.size ∧ ¬ (O x ∨ x = w₃.heap.size) := fun x hx => ⟨Nat.lt_of_lt_of_le (hs4 x hx).1 hr.size, (hs4 x hx).2⟩
  have hz5 := (hr.keep w₃.heap.size (.inl hy)).trans hz3
  have hR5 : Rely Sh w0 w₅ := hR4.trans (hr.sub fun x hx => .inr hx)
  have hrun5 := run_storeC (e := a3.eval) q2 h6 h12 hz5
  have hgu5 : Guar Sh (fun x => O x ∨ x = w₃.heap.size) w₅ (fun x => O x ∨ x = w₃.heap.size) _ ((execOp a3.eval o).events Try.prog w₅ #[]) := Guar.store2 (p := .int .i64 ((0 : Nat) : Int)) (q := .int .i64 (far 0)) hi5 hy (by rw [hrun5.2]; exact store_evs hy)
  refine ⟨_, _, hrun5.1, hgu5, ?_⟩
  rw [q3]
  show Walks _ _ _ _ (G (b.at a3 (.inRegion m2 [] :: _)) cs) _ _
  refine Walks.ctl rfl (fun w => stepG_region_end) hgu5.inside ?_
  rw [mTail_eq]
  refine Walks.ctl rfl (fun w => stepG_seq) hgu5.inside ?_
  refine Walks.ctl rfl (fun w => stepG_seq) hgu5.inside ?_
  refine Walks.ctl rfl (fun w => stepG_region) hgu5.inside ?_
  rw [m_sizes.2.2.2.1]
  obtain ⟨o, p1, p2, p3, p4⟩ := m3_0
  have hrun6 := run_move (P := Try.prog) (e := a3.eval) p2
  rw [h5] at hrun6
  refine Walks.op0 p1 (wanted_none p4) hb hgu5.inside (fun w => (hrun6 w).1) (fun w => (hrun6 w).2) ?_
  rw [p3]
  have hregs : MRegs c x4 w₃.heap.size (a3.put (some 13) (.chan (some c))) :=
    ⟨(put_size _).trans hsz, (put_defers _).trans hd, (put_ne (by omega)).trans h4, (put_ne (by omega)).trans h6, put_self (by rw [hsz]; omega)⟩
  refine Walks.ctl rfl (fun w => stepG_region_end) hgu5.inside ?_
  refine Walks.ctl rfl (fun w => stepG_block) hgu5.inside ?_
  refine Walks.ctl rfl (fun w => stepG_loop) hgu5.inside ?_
  have := m_rounds hG0 hK0 hFn HN (c := c) (x4 := x4) (y6 := w₃.heap.size) (Sh := Sh) (Fin := Fin) (far := far) (b := b) (K := .inBlock 0 :: .code (.seq (.region 7 m7 false) .ret) :: k) (cs := cs) hb (w0 := w0) (hFin w₃.heap.size) m 1 (((0 : Nat) : Int), far 0) _ (fun x => O x ∨ x = w₃.heap.size) _ rfl hregs hy (after_storeC hz5) hgu5.inside (fun x hx => ⟨Nat.lt_of_lt_of_le (hs5 x hx).1 hgu5.size, (hs5 x hx).2⟩) (hR5.trans (rely_guar hgu5 hs5))
  rw [recvsW_eq] at this
  exact this
end Go.Proofs.Ytjgkignnfkbeaaa

/-
  Goroutine 0 in nearestTo: behind the close.
-/
namespace Go.Proofs.Ytjgkignnfkbeaaa
open Go Go.Conc Go.Proofs.Ytjgkignnfkbeaaa.Sim
set_option linter.unusedVariables false

theorem m_results {t : Array Value} {x4 : Nat} {p q : Int} {w : World} (h4 : t.getD 4 undef = .pointer (some ⟨x4, 0, none⟩)) (h0 : w.cell? ⟨x4, 0, none⟩ = some (.int .i64 p)) (h1 : w.cell? ⟨x4, 1, none⟩ = some (.int .i64 q)) :
    (results Try.f42 t).run Try.prog w = .ok (.agg #[.int .i64 p, .int .i64 q]) w ∧ (results Try.f42 t).events Try.prog w #[] = #[⟨.cell ⟨x4, 0, none⟩, false, false⟩, ⟨.cell ⟨x4, 1, none⟩, false, false⟩] := by
  have hr : Try.f42.results = #[.cell 4 49] := rfl
  have h4' : t[4]?.getD undef = .pointer (some ⟨x4, 0, none⟩) := by rw [← Array.getD_eq_getD_getElem?]; exact h4
  unfold results
  rw [hr]
  constructor
  · simp [go_sem, h4', h0, h1]
  · simp [go_sem, h4', h0, h1]

theorem m_last {c x4 y6 : Nat} {Stop : Goroutine → (Nat → Prop) → World → Prop} {b : Frame} {k : List Item} {fc : Frame} {cs : List Frame} (hb : b.kind = .normal) (hf : b.fn = 42) {p : Int × Int} {z : Value} {a : Act} {w : World} (hregs : MRegs c x4 y6 a) (h14 : a.eval (.tmp 14) = .tuple #[z, .bool false])
    (h6 : w.heap[y6]? = some (.cells #[.int .i64 p.1, .int .i64 p.2] 49 (0, 0))) (h4 : w.heap[x4]? = some (.cells #[.int .i64 0, .int .i64 0] 49 (0, 0)))
    (hk : ∀ w', Rely (fun x => x < w.heap.size ∧ x ≠ x4) w w' → Walks Try.prog true NoSh Stop (G (fc.finish (.agg #[.int .i64 p.1, .int .i64 p.2])) cs) (fun x => x < w.heap.size) w') :
    Walks Try.prog true NoSh Stop (G (b.at a (mRest (.inBlock 0 :: .code (.seq (.region 7 m7 false) .ret) :: k))) (fc :: cs)) (fun x => x < w.heap.size) w := by
  have hbe : b.kind ≠ .early := by rw [hb]; simp
  have lt4 := lt_heap h4
  have lt6 := lt_heap h6
  have hino : ∀ {w' : World}, w.heap.size ≤ w'.heap.size → ∀ x, x < w.heap.size → x < w'.heap.size := fun hs x hx => by omega
  have hi0 := hino (Nat.le_refl _)
  unfold mRest
  obtain ⟨o, q1, q2, q3, q4⟩ := m4_1
  have hrun := run_extract (P := Try.prog) (e := a.eval) q2 h14 (v := .bool false) (by simp)
  refine Walks.op0 q1 (wanted_none q4) hbe hi0 (fun w => (hrun w).1) (fun w => (hrun w).2) ?_
  rw [q3]
  have r1 := hregs.put (d := 15) (by omega) (.bool false)
  have h15 : (a.put (some 15) (.bool false)).eval (.tmp 15) = .bool false := put_self (by rw [hregs.size]; omega)
  generalize a.put (some 15) (.bool false) = a1 at r1 h15 ⊢
  refine Walks.ctl rfl (fun w => stepG_region_end) hi0 ?_
  refine Walks.ctl rfl (fun w => stepG_seq) hi0 ?_
  refine Walks.ctl rfl (fun w => stepG_cond h15) hi0 ?_
  refine Walks.ctl rfl (fun w => stepG_exit (k' := .code (.seq (.region 7 m7 false) .ret) :: k) rfl) hi0 ?_
  refine Walks.ctl rfl (fun w => stepG_seq) hi0 ?_
  refine Walks.ctl rfl (fun w => stepG_region) hi0 ?_
  rw [m_sizes.2.2.2.2.2.2.2]
  obtain ⟨o, q1, q2, q3, q4⟩ := m7_0
  refine Walks.opread (v := .agg #[.int .i64 p.1, .int .i64 p.2]) q1 (wanted_none q4) hbe hi0 (fun w₂ hr => ?_) ?_
  · obtain ⟨c0, c1⟩ := cells_of ((hr.keep y6 (.inl lt6)).trans h6)
    obtain ⟨t1, t2⟩ := run_load (P := Try.prog) (e := a1.eval) (v := .agg #[.int .i64 p.1, .int .i64 p.2]) (es := #[⟨.cell ⟨y6, 0, none⟩, false, false⟩, ⟨.cell ⟨y6, 1, none⟩, false, false⟩]) q2 (by rw [r1.e6]; exact load_choice y6 _ _ w₂ c0 c1) (by rw [r1.e6]; exact load_choice_ev y6 _ _ w₂ c0 c1)
    exact ⟨t1, by rw [t2]; exact load_evs lt6⟩
  rw [q3]
  have r2 := r1.put (d := 21) (by omega) (.agg #[.int .i64 p.1, .int .i64 p.2])
  have h21 : (a1.put (some 21) (.agg #[.int .i64 p.1, .int .i64 p.2])).eval (.tmp 21) = .agg #[.int .i64 p.1, .int .i64 p.2] := put_self (by rw [r1.size]; omega)
  generalize a1.put (some 21) (.agg #[.int .i64 p.1, .int .i64 p.2]) = a2 at r2 h21 ⊢
  obtain ⟨o, q1, q2, q3, q4⟩ := m7_1
  refine Walks.opskip q1 (wanted_none q4) hbe fun w₁ hr => ?_
  have h41 := (hr.keep x4 (.inl lt4)).trans h4
  have hi1 := hino hr.size
  have hrun := run_storeC (e := a2.eval) q2 r2.e4 h21 h41
  have hgu : Guar NoSh (fun x => x < w.heap.size) w₁ (fun x => x < w.heap.size) _ ((execOp a2.eval o).events Try.prog w₁ #[]) := Guar.store2 (p := .int .i64 p.1) (q := .int .i64 p.2) hi1 lt4 (by rw [hrun.2]; exact store_evs lt4)
  refine ⟨_, _, hrun.1, hgu, ?_⟩
  rw [q3]
  show Walks _ _ _ _ (G (b.at a2 (.inRegion m7 [] :: _)) (fc :: cs)) _ _
  have h42 := after_storeC (u := p.1) (v := p.2) h41
  have hR : Rely (fun x => x < w.heap.size ∧ x ≠ x4) w ((w₁.setCell ⟨x4, 0, none⟩ (.int .i64 p.1)).setCell ⟨x4, 1, none⟩ (.int .i64 p.2)) :=
    ⟨Nat.le_trans hr.size hgu.size, fun x hx => (keep_store2 hx.2).trans (hr.keep x (.inl hx.1)), hr.tape, hr.os, hr.output⟩
  have hsz := Nat.le_trans hr.size hgu.size
  generalize (w₁.setCell ⟨x4, 0, none⟩ (.int .i64 p.1)).setCell ⟨x4, 1, none⟩ (.int .i64 p.2) = W at h42 hR hsz ⊢
  refine Walks.ctl rfl (fun w => stepG_region_end) (hino hsz) ?_
  refine Walks.ctl rfl (fun w => stepG_ret') (hino hsz) ?_
  refine .go rfl fun w₂ hr2 => ?_
  obtain ⟨c0, c1⟩ := cells_of ((hr2.keep x4 (.inl lt4)).trans h42)
  obtain ⟨t1, t2⟩ := m_results (t := a2.tmps) (by have := r2.e4; exact this) c0 c1
  have hfn : Try.prog.funcs[b.fn]? = some Try.f42 := by rw [hf]; exact Try.func42
  have hback := stepG_back (P := Try.prog) (m := true) (f := { b.at a2 (.code .ret :: k) with mode := .returning }) (c := fc) (cs := cs) rfl r2.defers hb hfn t1
  refine ⟨_, fun x => x < w.heap.size, w₂, _, hback, Guar.same (hino (Nat.le_trans hsz hr2.size)) (fun e he => ?_), hk w₂ (hR.trans (hr2.sub fun x hx => .inl hx.1))⟩
  have h := mem_seen he
  exact load_evs (O := fun x => x < w.heap.size) (y := x4) lt4 e (by have h' := h; rw [show (results Try.f42 ({ b.at a2 (.code .ret :: k) with mode := .returning } : Frame).tmps).events Try.prog w₂ #[] = _ from t2] at h'; exact h')
end Go.Proofs.Ytjgkignnfkbeaaa

/-
  Goroutine 0 in nearestTo: from behind the go statement, in pairings, to its first receive.
-/
namespace Go.Proofs.Ytjgkignnfkbeaaa
open Go Go.Conc Go.Proofs.Ytjgkignnfkbeaaa.Sim
set_option linter.unusedVariables false

noncomputable def pBody : Code := (Try.f67.body).getD .skip
noncomputable def p0 : Array Oper := regOps (lft pBody)
noncomputable def p1 : Array Oper := regOps (lft (rgt pBody))
noncomputable def p2 : Array Oper := regOps (lft (rgt (rgt pBody)))
noncomputable def p3 : Array Oper := regOps (lft (rgt (rgt (rgt pBody))))
theorem pBody_eq : pBody = .seq (.region 0 p0 false) (.seq (.region 1 p1 false) (.seq (.region 2 p2 false) (.seq (.region 3 p3 false) .ret))) := by rfl
theorem p_sizes : p0.size = 3 ∧ p1.size = 3 ∧ p2.size = 2 ∧ p3.size = 2 := ⟨rfl, rfl, rfl, rfl⟩
theorem p3_0 : ∃ o, p3[0]? = some o ∧ o.op = .load 73 (.tmp 5) ∧ o.dst = some 8 ∧ o.guard = none := ⟨_, rfl, rfl, rfl, rfl⟩
theorem p3_1 : ∃ o, p3[1]? = some o ∧ o.op = .assign (.tmp 8) ∧ o.dst = some 4 ∧ o.guard = none := ⟨_, rfl, rfl, rfl, rfl⟩
theorem m1_2 : ∃ o, m1[2]? = some o ∧ o.dst = some 10 := ⟨_, rfl, rfl⟩
theorem m1_3 : ∃ o, m1[3]? = some o ∧ o.op = .assign (.tmp 10) ∧ o.dst = some 5 ∧ o.guard = none := ⟨_, rfl, rfl, rfl, rfl⟩

theorem m_after {c x1 x4 : Nat} {main : Bool} {Sh : Nat → Prop} (s1 : Sh x1) {Stop : Goroutine → (Nat → Prop) → World → Prop} {b b2 : Frame} {k : List Item} {cs : List Frame} (hb : b.kind ≠ .early) (hn2 : b2.kind = .normal) (hf2 : b2.fn = 67)
    {a a2 : Act} {O : Nat → Prop} {w : World} (hsz : a.tmps.size = 22) (hd : a.defers = []) (h4 : a.eval (.tmp 4) = .pointer (some ⟨x4, 0, none⟩)) (hsz2 : a2.tmps.size = 9) (hd2 : a2.defers = []) (h5 : a2.eval (.tmp 5) = .pointer (some ⟨x1, 0, none⟩)) (hm : w.cell? ⟨x1, 0, none⟩ = some (.chan (some c))) (hino : ∀ x, O x → x < w.heap.size)
    (hk : ∀ a' w', a'.tmps.size = 22 → a'.defers = [] → a'.eval (.tmp 4) = .pointer (some ⟨x4, 0, none⟩) → a'.eval (.tmp 5) = .chan (some c) → Rely (fun x => O x ∨ Sh x) w w' → Walks Try.prog main Sh Stop (G (b.at a' (.code (.region 2 m2 false) :: .code mTail :: k)) cs) O w') :
    Walks Try.prog main Sh Stop (G (b2.at a2 (.inRegion p2 [] :: .code (.seq (.region 3 p3 false) .ret) :: [])) (b.at a (.inRegion m1 [2, 3] :: .code (.seq (.region 2 m2 false) mTail) :: k) :: cs)) O w := by
  have hb2 : b2.kind ≠ .early := by rw [hn2]; simp
  refine Walks.ctl rfl (fun w => stepG_region_end) hino ?_
  refine Walks.ctl rfl (fun w => stepG_seq) hino ?_
  refine Walks.ctl rfl (fun w => stepG_region) hino ?_
  rw [p_sizes.2.2.2]
  obtain ⟨o, q1, q2, q3, q4⟩ := p3_0
  refine Walks.opread (v := .chan (some c)) q1 (wanted_none q4) hb2 hino (fun w₁ hr => ?_) ?_
  · have hm1 : w₁.cell? ⟨x1, 0, none⟩ = some (.chan (some c)) := (cell_keep hr (.inr s1)).trans hm
    obtain ⟨r1, r2⟩ := run_load (P := Try.prog) (e := a2.eval) (v := .chan (some c)) (es := #[⟨.cell ⟨x1, 0, none⟩, false, false⟩]) q2 (by rw [h5]; exact load_chan x1 _ w₁ hm1) (by rw [h5]; exact load_chan_ev x1 _ w₁ hm1)
    refine ⟨r1, fun e he => ?_⟩
    rw [r2] at he
    have : e = ⟨.cell ⟨x1, 0, none⟩, false, false⟩ := by simpa using he
    exact .inr (.inr (.inl ⟨x1, 0, none, s1, this⟩))
  rw [q3]
  have h8 : (a2.put (some 8) (.chan (some c))).eval (.tmp 8) = .chan (some c) := put_self (by rw [hsz2]; omega)
  replace hsz2 := (put_size (v := .chan (some c)) (some 8)).trans hsz2
  replace hd2 := (put_defers (v := .chan (some c)) (some 8)).trans hd2
  generalize a2.put (some 8) (.chan (some c)) = a3 at h8 hsz2 hd2 ⊢
  obtain ⟨o, q1, q2, q3, q4⟩ := p3_1
  have hrun := run_assign (P := Try.prog) (e := a3.eval) q2
  rw [h8] at hrun
  refine Walks.op0 q1 (wanted_none q4) hb2 hino (fun w => (hrun w).1) (fun w => (hrun w).2) ?_
  rw [q3]
  have h44 : (a3.put (some 4) (.chan (some c))).eval (.tmp 4) = .chan (some c) := put_self (by rw [hsz2]; omega)
  replace hd2 := (put_defers (v := .chan (some c)) (some 4)).trans hd2
  generalize a3.put (some 4) (.chan (some c)) = a4 at h44 hd2 ⊢
  refine Walks.ctl rfl (fun w => stepG_region_end) hino ?_
  refine Walks.ctl rfl (fun w => stepG_ret') hino ?_
  have hfn : Try.prog.funcs[b2.fn]? = some Try.f67 := by rw [hf2]; exact Try.func67
  have hres : ∀ w, (results Try.f67 a4.tmps).run Try.prog w = .ok (.chan (some c)) w := fun w => by
    rw [results_tmp rfl]
    exact congrArg (fun v => Result.ok v w) h44
  have hev : ∀ w, (results Try.f67 a4.tmps).events Try.prog w #[] = #[] := fun w => events_results_tmp rfl _ _
  refine Walks.ctl rfl (g' := G ((b.at a (.inRegion m1 [2, 3] :: .code (.seq (.region 2 m2 false) mTail) :: k)).finish (.chan (some c))) cs) (fun w => ?_) hino ?_
  · exact stepG_leave hn2 hd2 hfn (hres w) (hev w)
  obtain ⟨o, q1, q3⟩ := m1_2
  rw [Frame.finish_at, q1]
  show Walks _ _ _ _ (G (b.at (a.put o.dst (.chan (some c))) (.inRegion m1 [3] :: _)) cs) O w
  rw [q3]
  have h10 : (a.put (some 10) (.chan (some c))).eval (.tmp 10) = .chan (some c) := put_self (by rw [hsz]; omega)
  replace h4 := (put_ne (d := 10) (v := .chan (some c)) (by omega)).trans h4
  replace hsz := (put_size (v := .chan (some c)) (some 10)).trans hsz
  replace hd := (put_defers (v := .chan (some c)) (some 10)).trans hd
  generalize a.put (some 10) (.chan (some c)) = a5 at h10 h4 hsz hd ⊢
  obtain ⟨o, q1, q2, q3, q4⟩ := m1_3
  have hrun := run_assign (P := Try.prog) (e := a5.eval) q2
  rw [h10] at hrun
  refine Walks.op0 q1 (wanted_none q4) hb hino (fun w => (hrun w).1) (fun w => (hrun w).2) ?_
  rw [q3]
  refine Walks.ctl rfl (fun w => stepG_region_end) hino ?_
  refine Walks.ctl rfl (fun w => stepG_seq) hino ?_
  exact hk _ w ((put_size _).trans hsz) ((put_defers _).trans hd) ((put_ne (by omega)).trans h4) (put_self (by rw [hsz]; omega)) (Rely.refl _ w)
end Go.Proofs.Ytjgkignnfkbeaaa

/-
  The operations of goroutine 0 from nearestTo's entry to the go statement.
-/
namespace Go.Proofs.Ytjgkignnfkbeaaa
open Go Go.Conc Sim
set_option linter.unusedVariables false

theorem m0_0 : ∃ o, m0[0]? = some o ∧ o.op = .box 47 (.tmp 0) ∧ o.dst = some 2 ∧ o.guard = none := ⟨_, rfl, rfl, rfl, rfl⟩
theorem m0_1 : ∃ o, m0[1]? = some o ∧ o.op = .box 47 (.tmp 1) ∧ o.dst = some 3 ∧ o.guard = none := ⟨_, rfl, rfl, rfl, rfl⟩
theorem m0_2 : ∃ o, m0[2]? = some o ∧ o.op = .alloc 49 ∧ o.dst = some 4 ∧ o.guard = none := ⟨_, rfl, rfl, rfl, rfl⟩
theorem m1_0 : ∃ o, m1[0]? = some o ∧ o.op = .load 47 (.tmp 2) ∧ o.dst = some 8 ∧ o.guard = none := ⟨_, rfl, rfl, rfl, rfl⟩
theorem m1_1 : ∃ o, m1[1]? = some o ∧ o.op = .load 47 (.tmp 3) ∧ o.dst = some 9 ∧ o.guard = none := ⟨_, rfl, rfl, rfl, rfl⟩
theorem m1_2' : ∃ o, m1[2]? = some o ∧ (∃ ats, o.op = .call { callee := .value (.func 67), args := #[.tmp 8, .tmp 9], argTypes := ats }) ∧ o.dst = some 10 ∧ o.guard = none := ⟨_, rfl, ⟨_, rfl⟩, rfl, rfl⟩
theorem p0_0 : ∃ o, p0[0]? = some o ∧ o.op = .box 47 (.tmp 0) ∧ o.dst = some 2 ∧ o.guard = none := ⟨_, rfl, rfl, rfl, rfl⟩
theorem p0_1 : ∃ o, p0[1]? = some o ∧ o.op = .box 47 (.tmp 1) ∧ o.dst = some 3 ∧ o.guard = none := ⟨_, rfl, rfl, rfl, rfl⟩
theorem p0_2 : ∃ o, p0[2]? = some o ∧ o.op = .assign (.const (.chan none)) ∧ o.dst = some 4 ∧ o.guard = none := ⟨_, rfl, rfl, rfl, rfl⟩
theorem p1_0 : ∃ o, p1[0]? = some o ∧ o.op = .makeChan 73 (.const (.int .i64 0)) ∧ o.dst = some 6 ∧ o.guard = none := ⟨_, rfl, rfl, rfl, rfl⟩
theorem p1_1 : ∃ o, p1[1]? = some o ∧ o.op = .alloc 73 ∧ o.dst = some 5 ∧ o.guard = none := ⟨_, rfl, rfl, rfl, rfl⟩
theorem p1_2 : ∃ o, p1[2]? = some o ∧ o.op = .store 73 (.tmp 5) (.tmp 6) ∧ o.dst = none ∧ o.guard = none := ⟨_, rfl, rfl, rfl, rfl⟩
theorem p2_0 : ∃ o, p2[0]? = some o ∧ o.op = .makeFunc (.func 83) #[] #[.tmp 3, .tmp 5, .tmp 2] ∧ o.dst = some 7 ∧ o.guard = none := ⟨_, rfl, rfl, rfl, rfl⟩
theorem p2_1 : ∃ o, p2[1]? = some o ∧ (∃ ats, o.op = .go { callee := .value (.tmp 7), args := #[], argTypes := ats }) ∧ o.guard = none ∧ o.dst = none := ⟨_, rfl, ⟨_, rfl⟩, rfl, rfl⟩

theorem run_boxS {e : Operand → Value} {o : Oper} {x : Operand} {n s : Int} (h : o.op = .box 47 x) (hx : e x = .agg #[.int .i64 n, .int .i64 s]) (w : World) :
    (execOp e o).run Try.prog w = .ok (.value (.pointer (some ⟨w.heap.size, 0, none⟩))) { w with heap := w.heap.push (.cells #[.int .i64 n, .int .i64 s] 47 (0, 0)) } ∧ (execOp e o).events Try.prog w #[] = #[] := by
  unfold execOp
  rw [h]
  constructor
  · simp [go_sem, hx]
  · simp [go_sem, hx]
theorem run_chanM {e : Operand → Value} {o : Oper} {x : Operand} (h : o.op = .makeChan 73 x) (hx : e x = .int .i64 0) : ∃ s r tm, ∀ w,
    (execOp e o).run Try.prog w = .ok (.value (.chan (some w.heap.size))) { w with heap := w.heap.push (.chan 0 #[] false s r tm) } ∧ (execOp e o).events Try.prog w #[] = #[] := by
  unfold execOp
  rw [h]
  refine ⟨0, 0, false, fun w => ⟨?_, ?_⟩⟩
  · simp [go_sem, hx, Instr.makeChan]
  · simp [go_sem, hx, Instr.makeChan]
theorem run_allocK {e : Operand → Value} {o : Oper} (h : o.op = .alloc 73) (w : World) : (execOp e o).run Try.prog w = .ok (.value (.pointer (some ⟨w.heap.size, 0, none⟩))) { w with heap := w.heap.push (.cells #[.chan none] 73 (0, 0)) } ∧ (execOp e o).events Try.prog w #[] = #[] := by
  unfold execOp
  rw [h]
  constructor
  · simp [go_sem]
  · simp [go_sem]
theorem run_storeK {e : Operand → Value} {o : Oper} {x y : Operand} {b c : Nat} {p : Value} (h : o.op = .store 73 x y) (hx : e x = .pointer (some ⟨b, 0, none⟩)) (hy : e y = .chan (some c)) {w : World} (hw : w.heap[b]? = some (.cells #[p] 73 (0, 0))) :
    (execOp e o).run Try.prog w = .ok .skip (w.setCell ⟨b, 0, none⟩ (.chan (some c))) ∧ (execOp e o).events Try.prog w #[] = #[⟨.cell ⟨b, 0, none⟩, true, false⟩] := by
  have c0 : w.cell? ⟨b, 0, none⟩ = some p := by simp [World.cell?, hw]
  have f0 : w.frozen? ⟨b, 0, none⟩ = false := by simp [World.frozen?, hw]
  unfold execOp
  rw [h]
  constructor
  · simp [go_sem, hx, hy, c0, f0]
  · simp [go_sem, hx, hy, c0, f0]
theorem run_makeF {e : Operand → Value} {o : Oper} (h : o.op = .makeFunc (.func 83) #[] #[.tmp 3, .tmp 5, .tmp 2]) (w : World) :
    (execOp e o).run Try.prog w = .ok (.value (.func (.func 83) #[] #[e (.tmp 3), e (.tmp 5), e (.tmp 2)])) w ∧ (execOp e o).events Try.prog w #[] = #[] := by
  unfold execOp
  rw [h]
  constructor
  · simp [go_sem]
  · simp [go_sem]
end Go.Proofs.Ytjgkignnfkbeaaa

/-
  Goroutine 0 from nearestTo's entry to the go statement.
-/
namespace Go.Proofs.Ytjgkignnfkbeaaa
open Go Go.Conc Sim
set_option linter.unusedVariables false

section
variable {P : Program} {main : Bool} {Stop : Goroutine → (Nat → Prop) → World → Prop} {b : Frame} {k : List Item} {cs : List Frame} {ops : Array Oper} {O : Nat → Prop} {w : World} {a : Act} {i : Nat} {rest : List Nat} {o : Oper}
/-- an operation that makes a block -/
theorem Walks.push1 (ho : ops[i]? = some o) (hg : o.guard = none) (hk : b.kind ≠ .early) (hi : ∀ x, O x → x < w.heap.size) {v : Nat → Value} {obj : Obj}
    (hrun : ∀ w, (execOp a.eval o).run P w = .ok (.value (v w.heap.size)) { w with heap := w.heap.push obj } ∧ (execOp a.eval o).events P w #[] = #[])
    (k' : ∀ g w', Rely O w w' → w.heap.size ≤ g → w'.heap[g]? = some obj → (∀ x, (O x ∨ x = g) → x < w'.heap.size) → Walks P main NoSh Stop (G (b.at (a.put o.dst (v g)) (.inRegion ops rest :: k)) cs) (fun x => O x ∨ x = g) w') :
    Walks P main NoSh Stop (G (b.at a (.inRegion ops (i :: rest) :: k)) cs) O w := by
  refine Walks.opval ho (wanted_none hg) hk fun w₁ hr => ?_
  have hi1 : ∀ x, O x → x < w₁.heap.size := fun x hx => Nat.lt_of_lt_of_le (hi x hx) hr.size
  have gu : Guar NoSh O w₁ (fun x => O x ∨ x = w₁.heap.size) { w₁ with heap := w₁.heap.push obj } ((execOp a.eval o).events P w₁ #[]) := Guar.push hi1 (fun e he => by rw [(hrun w₁).2] at he; simp at he)
  refine ⟨_, _, _, (hrun w₁).1, gu, k' w₁.heap.size _ ⟨Nat.le_trans hr.size (by simp), fun x hx => ?_, hr.tape, hr.os, hr.output⟩ hr.size (by simp) gu.inside⟩
  have := hi1 x hx
  simp only [Array.getElem?_push, Nat.ne_of_lt this, if_false]
  exact hr.keep x (.inl hx)
end
def mFr : Frame := { (default : Frame) with fn := 42, kind := .normal }
def mAct (x y : Value) : Act := { tmps := #[x, y] ++ Array.replicate 20 undef, defers := [] }
theorem mAct_facts (x y : Value) : (mAct x y).tmps.size = 22 ∧ (mAct x y).defers = [] ∧ (mAct x y).eval (.tmp 0) = x ∧ (mAct x y).eval (.tmp 1) = y := ⟨by simp [mAct], rfl, by simp [mAct, Act.eval], by simp [mAct, Act.eval]⟩
theorem enter_m (x y : Value) : Frame.enter Try.prog 42 #[x, y] .normal = mFr.at (mAct x y) [.code mBody] := by
  have hf := Try.func42
  simp [Frame.enter, Frame.at, hf, mFr, mAct, Try.ntmps42]
  rfl
def pFr : Frame := { (default : Frame) with fn := 67, kind := .normal }
def pAct (x y : Value) : Act := { tmps := #[x, y] ++ Array.replicate 7 undef, defers := [] }
theorem pAct_facts (x y : Value) : (pAct x y).tmps.size = 9 ∧ (pAct x y).defers = [] ∧ (pAct x y).eval (.tmp 0) = x ∧ (pAct x y).eval (.tmp 1) = y := ⟨by simp [pAct], rfl, by simp [pAct, Act.eval], by simp [pAct, Act.eval]⟩
theorem enter_p (x y : Value) : Frame.enter Try.prog 67 #[x, y] .normal = pFr.at (pAct x y) [.code pBody] := by
  have hf := Try.func67
  simp [Frame.enter, Frame.at, hf, pFr, pAct, Try.ntmps67]
  rfl
theorem rely_or {Q : Nat → Prop} {O : Nat → Prop} {w w' : World} (h : Rely (fun x => Q x ∨ O x) w w') : Rely Q w w' := h.sub fun _ hx => .inl hx
/-- what stands at the go statement -/
structure AtGo (n A B : Int) (c x0 x1 x2 x4 : Nat) (a a2 : Act) (w : World) : Prop where
  asz : a.tmps.size = 22
  adf : a.defers = []
  a4 : a.eval (.tmp 4) = .pointer (some ⟨x4, 0, none⟩)
  bsz : a2.tmps.size = 9
  bdf : a2.defers = []
  b5 : a2.eval (.tmp 5) = .pointer (some ⟨x1, 0, none⟩)
  b7 : a2.eval (.tmp 7) = .func (.func 83) #[] #[.pointer (some ⟨x0, 0, none⟩), .pointer (some ⟨x1, 0, none⟩), .pointer (some ⟨x2, 0, none⟩)]
  hc : ∃ s r tm, w.heap[c]? = some (.chan 0 #[] false s r tm)
  h0 : w.heap[x0]? = some (.cells #[.int .i64 n, .int .i64 B] 47 (0, 0))
  h1 : w.heap[x1]? = some (.cells #[.chan (some c)] 73 (0, 0))
  h2 : w.heap[x2]? = some (.cells #[.int .i64 n, .int .i64 A] 47 (0, 0))
  h4 : w.heap[x4]? = some (.cells #[.int .i64 0, .int .i64 0] 49 (0, 0))
theorem AtGo.rely {n A B : Int} {c x0 x1 x2 x4 : Nat} {a a2 : Act} {O : Nat → Prop} {w w' : World} (h : AtGo n A B c x0 x1 x2 x4 a a2 w) (hr : Rely O w w') (ho : O x0 ∧ O x1 ∧ O x2 ∧ O c ∧ O x4) : AtGo n A B c x0 x1 x2 x4 a a2 w' := by
  obtain ⟨s, r, tm, hc⟩ := h.hc
  exact { h with hc := ⟨s, r, tm, (hr.keep c ho.2.2.2.1).trans hc⟩, h0 := (hr.keep x0 ho.1).trans h.h0, h1 := (hr.keep x1 ho.2.1).trans h.h1, h2 := (hr.keep x2 ho.2.2.1).trans h.h2, h4 := (hr.keep x4 ho.2.2.2.2).trans h.h4 }
theorem set_one {w : World} {b : Nat} {p : Value} {t : TypeId} (h : w.heap[b]? = some (.cells #[p] t (0, 0))) (v : Value) : (w.setCell ⟨b, 0, none⟩ v).heap[b]? = some (.cells #[v] t (0, 0)) := by
  rw [heap_set h 0 v b, if_pos rfl]; rfl
/-- the same of pairings alone -/
structure AtGo2 (n A B : Int) (c x0 x1 x2 : Nat) (a2 : Act) (w : World) : Prop where
  bsz : a2.tmps.size = 9
  bdf : a2.defers = []
  b5 : a2.eval (.tmp 5) = .pointer (some ⟨x1, 0, none⟩)
  b7 : a2.eval (.tmp 7) = .func (.func 83) #[] #[.pointer (some ⟨x0, 0, none⟩), .pointer (some ⟨x1, 0, none⟩), .pointer (some ⟨x2, 0, none⟩)]
  hc : ∃ s r tm, w.heap[c]? = some (.chan 0 #[] false s r tm)
  h0 : w.heap[x0]? = some (.cells #[.int .i64 n, .int .i64 B] 47 (0, 0))
  h1 : w.heap[x1]? = some (.cells #[.chan (some c)] 73 (0, 0))
  h2 : w.heap[x2]? = some (.cells #[.int .i64 n, .int .i64 A] 47 (0, 0))
set_option maxHeartbeats 1000000 in
theorem p_entry_at {Stop : Goroutine → (Nat → Prop) → World → Prop} {cs : List Frame} {n A B : Int} {O : Nat → Prop} {w : World} {a0 : Act} (hi : ∀ x, O x → x < w.heap.size) (hsz : a0.tmps.size = 9) (hd : a0.defers = []) (e0 : a0.eval (.tmp 0) = .agg #[.int .i64 n, .int .i64 A]) (e1 : a0.eval (.tmp 1) = .agg #[.int .i64 n, .int .i64 B])
    (hk : ∀ (c x0 x1 x2 : Nat) (a2 : Act) (O' : Nat → Prop) (w' : World), AtGo2 n A B c x0 x1 x2 a2 w' → Rely O w w' → w.heap.size ≤ c → (∀ x, O' x → x < w'.heap.size) → (O' x0 ∧ O' x1 ∧ O' x2 ∧ O' c ∧ ∀ x, O x → O' x) →
      Walks Try.prog true NoSh Stop (G (pFr.at a2 (.inRegion p2 [1] :: .code (.seq (.region 3 p3 false) .ret) :: [])) cs) O' w') :
    Walks Try.prog true NoSh Stop (G (pFr.at a0 [.code (.seq (.region 0 p0 false) (.seq (.region 1 p1 false) (.seq (.region 2 p2 false) (.seq (.region 3 p3 false) .ret))))]) cs) O w := by
  have hb : pFr.kind ≠ .early := by simp [pFr]
  refine Walks.ctl rfl (fun w => stepG_seq) hi ?_
  refine Walks.ctl rfl (fun w => stepG_region) hi ?_
  rw [p_sizes.1]
  obtain ⟨o, q1, q2, q3, q4⟩ := p0_0
  refine Walks.push1 (rest := [1, 2]) q1 q4 hb hi (v := fun g => .pointer (some ⟨g, 0, none⟩)) (run_boxS (n := n) (s := A) q2 e0) fun x2 w1 r1 g1 l1 i1 => ?_
  rw [q3]
  have e2 : (a0.put (some 2) (.pointer (some ⟨x2, 0, none⟩))).eval (.tmp 2) = .pointer (some ⟨x2, 0, none⟩) := put_self (by rw [hsz]; omega)
  replace e1 := (put_ne (a := a0) (v := .pointer (some ⟨x2, 0, none⟩)) (show 2 ≠ 1 by omega)).trans e1
  replace hsz := (put_size (a := a0) (v := .pointer (some ⟨x2, 0, none⟩)) (some 2)).trans hsz
  replace hd := (put_defers (a := a0) (v := .pointer (some ⟨x2, 0, none⟩)) (some 2)).trans hd
  clear e0
  generalize a0.put (some 2) (.pointer (some ⟨x2, 0, none⟩)) = a1 at hsz hd e1 e2 ⊢
  obtain ⟨o, q1, q2, q3, q4⟩ := p0_1
  refine Walks.push1 (rest := [2]) q1 q4 hb i1 (v := fun g => .pointer (some ⟨g, 0, none⟩)) (run_boxS (n := n) (s := B) q2 e1) fun x0 w2 r2 g2 l2 i2 => ?_
  rw [q3]
  have e3 : (a1.put (some 3) (.pointer (some ⟨x0, 0, none⟩))).eval (.tmp 3) = .pointer (some ⟨x0, 0, none⟩) := put_self (by rw [hsz]; omega)
  replace e2 := (put_ne (a := a1) (v := .pointer (some ⟨x0, 0, none⟩)) (show 3 ≠ 2 by omega)).trans e2
  replace hsz := (put_size (a := a1) (v := .pointer (some ⟨x0, 0, none⟩)) (some 3)).trans hsz
  replace hd := (put_defers (a := a1) (v := .pointer (some ⟨x0, 0, none⟩)) (some 3)).trans hd
  clear e1
  generalize a1.put (some 3) (.pointer (some ⟨x0, 0, none⟩)) = a2 at hsz hd e2 e3 ⊢
  replace l1 := (r2.keep x2 (.inr rfl)).trans l1
  replace r1 := r1.trans (rely_or r2)
  obtain ⟨o, q1, q2, q3, q4⟩ := p0_2
  have hrun := run_assign (P := Try.prog) (e := a2.eval) q2
  refine Walks.op0 (rest := []) q1 (wanted_none q4) hb i2 (fun w => (hrun w).1) (fun w => (hrun w).2) ?_
  rw [q3]
  replace e2 := (put_ne (a := a2) (v := a2.eval (.const (.chan none))) (show 4 ≠ 2 by omega)).trans e2
  replace e3 := (put_ne (a := a2) (v := a2.eval (.const (.chan none))) (show 4 ≠ 3 by omega)).trans e3
  replace hsz := (put_size (a := a2) (v := a2.eval (.const (.chan none))) (some 4)).trans hsz
  replace hd := (put_defers (a := a2) (v := a2.eval (.const (.chan none))) (some 4)).trans hd
  generalize a2.put (some 4) (a2.eval (.const (.chan none))) = a3 at hsz hd e2 e3 ⊢
  refine Walks.ctl rfl (fun w => stepG_region_end) i2 ?_
  refine Walks.ctl rfl (fun w => stepG_seq) i2 ?_
  refine Walks.ctl rfl (fun w => stepG_region) i2 ?_
  rw [p_sizes.2.1]
  obtain ⟨o, q1, q2, q3, q4⟩ := p1_0
  obtain ⟨s, r, tm, hrun⟩ := run_chanM (e := a3.eval) q2 rfl
  refine Walks.push1 (rest := [1, 2]) q1 q4 hb i2 (v := fun g => .chan (some g)) hrun fun c w3 r3 g3 l3 i3 => ?_
  rw [q3]
  have e6 : (a3.put (some 6) (.chan (some c))).eval (.tmp 6) = .chan (some c) := put_self (by rw [hsz]; omega)
  replace e2 := (put_ne (a := a3) (v := .chan (some c)) (show 6 ≠ 2 by omega)).trans e2
  replace e3 := (put_ne (a := a3) (v := .chan (some c)) (show 6 ≠ 3 by omega)).trans e3
  replace hsz := (put_size (a := a3) (v := .chan (some c)) (some 6)).trans hsz
  replace hd := (put_defers (a := a3) (v := .chan (some c)) (some 6)).trans hd
  generalize a3.put (some 6) (.chan (some c)) = a4 at hsz hd e2 e3 e6 ⊢
  replace l1 := (r3.keep x2 (.inl (.inr rfl))).trans l1
  replace l2 := (r3.keep x0 (.inr rfl)).trans l2
  have hcz : w.heap.size ≤ c := Nat.le_trans r1.size g3
  replace r1 := r1.trans (rely_or (rely_or r3))
  obtain ⟨o, q1, q2, q3, q4⟩ := p1_1
  refine Walks.push1 (rest := [2]) q1 q4 hb i3 (v := fun g => .pointer (some ⟨g, 0, none⟩)) (run_allocK q2) fun x1 w4 r4 g4 l4 i4 => ?_
  rw [q3]
  have e5 : (a4.put (some 5) (.pointer (some ⟨x1, 0, none⟩))).eval (.tmp 5) = .pointer (some ⟨x1, 0, none⟩) := put_self (by rw [hsz]; omega)
  replace e2 := (put_ne (a := a4) (v := .pointer (some ⟨x1, 0, none⟩)) (show 5 ≠ 2 by omega)).trans e2
  replace e3 := (put_ne (a := a4) (v := .pointer (some ⟨x1, 0, none⟩)) (show 5 ≠ 3 by omega)).trans e3
  replace e6 := (put_ne (a := a4) (v := .pointer (some ⟨x1, 0, none⟩)) (show 5 ≠ 6 by omega)).trans e6
  replace hsz := (put_size (a := a4) (v := .pointer (some ⟨x1, 0, none⟩)) (some 5)).trans hsz
  replace hd := (put_defers (a := a4) (v := .pointer (some ⟨x1, 0, none⟩)) (some 5)).trans hd
  generalize a4.put (some 5) (.pointer (some ⟨x1, 0, none⟩)) = a5 at hsz hd e2 e3 e5 e6 ⊢
  replace l1 := (r4.keep x2 (.inl (.inl (.inr rfl)))).trans l1
  replace l2 := (r4.keep x0 (.inl (.inr rfl))).trans l2
  replace l3 := (r4.keep c (.inr rfl)).trans l3
  have hz3 := r1.size
  replace r1 := r1.trans (rely_or (rely_or (rely_or r4)))
  obtain ⟨o, q1, q2, q3, q4⟩ := p1_2
  refine Walks.opskip (rest := []) q1 (wanted_none q4) hb fun w5 r5 => ?_
  have l45 := (r5.keep x1 (.inl (.inr rfl))).trans l4
  have hrun := run_storeK (e := a5.eval) q2 e5 e6 l45
  have i5 : ∀ x, ((((O x ∨ x = x2) ∨ x = x0) ∨ x = c) ∨ x = x1) → x < w5.heap.size := fun x hx => Nat.lt_of_lt_of_le (i4 x hx) r5.size
  have hgu : Guar NoSh (fun x => (((O x ∨ x = x2) ∨ x = x0) ∨ x = c) ∨ x = x1) w5 (fun x => (((O x ∨ x = x2) ∨ x = x0) ∨ x = c) ∨ x = x1) _ ((execOp a5.eval o).events Try.prog w5 #[]) := Guar.setCell (x := x1) (off := 0) (spot := none) (v := .chan (some c)) i5 (.inr rfl) (fun e he => by
    rw [hrun.2] at he
    have : e = ⟨.cell ⟨x1, 0, none⟩, true, false⟩ := by simpa using he
    exact .inl ⟨x1, 0, none, true, .inr rfl, this⟩)
  refine ⟨_, _, hrun.1, hgu, ?_⟩
  rw [q3, show a5.put none undef = a5 from rfl]
  have hne : ∀ y o ty f, w5.heap[y]? = some (.cells o ty f) → o.size = 2 → y ≠ x1 := fun y o ty f hy hs e => by
    rw [e, l45] at hy
    injection hy with hy
    injection hy with hy
    rw [← hy] at hs
    simp at hs
  have m1 := (r5.keep x2 (.inl (.inl (.inl (.inl (.inr rfl)))))).trans l1
  have m2 := (r5.keep x0 (.inl (.inl (.inl (.inr rfl))))).trans l2
  have m3 := (r5.keep c (.inl (.inl (.inr rfl)))).trans l3
  have hc1 : c ≠ x1 := fun e => by rw [e, l45] at m3; cases m3
  have n1 : (w5.setCell ⟨x1, 0, none⟩ (.chan (some c))).heap[x2]? = _ := (heap_set l45 0 (.chan (some c)) x2).trans ((if_neg (hne x2 _ _ _ m1 (by simp))).trans m1)
  have n2 : (w5.setCell ⟨x1, 0, none⟩ (.chan (some c))).heap[x0]? = _ := (heap_set l45 0 (.chan (some c)) x0).trans ((if_neg (hne x0 _ _ _ m2 (by simp))).trans m2)
  have n3 : (w5.setCell ⟨x1, 0, none⟩ (.chan (some c))).heap[c]? = _ := (heap_set l45 0 (.chan (some c)) c).trans ((if_neg hc1).trans m3)
  have n4 := set_one l45 (.chan (some c))
  have hx1 : w.heap.size ≤ x1 := Nat.le_trans hz3 g4
  have R : Rely O w (w5.setCell ⟨x1, 0, none⟩ (.chan (some c))) := by
    have r15 := r1.trans (rely_or (rely_or (rely_or (rely_or (rely_or r5)))))
    exact ⟨Nat.le_trans r15.size hgu.size, fun x hx => (heap_set l45 0 (.chan (some c)) x).trans ((if_neg (by have := hi x hx; omega)).trans (r15.keep x hx)), r15.tape, r15.os, r15.output⟩
  have i6 := hgu.inside
  refine Walks.ctl rfl (fun w => stepG_region_end) i6 ?_
  refine Walks.ctl rfl (fun w => stepG_seq) i6 ?_
  refine Walks.ctl rfl (fun w => stepG_region) i6 ?_
  rw [p_sizes.2.2.1]
  obtain ⟨o, q1, q2, q3, q4⟩ := p2_0
  have hrun := run_makeF (e := a5.eval) q2
  rw [e3, e5, e2] at hrun
  refine Walks.op0 (rest := [1]) q1 (wanted_none q4) hb i6 (fun w => (hrun w).1) (fun w => (hrun w).2) ?_
  rw [q3]
  generalize hF : Value.func (.func 83) #[] #[.pointer (some ⟨x0, 0, none⟩), .pointer (some ⟨x1, 0, none⟩), .pointer (some ⟨x2, 0, none⟩)] = FV
  have e7 : (a5.put (some 7) FV).eval (.tmp 7) = FV := put_self (by rw [hsz]; omega)
  replace e5 := (put_ne (a := a5) (v := FV) (show 7 ≠ 5 by omega)).trans e5
  replace hsz := (put_size (a := a5) (v := FV) (some 7)).trans hsz
  replace hd := (put_defers (a := a5) (v := FV) (some 7)).trans hd
  exact hk c x0 x1 x2 _ _ _ ⟨hsz, hd, e5, by rw [e7, ← hF], ⟨s, r, tm, n3⟩, n2, n4, n1⟩ R hcz i6 ⟨.inl (.inl (.inr rfl)), .inr rfl, .inl (.inl (.inl (.inr rfl))), .inl (.inr rfl), fun x hx => .inl (.inl (.inl (.inl hx)))⟩
set_option maxHeartbeats 2000000 in
theorem m_entry_at {Stop : Goroutine → (Nat → Prop) → World → Prop} {fc : Frame} {cs : List Frame} {n A B : Int} {w : World} {a0 : Act} (hsz : a0.tmps.size = 22) (hd : a0.defers = []) (e0 : a0.eval (.tmp 0) = .agg #[.int .i64 n, .int .i64 A]) (e1 : a0.eval (.tmp 1) = .agg #[.int .i64 n, .int .i64 B])
    (hk : ∀ (c x0 x1 x2 x4 : Nat) (a a2 : Act) (O : Nat → Prop) (w' : World), AtGo n A B c x0 x1 x2 x4 a a2 w' → Rely (fun x => x < w.heap.size) w w' → w.heap.size ≤ x4 → w.heap.size ≤ c → (∀ x, O x → x < w'.heap.size) → (O x0 ∧ O x1 ∧ O x2 ∧ O c ∧ O x4 ∧ ∀ x, x < w.heap.size → O x) →
      Walks Try.prog true NoSh Stop (G (pFr.at a2 (.inRegion p2 [1] :: .code (.seq (.region 3 p3 false) .ret) :: [])) (mFr.at a (.inRegion m1 [2, 3] :: .code (.seq (.region 2 m2 false) mTail) :: []) :: fc :: cs)) O w') :
    Walks Try.prog true NoSh Stop (G (mFr.at a0 [.code (.seq (.region 0 m0 false) (.seq (.region 1 m1 false) (.seq (.region 2 m2 false) mTail)))]) (fc :: cs)) (fun x => x < w.heap.size) w := by
  have hb : mFr.kind ≠ .early := by simp [mFr]
  have hb2 : pFr.kind ≠ .early := by simp [pFr]
  have hi : ∀ x, x < w.heap.size → x < w.heap.size := fun _ h => h
  refine Walks.ctl rfl (fun w => stepG_seq) hi ?_
  refine Walks.ctl rfl (fun w => stepG_region) hi ?_
  rw [m_sizes.1]
  -- box of the one
  obtain ⟨o, q1, q2, q3, q4⟩ := m0_0
  refine Walks.push1 (rest := [1, 2]) q1 q4 hb hi (v := fun g => .pointer (some ⟨g, 0, none⟩)) (run_boxS (n := n) (s := A) q2 e0) fun x2 w1 r1 g1 l1 i1 => ?_
  rw [q3]
  have e2 : (a0.put (some 2) (.pointer (some ⟨x2, 0, none⟩))).eval (.tmp 2) = .pointer (some ⟨x2, 0, none⟩) := put_self (by rw [hsz]; omega)
  replace e1 := (put_ne (a := a0) (v := .pointer (some ⟨x2, 0, none⟩)) (show 2 ≠ 1 by omega)).trans e1
  replace hsz := (put_size (a := a0) (v := .pointer (some ⟨x2, 0, none⟩)) (some 2)).trans hsz
  replace hd := (put_defers (a := a0) (v := .pointer (some ⟨x2, 0, none⟩)) (some 2)).trans hd
  clear e0
  generalize a0.put (some 2) (.pointer (some ⟨x2, 0, none⟩)) = a1 at hsz hd e1 e2 ⊢
  obtain ⟨o, q1, q2, q3, q4⟩ := m0_1
  refine Walks.push1 (rest := [2]) q1 q4 hb i1 (v := fun g => .pointer (some ⟨g, 0, none⟩)) (run_boxS (n := n) (s := B) q2 e1) fun x0 w2 r2 g2 l2 i2 => ?_
  rw [q3]
  have e3 : (a1.put (some 3) (.pointer (some ⟨x0, 0, none⟩))).eval (.tmp 3) = .pointer (some ⟨x0, 0, none⟩) := put_self (by rw [hsz]; omega)
  replace e2 := (put_ne (a := a1) (v := .pointer (some ⟨x0, 0, none⟩)) (show 3 ≠ 2 by omega)).trans e2
  replace hsz := (put_size (a := a1) (v := .pointer (some ⟨x0, 0, none⟩)) (some 3)).trans hsz
  replace hd := (put_defers (a := a1) (v := .pointer (some ⟨x0, 0, none⟩)) (some 3)).trans hd
  clear e1
  generalize a1.put (some 3) (.pointer (some ⟨x0, 0, none⟩)) = a2 at hsz hd e2 e3 ⊢
  replace l1 := (r2.keep x2 (.inr rfl)).trans l1
  replace r1 := r1.trans (rely_or r2)
  obtain ⟨o, q1, q2, q3, q4⟩ := m0_2
  refine Walks.push1 (rest := []) q1 q4 hb i2 (v := fun g => .pointer (some ⟨g, 0, none⟩)) (run_allocC q2) fun x4 w3 r3 g3 l3 i3 => ?_
  rw [q3]
  have e4 : (a2.put (some 4) (.pointer (some ⟨x4, 0, none⟩))).eval (.tmp 4) = .pointer (some ⟨x4, 0, none⟩) := put_self (by rw [hsz]; omega)
  replace e2 := (put_ne (a := a2) (v := .pointer (some ⟨x4, 0, none⟩)) (show 4 ≠ 2 by omega)).trans e2
  replace e3 := (put_ne (a := a2) (v := .pointer (some ⟨x4, 0, none⟩)) (show 4 ≠ 3 by omega)).trans e3
  replace hsz := (put_size (a := a2) (v := .pointer (some ⟨x4, 0, none⟩)) (some 4)).trans hsz
  replace hd := (put_defers (a := a2) (v := .pointer (some ⟨x4, 0, none⟩)) (some 4)).trans hd
  generalize a2.put (some 4) (.pointer (some ⟨x4, 0, none⟩)) = a3 at hsz hd e2 e3 e4 ⊢
  replace l1 := (r3.keep x2 (.inl (.inr rfl))).trans l1
  replace l2 := (r3.keep x0 (.inr rfl)).trans l2
  have hx4 : w.heap.size ≤ x4 := Nat.le_trans r1.size g3
  replace r1 := r1.trans (rely_or (rely_or r3))
  refine Walks.ctl rfl (fun w => stepG_region_end) i3 ?_
  refine Walks.ctl rfl (fun w => stepG_seq) i3 ?_
  refine Walks.ctl rfl (fun w => stepG_region) i3 ?_
  rw [m_sizes.2.1]
  obtain ⟨o, q1, q2, q3, q4⟩ := m1_0
  refine Walks.opread (rest := [1, 2, 3]) (v := .agg #[.int .i64 n, .int .i64 A]) q1 (wanted_none q4) hb i3 (fun w₂ hr => ?_) ?_
  · have hl := (hr.keep x2 (.inl (.inl (.inl (.inr rfl))))).trans l1
    obtain ⟨c0, c1⟩ := cells_of hl
    obtain ⟨t1, t2⟩ := run_load (P := Try.prog) (e := a3.eval) (v := .agg #[.int .i64 n, .int .i64 A]) (es := #[⟨.cell ⟨x2, 0, none⟩, false, false⟩, ⟨.cell ⟨x2, 1, none⟩, false, false⟩]) q2 (by rw [e2]; exact load_set x2 _ _ w₂ c0 c1) (by rw [e2]; exact load_set_ev x2 _ _ w₂ c0 c1)
    refine ⟨t1, ?_⟩
    rw [t2]
    refine load_evs (y := x2) ?_
    exact (.inl (.inl (.inr rfl)))
  rw [q3]
  have e8 : (a3.put (some 8) (.agg #[.int .i64 n, .int .i64 A])).eval (.tmp 8) = .agg #[.int .i64 n, .int .i64 A] := put_self (by rw [hsz]; omega)
  replace e3 := (put_ne (a := a3) (v := .agg #[.int .i64 n, .int .i64 A]) (show 8 ≠ 3 by omega)).trans e3
  replace e4 := (put_ne (a := a3) (v := .agg #[.int .i64 n, .int .i64 A]) (show 8 ≠ 4 by omega)).trans e4
  replace hsz := (put_size (a := a3) (v := .agg #[.int .i64 n, .int .i64 A]) (some 8)).trans hsz
  replace hd := (put_defers (a := a3) (v := .agg #[.int .i64 n, .int .i64 A]) (some 8)).trans hd
  clear e2
  generalize a3.put (some 8) (.agg #[.int .i64 n, .int .i64 A]) = a4 at hsz hd e3 e4 e8 ⊢
  obtain ⟨o, q1, q2, q3, q4⟩ := m1_1
  refine Walks.opread (rest := [2, 3]) (v := .agg #[.int .i64 n, .int .i64 B]) q1 (wanted_none q4) hb i3 (fun w₂ hr => ?_) ?_
  · have hl := (hr.keep x0 (.inl (.inl (.inr rfl)))).trans l2
    obtain ⟨c0, c1⟩ := cells_of hl
    obtain ⟨t1, t2⟩ := run_load (P := Try.prog) (e := a4.eval) (v := .agg #[.int .i64 n, .int .i64 B]) (es := #[⟨.cell ⟨x0, 0, none⟩, false, false⟩, ⟨.cell ⟨x0, 1, none⟩, false, false⟩]) q2 (by rw [e3]; exact load_set x0 _ _ w₂ c0 c1) (by rw [e3]; exact load_set_ev x0 _ _ w₂ c0 c1)
    refine ⟨t1, ?_⟩
    rw [t2]
    refine load_evs (y := x0) ?_
    exact (.inl (.inr rfl))
  rw [q3]
  have e9 : (a4.put (some 9) (.agg #[.int .i64 n, .int .i64 B])).eval (.tmp 9) = .agg #[.int .i64 n, .int .i64 B] := put_self (by rw [hsz]; omega)
  replace e8 := (put_ne (a := a4) (v := .agg #[.int .i64 n, .int .i64 B]) (show 9 ≠ 8 by omega)).trans e8
  replace e4 := (put_ne (a := a4) (v := .agg #[.int .i64 n, .int .i64 B]) (show 9 ≠ 4 by omega)).trans e4
  replace hsz := (put_size (a := a4) (v := .agg #[.int .i64 n, .int .i64 B]) (some 9)).trans hsz
  replace hd := (put_defers (a := a4) (v := .agg #[.int .i64 n, .int .i64 B]) (some 9)).trans hd
  clear e3
  generalize a4.put (some 9) (.agg #[.int .i64 n, .int .i64 B]) = a5 at hsz hd e4 e8 e9 ⊢
  obtain ⟨o, q1, ⟨ats, q2⟩, q3, q4⟩ := m1_2'
  have hrun := run_call (P := Try.prog) (e := a5.eval) q2 rfl Try.func67 (by kernel_rfl) (by simp [Try.f67])
  have hargs : (#[Operand.tmp 8, .tmp 9] : Array Operand).map a5.eval = #[.agg #[.int .i64 n, .int .i64 A], .agg #[.int .i64 n, .int .i64 B]] := by simp [e8, e9]
  rw [hargs] at hrun
  refine Walks.enter (rest := [3]) q1 (wanted_none q4) hb i3 (fun w => (hrun w).1) (fun w => (hrun w).2) ?_
  rw [enter_p, pBody_eq]
  refine p_entry_at (n := n) (A := A) (B := B) i3 (pAct_facts _ _).1 (pAct_facts _ _).2.1 (pAct_facts _ _).2.2.1 (pAct_facts _ _).2.2.2 fun c y0 y1 y2 b2 O' w' hg R hcz iO hO => ?_
  refine hk c y0 y1 y2 x4 a5 b2 O' w' ⟨hsz, hd, e4, hg.bsz, hg.bdf, hg.b5, hg.b7, hg.hc, hg.h0, hg.h1, hg.h2, (R.keep x4 (.inr rfl)).trans l3⟩ (r1.trans (rely_or (rely_or (rely_or R)))) hx4 (Nat.le_trans r1.size hcz) iO ⟨hO.1, hO.2.1, hO.2.2.1, hO.2.2.2.1, hO.2.2.2.2 x4 (.inr rfl), fun x hx => hO.2.2.2.2 x (.inl (.inl (.inl hx)))⟩
theorem m_entry {Stop : Goroutine → (Nat → Prop) → World → Prop} {fc : Frame} {cs : List Frame} {n A B : Int} {w : World}
    (hk : ∀ (c x0 x1 x2 x4 : Nat) (a a2 : Act) (O : Nat → Prop) (w' : World), AtGo n A B c x0 x1 x2 x4 a a2 w' → Rely (fun x => x < w.heap.size) w w' → w.heap.size ≤ x4 → w.heap.size ≤ c → (∀ x, O x → x < w'.heap.size) → (O x0 ∧ O x1 ∧ O x2 ∧ O c ∧ O x4 ∧ ∀ x, x < w.heap.size → O x) →
      Walks Try.prog true NoSh Stop (G (pFr.at a2 (.inRegion p2 [1] :: .code (.seq (.region 3 p3 false) .ret) :: [])) (mFr.at a (.inRegion m1 [2, 3] :: .code (.seq (.region 2 m2 false) mTail) :: []) :: fc :: cs)) O w') :
    Walks Try.prog true NoSh Stop (G (Frame.enter Try.prog 42 #[.agg #[.int .i64 n, .int .i64 A], .agg #[.int .i64 n, .int .i64 B]] .normal) (fc :: cs)) (fun x => x < w.heap.size) w := by
  rw [enter_m, mBody_eq]
  exact m_entry_at (a0 := mAct (.agg #[.int .i64 n, .int .i64 A]) (.agg #[.int .i64 n, .int .i64 B])) (mAct_facts _ _).1 (mAct_facts _ _).2.1 (mAct_facts _ _).2.2.1 (mAct_facts _ _).2.2.2 hk
end Go.Proofs.Ytjgkignnfkbeaaa

/-
  From nearestTo's entry to its return, in company: the go statement, both goroutines, and back.
-/
namespace Go.Proofs.Ytjgkignnfkbeaaa
open Go Go.Conc Sim
set_option linter.unusedVariables false

theorem run_goF {e : Operand → Value} {o : Oper} {ats : Array TypeId} {f : FuncId} {c : Array Value} (h : o.op = .go { callee := .value (.tmp 7), args := #[], argTypes := ats }) (he : e (.tmp 7) = .func (.func f) #[] c) (w : World) :
    (execOp e o).run Try.prog w = .ok (.spawn { target := .fn (.func f) c, args := #[] }) w ∧ (execOp e o).events Try.prog w #[] = #[] := by
  unfold execOp
  rw [h]
  constructor
  · simp [resolve, he, Deferred.ofValue, bind, Sem.bind, pure, Sem.run]
  · simp [resolve, he, Deferred.ofValue, bind, Sem.bind, pure, Sem.events, Sem.runT, -Sem.runT_eq]
theorem cell_of_one {w : World} {b : Nat} {v : Value} {t : TypeId} (h : w.heap[b]? = some (.cells #[v] t (0, 0))) : w.cell? ⟨b, 0, none⟩ = some v := by simp [World.cell?, h]
theorem at_go {F : FuncId → Bool} {K0 : FuncId} (hG0 : Sim.Good Try.prog Try.prog F K0) (hK0 : F K0 = false) (hFc : F 66 = true) (hFl : F 43 = true) (hFf : F 84 = true) (hFn : F 58 = true)
    {n A B : Int} {R : Nat → Value → World → Prop} {far : Nat → Int} {m : Nat} (hlen : m + 1 ≤ 4096) (hR : ∀ i v w τ d, R i v w → R i v (on w τ d))
    (HC : ∀ w, Calls Try.prog 66 #[.agg #[.int .i64 n, .int .i64 B]] w fun e w' => e = .returned (.int .i64 ((m + 1 : Nat) : Int)))
    (HL : ∀ i, i < m + 1 → ∀ w, Calls Try.prog 43 #[.agg #[.int .i64 n, .int .i64 B], .int .i64 (i : Int)] w fun e w' => ∃ v, e = .returned v ∧ R i v w')
    (HF : ∀ i, i < m + 1 → ∀ v w, R i v w → Calls Try.prog 84 #[.agg #[.int .i64 n, .int .i64 A], v] w fun e w' => e = .returned (.int .i64 (far i)))
    (HN : ∀ (u v j f : Int) (w : World), w.cell? ⟨0, 0, none⟩ = some (.int .i64 j) → w.cell? ⟨0, 1, none⟩ = some (.int .i64 f) → Calls Try.prog 58 #[.agg #[.int .i64 u, .int .i64 v], .slice (some ⟨0, 0, none⟩) 1 1] w fun e w' => e = .returned (.agg #[.int .i64 (nearC (u, v) (j, f)).1, .int .i64 (nearC (u, v) (j, f)).2]))
    {Stop : Goroutine → (Nat → Prop) → World → Prop} {fc : Frame} {cs : List Frame} {c x0 x1 x2 x4 : Nat} {a a2 : Act} {O : Nat → Prop} {w0 w : World} (h : AtGo n A B c x0 x1 x2 x4 a a2 w) (hr : Rely (fun x => x < w0.heap.size) w0 w) (hx4 : w0.heap.size ≤ x4) (hcz : w0.heap.size ≤ c)
    (hstop : ∀ O w', Rely (fun x => x < w0.heap.size) w0 w' → Stop (G (fc.finish (.agg #[.int .i64 (foldC far (((0 : Nat) : Int), far 0) 1 m).1, .int .i64 (foldC far (((0 : Nat) : Int), far 0) 1 m).2])) cs) O w') :
    AtGoW Try.prog Stop (G (pFr.at a2 (.inRegion p2 [1] :: .code (.seq (.region 3 p3 false) .ret) :: [])) (mFr.at a (.inRegion m1 [2, 3] :: .code (.seq (.region 2 m2 false) mTail) :: []) :: fc :: cs)) O w := by
  have hb : mFr.kind ≠ .early := by simp [mFr]
  have hb2 : pFr.kind ≠ .early := by simp [pFr]
  obtain ⟨s, r, tm, hc⟩ := h.hc
  obtain ⟨o, q1, ⟨ats, q2⟩, q4, q5⟩ := p2_1
  have hrun := run_goF (e := a2.eval) q2 h.b7
  have nc : ∀ {y : Nat} {q : Array Value} {t : TypeId} {f : Nat × Nat}, w.heap[y]? = some (.cells q t f) → y ≠ c := fun hy e => by rw [e, hc] at hy; cases hy
  have s0 : x0 < w.heap.size ∧ x0 ≠ c := ⟨lt_heap h.h0, nc h.h0⟩
  have s1 : x1 < w.heap.size ∧ x1 ≠ c := ⟨lt_heap h.h1, nc h.h1⟩
  have s2 : x2 < w.heap.size ∧ x2 ≠ c := ⟨lt_heap h.h2, nc h.h2⟩
  have s4 : x4 < w.heap.size ∧ x4 ≠ c := ⟨lt_heap h.h4, nc h.h4⟩
  refine ⟨rfl, c, pvs far 0 (m + 1), s, r, tm, hc, fun d => ⟨_, wChild x0 x1 x2, _, stepG_spawn (rest := []) q1 (wanted_none q4) hb2 (hrun (w.at d)).1 rfl, fun e he => ?_, ?_, ?_⟩⟩
  · have := mem_listed he
    rw [(hrun (w.at d)).2] at this
    simp at this
  · have ho : a2.put o.dst undef = a2 := by rw [q5]; rfl
    rw [ho, recvsW_eq]
    refine m_after (c := c) (x1 := x1) (x4 := x4) (O := NoSh) (Sh := fun x => x < w.heap.size ∧ x ≠ c) s1 hb rfl rfl h.asz h.adf h.a4 h.bsz h.bdf h.b5 (cell_of_one (w := w.at d) h.h1) (fun x hx => hx.elim) fun a' w1 g1 g2 g3 g4 g5 => ?_
    rw [← recvsW_eq]
    refine m_first (c := c) (x4 := x4) (w0 := w.at d) (m := m) hG0 hK0 hFn HN hb (fun y6 b' O2 w2 z k1 k2 k3 k4 k5 k6 k7 => ?_) g1 g2 g3 g4 (fun x hx => hx.elim) (fun x hx => ⟨Nat.lt_of_lt_of_le hx.1 g5.size, id⟩) (g5.sub fun x hx => .inr hx)
    refine ⟨fun x => x < w2.heap.size, m_last (c := c) (x4 := x4) (y6 := y6) rfl rfl k1 k2 k4 ((k7.keep x4 s4).trans h.h4) fun w3 k8 => ?_⟩
    refine .stop fun w4 k9 => hstop _ w4 ?_
    have r1 : Rely (fun x => x < w0.heap.size) w (w.at d) := rely_at _ w d
    have hz := hr.size
    have r2 : Rely (fun x => x < w0.heap.size) (w.at d) w2 := k7.sub fun x hx => ⟨Nat.lt_of_lt_of_le hx hz, by omega⟩
    have hz2 : w.heap.size ≤ w2.heap.size := k7.size
    have r3 : Rely (fun x => x < w0.heap.size) w2 w3 := k8.sub fun x hx => ⟨by omega, by omega⟩
    have hz3 := k8.size
    have r4 : Rely (fun x => x < w0.heap.size) w3 w4 := k9.sub fun x hx => .inl (by show x < w2.heap.size; omega)
    exact (((hr.trans r1).trans r2).trans r3).trans r4
  · exact w_child hG0 hK0 hFc hFl hFf (Sh := fun x => x < w.heap.size ∧ x ≠ c) s0 s1 s2 hlen hR HC HL HF (w := w.at d) (fun x hx => hx.1) ⟨(cells_of (w := w.at d) h.h0).1, (cells_of (w := w.at d) h.h0).2, cell_of_one (w := w.at d) h.h1, (cells_of (w := w.at d) h.h2).1, (cells_of (w := w.at d) h.h2).2⟩
end Go.Proofs.Ytjgkignnfkbeaaa

/-
  The program's nearest, of two.
-/
namespace Go.Proofs.Ytjgkignnfkbeaaa
open Go.RowKit
set_option linter.unusedVariables false
set_option maxRecDepth 20000

set_option maxHeartbeats 800000 in
theorem near_one (u v j f : Int) (w : World) (c0 : w.cell? ⟨0, 0, none⟩ = some (.int .i64 j)) (c1 : w.cell? ⟨0, 1, none⟩ = some (.int .i64 f)) :
    Calls Try.prog 58 #[.agg #[.int .i64 u, .int .i64 v], .slice (some ⟨0, 0, none⟩) 1 1] w fun e w' => e = .returned (.agg #[.int .i64 (nearC (u, v) (j, f)).1, .int .i64 (nearC (u, v) (j, f)).2]) := by
  have h0 : 0 < w.heap.size := block_lt_of_cell c0
  by_cases h : f < v
  · have hn : nearC (u, v) (j, f) = (j, f) := by unfold nearC; rw [if_pos h]
    rw [hn]
    go_enter Try.func58, Try.ntmps58
    go_wp2
    refine wp_loop_rounds 2 ?_
    rw [rounds_succ]
    go_wp2
    rw [rounds_succ]
    go_wp2
    exact bodyPost_ret (v := .agg #[.int .i64 j, .int .i64 f]) (by simp [results, Try.results58, go_sem]) rfl rfl
  · have hn : nearC (u, v) (j, f) = (u, v) := by unfold nearC; rw [if_neg h]
    rw [hn]
    go_enter Try.func58, Try.ntmps58
    go_wp2
    refine wp_loop_rounds 2 ?_
    rw [rounds_succ]
    go_wp2
    rw [rounds_succ]
    go_wp2
    exact bodyPost_ret (v := .agg #[.int .i64 u, .int .i64 v]) (by simp [results, Try.results58, go_sem]) rfl rfl
/-- what nearestTo gives -/
def nearP (n A B : Int) : Int × Int := foldC (fun i => (farTo n.toNat (tonesTo A.toNat n.toNat) (rotL (tonesTo B.toNat n.toNat) i) (tonesTo A.toNat n.toNat).length : Int)) (((0 : Nat) : Int), (farTo n.toNat (tonesTo A.toNat n.toNat) (rotL (tonesTo B.toNat n.toNat) 0) (tonesTo A.toNat n.toNat).length : Int)) 1 ((tonesTo A.toNat n.toNat).length - 1)
open Go.Conc Sim in
/-- in company: from nearestTo's entry to its return -/
theorem near_comes {F : FuncId → Bool} {K0 : FuncId} (hG0 : Sim.Good Try.prog Try.prog F K0) (hK0 : F K0 = false) (hFc : F 66 = true) (hFl : F 43 = true) (hFf : F 84 = true) (hFn : F 58 = true)
    {n A B : Int} (hA : Tic.Valid n A) (hB : Tic.Valid n B) (hl : (tonesTo A.toNat n.toNat).length = (tonesTo B.toNat n.toNat).length) (h0 : 0 < (tonesTo A.toNat n.toNat).length) (hwt : Tic.wt 12 B.toNat = (tonesTo B.toNat n.toNat).length)
    {fc : Frame} {cs : List Frame} {w : World} {gs : Array Goroutine} {sl : Option (Nat × Nat)} {t : Trace} {q : Nat → Nat}
    (hg : gs[0]? = some (G (Frame.enter Try.prog 42 #[.agg #[.int .i64 n, .int .i64 A], .agg #[.int .i64 n, .int .i64 B]] .normal) (fc :: cs))) (lv : Leavers Try.prog t gs q) (past : PastW t) :
    Comes' Try.prog (Stands Try.prog fun g _ w' => g = G (fc.finish (.agg #[.int .i64 (nearP n A B).1, .int .i64 (nearP n A B).2])) cs ∧ Rely (fun x => x < w.heap.size) w w') (crowd gs w sl) t := by
  have hle := tonesTo_le B.toNat n.toNat
  have hn12 : n.toNat ≤ 12 := by have := hA.2.1; omega
  have hBn : B.toNat < 4096 := by have := hB.lt; omega
  have hB0 := hB.2.2.1
  obtain ⟨m, hm⟩ : ∃ m, (tonesTo A.toNat n.toNat).length = m + 1 := ⟨(tonesTo A.toNat n.toNat).length - 1, by omega⟩
  refine goes_on (m_entry (Stop := AtGoW Try.prog _) fun c x0 x1 x2 x4 a a2 O w' hat hr h4 hc hin hO => .stop fun w1 hr1 => ?_) hg lv past
  have hr' : Rely O w' w1 := hr1.sub fun x hx => .inl hx
  have hat1 := hat.rely hr' ⟨hO.1, hO.2.1, hO.2.2.1, hO.2.2.2.1, hO.2.2.2.2.1⟩
  refine at_go (n := n) (A := A) (B := B) (R := fun i v w => ∃ B', Row w B' v (rotL (tonesTo B.toNat n.toNat) i)) (far := fun i => (farTo n.toNat (tonesTo A.toNat n.toNat) (rotL (tonesTo B.toNat n.toNat) i) (tonesTo A.toNat n.toNat).length : Int)) (m := m) hG0 hK0 hFc hFl hFf hFn (by omega) (fun i v w τ d h => h) (fun w => ?_) (fun i hi w => ?_) (fun i hi v w hR => ?_) near_one hat1 (hr.trans (hr'.sub fun x hx => hO.2.2.2.2.2 x hx)) h4 hc fun O' w2 hr2 => ?_
  · refine (count_any n B B.toNat w (by omega) hBn).mono ?_
    rintro e w2 ⟨rfl, _⟩
    rw [hwt, ← hl, hm]
  · refine (listFrom_any n B i w hB (by omega)).mono ?_
    rintro e w2 ⟨v, rfl, hrow, _⟩
    exact ⟨v, rfl, _, hrow⟩
  · obtain ⟨B', hrow⟩ := hR
    have hrl : (rotL (tonesTo B.toNat n.toNat) i).length = (tonesTo A.toNat n.toNat).length := by rw [rotL_len _ (by omega), hl]
    refine (far_any n A v B' _ w hA hrow hrl (ton_rot (ton_tones _ _) (by omega))).mono ?_
    rintro e w2 ⟨rfl, _⟩
    rw [hrl]
  · unfold nearP
    rw [hm, Nat.add_sub_cancel]
    exact ⟨rfl, hr2⟩
end Go.Proofs.Ytjgkignnfkbeaaa
