/-
  Two runs of one code, over two heaps: values are related by a map of some blocks. Here: the relation of values and worlds; the relation of what an operation does; its laws.
-/
import Derived.Conc.Events
import Derived.Control
import Derived.Conc.Own
import Derived.Conc.Own3
namespace Go.Proofs.Ytjgkignnfkbeaaa.Sim
open Go
set_option linter.unusedVariables false

/-- a map of some blocks -/
abbrev Ren := Nat → Option Nat
def le (ρ σ : Ren) : Prop := ∀ a x, ρ a = some x → σ a = some x
theorem le_refl (ρ : Ren) : le ρ ρ := fun _ _ h => h
theorem le_trans {ρ σ τ : Ren} (h : le ρ σ) (k : le σ τ) : le ρ τ := fun a x e => k a x (h a x e)

/-- the lone run may have one special block, never written: what it holds from a place on stands in the other run's block (obj) at the same places, amid other things -/
class Low where
  on : Bool
  lo : Nat
  idx : Nat
  obj : Obj
/-- the type of a special block's cells: none -/
def badT : TypeId := 1000000000
/-- that type is none of the program's -/
class NoBad (P : Program) : Prop where
  bad : P.info? badT = none
section
variable [Low]
def Spc (b : Nat) : Prop := Low.on = true ∧ b = Low.idx
/-- a place of a block that both know -/
def At (ρ : Ren) (b x off : Nat) : Prop := ρ b = some x ∧ (Spc b → Low.lo ≤ off)
theorem At.mono {ρ σ : Ren} (h : le ρ σ) {b x off : Nat} (r : At ρ b x off) : At σ b x off := ⟨h _ _ r.1, r.2⟩
theorem At.add {ρ : Ren} {b x off : Nat} (r : At ρ b x off) (n : Nat) : At ρ b x (off + n) := ⟨r.1, fun h => Nat.le_trans (r.2 h) (Nat.le_add_right _ _)⟩
theorem at_low {ρ : Ren} {b x : Nat} (h : ρ b = some x) (hn : ¬ Spc b) (off : Nat) : At ρ b x off := ⟨h, fun q => absurd q hn⟩
end
variable [Low]

inductive VRel (ρ : Ren) : Value → Value → Prop
  | bool (b : Bool) : VRel ρ (.bool b) (.bool b)
  | int (k : IntKind) (n : Int) : VRel ρ (.int k n) (.int k n)
  | string (s : ByteArray) : VRel ρ (.string s) (.string s)
  | pnil : VRel ρ (.pointer none) (.pointer none)
  | ptr {b x : Nat} (off : Nat) (spot : Option Nat) (h : At ρ b x off) : VRel ρ (.pointer (some ⟨b, off, spot⟩)) (.pointer (some ⟨x, off, spot⟩))
  | snil (l c : Nat) : VRel ρ (.slice none l c) (.slice none l c)
  | slice {b x : Nat} (off : Nat) (spot : Option Nat) (l c : Nat) (h : At ρ b x off) : VRel ρ (.slice (some ⟨b, off, spot⟩) l c) (.slice (some ⟨x, off, spot⟩) l c)
  | agg {a a' : Array Value} (hs : a.size = a'.size) (h : ∀ (i : Nat) (h1 : i < a.size) (h2 : i < a'.size), VRel ρ a[i] a'[i]) : VRel ρ (.agg a) (.agg a')
  | tuple {a a' : Array Value} (hs : a.size = a'.size) (h : ∀ (i : Nat) (h1 : i < a.size) (h2 : i < a'.size), VRel ρ a[i] a'[i]) : VRel ρ (.tuple a) (.tuple a')
  | fn (f : FuncId) : VRel ρ (.func (.func f) #[] #[]) (.func (.func f) #[] #[])

def ARel (ρ : Ren) (a a' : Array Value) : Prop := a.size = a'.size ∧ ∀ (i : Nat) (h1 : i < a.size) (h2 : i < a'.size), VRel ρ a[i] a'[i]

theorem VRel.mono {ρ σ : Ren} (h : le ρ σ) {v v' : Value} (r : VRel ρ v v') : VRel σ v v' := by
  induction r with
  | bool b => exact .bool b
  | int k n => exact .int k n
  | string s => exact .string s
  | pnil => exact .pnil
  | ptr off spot e => exact .ptr off spot (e.mono h)
  | snil l c => exact .snil l c
  | slice off spot l c e => exact .slice off spot l c (e.mono h)
  | agg hs _ ih => exact .agg hs ih
  | tuple hs _ ih => exact .tuple hs ih
  | fn f => exact .fn f
theorem ARel.mono {ρ σ : Ren} (h : le ρ σ) {a a' : Array Value} (r : ARel ρ a a') : ARel σ a a' := ⟨r.1, fun i h1 h2 => (r.2 i h1 h2).mono h⟩

section
variable {ρ : Ren} {a a' b b' : Array Value} {v v' : Value}
theorem undef_rel : VRel ρ undef undef := .tuple rfl (fun i h => by simp at h)
theorem ARel.getD (h : ARel ρ a a') (i : Nat) : VRel ρ (a.getD i undef) (a'.getD i undef) := by
  by_cases hi : i < a.size
  · have hi' : i < a'.size := h.1 ▸ hi
    simp only [Array.getD_eq_getD_getElem?, Array.getElem?_eq_getElem hi, Array.getElem?_eq_getElem hi', Option.getD_some]
    exact h.2 i hi hi'
  · have hi' : ¬ i < a'.size := h.1 ▸ hi
    simp only [Array.getD_eq_getD_getElem?, Array.getElem?_eq_none (Nat.le_of_not_lt hi), Array.getElem?_eq_none (Nat.le_of_not_lt hi'), Option.getD_none]
    exact undef_rel
theorem ARel.get? (h : ARel ρ a a') (i : Nat) : (a[i]? = none ∧ a'[i]? = none) ∨ ∃ v v', a[i]? = some v ∧ a'[i]? = some v' ∧ VRel ρ v v' := by
  by_cases hi : i < a.size
  · have hi' : i < a'.size := h.1 ▸ hi
    exact .inr ⟨_, _, Array.getElem?_eq_getElem hi, Array.getElem?_eq_getElem hi', h.2 i hi hi'⟩
  · have hi' : ¬ i < a'.size := h.1 ▸ hi
    exact .inl ⟨Array.getElem?_eq_none (Nat.le_of_not_lt hi), Array.getElem?_eq_none (Nat.le_of_not_lt hi')⟩
theorem arel_of_get? (hs : a.size = a'.size) (h : ∀ (i : Nat) (v v' : Value), a[i]? = some v → a'[i]? = some v' → VRel ρ v v') : ARel ρ a a' :=
  ⟨hs, fun i h1 h2 => h i _ _ (Array.getElem?_eq_getElem h1) (Array.getElem?_eq_getElem h2)⟩
theorem ARel.at (h : ARel ρ a a') {i : Nat} {v v' : Value} (e : a[i]? = some v) (e' : a'[i]? = some v') : VRel ρ v v' := by
  rcases h.get? i with ⟨n, _⟩ | ⟨x, x', h1, h2, h3⟩
  · rw [n] at e; cases e
  · rw [h1] at e; rw [h2] at e'; cases e; cases e'; exact h3
theorem ARel.nil : ARel ρ #[] #[] := ⟨rfl, fun i h => by simp at h⟩
theorem ARel.push (h : ARel ρ a a') (hv : VRel ρ v v') : ARel ρ (a.push v) (a'.push v') := by
  refine arel_of_get? (by simp [h.1]) fun i x x' e e' => ?_
  rw [Array.getElem?_push] at e e'
  rw [← h.1] at e'
  split at e
  · rename_i q
    rw [if_pos q] at e'
    cases e; cases e'; exact hv
  · rename_i q
    rw [if_neg q] at e'
    exact h.at e e'
theorem ARel.append (h : ARel ρ a a') (k : ARel ρ b b') : ARel ρ (a ++ b) (a' ++ b') := by
  refine arel_of_get? (by simp [h.1, k.1]) fun i x x' e e' => ?_
  rw [Array.getElem?_append] at e e'
  rw [← h.1] at e'
  split at e
  · rename_i q
    rw [if_pos q] at e'
    exact h.at e e'
  · rename_i q
    rw [if_neg q] at e'
    exact k.at e e'
theorem ARel.set (h : ARel ρ a a') (i : Nat) (hv : VRel ρ v v') : ARel ρ (a.setIfInBounds i v) (a'.setIfInBounds i v') := by
  refine arel_of_get? (by simp [h.1]) fun j x x' e e' => ?_
  rw [Array.getElem?_setIfInBounds] at e e'
  rw [← h.1] at e'
  split at e
  · rename_i q
    rw [if_pos q] at e'
    split at e
    · rename_i q2
      rw [if_pos q2] at e'
      cases e; cases e'; exact hv
    · cases e
  · rename_i q
    rw [if_neg q] at e'
    exact h.at e e'
theorem ARel.replicate (n : Nat) (hv : VRel ρ v v') : ARel ρ (Array.replicate n v) (Array.replicate n v') := by
  refine arel_of_get? (by simp) fun j x x' e e' => ?_
  rw [Array.getElem?_replicate] at e e'
  split at e
  · rename_i q
    rw [if_pos q] at e'
    cases e; cases e'; exact hv
  · cases e
theorem ARel.extract (h : ARel ρ a a') (i j : Nat) : ARel ρ (a.extract i j) (a'.extract i j) := by
  refine arel_of_get? (by simp [h.1]) fun k x x' e e' => ?_
  rw [Array.getElem?_extract] at e e'
  rw [← h.1] at e'
  split at e
  · rename_i q
    rw [if_pos q] at e'
    exact h.at e e'
  · cases e
theorem ARel.one (hv : VRel ρ v v') : ARel ρ #[v] #[v'] := ARel.push ARel.nil hv
theorem ARel.two {u u' : Value} (hu : VRel ρ u u') (hv : VRel ρ v v') : ARel ρ #[u, v] #[u', v'] := ARel.push (ARel.one hu) hv
theorem ARel.agg (h : ARel ρ a a') : VRel ρ (.agg a) (.agg a') := .agg h.1 h.2
theorem ARel.tuple (h : ARel ρ a a') : VRel ρ (.tuple a) (.tuple a') := .tuple h.1 h.2
theorem VRel.cells (h : VRel ρ v v') : ARel ρ v.cells v'.cells := by
  cases h with
  | agg hs h => exact ⟨hs, h⟩
  | bool b => exact ARel.one (.bool b)
  | int k n => exact ARel.one (.int k n)
  | string s => exact ARel.one (.string s)
  | pnil => exact ARel.one .pnil
  | ptr off spot e => exact ARel.one (.ptr off spot e)
  | snil l c => exact ARel.one (.snil l c)
  | slice off spot l c e => exact ARel.one (.slice off spot l c e)
  | tuple hs h => exact ARel.one (.tuple hs h)
  | fn f => exact ARel.one (.fn f)
end

/-! ### worlds -/
/-- the world with another tape -/
def on (w : World) (τ : Nat → Question → Nat) (d : Nat) : World := { w with tape := τ, drawn := d }

/-- an address of both runs -/
def AddrRel (ρ : Ren) (a a' : Addr) : Prop := At ρ a.block a'.block a.off ∧ a.off = a'.off ∧ a.spot = a'.spot
theorem AddrRel.mono {ρ σ : Ren} (hl : le ρ σ) {a a' : Addr} (h : AddrRel ρ a a') : AddrRel σ a a' := ⟨h.1.mono hl, h.2⟩
theorem AddrRel.add {ρ : Ren} {a a' : Addr} (h : AddrRel ρ a a') (n : Nat) : AddrRel ρ (a.add n) (a'.add n) := by
  unfold Addr.add
  split
  · exact h
  · exact ⟨h.1.add n, by simp [h.2.1], rfl⟩
theorem AddrRel.ptr {ρ : Ren} {a a' : Addr} (h : AddrRel ρ a a') : VRel ρ (.pointer (some a)) (.pointer (some a')) := by
  obtain ⟨b, o, s⟩ := a
  obtain ⟨x, o', s'⟩ := a'
  obtain ⟨h1, h2, h3⟩ := h
  simp only at h1 h2 h3
  subst h2 h3
  exact .ptr o s h1
theorem AddrRel.slice {ρ : Ren} {a a' : Addr} (h : AddrRel ρ a a') (l c : Nat) : VRel ρ (.slice (some a) l c) (.slice (some a') l c) := by
  obtain ⟨b, o, s⟩ := a
  obtain ⟨x, o', s'⟩ := a'
  obtain ⟨h1, h2, h3⟩ := h
  simp only at h1 h2 h3
  subst h2 h3
  exact .slice o s l c h1

structure WRel (ρ : Ren) (w W : World) : Prop where
  inj : ∀ a b x, ρ a = some x → ρ b = some x → a = b
  blocks : ∀ (a x : Nat), ρ a = some x → ¬ Spc a → (∃ (c c' : Array Value) (e : TypeId) (f : Nat × Nat), w.heap[a]? = some (Obj.cells c e (0, 0)) ∧ W.heap[x]? = some (Obj.cells c' e f) ∧ ARel ρ c c' ∧ ∀ off, ¬ (f.1 ≤ off ∧ off < f.2)) ∨
    ∃ (p p' : Addr) (l : Bool), w.heap[a]? = some (Obj.number p l) ∧ W.heap[x]? = some (Obj.number p' l) ∧ AddrRel ρ p p'
  special : ∀ (a x : Nat), ρ a = some x → Spc a → ∃ (c c' : Array Value) (e : TypeId) (f : Nat × Nat), w.heap[a]? = some (Obj.cells c badT (0, c.size)) ∧ W.heap[x]? = some (Obj.cells c' e f) ∧ (x ≠ Low.idx → Obj.cells c' e f = Low.obj) ∧ ∀ o, Low.lo ≤ o → o < c.size → ∃ v v', c[o]? = some v ∧ c'[o]? = some v' ∧ VRel ρ v v'
  grd : Low.on = true → Low.idx < w.heap.size
  all : ∀ (a : Nat) (o : Obj), w.heap[a]? = some o → (∃ (c : Array Value) (e : TypeId) (f : Nat × Nat), o = Obj.cells c e f) ∨ ∃ (p : Addr) (l : Bool), o = Obj.number p l
  tape : w.tape = W.tape
  drawn : w.drawn = W.drawn

/-- what a step of the second run does to its world, and what it lists -/
structure Mild (ρ σ : Ren) (W W' : World) (ev : Array Event) : Prop where
  le : le ρ σ
  size : W.heap.size ≤ W'.heap.size
  keep : ∀ x, x < W.heap.size → (∀ a, ρ a ≠ some x) → W'.heap[x]? = W.heap[x]?
  new : ∀ a x, σ a = some x → ρ a = some x ∨ W.heap.size ≤ x
  os : W'.os = W.os
  output : W'.output = W.output
  tape : W'.tape = W.tape
  ev : ∀ e ∈ ev, (∃ a x off spot wr, σ a = some x ∧ e = ⟨.cell ⟨x, off, spot⟩, wr, false⟩) ∨ (∃ a x, σ a = some x ∧ e = ⟨.obj x, false, false⟩) ∨ e = ⟨.mark .noRoom, false, true⟩

omit [Low] in
theorem Mild.refl (ρ : Ren) (W : World) : Mild ρ ρ W W #[] := ⟨le_refl ρ, Nat.le_refl _, fun _ _ _ => rfl, fun _ _ h => .inl h, rfl, rfl, rfl, fun e h => by simp at h⟩
omit [Low] in
theorem Mild.trans {ρ σ τ : Ren} {W W' W'' : World} {ev ev' : Array Event} (h : Mild ρ σ W W' ev) (k : Mild σ τ W' W'' ev') : Mild ρ τ W W'' (ev ++ ev') := by
  refine ⟨le_trans h.le k.le, Nat.le_trans h.size k.size, fun x hx hn => ?_, fun a x e => ?_, k.os.trans h.os, k.output.trans h.output, k.tape.trans h.tape, fun e he => ?_⟩
  · rw [k.keep x (Nat.lt_of_lt_of_le hx h.size) fun a e => ?_]
    · exact h.keep x hx hn
    · rcases h.new a x e with q | q
      · exact hn a q
      · omega
  · rcases k.new a x e with q | q
    · exact h.new a x q
    · exact .inr (Nat.le_trans h.size q)
  · rcases Array.mem_append.1 he with q | q
    · rcases h.ev e q with ⟨a, x, off, spot, wr, h1, h2⟩ | ⟨a, x, h1, h2⟩ | h1
      · exact .inl ⟨a, x, off, spot, wr, k.le _ _ h1, h2⟩
      · exact .inr (.inl ⟨a, x, k.le _ _ h1, h2⟩)
      · exact .inr (.inr h1)
    · exact k.ev e q

/-- an end of an operation that is no going on -/
def Tame : Halt → Prop
  | .panic _ | .stuck _ => True
  | .unsupported u => match u with | .initOrder _ => False | _ => True
  | _ => False

/-! ### operations -/
section
variable (P₀ P₁ : Program)

/-- whatever the two worlds, related: the first halts, or both yield, related -/
def SR {α β : Type} (RA : Ren → α → β → Prop) (ρ : Ren) (s : Sem α) (s' : Sem β) : Prop := ∀ w W, WRel ρ w W →
  (∃ h w', Tame h ∧ s.run P₀ w = .halt h w') ∨
  ∃ a w' b W' σ k, s.run P₀ w = .ok a w' ∧ s'.run P₁ W = .ok b W' ∧ WRel σ w' W' ∧ w'.drawn = w.drawn + k ∧ w'.tape = w.tape ∧ RA σ a b ∧ Mild ρ σ W W' (s'.events P₁ W #[]) ∧
    ∀ τ d, (∀ i, i < k → τ (d + i) = w.tape (w.drawn + i)) → s.run P₀ (on w τ d) = .ok a (on w' τ (d + k))

variable {P₀ P₁}
variable {α β γ δ : Type} {RA : Ren → α → β → Prop} {RB : Ren → γ → δ → Prop} {ρ : Ren}

theorem SR.mono {RA' : Ren → α → β → Prop} {s : Sem α} {s' : Sem β} (h : SR P₀ P₁ RA ρ s s') (hr : ∀ σ a b, le ρ σ → RA σ a b → RA' σ a b) : SR P₀ P₁ RA' ρ s s' := fun w W r => by
  rcases h w W r with q | ⟨a, w', b, W', σ, k, h1, h2, h3, h4, h5, h6, h7, h8⟩
  · exact .inl q
  · exact .inr ⟨a, w', b, W', σ, k, h1, h2, h3, h4, h5, hr σ a b h7.le h6, h7, h8⟩

theorem SR.pure {a : α} {b : β} (h : RA ρ a b) : SR P₀ P₁ RA ρ (Pure.pure a) (Pure.pure b) := fun w W r =>
  .inr ⟨a, w, b, W, ρ, 0, rfl, rfl, r, rfl, rfl, h, Mild.refl ρ W, fun τ d _ => rfl⟩

theorem SR.halt {h : Halt} {s' : Sem β} (t : Tame h) : SR P₀ P₁ RA ρ (.halt h) s' := fun w W r => .inl ⟨h, w, t, rfl⟩

theorem SR.bind {s : Sem α} {s' : Sem β} {f : α → Sem γ} {f' : β → Sem δ} (h : SR P₀ P₁ RA ρ s s') (hf : ∀ σ a b, le ρ σ → RA σ a b → SR P₀ P₁ RB σ (f a) (f' b)) : SR P₀ P₁ RB ρ (s >>= f) (s' >>= f') := fun w W r => by
  rcases h w W r with ⟨q, w', ht, e⟩ | ⟨a, w', b, W', σ, k, h1, h2, h3, h4, h5, h6, h7, h8⟩
  · exact .inl ⟨q, w', ht, by rw [Sem.run_bind, e]; rfl⟩
  · rcases hf σ a b h7.le h6 w' W' h3 with ⟨q, w'', ht, e⟩ | ⟨a2, w2, b2, W2, σ2, k2, g1, g2, g3, g4, g5, g6, g7, g8⟩
    · exact .inl ⟨q, w'', ht, by rw [Sem.run_bind, h1]; exact e⟩
    · refine .inr ⟨a2, w2, b2, W2, σ2, k + k2, by rw [Sem.run_bind, h1]; exact g1, by rw [Sem.run_bind, h2]; exact g2, g3, by omega, g5.trans h5, g6, ?_, fun τ d hτ => ?_⟩
      · rw [Sem.events_bind, h2]
        show Mild ρ σ2 W W2 ((f' b).events P₁ W' (s'.events P₁ W #[]))
        rw [Sem.events_acc]
        exact h7.trans g7
      · rw [Sem.run_bind, h8 τ d fun i hi => hτ i (by omega)]
        show (f a).run P₀ (on w' τ (d + k)) = _
        rw [g8 τ (d + k) fun i hi => ?_, Nat.add_assoc]
        rw [h5, h4, Nat.add_assoc, Nat.add_assoc]
        exact hτ (k + i) (by omega)

theorem SR.map {s : Sem α} {s' : Sem β} {f : α → γ} {f' : β → δ} (h : SR P₀ P₁ RA ρ s s') (hf : ∀ σ a b, le ρ σ → RA σ a b → RB σ (f a) (f' b)) : SR P₀ P₁ RB ρ (f <$> s) (f' <$> s') := by
  rw [map_eq_pure_bind, map_eq_pure_bind]
  exact h.bind fun σ a b hl hab => SR.pure (hf σ a b hl hab)

theorem SR.ite {c : Prop} [Decidable c] {s t : Sem α} {s' t' : Sem β} (h1 : c → SR P₀ P₁ RA ρ s s') (h2 : ¬ c → SR P₀ P₁ RA ρ t t') : SR P₀ P₁ RA ρ (if c then s else t) (if c then s' else t') := by
  by_cases hc : c
  · rw [if_pos hc, if_pos hc]; exact h1 hc
  · rw [if_neg hc, if_neg hc]; exact h2 hc

theorem SR.prog (f : Program → Sem α) (f' : Program → Sem β) (h : SR P₀ P₁ RA ρ (f P₀) (f' P₁)) : SR P₀ P₁ RA ρ (program >>= f) (program >>= f') := fun w W r => by
  exact h w W r

/-! ### what looks at memory -/
theorem WRel.cell {w W : World} (r : WRel ρ w W) {b x off : Nat} (h : At ρ b x off) (spot : Option Nat) :
    w.cell? ⟨b, off, spot⟩ = none ∨ ∃ v v', w.cell? ⟨b, off, spot⟩ = some v ∧ W.cell? ⟨x, off, spot⟩ = some v' ∧ VRel ρ v v' := by
  by_cases hs : Spc b
  · obtain ⟨c, c', e, f, h1, h2, _, h3⟩ := r.special b x h.1 hs
    simp only [World.cell?, h1, h2]
    cases spot with
    | some s => exact .inl rfl
    | none =>
      simp only [Option.isSome_none, Bool.false_eq_true, if_false]
      by_cases hc : off < c.size
      · obtain ⟨v, v', e1, e2, e3⟩ := h3 off (h.2 hs) hc
        exact .inr ⟨v, v', e1, e2, e3⟩
      · exact .inl (Array.getElem?_eq_none (by omega))
  rcases r.blocks b x h.1 hs with ⟨c, c', e, f, h1, h2, h3, _⟩ | ⟨p, p', l, h1, h2, _⟩
  · simp only [World.cell?, h1, h2]
    cases spot with
    | some s => exact .inl rfl
    | none =>
      simp only [Option.isSome_none, Bool.false_eq_true, if_false]
      rcases h3.get? off with q | q
      · exact .inl q.1
      · exact .inr q
  · left
    simp only [World.cell?, h1]
theorem WRel.frozen {w W : World} (r : WRel ρ w W) {b x off : Nat} (h : At ρ b x off) (hs : ¬ Spc b) {spot : Option Nat} : w.frozen? ⟨b, off, spot⟩ = false ∧ W.frozen? ⟨x, off, spot⟩ = false := by
  rcases r.blocks b x h.1 hs with ⟨c, c', e, f, h1, h2, h3, h4⟩ | ⟨p, p', l, h1, h2, _⟩
  · simp only [World.frozen?, h1, h2]
    refine ⟨by simp, ?_⟩
    have := h4 off
    simpa using this
  · simp only [World.frozen?, h1, h2]
    exact ⟨trivial, trivial⟩
theorem WRel.iced {w W : World} (r : WRel ρ w W) {b x off : Nat} (h : At ρ b x off) (hs : Spc b) {spot : Option Nat} {v : Value} (hc : w.cell? ⟨b, off, spot⟩ = some v) : w.frozen? ⟨b, off, spot⟩ = true := by
  obtain ⟨c, c', e, f, h1, h2, _, h3⟩ := r.special b x h.1 hs
  have hlt : off < c.size := by
    simp only [World.cell?, h1] at hc
    split at hc
    · cases hc
    · exact (Array.getElem?_eq_some_iff.1 hc).1
  simp only [World.frozen?, h1]
  simp [hlt]
theorem WRel.shape {w W : World} (r : WRel ρ w W) {b x : Nat} (h : ρ b = some x) : w.shape? b = W.shape? x ∨ ∃ n, w.shape? b = some (badT, n) := by
  by_cases hs : Spc b
  · obtain ⟨c, c', e, f, h1, h2, h3⟩ := r.special b x h hs
    exact .inr ⟨c.size, by simp only [World.shape?, h1]⟩
  left
  rcases r.blocks b x h hs with ⟨c, c', e, f, h1, h2, h3, _⟩ | ⟨p, p', l, h1, h2, _⟩
  · simp only [World.shape?, h1, h2, h3.1]
  · simp only [World.shape?, h1, h2]
theorem WRel.shapeN {w W : World} (r : WRel ρ w W) {b x : Nat} (h : ρ b = some x) (hs : ¬ Spc b) : w.shape? b = W.shape? x := by
  rcases r.blocks b x h hs with ⟨c, c', e, f, h1, h2, h3, _⟩ | ⟨p, p', l, h1, h2, _⟩
  · simp only [World.shape?, h1, h2, h3.1]
  · simp only [World.shape?, h1, h2]
theorem WRel.lt {w W : World} (r : WRel ρ w W) {b x : Nat} (h : ρ b = some x) : b < w.heap.size ∧ x < W.heap.size := by
  have : ∃ o o', w.heap[b]? = some o ∧ W.heap[x]? = some o' := by
    by_cases hs : Spc b
    · obtain ⟨c, c', e, f, h1, h2, h3⟩ := r.special b x h hs
      exact ⟨_, _, h1, h2⟩
    rcases r.blocks b x h hs with ⟨c, c', e, f, h1, h2, _⟩ | ⟨p, p', l, h1, h2, _⟩
    · exact ⟨_, _, h1, h2⟩
    · exact ⟨_, _, h1, h2⟩
  obtain ⟨o, o', h1, h2⟩ := this
  exact ⟨(Array.getElem?_eq_some_iff.1 h1).1, (Array.getElem?_eq_some_iff.1 h2).1⟩
theorem WRel.obj {w W : World} (r : WRel ρ w W) {b x : Nat} (h : ρ b = some x) : (∃ c e f, w.heap[b]? = some (Obj.cells c e f)) ∨ ∃ p l, w.heap[b]? = some (Obj.number p l) := by
  have hb := (r.lt h).1
  rcases r.all b _ (Array.getElem?_eq_getElem hb) with ⟨c, e, f, q⟩ | ⟨p, l, q⟩
  · exact .inl ⟨c, e, f, by rw [Array.getElem?_eq_getElem hb, q]⟩
  · exact .inr ⟨p, l, by rw [Array.getElem?_eq_getElem hb, q]⟩

omit [Low] in
theorem tame_stuck (s : String) : Tame (.stuck s) := trivial

theorem SR.load {a a' : Addr} (h : AddrRel ρ a a') : SR P₀ P₁ VRel ρ (Go.load a) (Go.load a') := fun w W r => by
  obtain ⟨b, o, s⟩ := a
  obtain ⟨x, o', s'⟩ := a'
  obtain ⟨h1, h2, h3⟩ := h
  simp only at h1 h2 h3
  subst h2 h3
  rcases r.cell h1 s with e1 | ⟨v, v', e1, e2, hv⟩
  · left
    refine ⟨.stuck "load: no such cell", w, trivial, ?_⟩
    rcases r.obj h1.1 with ⟨c, e, f, g1⟩ | ⟨p, l, g1⟩
    · simp [Go.load, Sem.run, e1, World.farLoad, g1, World.noCell]
    · simp [Go.load, Sem.run, e1, World.farLoad, g1, World.noCell]
  · right
    refine ⟨v, w, v', W, ρ, 0, by simp [Go.load, Sem.run, e1], by simp [Go.load, Sem.run, e2], r, rfl, rfl, hv, ⟨le_refl ρ, Nat.le_refl _, fun _ _ _ => rfl, fun _ _ h => .inl h, rfl, rfl, rfl, ?_⟩, fun τ d _ => ?_⟩
    · intro e he
      left
      simp [Go.load, Sem.events, Sem.runT, e2, -Sem.runT_eq] at he
      exact ⟨b, x, o, s, false, h1.1, he⟩
    · have e3 : (on w τ d).cell? ⟨b, o, s⟩ = some v := e1
      simp [Go.load, Sem.run, e3]

omit [Low] in
theorem heap_set {w : World} {b : Nat} {c : Array Value} {e : TypeId} {f : Nat × Nat} (h : w.heap[b]? = some (Obj.cells c e f)) (o : Nat) (v : Value) (k : Nat) :
    (w.setCell ⟨b, o, none⟩ v).heap[k]? = if k = b then some (Obj.cells (c.setIfInBounds o v) e f) else w.heap[k]? := by
  unfold World.setCell
  simp only [Array.getElem?_modify]
  by_cases hk : k = b
  · subst hk
    rw [if_pos rfl, if_pos rfl, h]
    rfl
  · rw [if_neg (fun q => hk q.symm), if_neg hk]

theorem SR.store {a a' : Addr} (h : AddrRel ρ a a') {v v' : Value} (hv : VRel ρ v v') : SR P₀ P₁ (fun _ _ _ => True) ρ (Go.store a v) (Go.store a' v') := fun w W r => by
  obtain ⟨b, o, s⟩ := a
  obtain ⟨x, o', s'⟩ := a'
  obtain ⟨h1, h2, h3⟩ := h
  simp only at h1 h2 h3
  subst h2 h3
  by_cases hag : (∃ q, v = .agg q) ∨ ∃ q, v = .tuple q
  · left
    rcases hag with ⟨q, rfl⟩ | ⟨q, rfl⟩ <;> exact ⟨.stuck "store: not the value of one cell", w, trivial, rfl⟩
  have n1 : ∀ q, v ≠ .agg q := fun q e => hag (.inl ⟨q, e⟩)
  have n2 : ∀ q, v ≠ .tuple q := fun q e => hag (.inr ⟨q, e⟩)
  have m1 : ∀ q, v' ≠ .agg q := fun q e => by subst e; cases hv; exact n1 _ rfl
  have m2 : ∀ q, v' ≠ .tuple q := fun q e => by subst e; cases hv; exact n2 _ rfl
  rcases r.cell h1 s with e1 | ⟨u, u', e1, e2, hu⟩
  · left
    refine ⟨.stuck "store: no such cell", w, trivial, ?_⟩
    unfold Go.store
    rw [Sem.run]
    · rcases r.obj h1.1 with ⟨c, e, f, g1⟩ | ⟨p, l, g1⟩
      · simp [e1, World.farStore, g1, World.noCell]
      · simp [e1, World.farStore, g1, World.noCell]
    · exact n1
    · exact n2
  · by_cases hsp : Spc b
    · left
      have hf := r.iced h1 hsp e1
      refine ⟨.unsupported (.unsafePointer "a write to bytes that a string shares"), w, trivial, ?_⟩
      unfold Go.store
      rw [Sem.run]
      · simp [e1, hf]
      · exact n1
      · exact n2
    right
    obtain ⟨f1, f2⟩ := r.frozen h1 hsp (spot := s)
    obtain ⟨c, c', e, f, g1, g2, g3, g4⟩ : ∃ (c c' : Array Value) (e : TypeId) (f : Nat × Nat), w.heap[b]? = some (Obj.cells c e (0, 0)) ∧ W.heap[x]? = some (Obj.cells c' e f) ∧ ARel ρ c c' ∧ ∀ off, ¬ (f.1 ≤ off ∧ off < f.2) := by
      rcases r.blocks b x h1.1 hsp with q | ⟨p, p', l, g1, g2, _⟩
      · exact q
      · simp [World.cell?, g1] at e1
    have hs : s = none := by
      cases s with
      | none => rfl
      | some s => simp [World.cell?, g1] at e1
    subst hs
    refine ⟨(), w.setCell ⟨b, o, none⟩ v, (), W.setCell ⟨x, o, none⟩ v', ρ, 0, ?_, ?_, ⟨r.inj, ?_, ?_, fun q => by have := r.grd q; simpa [World.setCell] using this, ?_, r.tape, r.drawn⟩, rfl, rfl, trivial, ⟨le_refl ρ, by simp [World.setCell], ?_, fun _ _ h => .inl h, rfl, rfl, rfl, ?_⟩, fun τ d _ => ?_⟩
    · unfold Go.store
      rw [Sem.run]
      · simp [e1, f1, Sem.run]
      · exact n1
      · exact n2
    · unfold Go.store
      rw [Sem.run]
      · simp [e2, f2, Sem.run]
      · exact m1
      · exact m2
    · intro a y hy hns
      by_cases ha : a = b
      · subst ha
        obtain rfl : y = x := by rw [h1.1] at hy; exact (Option.some.inj hy).symm
        exact .inl ⟨_, _, e, f, by rw [heap_set g1, if_pos rfl], by rw [heap_set g2, if_pos rfl], g3.set o hv, g4⟩
      · have hyx : y ≠ x := fun q => by subst q; exact ha (r.inj a b _ hy h1.1)
        rw [heap_set g1, if_neg ha, heap_set g2, if_neg hyx]
        exact r.blocks a y hy hns
    · intro a y hy hs2
      have ha : a ≠ b := fun q => hsp (q ▸ hs2)
      have hyx : y ≠ x := fun q => by subst q; exact ha (r.inj a b _ hy h1.1)
      rw [heap_set g1, if_neg ha, heap_set g2, if_neg hyx]
      exact r.special a y hy hs2
    · intro a ob hob
      rw [heap_set g1] at hob
      split at hob
      · cases hob; exact .inl ⟨_, _, _, rfl⟩
      · exact r.all a ob hob
    · intro y hy hn
      rw [heap_set g2, if_neg]
      rintro rfl
      exact hn b h1.1
    · intro ev he
      left
      unfold Go.store Sem.events at he
      rw [Sem.runT] at he
      · simp [e2, f2, Sem.runT, -Sem.runT_eq] at he
        exact ⟨b, x, o, none, true, h1.1, he⟩
      · exact m1
      · exact m2
    · unfold Go.store
      rw [Sem.run]
      · have e3 : (on w τ d).cell? ⟨b, o, none⟩ = some u := e1
        have f3 : (on w τ d).frozen? ⟨b, o, none⟩ = false := f1
        simp [e3, f3, Sem.run]
        rfl
      · exact n1
      · exact n2

/-- the map with one pair more -/
def ext (ρ : Ren) (b x : Nat) : Ren := fun a => if a = b then some x else ρ a

/-- two objects that may be laid -/
def ObjRel (ρ : Ren) (o o' : Obj) : Prop := (∃ (c c' : Array Value) (e : TypeId), o = .cells c e ∧ o' = .cells c' e ∧ ARel ρ c c') ∨ ∃ (p p' : Addr) (l : Bool), o = .number p l ∧ o' = .number p' l ∧ AddrRel ρ p p'

theorem SR.newAny {ob ob' : Obj} (ho : ObjRel ρ ob ob') : SR P₀ P₁ (fun σ b x => σ b = some x ∧ ¬ Spc b) ρ (newObj ob) (newObj ob') := fun w W r => by
  right
  have hle : le ρ (ext ρ w.heap.size W.heap.size) := fun a x h => by
    have := (r.lt h).1
    unfold ext
    rw [if_neg (by omega)]
    exact h
  have hnsp : ¬ Spc w.heap.size := fun q => by have := r.grd q.1; have := q.2; omega
  have hob : (∃ (c : Array Value) (e : TypeId) (f : Nat × Nat), ob = Obj.cells c e f) ∨ ∃ (p : Addr) (l : Bool), ob = Obj.number p l := by
    rcases ho with ⟨c, c', e, rfl, rfl, _⟩ | ⟨p, p', l, rfl, rfl, _⟩
    · exact .inl ⟨_, _, _, rfl⟩
    · exact .inr ⟨_, _, rfl⟩
  have hnew : ∀ {σ : Ren}, le ρ σ → (∃ (c c' : Array Value) (e : TypeId) (f : Nat × Nat), (w.heap.push ob)[w.heap.size]? = some (Obj.cells c e (0, 0)) ∧ (W.heap.push ob')[W.heap.size]? = some (Obj.cells c' e f) ∧ ARel σ c c' ∧ ∀ off, ¬ (f.1 ≤ off ∧ off < f.2)) ∨
      ∃ (p p' : Addr) (l : Bool), (w.heap.push ob)[w.heap.size]? = some (Obj.number p l) ∧ (W.heap.push ob')[W.heap.size]? = some (Obj.number p' l) ∧ AddrRel σ p p' := by
    intro σ hl
    rcases ho with ⟨c, c', e, rfl, rfl, hc⟩ | ⟨p, p', l, rfl, rfl, hp⟩
    · exact .inl ⟨c, c', e, (0, 0), by simp, by simp, hc.mono hl, fun off => by simp⟩
    · exact .inr ⟨p, p', l, by simp, by simp, hp.mono hl⟩
  refine ⟨w.heap.size, { w with heap := w.heap.push ob }, W.heap.size, { W with heap := W.heap.push ob' }, ext ρ w.heap.size W.heap.size, 0, rfl, rfl, ⟨?_, ?_, ?_, fun q => by have := r.grd q; simp; omega, ?_, r.tape, r.drawn⟩, rfl, rfl, ⟨by simp [ext], hnsp⟩, ⟨hle, by simp, ?_, ?_, rfl, rfl, rfl, ?_⟩, fun τ d _ => rfl⟩
  · intro a b x ha hb
    unfold ext at ha hb
    split at ha <;> split at hb
    · omega
    · cases ha; have := (r.lt hb).2; omega
    · cases hb; have := (r.lt ha).2; omega
    · exact r.inj a b x ha hb
  · intro a x ha hns
    unfold ext at ha
    split at ha
    · cases ha
      rename_i q
      subst q
      exact hnew hle
    · obtain ⟨h1, h2⟩ := r.lt ha
      simp only [Array.getElem?_push]
      rw [if_neg (by omega), if_neg (by omega)]
      rcases r.blocks a x ha hns with ⟨d, d', de, df, k1, k2, k3, k4⟩ | ⟨p, p', l, k1, k2, k3⟩
      · exact .inl ⟨d, d', de, df, k1, k2, k3.mono hle, k4⟩
      · exact .inr ⟨p, p', l, k1, k2, k3.mono hle⟩
  · intro a x ha hsp
    unfold ext at ha
    split at ha
    · rename_i q
      exact absurd (q ▸ hsp) hnsp
    · obtain ⟨h1, h2⟩ := r.lt ha
      simp only [Array.getElem?_push]
      rw [if_neg (by omega), if_neg (by omega)]
      obtain ⟨c, c', e, f, k1, k2, k5, k3⟩ := r.special a x ha hsp
      exact ⟨c, c', e, f, k1, k2, k5, fun o h3 h4 => by
        obtain ⟨v, v', q1, q2, q3⟩ := k3 o h3 h4
        exact ⟨v, v', q1, q2, q3.mono hle⟩⟩
  · intro a o h
    simp only [Array.getElem?_push] at h
    split at h
    · cases h; exact hob
    · exact r.all a o h
  · intro x hx _
    simp only [Array.getElem?_push]
    rw [if_neg (by omega)]
  · intro a x ha
    unfold ext at ha
    split at ha
    · cases ha; exact .inr (Nat.le_refl _)
    · exact .inl ha
  · intro ev he
    simp [newObj, Sem.events, Sem.runT, -Sem.runT_eq] at he

theorem SR.newCells {c c' : Array Value} (e : TypeId) (hc : ARel ρ c c') : SR P₀ P₁ (fun σ b x => σ b = some x ∧ ¬ Spc b) ρ (newObj (.cells c e)) (newObj (.cells c' e)) := SR.newAny (.inl ⟨c, c', e, rfl, rfl, hc⟩)

theorem SR.choose (q : Question) : SR P₀ P₁ (fun _ a b => a = b) ρ (Go.choose q) (Go.choose q) := fun w W r => by
  right
  by_cases hq : q.forced = true
  · refine ⟨0, w, 0, W, ρ, 0, by simp [Go.choose, Sem.run, hq], by simp [Go.choose, Sem.run, hq], r, rfl, rfl, rfl, ⟨le_refl ρ, Nat.le_refl _, fun _ _ _ => rfl, fun _ _ h => .inl h, rfl, rfl, rfl, ?_⟩, fun τ d _ => by simp [Go.choose, Sem.run, hq]⟩
    intro e he
    simp [Go.choose, Sem.events, Sem.runT, hq, -Sem.runT_eq] at he
  · refine ⟨q.cut (w.tape w.drawn q), { w with drawn := w.drawn + 1 }, q.cut (w.tape w.drawn q), { W with drawn := W.drawn + 1 }, ρ, 1, by simp [Go.choose, Sem.run, hq], by simp [Go.choose, Sem.run, hq, r.tape, r.drawn], ⟨r.inj, r.blocks, r.special, r.grd, r.all, r.tape, by show w.drawn + 1 = W.drawn + 1; rw [r.drawn]⟩, rfl, rfl, rfl, ⟨le_refl ρ, Nat.le_refl _, fun _ _ _ => rfl, fun _ _ h => .inl h, rfl, rfl, rfl, ?_⟩, fun τ d hτ => ?_⟩
    · intro e he
      simp [Go.choose, Sem.events, Sem.runT, hq, -Sem.runT_eq] at he
    · have := hτ 0 (by omega)
      simp only [Nat.add_zero] at this
      simp [Go.choose, Sem.run, hq, on, this]

theorem SR.markNoRoom : SR P₀ P₁ (fun _ _ _ => True) ρ (Go.mark .noRoom) (Go.mark .noRoom) := fun w W r => by
  right
  refine ⟨(), w, (), W, ρ, 0, rfl, rfl, r, rfl, rfl, trivial, ⟨le_refl ρ, Nat.le_refl _, fun _ _ _ => rfl, fun _ _ h => .inl h, rfl, rfl, rfl, ?_⟩, fun τ d _ => rfl⟩
  intro e he
  right; right
  simpa [Go.mark, Sem.events, Sem.runT, -Sem.runT_eq] using he

omit [Low] in
theorem Mild.still {W : World} {ev : Array Event} (h : ∀ e ∈ ev, (∃ a x off spot wr, ρ a = some x ∧ e = ⟨.cell ⟨x, off, spot⟩, wr, false⟩) ∨ (∃ a x, ρ a = some x ∧ e = ⟨.obj x, false, false⟩) ∨ e = ⟨.mark .noRoom, false, true⟩) : Mild ρ ρ W W ev :=
  ⟨le_refl ρ, Nat.le_refl _, fun _ _ _ => rfl, fun _ _ h => .inl h, rfl, rfl, rfl, h⟩

theorem SR.shapeN {b x : Nat} (h : ρ b = some x) (hn : ¬ Spc b) : SR P₀ P₁ (fun _ a a' => a = a') ρ (Go.shape b) (Go.shape x) := fun w W r =>
  .inr ⟨w.shape? b, w, W.shape? x, W, ρ, 0, rfl, rfl, r, rfl, rfl, r.shapeN h hn, Mild.still (fun e he => by simp [Go.shape, Sem.events, Sem.runT, -Sem.runT_eq] at he), fun τ d _ => rfl⟩
theorem WRel.shapeS {w W : World} (r : WRel ρ w W) {b x : Nat} (h : ρ b = some x) (hs : Spc b) : ∃ n, w.shape? b = some (badT, n) := by
  obtain ⟨c, c', e, f, h1, h2, h3⟩ := r.special b x h hs
  exact ⟨c.size, by simp only [World.shape?, h1]⟩
theorem SR.shapeS {b x : Nat} (h : ρ b = some x) (hs : Spc b) : SR P₀ P₁ (fun _ a _ => ∃ n, a = some (badT, n)) ρ (Go.shape b) (Go.shape x) := fun w W r =>
  .inr ⟨w.shape? b, w, W.shape? x, W, ρ, 0, rfl, rfl, r, rfl, rfl, r.shapeS h hs, Mild.still (fun e he => by simp [Go.shape, Sem.events, Sem.runT, -Sem.runT_eq] at he), fun τ d _ => rfl⟩
theorem SR.shape {b x : Nat} (h : ρ b = some x) : SR P₀ P₁ (fun _ a a' => a = a' ∨ ∃ n, a = some (badT, n)) ρ (Go.shape b) (Go.shape x) := fun w W r =>
  .inr ⟨w.shape? b, w, W.shape? x, W, ρ, 0, rfl, rfl, r, rfl, rfl, r.shape h, Mild.still (fun e he => by simp [Go.shape, Sem.events, Sem.runT, -Sem.runT_eq] at he), fun τ d _ => rfl⟩
omit [Low] in
theorem getObj_number {P : Program} {W : World} {x : Nat} {p : Addr} {l : Bool} (h : W.heap[x]? = some (Obj.number p l)) (es : Array Event) :
    (Go.getObj x).run P W = .ok (Obj.number p l) W ∧ (Go.getObj x).events P W es = es.push ⟨.obj x, false, false⟩ := by
  constructor
  · simp [Go.getObj, Sem.run, h]
  · simp [Go.getObj, Sem.events, Sem.runT, h, Obj.isChan, -Sem.runT_eq]
/-- what lies behind a number -/
def NumRel (ρ : Ren) (a a' : Option (Addr × Bool)) : Prop := (a = none ∧ a' = none) ∨ ∃ (p p' : Addr) (l : Bool), a = some (p, l) ∧ a' = some (p', l) ∧ AddrRel ρ p p'
theorem SR.numberAt {b x : Nat} (h : ρ b = some x) : SR P₀ P₁ NumRel ρ (Go.numberAt b) (Go.numberAt x) := fun w W r => by
  right
  have hh : (∃ (c c' : Array Value) (e e' : TypeId) (f0 f : Nat × Nat), w.heap[b]? = some (Obj.cells c e f0) ∧ W.heap[x]? = some (Obj.cells c' e' f)) ∨ ∃ (p p' : Addr) (l : Bool), w.heap[b]? = some (Obj.number p l) ∧ W.heap[x]? = some (Obj.number p' l) ∧ AddrRel ρ p p' := by
    by_cases hs : Spc b
    · obtain ⟨c, c', e, f, h1, h2, _⟩ := r.special b x h hs
      exact .inl ⟨c, c', _, e, _, f, h1, h2⟩
    · rcases r.blocks b x h hs with ⟨c, c', e, f, h1, h2, h3, _⟩ | q
      · exact .inl ⟨c, c', e, e, _, f, h1, h2⟩
      · exact .inr q
  rcases hh with ⟨c, c', e, e', f0, f, h1, h2⟩ | ⟨p, p', l, h1, h2, h3⟩
  · have s1 : w.shape? b = some (e, c.size) := by simp [World.shape?, h1]
    have s2 : W.shape? x = some (e', c'.size) := by simp [World.shape?, h2]
    refine ⟨none, w, none, W, ρ, 0, by simp [Go.numberAt, Go.shape, Sem.run, s1], by simp [Go.numberAt, Go.shape, Sem.run, s2], r, rfl, rfl, .inl ⟨rfl, rfl⟩, Mild.still (fun e he => ?_), fun τ d _ => ?_⟩
    · simp [Go.numberAt, s2] at he
    · have s3 : (on w τ d).shape? b = some (e, c.size) := s1
      simp [Go.numberAt, Go.shape, Sem.run, s3]
  · have s1 : w.shape? b = none := by simp [World.shape?, h1]
    have s2 : W.shape? x = none := by simp [World.shape?, h2]
    refine ⟨some (p, l), w, some (p', l), W, ρ, 0, by simp [Go.numberAt, Go.shape, Go.getObj, Sem.run, s1, h1], by simp [Go.numberAt, Go.shape, Go.getObj, Sem.run, s2, h2], r, rfl, rfl, .inr ⟨p, p', l, rfl, rfl, h3⟩, Mild.still (fun e he => ?_), fun τ d _ => ?_⟩
    · right; left
      have q1 := (getObj_number (P := P₁) h2 #[]).1
      have q2 := (getObj_number (P := P₁) h2 #[]).2
      simp [Go.numberAt, s2, q1, q2] at he
      exact ⟨b, x, h, he⟩
    · have s3 : (on w τ d).shape? b = none := s1
      have s4 : (on w τ d).heap[b]? = some (Obj.number p l) := h1
      simp [Go.numberAt, Go.shape, Go.getObj, Sem.run, s3, s4]
theorem SR.viewAt {b x : Nat} (h : ρ b = some x) : SR P₀ P₁ (fun _ a a' => a = none ∧ a' = none) ρ (Go.viewAt b) (Go.viewAt x) := fun w W r => by
  right
  have hh : (∃ (c c' : Array Value) (e e' : TypeId) (f0 f : Nat × Nat), w.heap[b]? = some (Obj.cells c e f0) ∧ W.heap[x]? = some (Obj.cells c' e' f)) ∨ ∃ (p p' : Addr) (l : Bool), w.heap[b]? = some (Obj.number p l) ∧ W.heap[x]? = some (Obj.number p' l) ∧ AddrRel ρ p p' := by
    by_cases hs : Spc b
    · obtain ⟨c, c', e, f, h1, h2, _⟩ := r.special b x h hs
      exact .inl ⟨c, c', _, e, _, f, h1, h2⟩
    · rcases r.blocks b x h hs with ⟨c, c', e, f, h1, h2, h3, _⟩ | q
      · exact .inl ⟨c, c', e, e, _, f, h1, h2⟩
      · exact .inr q
  rcases hh with ⟨c, c', e, e', f0, f, h1, h2⟩ | ⟨p, p', l, h1, h2, h3⟩
  · have s1 : w.shape? b = some (e, c.size) := by simp [World.shape?, h1]
    have s2 : W.shape? x = some (e', c'.size) := by simp [World.shape?, h2]
    refine ⟨none, w, none, W, ρ, 0, by simp [Go.viewAt, Go.shape, Sem.run, s1], by simp [Go.viewAt, Go.shape, Sem.run, s2], r, rfl, rfl, ⟨rfl, rfl⟩, Mild.still (fun e he => ?_), fun τ d _ => ?_⟩
    · simp [Go.viewAt, s2] at he
    · have s3 : (on w τ d).shape? b = some (e, c.size) := s1
      simp [Go.viewAt, Go.shape, Sem.run, s3]
  · have s1 : w.shape? b = none := by simp [World.shape?, h1]
    have s2 : W.shape? x = none := by simp [World.shape?, h2]
    refine ⟨none, w, none, W, ρ, 0, by simp [Go.viewAt, Go.shape, Go.getObj, Sem.run, s1, h1], by simp [Go.viewAt, Go.shape, Go.getObj, Sem.run, s2, h2], r, rfl, rfl, ⟨rfl, rfl⟩, Mild.still (fun e he => ?_), fun τ d _ => ?_⟩
    · right; left
      have q1 := (getObj_number (P := P₁) h2 #[]).1
      have q2 := (getObj_number (P := P₁) h2 #[]).2
      simp [Go.viewAt, s2, q1, q2] at he
      exact ⟨b, x, h, he⟩
    · have s3 : (on w τ d).shape? b = none := s1
      have s4 : (on w τ d).heap[b]? = some (Obj.number p l) := h1
      simp [Go.viewAt, Go.shape, Go.getObj, Sem.run, s3, s4]

/-- an operation whose first run never goes on -/
def Dead (P : Program) {α : Type} (s : Sem α) : Prop := ∀ w : World, ∃ h w', Tame h ∧ s.run P w = .halt h w'
theorem SR.dead {s : Sem α} {s' : Sem β} (h : Dead P₀ s) : SR P₀ P₁ RA ρ s s' := fun w W _ => .inl (h w)
omit [Low] in
theorem Dead.halt {h : Halt} (t : Tame h) : Dead P₀ (Sem.halt h : Sem α) := fun w => ⟨h, w, t, rfl⟩
omit [Low] in
theorem Dead.bind_right {s : Sem α} {f : α → Sem γ} (hs : ∀ w : World, (∃ h w', Tame h ∧ s.run P₀ w = .halt h w') ∨ ∃ a w', s.run P₀ w = .ok a w') (hf : ∀ a, Dead P₀ (f a)) : Dead P₀ (s >>= f) := fun w => by
  rcases hs w with ⟨h, w', t, e⟩ | ⟨a, w', e⟩
  · exact ⟨h, w', t, by rw [Sem.run_bind, e]; rfl⟩
  · obtain ⟨h, w'', t, e2⟩ := hf a w'
    exact ⟨h, w'', t, by rw [Sem.run_bind, e]; exact e2⟩
end
end Go.Proofs.Ytjgkignnfkbeaaa.Sim

/-
  Two runs of one code, over two heaps: the model's instructions, one by one.
-/
namespace Go.Proofs.Ytjgkignnfkbeaaa.Sim
open Go
set_option linter.unusedVariables false
variable [Low]

section
variable {P₀ P₁ : Program} {ρ : Ren} {α β γ δ : Type} {RA : Ren → α → β → Prop}

omit [Low] in
theorem tt {u : Unsupported} (h : ∀ g, u ≠ .initOrder g) : Tame (.unsupported u) := by
  cases u <;> first | trivial | exact absurd rfl (h _)
theorem SR.stuck (why : String) {s' : Sem β} : SR P₀ P₁ RA ρ (Go.stuck why : Sem α) s' := SR.halt trivial
theorem SR.unsupported {u : Unsupported} (h : ∀ g, u ≠ .initOrder g) {s' : Sem β} : SR P₀ P₁ RA ρ (Go.unsupported u : Sem α) s' := SR.halt (tt h)
theorem SR.goPanic (v : Value) {s' : Sem β} : SR P₀ P₁ RA ρ (Go.goPanic v : Sem α) s' := SR.halt trivial

/-- the errors that the road's code may raise -/
def Plain : RuntimeError → Prop
  | .bounds .. | .error _ | .plain _ | .nilDeref => True
  | _ => False
omit [Low] in
theorem dead_runtime {e : RuntimeError} (h : Plain e) : Dead P₀ (runtimePanic e : Sem α) := fun w => by
  have : ∃ v, (runtimePanic e : Sem α).run P₀ w = .halt (.panic v) w := by
    cases e with
    | bounds x y s c => exact ⟨_, rfl⟩
    | error m => exact ⟨_, rfl⟩
    | plain m => exact ⟨_, rfl⟩
    | nilDeref => exact ⟨_, rfl⟩
    | typeAssertion i c a m => exact h.elim
    | panicNil => exact h.elim
    | unhashable t => exact h.elim
  obtain ⟨v, hv⟩ := this
  exact ⟨.panic v, w, trivial, hv⟩
theorem SR.runtime {e : RuntimeError} (h : Plain e) {s' : Sem β} : SR P₀ P₁ RA ρ (runtimePanic e : Sem α) s' := SR.dead (dead_runtime h)
omit [Low] in
theorem run_choose_any (P : Program) (q : Question) (w : World) : ∃ a w', (Go.choose q).run P w = .ok a w' := by
  by_cases hq : q.forced = true
  · exact ⟨0, w, by simp [Go.choose, Sem.run, hq]⟩
  · exact ⟨_, _, by simp [Go.choose, Sem.run, hq]; exact ⟨rfl, rfl⟩⟩
omit [Low] in
theorem dead_bounds (k : IntKind) (x y : Int) (c : BoundsCode) : Dead P₀ (boundsPanic k x y c : Sem α) := by
  unfold boundsPanic
  dsimp only
  split
  · refine Dead.bind_right (fun w => .inr ?_) fun a => dead_runtime (e := .bounds (IntKind.i64.wrap x) y a c) trivial
    obtain ⟨a, w', e⟩ := run_choose_any P₀ (.extern "runtime.boundsError.signed" 2) w
    exact ⟨a == 1, w', by rw [Sem.run_map, e]; rfl⟩
  · exact Dead.bind_right (fun w => .inr ⟨_, w, rfl⟩) fun a => dead_runtime (e := .bounds (IntKind.i64.wrap x) y a c) trivial
theorem SR.bounds {k : IntKind} {x y : Int} {c : BoundsCode} {s' : Sem β} : SR P₀ P₁ RA ρ (boundsPanic k x y c : Sem α) s' := SR.dead (dead_bounds k x y c)

/-! ### the tables -/
section
variable (hT : P₀.toTables = P₁.toTables)
include hT
omit [Low] in
theorem info_eq (t : TypeId) : P₀.info? t = P₁.info? t := by show P₀.toTables.info? t = P₁.toTables.info? t; rw [hT]
omit [Low] in
theorem und_eq (t : TypeId) : P₀.underlying t = P₁.underlying t := by unfold Program.underlying; simp only [info_eq hT]
omit [Low] in
theorem cellsOf_eq (t : TypeId) : P₀.cellsOf t = P₁.cellsOf t := by unfold Program.cellsOf; rw [info_eq hT]
omit [Low] in
theorem bytesOf_eq (t : TypeId) : P₀.bytesOf t = P₁.bytesOf t := by unfold Program.bytesOf; rw [info_eq hT]
omit [Low] in
theorem depth_eq : P₀.depth = P₁.depth := by unfold Program.depth; rw [hT]
omit [Low] in
theorem byteOfCell_eq : ∀ d t o, byteOfCell P₀ d t o = byteOfCell P₁ d t o
  | 0, _, _ => rfl
  | d + 1, t, o => by
    have ih := byteOfCell_eq d
    simp only [byteOfCell, und_eq hT, cellsOf_eq hT, bytesOf_eq hT, ih]
omit [Low] in
theorem cellOfByte_eq : ∀ d t o, cellOfByte P₀ d t o = cellOfByte P₁ d t o
  | 0, _, _ => rfl
  | d + 1, t, o => by
    have ih := cellOfByte_eq d
    simp only [cellOfByte, und_eq hT, cellsOf_eq hT, bytesOf_eq hT, ih]
omit [Low] in
theorem cellAtBytes_eq (d : Nat) (e : TypeId) (c o : Nat) (b : Int) : cellAtBytes P₀ d e c o b = cellAtBytes P₁ d e c o b := by
  simp only [cellAtBytes, cellsOf_eq hT, bytesOf_eq hT, byteOfCell_eq hT, cellOfByte_eq hT]

theorem SR.typeInfo (t : TypeId) : SR P₀ P₁ (fun _ a b => a = b ∧ P₁.info? t = some a) ρ (Go.typeInfo t) (Go.typeInfo t) := by
  unfold Go.typeInfo
  refine SR.prog _ _ ?_
  rw [info_eq hT]
  cases h : P₁.info? t with
  | none => exact SR.stuck _
  | some i => exact SR.pure ⟨rfl, rfl⟩
theorem SR.underlying (t : TypeId) : SR P₀ P₁ (fun _ a b => a = b ∧ P₁.underlying t = some a) ρ (Go.underlying t) (Go.underlying t) := by
  unfold Go.underlying
  refine SR.prog _ _ ?_
  rw [und_eq hT]
  cases h : P₁.underlying t with
  | none => exact SR.stuck _
  | some i => exact SR.pure ⟨rfl, rfl⟩
theorem SR.sizeOf (t : TypeId) : SR P₀ P₁ (fun _ a b => a = b) ρ (Go.sizeOf t) (Go.sizeOf t) := by
  unfold Go.sizeOf
  refine (SR.typeInfo hT t).bind fun σ a b hl h => ?_
  obtain ⟨rfl, _⟩ := h
  exact SR.pure rfl
theorem SR.sizeOfN (t : TypeId) : SR P₀ P₁ (fun _ a b => a = b ∧ (P₁.info? t).map (·.size) = some a) ρ (Go.sizeOf t) (Go.sizeOf t) := by
  unfold Go.sizeOf
  refine (SR.typeInfo hT t).bind fun σ a b hl h => ?_
  obtain ⟨rfl, h⟩ := h
  exact SR.pure ⟨rfl, by rw [h]; rfl⟩
theorem SR.isAgg (t : TypeId) : SR P₀ P₁ (fun _ a b => a = b) ρ (Go.isAgg t) (Go.isAgg t) := by
  unfold Go.isAgg
  refine (SR.underlying hT t).bind fun σ a b hl h => ?_
  obtain ⟨rfl, _⟩ := h
  split <;> exact SR.pure rfl

/-- a value without a place -/
def flat : Value → Bool
  | .bool _ | .int _ _ | .string _ | .pointer none | .slice none _ _ => true
  | _ => false
omit hT in
theorem flat_rel {v : Value} (h : flat v = true) : VRel ρ v v := by
  unfold flat at h
  split at h
  · exact .bool _
  · exact .int _ _
  · exact .string _
  · exact .pnil
  · exact .snil _ _
  · cases h
/-- a zero value that is one, or a row of them -/
def flatZ : Value → Bool
  | .agg cs => cs.all flat
  | v => flat v
omit hT in
theorem flatZ_rel {v : Value} (h : flatZ v = true) : VRel ρ v v := by
  unfold flatZ at h
  split at h
  · refine .agg rfl fun i h1 h2 => flat_rel ?_
    rw [Array.all_eq_true] at h
    exact h i h1
  · exact flat_rel h
/-- the type's zero value is such -/
def zeroOk (P : Program) (t : TypeId) : Bool := match (P.info? t).bind (·.zero) with | some v => flatZ v | none => true
theorem SR.zeroValue {t : TypeId} (hz : zeroOk P₁ t = true) : SR P₀ P₁ VRel ρ (Go.zeroValue t) (Go.zeroValue t) := by
  unfold Go.zeroValue
  refine (SR.typeInfo hT t).bind fun σ a b hl h => ?_
  obtain ⟨rfl, hi⟩ := h
  unfold zeroOk at hz
  rw [hi] at hz
  cases hv : a.zero with
  | none => exact SR.unsupported (by simp)
  | some v =>
    simp only [Option.bind_some, hv] at hz
    exact SR.pure (flatZ_rel hz)

/-! ### rows of cells -/
omit hT in
theorem SR.loadCellsFrom {a a' : Addr} : ∀ (n i : Nat) {ρ : Ren} {acc acc' : Array Value}, AddrRel ρ a a' → ARel ρ acc acc' → SR P₀ P₁ ARel ρ (Go.loadCellsFrom a i n acc) (Go.loadCellsFrom a' i n acc')
  | 0, i, ρ, acc, acc', h, ha => SR.pure ha
  | n + 1, i, ρ, acc, acc', h, ha => by
    unfold Go.loadCellsFrom
    refine (SR.load (h.add i)).bind fun σ v v' hl hv => ?_
    exact SR.loadCellsFrom n (i + 1) (h.mono hl) ((ha.mono hl).push hv)
omit hT in
theorem SR.loadCells {a a' : Addr} (h : AddrRel ρ a a') (n : Nat) : SR P₀ P₁ ARel ρ (Go.loadCells a n) (Go.loadCells a' n) := SR.loadCellsFrom n 0 h ARel.nil

/-- lists, one by one -/
inductive LRel (ρ : Ren) : List Value → List Value → Prop
  | nil : LRel ρ [] []
  | cons {v v' : Value} {l l' : List Value} (h : VRel ρ v v') (t : LRel ρ l l') : LRel ρ (v :: l) (v' :: l')
omit hT in
theorem LRel.of_get : ∀ {l l' : List Value}, l.length = l'.length → (∀ (i : Nat) (v v' : Value), l[i]? = some v → l'[i]? = some v' → VRel ρ v v') → LRel ρ l l'
  | [], [], _, _ => .nil
  | [], _ :: _, e, _ => by simp at e
  | _ :: _, [], e, _ => by simp at e
  | v :: l, v' :: l', e, h => .cons (h 0 v v' rfl rfl) (LRel.of_get (by simpa using e) fun i u u' hu hu' => h (i + 1) u u' (by simpa using hu) (by simpa using hu'))
omit hT in
theorem ARel.toList {a a' : Array Value} (h : ARel ρ a a') : LRel ρ a.toList a'.toList :=
  LRel.of_get (by simp [h.1]) fun i v v' e e' => h.at (by simpa using e) (by simpa using e')
omit hT in
theorem LRel.mono {σ : Ren} (hl : le ρ σ) {l l' : List Value} (h : LRel ρ l l') : LRel σ l l' := by
  induction h with
  | nil => exact .nil
  | cons h _ ih => exact .cons (h.mono hl) ih
omit hT in
theorem SR.storeCells : ∀ {l l' : List Value} {ρ : Ren} {a a' : Addr} (i : Nat), AddrRel ρ a a' → LRel ρ l l' → SR P₀ P₁ (fun _ _ _ => True) ρ (Go.storeCells a l i) (Go.storeCells a' l' i)
  | _, _, ρ, a, a', i, h, .nil => SR.pure trivial
  | _, _, ρ, a, a', i, h, .cons hv ht => by
    unfold Go.storeCells
    refine (SR.store (h.add i) hv).bind fun σ _ _ hl _ => ?_
    exact SR.storeCells (i + 1) (h.mono hl) (ht.mono hl)

theorem SR.loadVar {a a' : Addr} (h : AddrRel ρ a a') (t : TypeId) : SR P₀ P₁ VRel ρ (Go.loadVar t a) (Go.loadVar t a') := by
  unfold Go.loadVar
  refine (SR.isAgg hT t).bind fun σ b b' hl e => ?_
  subst e
  refine SR.ite (fun _ => ?_) fun _ => SR.load (h.mono hl)
  refine (SR.sizeOf hT t).bind fun σ2 n n' hl2 e => ?_
  subst e
  refine (SR.loadCells ((h.mono hl).mono hl2) n).bind fun σ3 c c' hl3 hc => SR.pure hc.agg
theorem SR.storeVar {a a' : Addr} (h : AddrRel ρ a a') (t : TypeId) {v v' : Value} (hv : VRel ρ v v') : SR P₀ P₁ (fun _ _ _ => True) ρ (Go.storeVar t a v) (Go.storeVar t a' v') := by
  unfold Go.storeVar
  refine (SR.sizeOf hT t).bind fun σ n n' hl e => ?_
  subst e
  have hc := (hv.mono hl).cells
  rw [← hc.1]
  refine SR.ite (fun _ => SR.stuck _) fun _ => ?_
  exact SR.storeCells 0 (h.mono hl) hc.toList
omit hT in
theorem SR.newRow {c c' : Array Value} (e : TypeId) (hc : ARel ρ c c') : SR P₀ P₁ AddrRel ρ (Go.newRow e c) (Go.newRow e c') := by
  unfold Go.newRow
  refine (SR.newCells e hc).bind fun σ b x hl h => SR.pure ⟨at_low h.1 h.2 0, rfl, rfl⟩
omit hT in
theorem SR.newVar {v v' : Value} (t : TypeId) (hv : VRel ρ v v') : SR P₀ P₁ AddrRel ρ (Go.newVar t v) (Go.newVar t v') := SR.newRow t hv.cells
theorem SR.part (t : TypeId) {c c' : Array Value} (hc : ARel ρ c c') (off : Nat) : SR P₀ P₁ VRel ρ (Go.part t c off) (Go.part t c' off) := by
  unfold Go.part
  refine (SR.isAgg hT t).bind fun σ b b' hl e => ?_
  subst e
  refine SR.ite (fun _ => ?_) fun _ => ?_
  · refine (SR.sizeOf hT t).bind fun σ2 n n' hl2 e => ?_
    subst e
    exact SR.pure (((hc.mono hl).mono hl2).extract _ _).agg
  · rcases (hc.mono hl).get? off with ⟨e1, e2⟩ | ⟨v, v', e1, e2, hv⟩
    · rw [e1, e2]; exact SR.stuck _
    · rw [e1, e2]; exact SR.pure hv

/-! ### readings of values -/
omit hT in
theorem SR.asIntOf {v v' : Value} (h : VRel ρ v v') : SR P₀ P₁ (fun _ a b => a = b) ρ (Go.asIntOf v) (Go.asIntOf v') := by
  cases h <;> first | exact SR.pure rfl | exact SR.unsupported (by simp) | exact SR.stuck _
omit hT in
theorem SR.asInt {v v' : Value} (h : VRel ρ v v') : SR P₀ P₁ (fun _ a b => a = b) ρ (Go.asInt v) (Go.asInt v') := by
  unfold Go.asInt
  exact (SR.asIntOf h).bind fun σ a b hl e => by subst e; exact SR.pure rfl
omit hT in
theorem SR.asBool {v v' : Value} (h : VRel ρ v v') : SR P₀ P₁ (fun _ a b => a = b) ρ (Go.asBool v) (Go.asBool v') := by
  cases h <;> first | exact SR.pure rfl | exact SR.stuck _
omit hT in
theorem SR.asAgg {v v' : Value} (h : VRel ρ v v') : SR P₀ P₁ ARel ρ (Go.asAgg v) (Go.asAgg v') := by
  cases h with
  | agg hs h => exact SR.pure ⟨hs, h⟩
  | _ => exact SR.stuck _
omit hT in
theorem SR.asAddr {v v' : Value} (h : VRel ρ v v') : SR P₀ P₁ AddrRel ρ (Go.asAddr v) (Go.asAddr v') := by
  cases h with
  | ptr off spot h => exact SR.pure ⟨h, rfl, rfl⟩
  | pnil => exact SR.runtime (e := .nilDeref) trivial
  | _ => exact SR.stuck _
omit hT in
theorem SR.sureAddr {v v' : Value} (h : VRel ρ v v') : SR P₀ P₁ AddrRel ρ (Instr.sureAddr v) (Instr.sureAddr v') := by
  cases h with
  | ptr off spot h => exact SR.pure ⟨h, rfl, rfl⟩
  | _ => exact SR.stuck _
end
end
end Go.Proofs.Ytjgkignnfkbeaaa.Sim

/-
  Two runs of one code, over two heaps: the model's operations on memory and slices.
-/
namespace Go.Proofs.Ytjgkignnfkbeaaa.Sim
open Go
set_option linter.unusedVariables false
variable [Low]

section
variable {P₀ P₁ : Program} {ρ : Ren} {α β γ δ : Type} {RA : Ren → α → β → Prop} (hT : P₀.toTables = P₁.toTables)
include hT

omit hT in
theorem SR.box (t : TypeId) {v v' : Value} (hv : VRel ρ v v') : SR P₀ P₁ VRel ρ (Instr.box t v) (Instr.box t v') := by
  unfold Instr.box
  exact (SR.newVar t hv).bind fun σ a a' hl h => SR.pure h.ptr
theorem SR.alloc {t : TypeId} (hz : zeroOk P₁ t = true) : SR P₀ P₁ VRel ρ (Instr.alloc t true (.tuple #[])) (Instr.alloc t true (.tuple #[])) := by
  unfold Instr.alloc
  refine (SR.zeroValue hT hz).bind fun σ z z' hl h => ?_
  exact (SR.newVar t h).bind fun σ a a' hl h => SR.pure h.ptr
theorem SR.loadAt (t : TypeId) {v v' : Value} (hv : VRel ρ v v') : SR P₀ P₁ VRel ρ (Instr.loadAt t v) (Instr.loadAt t v') := by
  unfold Instr.loadAt
  exact (SR.sureAddr hv).bind fun σ a a' hl h => SR.loadVar hT h t
theorem SR.storeAt (t : TypeId) {v v' u u' : Value} (hv : VRel ρ v v') (hu : VRel ρ u u') : SR P₀ P₁ (fun _ _ _ => True) ρ (Instr.storeAt t v u) (Instr.storeAt t v' u') := by
  unfold Instr.storeAt
  exact (SR.sureAddr hv).bind fun σ a a' hl h => SR.storeVar hT h t (hu.mono hl)

theorem SR.byteOf {a a' : Addr} (h : AddrRel ρ a a') (hns : ¬ Spc a.block) : SR P₀ P₁ (fun _ x y => x = y) ρ (Go.byteOf a) (Go.byteOf a') := by
  unfold Go.byteOf
  rw [← h.2.2]
  cases a.spot with
  | some s => exact SR.pure rfl
  | none =>
    refine SR.prog _ _ ?_
    unfold Go.noView
    refine SR.bind (RA := fun _ _ _ => True) ?_ fun σ _ _ hl _ => ?_
    · refine (SR.viewAt h.1.1).bind fun σ x y hl e => ?_
      obtain ⟨rfl, rfl⟩ := e
      exact SR.pure trivial
    · refine (SR.shapeN (hl _ _ h.1.1) hns).bind fun σ2 x y hl2 e => ?_
      subst e
      cases x with
      | none => exact SR.stuck _
      | some p =>
        obtain ⟨e, n⟩ := p
        simp only [cellsOf_eq hT, depth_eq hT, byteOfCell_eq hT, bytesOf_eq hT, ← h.2.1]
        refine SR.ite (fun _ => SR.pure rfl) fun _ => ?_
        cases byteOfCell P₁ P₁.depth e (a.off % P₁.cellsOf e) with
        | none => exact SR.stuck _
        | some b => exact SR.pure rfl
theorem SR.partAt {a a' : Addr} (h : AddrRel ρ a a') (hns : ¬ Spc a.block) (c b : Nat) : SR P₀ P₁ AddrRel ρ (Go.partAt a c b) (Go.partAt a' c b) := by
  unfold Go.partAt
  refine (SR.byteOf hT h hns).bind fun σ x y hl e => ?_
  subst e
  have h2 : AddrRel σ { block := a.block, off := a.off + c } { block := a'.block, off := a'.off + c } := ⟨(h.1.mono hl).add c, by simp [h.2.1], rfl⟩
  refine (SR.byteOf hT h2 hns).bind fun σ2 x2 y2 hl2 e => ?_
  subst e
  refine SR.pure ?_
  split
  · exact h2.mono hl2
  · exact ⟨h2.1.mono hl2, h2.2.1, rfl⟩
omit hT in
/-- no field takes no room -/
def fieldsOk (P : Program) (t : TypeId) : Bool := match P.underlying t with | some (.struct fs) => fs.toList.all (fun f => (P.info? f.type).map (·.size) != some 0) | _ => true
theorem SR.fieldPlace {a a' : Addr} (h : AddrRel ρ a a') (f : Field) (hf : (P₁.info? f.type).map (·.size) ≠ some 0) : SR P₀ P₁ AddrRel ρ (Go.fieldPlace a f) (Go.fieldPlace a' f) := by
  unfold Go.fieldPlace
  refine (SR.sizeOfN hT f.type).bind fun σ x y hl e => ?_
  obtain ⟨rfl, e⟩ := e
  exact SR.ite (fun q => absurd (by rw [e, q]) hf) fun _ => SR.pure ((h.mono hl).add _)
theorem SR.fieldAt (s : TypeId) (hs : fieldsOk P₁ s = true) {v v' : Value} (hv : VRel ρ v v') (k : Nat) : SR P₀ P₁ VRel ρ (Instr.fieldAt s v k) (Instr.fieldAt s v' k) := by
  unfold Instr.fieldAt
  refine (SR.underlying hT s).bind fun σ d d' hl e => ?_
  obtain ⟨rfl, hu⟩ := e
  split
  · rename_i fields
    cases hk : fields[k]? with
    | none => exact SR.stuck _
    | some f =>
      refine (SR.sureAddr (hv.mono hl)).bind fun σ2 a a' hl2 h => ?_
      have hf : (P₁.info? f.type).map (·.size) ≠ some 0 := by
        unfold fieldsOk at hs
        rw [hu] at hs
        have := List.all_eq_true.1 hs f (Array.mem_toList_iff.2 (Array.mem_of_getElem? hk))
        simpa using this
      exact (SR.fieldPlace hT h f hf).bind fun σ3 b b' hl3 h3 => SR.pure h3.ptr
  · exact SR.stuck _
theorem SR.field (t : TypeId) {v v' : Value} (hv : VRel ρ v v') (k : Nat) : SR P₀ P₁ VRel ρ (Instr.field t v k) (Instr.field t v' k) := by
  unfold Instr.field
  refine (SR.underlying hT t).bind fun σ d d' hl e => ?_
  obtain ⟨rfl, _⟩ := e
  split
  · rename_i fields _
    cases fields[k]? with
    | none => exact SR.stuck _
    | some f =>
      refine (SR.asAgg (hv.mono hl)).bind fun σ2 a a' hl2 h => ?_
      exact SR.part hT f.type h f.offset
  · exact SR.stuck _

/-- a place that may be none -/
inductive ORel (ρ : Ren) : Option Addr → Option Addr → Prop
  | none : ORel ρ none none
  | some {a a' : Addr} (h : AddrRel ρ a a') : ORel ρ (some a) (some a')
omit hT in
theorem ORel.mono {σ : Ren} (hl : le ρ σ) {a a' : Option Addr} (h : ORel ρ a a') : ORel σ a a' := by
  cases h with
  | none => exact .none
  | some h => exact .some (h.mono hl)
omit hT in
theorem ORel.slice {a a' : Option Addr} (h : ORel ρ a a') (l c : Nat) : VRel ρ (.slice a l c) (.slice a' l c) := by
  cases h with
  | none => exact .snil _ _
  | some h => exact h.slice _ _
omit hT in
/-- what a slice is -/
theorem slice_inv {v v' : Value} (h : VRel ρ v v') {a : Option Addr} {l c : Nat} (e : v = .slice a l c) : ∃ a', v' = .slice a' l c ∧ ORel ρ a a' := by
  subst e
  cases h with
  | snil => exact ⟨_, rfl, .none⟩
  | slice off spot _ _ h => exact ⟨_, rfl, .some ⟨h, rfl, rfl⟩⟩
omit hT in
theorem slice_inv' {v v' : Value} (h : VRel ρ v v') (hn : ∀ a l c, v ≠ .slice a l c) : ∀ a l c, v' ≠ .slice a l c := by
  intro a l c e
  subst e
  cases h with
  | snil => exact hn _ _ _ rfl
  | slice off spot _ _ h => exact hn _ _ _ rfl

theorem SR.indexAt (t : TypeId) {v v' i i' : Value} (hv : VRel ρ v v') (hi : VRel ρ i i') : SR P₀ P₁ VRel ρ (Instr.indexAt t v i) (Instr.indexAt t v' i') := by
  unfold Instr.indexAt
  refine (SR.asIntOf hi).bind fun σ k k' hl e => ?_
  subst e
  obtain ⟨kk, n⟩ := k
  dsimp only
  refine (SR.underlying hT t).bind fun σ1 d d' hl1 e => ?_
  obtain ⟨rfl, _⟩ := e
  have hv1 := (hv.mono hl).mono hl1
  split
  · refine (SR.sureAddr hv1).bind fun σ3 a a' hl3 h3 => ?_
    refine SR.bind (RA := fun σ x y => x = (some a, _, _) ∧ y = (some a', _, _)) (SR.pure ⟨rfl, rfl⟩) fun σ4 x y hl4 e => ?_
    obtain ⟨rfl, rfl⟩ := e
    refine (SR.underlying hT t).bind fun σ5 d d' hl5 e => ?_
    obtain ⟨rfl, _⟩ := e
    dsimp only
    refine SR.ite (fun _ => ?_) fun _ => SR.ite (fun _ => SR.unsupported (by simp)) fun _ => SR.bounds
    refine (SR.sizeOf hT _).bind fun σ6 s s' hl6 e => ?_
    subst e
    exact SR.pure ((((h3.mono hl4).mono hl5).mono hl6).add _).ptr
  · obtain ⟨a', rfl, ho⟩ := slice_inv hv1 rfl
    dsimp only
    refine SR.bind (RA := fun σ x y => x = (_, _, _) ∧ y = (a', _, _)) (SR.pure ⟨rfl, rfl⟩) fun σ4 x y hl4 e => ?_
    obtain ⟨rfl, rfl⟩ := e
    refine (SR.underlying hT t).bind fun σ5 d d' hl5 e => ?_
    obtain ⟨rfl, _⟩ := e
    dsimp only
    cases (ho.mono hl4).mono hl5 with
    | none => exact SR.bounds
    | some h =>
      dsimp only
      refine SR.ite (fun _ => ?_) fun _ => SR.ite (fun _ => SR.unsupported (by simp)) fun _ => SR.bounds
      refine (SR.sizeOf hT _).bind fun σ6 s s' hl6 e => ?_
      subst e
      exact SR.pure ((h.mono hl6).add _).ptr
  · exact SR.dead (fun w => ⟨.stuck "indexAddr: an array's address or a slice expected", w, trivial, rfl⟩)

omit hT in
theorem SR.sliceBound {v v' : Value} (hv : VRel ρ v v') (y : Nat) (c : BoundsCode) : SR P₀ P₁ (fun _ a b => a = b) ρ (Instr.sliceBound v y c) (Instr.sliceBound v' y c) := by
  unfold Instr.sliceBound
  refine (SR.asIntOf hv).bind fun σ k k' hl e => ?_
  subst e
  obtain ⟨kk, n⟩ := k
  exact SR.ite (fun _ => SR.pure rfl) fun _ => SR.bounds
/-- values that may be none -/
inductive VO (ρ : Ren) : Option Value → Option Value → Prop
  | none : VO ρ none none
  | some {v v' : Value} (h : VRel ρ v v') : VO ρ (some v) (some v')
omit hT in
theorem VO.mono {σ : Ren} (hl : le ρ σ) {a a' : Option Value} (h : VO ρ a a') : VO σ a a' := by
  cases h with
  | none => exact .none
  | some h => exact .some (h.mono hl)
omit hT in
theorem SR.sliceBounds (b : Bool) (l c : Nat) {lo lo' hi hi' mx mx' : Option Value} (h1 : VO ρ lo lo') (h2 : VO ρ hi hi') (h3 : VO ρ mx mx') :
    SR P₀ P₁ (fun _ x y => x = y) ρ (Instr.sliceBounds b l c lo hi mx) (Instr.sliceBounds b l c lo' hi' mx') := by
  unfold Instr.sliceBounds
  cases h3 with
  | none =>
    refine SR.bind (RA := fun _ x y => x = y) (SR.pure rfl) fun σ m m' hl e => ?_
    subst e
    cases h2 with
    | none =>
      refine SR.bind (RA := fun _ x y => x = y) (SR.pure rfl) fun σ2 m2 m2' hl2 e => ?_
      subst e
      cases h1 with
      | none => exact SR.bind (RA := fun _ x y => x = y) (SR.pure rfl) fun σ3 x y hl3 e => by subst e; exact SR.pure rfl
      | some h => exact (SR.sliceBound ((h.mono hl).mono hl2) _ _).bind fun σ3 x y hl3 e => by subst e; exact SR.pure rfl
    | some h2 =>
      refine (SR.sliceBound (h2.mono hl) _ _).bind fun σ2 m2 m2' hl2 e => ?_
      subst e
      cases h1 with
      | none => exact SR.bind (RA := fun _ x y => x = y) (SR.pure rfl) fun σ3 x y hl3 e => by subst e; exact SR.pure rfl
      | some h => exact (SR.sliceBound ((h.mono hl).mono hl2) _ _).bind fun σ3 x y hl3 e => by subst e; exact SR.pure rfl
  | some h3 =>
    refine (SR.sliceBound h3 _ _).bind fun σ m m' hl e => ?_
    subst e
    cases h2 with
    | none => exact SR.bind (RA := fun _ _ _ => False) (SR.stuck _) fun _ _ _ _ h => h.elim
    | some h2 =>
      refine (SR.sliceBound (h2.mono hl) _ _).bind fun σ2 m2 m2' hl2 e => ?_
      subst e
      cases h1 with
      | none => exact SR.bind (RA := fun _ x y => x = y) (SR.pure rfl) fun σ3 x y hl3 e => by subst e; exact SR.pure rfl
      | some h => exact (SR.sliceBound ((h.mono hl).mono hl2) _ _).bind fun σ3 x y hl3 e => by subst e; exact SR.pure rfl
/-- 'x[l:h]' of a slice -/
theorem SR.sliceAt {t : TypeId} (ht : ∃ e, P₁.underlying t = some (.slice e)) {v v' : Value} (hv : VRel ρ v v') {lo lo' hi hi' mx mx' : Option Value} (h1 : VO ρ lo lo') (h2 : VO ρ hi hi') (h3 : VO ρ mx mx') :
    SR P₀ P₁ VRel ρ (Instr.sliceAt t v lo hi mx) (Instr.sliceAt t v' lo' hi' mx') := by
  obtain ⟨el, ht⟩ := ht
  unfold Instr.sliceAt
  refine (SR.underlying hT t).bind fun σ d d' hl e => ?_
  obtain ⟨rfl, e⟩ := e
  rw [ht] at e
  cases e
  simp only
  unfold Instr.slice
  refine (SR.underlying hT t).bind fun σ1 d d' hl1 e => ?_
  obtain ⟨rfl, e⟩ := e
  rw [ht] at e
  cases e
  have hv1 := (hv.mono hl).mono hl1
  by_cases hs : ∃ a l c, v = .slice a l c
  · obtain ⟨a, l, c, rfl⟩ := hs
    obtain ⟨a', rfl, ho⟩ := slice_inv hv1 rfl
    simp only
    refine (SR.sliceBounds true l c ((h1.mono hl).mono hl1) ((h2.mono hl).mono hl1) ((h3.mono hl).mono hl1)).bind fun σ2 x y hl2 e => ?_
    subst e
    obtain ⟨x1, x2, x3⟩ := x
    simp only
    refine (SR.sizeOf hT _).bind fun σ3 s s' hl3 e => ?_
    subst e
    refine SR.pure (ORel.slice ?_ _ _)
    have ho2 := (ho.mono hl2).mono hl3
    split
    · exact ho2
    · cases ho2 with
      | none => exact .none
      | some h => exact .some (h.add _)
  · have hn : ∀ a l c, v ≠ .slice a l c := fun a l c e => hs ⟨a, l, c, e⟩
    cases hv1 <;> first | exact SR.stuck _ | exact absurd rfl (hn _ _ _)

/-! ### what is built -/
/-- the parts of a literal, one by one -/
inductive PRel (ρ : Ren) : List (Nat × Value) → List (Nat × Value) → Prop
  | nil : PRel ρ [] []
  | cons (i : Nat) {v v' : Value} {l l' : List (Nat × Value)} (h : VRel ρ v v') (t : PRel ρ l l') : PRel ρ ((i, v) :: l) ((i, v') :: l')
omit hT in
theorem PRel.mono {σ : Ren} (hl : le ρ σ) {l l' : List (Nat × Value)} (h : PRel ρ l l') : PRel σ l l' := by
  induction h with
  | nil => exact .nil
  | cons i h _ ih => exact .cons i (h.mono hl) ih
omit hT in
theorem fold_set (off : Nat) : ∀ (l l' : List (Value × Nat)) {cs cs' : Array Value}, l.length = l'.length → (∀ (i : Nat) (x y : Value × Nat), l[i]? = some x → l'[i]? = some y → VRel ρ x.1 y.1 ∧ x.2 = y.2) → ARel ρ cs cs' →
    ARel ρ (l.foldl (fun cs (x : Value × Nat) => cs.setIfInBounds (off + x.2) x.1) cs) (l'.foldl (fun cs (x : Value × Nat) => cs.setIfInBounds (off + x.2) x.1) cs')
  | [], [], _, _, _, _, h => h
  | [], _ :: _, _, _, e, _, _ => by simp at e
  | _ :: _, [], _, _, e, _, _ => by simp at e
  | x :: l, y :: l', cs, cs', e, hx, h => by
    obtain ⟨h1, h2⟩ := hx 0 x y rfl rfl
    simp only [List.foldl_cons]
    rw [← h2]
    exact fold_set off l l' (by simpa using e) (fun i a b ha hb => hx (i + 1) a b (by simpa using ha) (by simpa using hb)) (h.set _ h1)
omit hT in
theorem fill_rel (place : Nat → Option (Nat × Nat)) : ∀ {l l' : List (Nat × Value)} {cs cs' : Array Value}, PRel ρ l l' → ARel ρ cs cs' →
    (Instr.fill place cs l = none ∧ Instr.fill place cs' l' = none) ∨ ∃ r r', Instr.fill place cs l = some r ∧ Instr.fill place cs' l' = some r' ∧ ARel ρ r r'
  | _, _, cs, cs', .nil, h => .inr ⟨cs, cs', rfl, rfl, h⟩
  | _, _, cs, cs', .cons (v := v) (v' := v') (l := l) (l' := l') i hv ht, h => by
    unfold Instr.fill
    cases place i with
    | none => exact .inl ⟨rfl, rfl⟩
    | some p =>
      obtain ⟨off, size⟩ := p
      have hc := hv.cells
      simp only [← hc.1, ← h.1]
      split
      · exact .inl ⟨rfl, rfl⟩
      · refine fill_rel place ht ?_
        simp only [← Array.foldl_toList]
        refine fold_set off _ _ (by simp [hc.1]) (fun j x y hx hy => ?_) h
        simp only [Array.toList_zipIdx, List.getElem?_zipIdx, Array.getElem?_toList, Option.map_eq_some_iff] at hx hy
        obtain ⟨a, ha, rfl⟩ := hx
        obtain ⟨b, hb, rfl⟩ := hy
        exact ⟨hc.at ha hb, rfl⟩
end
end Go.Proofs.Ytjgkignnfkbeaaa.Sim

/-
  Two runs of one code, over two heaps: literals, numbers, the built-in functions.
-/
namespace Go.Proofs.Ytjgkignnfkbeaaa.Sim
open Go
set_option linter.unusedVariables false
variable [Low]

section
variable {P₀ P₁ : Program} {ρ : Ren} {α β γ δ : Type} {RA : Ren → α → β → Prop} (hT : P₀.toTables = P₁.toTables)

omit [Low] in
theorem Dead.bind {s : Sem α} {f : α → Sem β} (h : Dead P₀ s) : Dead P₀ (s >>= f) := fun w => by
  obtain ⟨q, w', t, e⟩ := h w
  exact ⟨q, w', t, by rw [Sem.run_bind, e]; rfl⟩
theorem SR.askRoom (n : Nat) : SR P₀ P₁ (fun _ _ _ => True) ρ (Go.askRoom n) (Go.askRoom n) := by
  unfold Go.askRoom
  exact SR.ite (fun _ => SR.markNoRoom) fun _ => SR.pure trivial
theorem default_rel : VRel ρ (default : Value) default := .bool false
theorem ARel.get! {a a' : Array Value} (h : ARel ρ a a') (i : Nat) : VRel ρ a[i]! a'[i]! := by
  simp only [getElem!_def]
  rcases h.get? i with ⟨e1, e2⟩ | ⟨v, v', e1, e2, hv⟩
  · rw [e1, e2]; exact default_rel
  · rw [e1, e2]; exact hv
theorem rangeMap_rel {z z' : Array Value} (h : ARel ρ z z') (n : Nat) (f : Nat → Nat) : ARel ρ ((Array.range n).map fun i => z[f i]!) ((Array.range n).map fun i => z'[f i]!) := by
  refine arel_of_get? (by simp) fun i v v' e e' => ?_
  simp only [Array.getElem?_map, Option.map_eq_some_iff] at e e'
  obtain ⟨a, ha, rfl⟩ := e
  obtain ⟨b, hb, rfl⟩ := e'
  rw [ha] at hb
  cases hb
  exact h.get! _
theorem mapM_places (hT : P₀.toTables = P₁.toTables) (fields : Array Field) : SR P₀ P₁ (fun _ x y => x = y) ρ (fields.mapM fun f => do pure (f.offset, ← sizeOf f.type)) (fields.mapM fun f => do pure (f.offset, ← sizeOf f.type)) := by
  rw [Array.mapM_eq_mapM_toList]
  have : ∀ (l : List Field) (σ : Ren), SR P₀ P₁ (fun _ x y => x = y) σ (l.mapM fun f => do Pure.pure (f.offset, ← Go.sizeOf f.type)) (l.mapM fun f => do Pure.pure (f.offset, ← Go.sizeOf f.type)) := by
    intro l
    induction l with
    | nil => intro σ; exact SR.pure rfl
    | cons f l ih =>
      intro σ
      simp only [List.mapM_cons]
      refine SR.bind (RA := fun _ x y => x = y) ?_ fun σ1 x y hl e => ?_
      · exact (SR.sizeOf hT _).bind fun σ2 a b hl e => by subst e; exact SR.pure rfl
      subst e
      exact (ih σ1).bind fun σ2 a b hl e => by subst e; exact SR.pure rfl
  exact SR.map (this fields.toList ρ) fun σ a b hl e => by rw [e]
include hT

theorem SR.build {t : TypeId} (hz : zeroOk P₁ t = true) {p p' : Array (Nat × Value)} (hp : PRel ρ p.toList p'.toList) : SR P₀ P₁ VRel ρ (Instr.build t p) (Instr.build t p') := by
  unfold Instr.build
  refine (SR.zeroValue hT hz).bind fun σ z z' hl hzz => ?_
  dsimp only
  refine (SR.underlying hT t).bind fun σ1 d d' hl1 e => ?_
  obtain ⟨rfl, _⟩ := e
  split
  · rename_i fields _
    refine (mapM_places hT fields).bind fun σ2 x y hl2 e => ?_
    subst e
    rcases fill_rel (fun i => x[i]?) (((hp.mono hl).mono hl1).mono hl2) ((hzz.cells.mono hl1).mono hl2) with ⟨e1, e2⟩ | ⟨r, r', e1, e2, hr⟩
    · rw [e1, e2]; exact SR.stuck _
    · rw [e1, e2]; exact SR.pure hr.agg
  · refine (SR.sizeOf hT _).bind fun σ2 x y hl2 e => ?_
    subst e
    rcases fill_rel (fun i => some (i * x, x)) (((hp.mono hl).mono hl1).mono hl2) ((hzz.cells.mono hl1).mono hl2) with ⟨e1, e2⟩ | ⟨r, r', e1, e2, hr⟩
    · rw [e1, e2]; exact SR.stuck _
    · rw [e1, e2]; exact SR.pure hr.agg
  · exact SR.stuck _

/-- the slice type's elements have a zero value without places -/
def elemOk (P : Program) (t : TypeId) : Bool := match P.underlying t with | some (.slice e) => zeroOk P e | _ => true
theorem SR.buildSlice {t : TypeId} (hz : elemOk P₁ t = true) (n : Nat) {p p' : Array (Nat × Value)} (hp : PRel ρ p.toList p'.toList) : SR P₀ P₁ VRel ρ (Instr.buildSlice t n p) (Instr.buildSlice t n p') := by
  unfold Instr.buildSlice
  refine (SR.underlying hT t).bind fun σ d d' hl e => ?_
  obtain ⟨rfl, he⟩ := e
  unfold elemOk at hz
  rw [he] at hz
  split
  · rename_i el
    simp only at hz
    refine (SR.sizeOf hT _).bind fun σ1 x y hl1 e => ?_
    subst e
    refine SR.ite (fun _ => SR.unsupported (by simp)) fun _ => ?_
    have fin : ∀ {σ2 : Ren} {zr zr' : Array Value}, le σ1 σ2 → ARel σ2 zr zr' →
        (Instr.fill (fun i => some (i * x, x)) ((Array.range (n * x)).map (fun i => zr[i % zr.size]!)) p.toList = none ∧ Instr.fill (fun i => some (i * x, x)) ((Array.range (n * x)).map (fun i => zr'[i % zr'.size]!)) p'.toList = none) ∨
        ∃ r r', Instr.fill (fun i => some (i * x, x)) ((Array.range (n * x)).map (fun i => zr[i % zr.size]!)) p.toList = some r ∧ Instr.fill (fun i => some (i * x, x)) ((Array.range (n * x)).map (fun i => zr'[i % zr'.size]!)) p'.toList = some r' ∧ ARel σ2 r r' := by
      intro σ2 zr zr' hl2 hr
      refine fill_rel (fun i => some (i * x, x)) (((hp.mono hl).mono hl1).mono hl2) ?_
      rw [← hr.1]; exact rangeMap_rel hr _ _
    refine SR.ite (fun _ => ?_) fun _ => ?_
    · refine SR.bind (RA := ARel) (SR.pure ARel.nil) fun σ2 z z' hl2 h => ?_
      dsimp only
      rcases fin hl2 h with ⟨e1, e2⟩ | ⟨r, r', e1, e2, hr2⟩
      · rw [e1, e2]; exact SR.stuck _
      · rw [e1, e2]
        exact (SR.newRow el hr2).bind fun σ3 a a' hl3 h => SR.pure (h.slice _ _)
    · refine (SR.zeroValue hT hz).bind fun σ2 z z' hl2 h => ?_
      refine SR.bind (RA := ARel) (SR.pure h.cells) fun σ3 z z' hl3 h => ?_
      dsimp only
      rcases fin (le_trans hl2 hl3) h with ⟨e1, e2⟩ | ⟨r, r', e1, e2, hr2⟩
      · rw [e1, e2]; exact SR.stuck _
      · rw [e1, e2]
        exact (SR.newRow el hr2).bind fun σ3 a a' hl3 h => SR.pure (h.slice _ _)
  · exact SR.stuck _

theorem SR.makeSlice {t : TypeId} (hz : elemOk P₁ t = true) {l l' c c' : Value} (hl0 : VRel ρ l l') (hc0 : VRel ρ c c') : SR P₀ P₁ VRel ρ (Instr.makeSlice t l c) (Instr.makeSlice t l' c') := by
  unfold Instr.makeSlice
  refine (SR.underlying hT t).bind fun σ d d' hl e => ?_
  obtain ⟨rfl, he⟩ := e
  unfold elemOk at hz
  rw [he] at hz
  split
  · rename_i el
    simp only at hz
    refine (SR.asInt (hl0.mono hl)).bind fun σ1 x y hl1 e => ?_
    subst e
    refine (SR.asInt ((hc0.mono hl).mono hl1)).bind fun σ2 x2 y2 hl2 e => ?_
    subst e
    refine (SR.typeInfo hT el).bind fun σ3 i i' hl3 e => ?_
    obtain ⟨rfl, _⟩ := e
    dsimp only
    refine SR.ite (fun _ => SR.dead ?_) fun _ => ?_
    · split
      · exact Dead.bind (dead_runtime (e := .error _) trivial)
      · split
        · exact Dead.bind (dead_runtime (e := .error _) trivial)
        · exact Dead.bind_right (fun w => .inr (run_choose_any P₀ _ w)) fun a => Dead.bind (dead_runtime (e := .error _) trivial)
    · refine (SR.askRoom _).bind fun σ4 _ _ hl4 _ => ?_
      refine (SR.sizeOf hT el).bind fun σ5 q q' hl5 e => ?_
      subst e
      refine SR.ite (fun _ => ?_) fun _ => ?_
      · refine SR.bind (RA := ARel) (SR.pure ARel.nil) fun σ6 z z' hl6 h => ?_
        rw [← h.1]
        exact (SR.newRow el (rangeMap_rel h _ (fun i => i % z.size))).bind fun σ7 a a' hl7 h => SR.pure (h.slice _ _)
      · refine (SR.zeroValue hT hz).bind fun σ6 z z' hl6 h => ?_
        refine SR.bind (RA := ARel) (SR.pure h.cells) fun σ7 z z' hl7 h => ?_
        rw [← h.1]
        exact (SR.newRow el (rangeMap_rel h _ (fun i => i % z.size))).bind fun σ8 a a' hl8 h => SR.pure (h.slice _ _)
  · exact SR.stuck _
omit hT in
theorem SR.extract {v v' : Value} (hv : VRel ρ v v') (i : Nat) : SR P₀ P₁ VRel ρ (Instr.extract v i) (Instr.extract v' i) := by
  unfold Instr.extract
  cases hv with
  | tuple hs h =>
    dsimp only
    rcases (show ARel ρ _ _ from ⟨hs, h⟩).get? i with ⟨e1, e2⟩ | ⟨u, u', e1, e2, hu⟩
    · rw [e1, e2]; exact SR.stuck _
    · rw [e1, e2]; exact SR.pure hu
  | _ => exact SR.stuck _
omit hT in
theorem SR.unary (op : UnOp) {v v' : Value} (hv : VRel ρ v v') : SR P₀ P₁ VRel ρ (Op.unary op v) (Op.unary op v') := by
  cases hv <;> cases op <;> first
    | exact SR.pure (.bool _)
    | exact SR.pure (.int _ _)
    | exact SR.stuck _
    | exact SR.unsupported (by simp)
/-- from numbers to numbers -/
theorem SR.convert {s d : TypeId} (hs : ∃ k, P₁.underlying s = some (.int k)) (hd : ∃ k, P₁.underlying d = some (.int k)) {v v' : Value} (hv : VRel ρ v v') : SR P₀ P₁ VRel ρ (Go.convert s d v) (Go.convert s d v') := by
  obtain ⟨k1, hs⟩ := hs
  obtain ⟨k2, hd⟩ := hd
  unfold Go.convert
  refine (SR.underlying hT s).bind fun σ x x' hl e => ?_
  obtain ⟨rfl, e⟩ := e
  rw [hs] at e
  cases e
  refine (SR.underlying hT d).bind fun σ1 x x' hl1 e => ?_
  obtain ⟨rfl, e⟩ := e
  rw [hd] at e
  cases e
  cases (hv.mono hl).mono hl1 <;> first
    | exact SR.pure (.int _ _)
    | exact SR.unsupported (by simp)
omit hT in
theorem SR.min2 {v v' u u' : Value} (hv : VRel ρ v v') (hu : VRel ρ u u') : SR P₀ P₁ VRel ρ (Builtin.min2 v u) (Builtin.min2 v' u') := by
  cases hv <;> cases hu <;> first
    | exact SR.pure (.int _ _)
    | exact SR.stuck _
    | exact SR.unsupported (by simp)
    | (unfold Builtin.min2
       refine SR.bind (RA := fun _ x y => x = y ∧ ∃ b, x = Value.bool b) (SR.pure ⟨rfl, _, rfl⟩) fun σ x y hl e => ?_
       obtain ⟨rfl, b, rfl⟩ := e
       refine SR.bind (RA := fun _ x y => x = y) (SR.pure rfl) fun σ2 x y hl2 e => ?_
       subst e
       exact SR.pure (.string _))
omit hT in
theorem SR.max2 {v v' u u' : Value} (hv : VRel ρ v v') (hu : VRel ρ u u') : SR P₀ P₁ VRel ρ (Builtin.max2 v u) (Builtin.max2 v' u') := by
  cases hv <;> cases hu <;> first
    | exact SR.pure (.int _ _)
    | exact SR.stuck _
    | exact SR.unsupported (by simp)
    | (unfold Builtin.max2
       refine SR.bind (RA := fun _ x y => x = y ∧ ∃ b, x = Value.bool b) (SR.pure ⟨rfl, _, rfl⟩) fun σ x y hl e => ?_
       obtain ⟨rfl, b, rfl⟩ := e
       refine SR.bind (RA := fun _ x y => x = y) (SR.pure rfl) fun σ2 x y hl2 e => ?_
       subst e
       exact SR.pure (.string _))
omit hT in
theorem SR.foldlM {f g : Value → Value → Sem Value} (hf : ∀ {σ : Ren} {v v' u u' : Value}, VRel σ v v' → VRel σ u u' → SR P₀ P₁ VRel σ (f v u) (g v' u')) :
    ∀ {l l' : List Value} {σ : Ren} {v v' : Value}, LRel σ l l' → VRel σ v v' → SR P₀ P₁ VRel σ (l.foldlM f v) (l'.foldlM g v')
  | _, _, σ, v, v', .nil, hv => SR.pure hv
  | _, _, σ, v, v', .cons h t, hv => by
    simp only [List.foldlM_cons]
    exact (hf hv h).bind fun σ1 a b hl hab => SR.foldlM hf (t.mono hl) hab
omit hT in
theorem SR.min_ (ats : Array TypeId) (t : TypeId) {a a' : Array Value} (h : ARel ρ a a') : SR P₀ P₁ VRel ρ (Builtin.min_ ats t a) (Builtin.min_ ats t a') := by
  unfold Builtin.min_
  have hl := h.toList
  generalize a.toList = l at hl
  generalize a'.toList = l' at hl
  cases hl with
  | nil => exact SR.stuck _
  | cons hv ht => exact SR.foldlM (fun h1 h2 => SR.min2 h1 h2) ht hv
omit hT in
theorem SR.max_ (ats : Array TypeId) (t : TypeId) {a a' : Array Value} (h : ARel ρ a a') : SR P₀ P₁ VRel ρ (Builtin.max_ ats t a) (Builtin.max_ ats t a') := by
  unfold Builtin.max_
  have hl := h.toList
  generalize a.toList = l at hl
  generalize a'.toList = l' at hl
  cases hl with
  | nil => exact SR.stuck _
  | cons hv ht => exact SR.foldlM (fun h1 h2 => SR.max2 h1 h2) ht hv
end
end Go.Proofs.Ytjgkignnfkbeaaa.Sim

/-
  Two runs of one code, over two heaps: len, copy, append; the operators.
-/
namespace Go.Proofs.Ytjgkignnfkbeaaa.Sim
open Go
set_option linter.unusedVariables false
variable [Low]

section
variable {P₀ P₁ : Program} {ρ : Ren} {α β γ δ : Type} {RA : Ren → α → β → Prop} (hT : P₀.toTables = P₁.toTables)
include hT

theorem SR.len_ (ats : Array TypeId) (ty : TypeId) (ht : ∃ t d, ats[0]? = some t ∧ P₁.underlying t = some d ∧ (d = .string ∨ ∃ e, d = .slice e)) {a a' : Array Value} (h : ARel ρ a a') : SR P₀ P₁ VRel ρ (Builtin.len_ ats ty a) (Builtin.len_ ats ty a') := by
  obtain ⟨t, d, h0, hd, hk⟩ := ht
  unfold Builtin.len_
  rcases h.get? 0 with ⟨e1, e2⟩ | ⟨v, v', e1, e2, hv⟩
  · rw [h0, e1, e2]; exact SR.stuck _
  rw [h0, e1, e2]
  dsimp only
  refine (SR.underlying hT t).bind fun σ x x' hl e => ?_
  obtain ⟨rfl, e⟩ := e
  rw [hd] at e
  cases e
  rcases hk with rfl | ⟨el, rfl⟩
  · cases hv.mono hl <;> first | exact SR.pure (.int _ _) | exact SR.stuck _
  · cases hv.mono hl <;> first | exact SR.pure (.int _ _) | exact SR.stuck _

omit hT in
theorem SR.lenOf {v v' : Value} (hv : VRel ρ v v') : SR P₀ P₁ (fun _ x y => x = y) ρ (Builtin.lenOf v) (Builtin.lenOf v') := by
  cases hv <;> first | exact SR.pure rfl | exact SR.stuck _
omit hT in
theorem arel_refl {c : Array Value} (h : ∀ v ∈ c, VRel ρ v v) : ARel ρ c c := ⟨rfl, fun i h1 h2 => h _ (Array.getElem_mem h1)⟩
omit hT in
theorem SR.firstCells (size n : Nat) {v v' : Value} (hv : VRel ρ v v') : SR P₀ P₁ ARel ρ (Builtin.firstCells size n v) (Builtin.firstCells size n v') := by
  cases hv with
  | slice off spot l c h => exact SR.loadCells (a := ⟨_, off, spot⟩) (a' := ⟨_, off, spot⟩) ⟨h, rfl, rfl⟩ _
  | snil => exact SR.pure ARel.nil
  | string s =>
    refine SR.pure (arel_refl fun v hv => ?_)
    rw [Array.mem_map] at hv
    obtain ⟨b, _, rfl⟩ := hv
    exact .int _ _
  | _ => exact SR.stuck _
theorem SR.copy_ (ats : Array TypeId) (ty : TypeId) {a a' : Array Value} (h : ARel ρ a a') : SR P₀ P₁ VRel ρ (Builtin.copy_ ats ty a) (Builtin.copy_ ats ty a') := by
  unfold Builtin.copy_
  cases ats[0]? with
  | none => exact SR.stuck _
  | some t =>
    rcases h.get? 0 with ⟨e1, e2⟩ | ⟨v, v', e1, e2, hv⟩
    · rw [e1, e2]; exact SR.stuck _
    rcases h.get? 1 with ⟨f1, f2⟩ | ⟨u, u', f1, f2, hu⟩
    · rw [e1, e2, f1, f2]; exact SR.stuck _
    rw [e1, e2, f1, f2]
    dsimp only
    refine (SR.underlying hT t).bind fun σ x x' hl e => ?_
    obtain ⟨rfl, _⟩ := e
    split
    · rename_i el _
      by_cases hs : ∃ a l c, v = .slice a l c
      · obtain ⟨b, l, c, rfl⟩ := hs
        obtain ⟨b', rfl, ho⟩ := slice_inv (hv.mono hl) rfl
        dsimp only
        refine (SR.lenOf (hu.mono hl)).bind fun σ1 n n' hl1 e => ?_
        subst e
        refine (SR.sizeOf hT _).bind fun σ2 z z' hl2 e => ?_
        subst e
        refine (SR.firstCells z _ (((hu.mono hl).mono hl1).mono hl2)).bind fun σ3 c c' hl3 hc => ?_
        cases ((ho.mono hl1).mono hl2).mono hl3 with
        | none => exact SR.pure (.int _ _)
        | some h => exact (SR.storeCells 0 h hc.toList).bind fun σ4 _ _ hl4 _ => SR.pure (.int _ _)
      · have hn : ∀ a l c, v ≠ .slice a l c := fun a l c e => hs ⟨a, l, c, e⟩
        cases hv <;> first | exact SR.stuck _ | exact absurd rfl (hn _ _ _)
    · exact SR.stuck _

omit hT in
theorem zeroCells_rel {z z' : Array Value} (h : ARel ρ z z') (n : Nat) : ARel ρ (Builtin.zeroCells z n) (Builtin.zeroCells z' n) := by
  unfold Builtin.zeroCells
  rw [← h.1]
  exact rangeMap_rel h _ (fun i => i % z.size)
omit [Low] in
omit hT in
theorem run_mayShare {P : Program} {size sLen n : Nat} {base : Option Addr} {x : Value} (w : World) : ∃ a w', (Builtin.mayShare size sLen n base x).run P w = .ok a w' := by
  have hh : ∀ (a : Addr) (k : Nat) (w : World), ∃ b, (Builtin.holdsCells a k).run P w = .ok b w := fun a k w => by
    unfold Builtin.holdsCells
    simp only [Sem.run_bind, shape, Sem.run, Result.andThen_ok]
    cases w.shape? a.block with
    | none => exact ⟨_, rfl⟩
    | some p => exact ⟨_, rfl⟩
  unfold Builtin.mayShare
  cases base with
  | none =>
    simp only [Sem.run_bind, Sem.run_pure, Result.andThen_ok, Bool.not_true, Bool.false_eq_true, if_false]
    split
    · rename_i b _ _
      obtain ⟨q, hq⟩ := hh b (n * size) w
      exact ⟨_, w, by rw [Sem.run_bind, hq]; rfl⟩
    · exact ⟨_, w, rfl⟩
  | some a =>
    obtain ⟨q, hq⟩ := hh a (sLen * size) w
    simp only [Sem.run_bind, hq, Result.andThen_ok, Go.frozen, Sem.run, Sem.run_pure]
    cases hc : (q && !w.frozen? (a.add (sLen / 2 * size))) with
    | false => exact ⟨true, w, rfl⟩
    | true =>
      simp only [Bool.not_true, Bool.false_eq_true, if_false]
      split
      · rename_i b _ _
        obtain ⟨q2, hq2⟩ := hh b (n * size) w
        exact ⟨_, w, by rw [Sem.run_bind, hq2]; rfl⟩
      · exact ⟨_, w, rfl⟩
theorem SR.append_ (ats : Array TypeId) (ty : TypeId) (ht : ∃ t u e, ats[0]? = some t ∧ ats[1]? = some u ∧ P₁.underlying t = some (.slice e) ∧ (∃ e', P₁.underlying u = some (.slice e')) ∧ zeroOk P₁ e = true) {a a' : Array Value} (h : ARel ρ a a') :
    SR P₀ P₁ VRel ρ (Builtin.append_ ats ty a) (Builtin.append_ ats ty a') := by
  obtain ⟨t, u, el, h0, h1, hd, ⟨el', hd'⟩, hz⟩ := ht
  unfold Builtin.append_
  rcases h.get? 0 with ⟨e1, e2⟩ | ⟨v, v', e1, e2, hv⟩
  · rw [h0, e1, e2]; exact SR.stuck _
  rcases h.get? 1 with ⟨f1, f2⟩ | ⟨x, x', f1, f2, hx⟩
  · rw [h0, e1, e2, f1, f2]; exact SR.stuck _
  rw [h0, h1, e1, e2, f1, f2]
  dsimp only
  refine (SR.underlying hT t).bind fun σ d d' hl e => ?_
  obtain ⟨rfl, e⟩ := e
  rw [hd] at e
  cases e
  dsimp only
  by_cases hs : ∃ a l c, v = .slice a l c
  · obtain ⟨b, l, c, rfl⟩ := hs
    obtain ⟨b', rfl, ho⟩ := slice_inv (hv.mono hl) rfl
    dsimp only
    refine (SR.sizeOf hT el).bind fun σ1 sz sz' hl1 e => ?_
    subst e
    refine (SR.underlying hT u).bind fun σ2 d d' hl2 e => ?_
    obtain ⟨rfl, e⟩ := e
    rw [hd'] at e
    cases e
    refine SR.bind (RA := fun _ x y => x = false ∧ y = false) (SR.pure ⟨rfl, rfl⟩) fun σ3 z1 z2 hl3 e => ?_
    obtain ⟨rfl, rfl⟩ := e
    simp only [Bool.false_eq_true, if_false, Bool.not_false, if_true]
    have hx3 := (((hx.mono hl).mono hl1).mono hl2).mono hl3
    have ho3 := ((ho.mono hl1).mono hl2).mono hl3
    clear hx ho hv e1 e2 f1 f2 h
    refine (SR.lenOf hx3).bind fun σ4 n n' hl4 e => ?_
    subst e
    refine SR.ite (fun _ => ?_) fun _ => ?_
    · refine (SR.firstCells sz n (hx3.mono hl4)).bind fun σ5 c1 c2 hl5 hc => ?_
      cases (ho3.mono hl4).mono hl5 with
      | none => exact SR.pure (.snil _ _)
      | some h =>
        dsimp only
        refine (SR.storeCells 0 (h.add _) hc.toList).bind fun σ6 _ _ hl6 _ => ?_
        exact SR.pure ((h.mono hl6).slice _ _)
    · refine (SR.typeInfo hT el).bind fun σ5 i i' hl5 e => ?_
      obtain ⟨rfl, _⟩ := e
      refine SR.ite (fun _ => SR.dead (Dead.bind (dead_runtime (e := .error _) trivial))) fun _ => ?_
      refine (SR.typeInfo hT el).bind fun σ6 i2 i' hl6 e => ?_
      obtain ⟨rfl, _⟩ := e
      refine SR.ite (fun _ => SR.dead ?_) fun _ => ?_
      · refine Dead.bind (Dead.bind_right (fun w => .inr (run_mayShare w)) fun a => ?_)
        split
        · exact Dead.bind_right (fun w => .inr ⟨_, w, rfl⟩) fun _ => Dead.halt (tt (by simp))
        · exact Dead.halt (tt (by simp))
      · refine (SR.choose _).bind fun σ7 k k' hl7 e => ?_
        subst e
        refine (SR.typeInfo hT el).bind fun σ8 i3 i' hl8 e => ?_
        obtain ⟨rfl, _⟩ := e
        refine (SR.askRoom _).bind fun σ9 _ _ hl9 _ => ?_
        have hup : le σ4 σ9 := le_trans hl5 (le_trans hl6 (le_trans hl7 (le_trans hl8 hl9)))
        have ho9 := (ho3.mono hl4).mono hup
        refine (SR.firstCells sz l (ho9.slice l c)).bind fun σ10 o1 o2 hl10 hold => ?_
        refine (SR.firstCells sz n (((hx3.mono hl4).mono hup).mono hl10)).bind fun σ11 n1 n2 hl11 hnew => ?_
        refine (SR.zeroValue hT hz).bind fun σ12 z1 z2 hl12 hzz => ?_
        refine (SR.newRow el ((((hold.mono hl11).mono hl12).append (hnew.mono hl12)).append (zeroCells_rel hzz.cells _))).bind fun σ13 r1 r2 hl13 hr => ?_
        exact SR.pure (hr.slice _ _)
  · have hn : ∀ a l c, v ≠ .slice a l c := fun a l c e => hs ⟨a, l, c, e⟩
    cases hv <;> first | exact SR.stuck _ | exact absurd rfl (hn _ _ _)
end
end Go.Proofs.Ytjgkignnfkbeaaa.Sim

/-
  Two runs of one code, over two heaps: the operators.
-/
namespace Go.Proofs.Ytjgkignnfkbeaaa.Sim
open Go
set_option linter.unusedVariables false
variable [Low]

section
variable {P₀ P₁ : Program} {ρ : Ren} {α β γ δ : Type} {RA : Ren → α → β → Prop} (hT : P₀.toTables = P₁.toTables)

theorem SR.behindNumber {a a' : Addr} (h : AddrRel ρ a a') : SR P₀ P₁ (fun σ x y => AddrRel σ x.1 y.1 ∧ x.2 = y.2) ρ (Go.behindNumber a) (Go.behindNumber a') := by
  unfold Go.behindNumber
  refine (SR.numberAt h.1.1).bind fun σ x y hl e => ?_
  rcases e with ⟨rfl, rfl⟩ | ⟨p, p', l, rfl, rfl, hp⟩
  · exact SR.pure ⟨h.mono hl, rfl⟩
  · exact SR.pure ⟨hp, rfl⟩
theorem SR.asNumber {a a' : Addr} (h : AddrRel ρ a a') (l : Bool) : SR P₀ P₁ VRel ρ (Go.asNumber a l) (Go.asNumber a' l) := by
  unfold Go.asNumber
  refine (SR.newAny (.inr ⟨a, a', l, rfl, rfl, h⟩)).bind fun σ b x hl e => SR.pure (.ptr 0 none (at_low e.1 e.2 0))
variable [NoBad P₁]
include hT
theorem SR.unsafeAdd {a a' : Option Addr} (h : ORel ρ a a') {y y' : Value} (hy : VRel ρ y y') (t : TypeId) : SR P₀ P₁ (fun σ x z => ∃ b b', ORel σ b b' ∧ x = .pointer b ∧ z = .pointer b') ρ (Builtin.unsafeAdd_ #[] t #[.pointer a, y]) (Builtin.unsafeAdd_ #[] t #[.pointer a', y']) := by
  unfold Builtin.unsafeAdd_
  dsimp only
  refine (SR.asInt hy).bind fun σ n n' hl e => ?_
  subst e
  refine SR.ite (fun _ => ?_) fun _ => SR.ite (fun _ => SR.dead (Dead.bind (Dead.halt (tt (by simp))))) fun _ => ?_
  · cases h with
    | none => exact SR.unsupported (by simp)
    | some h =>
      dsimp only
      refine (SR.viewAt (hl _ _ h.1.1)).bind fun σ1 x z hl1 e => ?_
      obtain ⟨rfl, rfl⟩ := e
      exact SR.pure ⟨_, _, .some ((h.mono hl).mono hl1), rfl, rfl⟩
  · cases h with
    | none => exact SR.unsupported (by simp)
    | some h =>
      dsimp only
      rename_i a a'
      by_cases hsp : Spc a.block
      · refine (SR.shapeS (hl _ _ h.1.1) hsp).bind fun σ1 x z hl1 e => ?_
        obtain ⟨m, rfl⟩ := e
        refine SR.dead fun w => ⟨.unsupported (.unsafePointer "Add"), w, tt (by simp), ?_⟩
        have hb : P₀.info? badT = none := by rw [info_eq hT]; exact NoBad.bad
        have hc : P₀.cellsOf badT = 0 := by unfold Program.cellsOf; rw [hb]; rfl
        have : cellAtBytes P₀ P₀.depth badT (m / P₀.cellsOf badT) a.off n = none := by unfold cellAtBytes; simp [hc]
        simp only [Go.program, Sem.run, Sem.run_bind, Result.andThen_ok, this]
        rfl
      refine (SR.shapeN (hl _ _ h.1.1) hsp).bind fun σ1 x z hl1 e => ?_
      subst e
      cases x with
      | none => exact SR.unsupported (by simp)
      | some p =>
        obtain ⟨e, cells⟩ := p
        dsimp only
        refine SR.prog _ _ ?_
        rw [cellAtBytes_eq hT, cellsOf_eq hT, depth_eq hT, ← h.2.1]
        cases cellAtBytes P₁ P₁.depth e (cells / P₁.cellsOf e) _ n with
        | none => exact SR.unsupported (by simp)
        | some off =>
          refine SR.pure ⟨_, _, ?_, rfl, rfl⟩
          exact .some ⟨at_low (hl1 _ _ (hl _ _ h.1.1)) hsp _, rfl, h.2.2⟩

/-- the kinds of types that the operators meet -/
def numK (P : Program) (t : TypeId) : Bool := match P.underlying t with | some (.int _) | some .bool | some .string => true | _ => false

theorem SR.movedNumber (t : TypeId) {x x' y y' : Value} (hx : VRel ρ x x') (hy : VRel ρ y y') (hp : ∃ a, x = .pointer a) : SR P₀ P₁ VRel ρ (Go.movedNumber t x y) (Go.movedNumber t x' y') := by
  obtain ⟨a, rfl⟩ := hp
  unfold Go.movedNumber
  refine (SR.underlying hT t).bind fun σ d d' hl e => ?_
  obtain ⟨rfl, e⟩ := e
  dsimp only
  refine SR.ite (fun _ => SR.dead (Dead.bind (Dead.halt (tt (by simp))))) fun _ => ?_
  cases hx with
  | pnil =>
    refine (SR.unsafeAdd hT (.none) (hy.mono hl) t).mono fun σ x z hl h => ?_
    obtain ⟨b, b', ho, rfl, rfl⟩ := h
    cases ho with
    | none => exact .pnil
    | some h => exact h.ptr
  | ptr off spot h =>
    dsimp only
    refine (SR.behindNumber (a := ⟨_, off, spot⟩) (a' := ⟨_, off, spot⟩) ⟨h.mono hl, rfl, rfl⟩).bind fun σ1 p q hl1 e => ?_
    obtain ⟨p1, p2⟩ := p
    obtain ⟨q1, q2⟩ := q
    obtain ⟨h1, h2⟩ := e
    simp only at h1 h2
    subst h2
    refine (SR.unsafeAdd hT (.some h1) ((hy.mono hl).mono hl1) t).bind fun σ2 x z hl2 h => ?_
    obtain ⟨b, b', ho, rfl, rfl⟩ := h
    cases ho with
    | none => exact SR.pure .pnil
    | some h => exact SR.asNumber h _

omit [Low] in
omit hT in
/-- two places of one variable: there is no package-level variable -/
theorem dead_twoPlaces (hg : P₀.globals.size = 0) (a b : Addr) : Dead P₀ (Op.twoPlaces a b) := by
  unfold Op.twoPlaces
  intro w
  have : ((a.block != b.block) || decide (a.block ≥ P₀.globals.size)) = true := by simp [hg]
  simp only [Sem.run_bind, program, Sem.run, Result.andThen_ok, this, if_true]
  exact ⟨_, w, tt (u := .addressObserved) (by simp), rfl⟩
omit [Low] in
omit hT in
theorem dead_addrSub (hg : P₀.globals.size = 0) (k : IntKind) (a b : Addr) : Dead P₀ (Op.addrSub k a b) := by
  unfold Op.addrSub
  exact Dead.bind (dead_twoPlaces hg a b)
omit [Low] in
omit hT in
theorem dead_addrCmp (hg : P₀.globals.size = 0) (op : BinOp) (a b : Addr) : Dead P₀ (Op.addrCmp op a b) := by
  unfold Op.addrCmp
  exact Dead.bind (dead_twoPlaces hg a b)
theorem SR.addrMod (k : IntKind) {a a' : Addr} (h : AddrRel ρ a a') (n : Int) : SR P₀ P₁ VRel ρ (Op.addrMod k a n) (Op.addrMod k a' n) := by
  unfold Op.addrMod
  by_cases hsp : Spc a.block
  · refine (SR.shapeS h.1.1 hsp).bind fun σ x z hl e => ?_
    obtain ⟨m, rfl⟩ := e
    dsimp only
    refine SR.dead (Dead.bind fun w => ⟨.stuck "no such type", w, trivial, ?_⟩)
    have hb : P₀.info? badT = none := by rw [info_eq hT]; exact NoBad.bad
    simp only [Go.typeInfo, Go.program, Sem.run, Sem.run_bind, Result.andThen_ok, hb]
    rfl
  refine (SR.shapeN h.1.1 hsp).bind fun σ x z hl e => ?_
  subst e
  cases x with
  | none => exact SR.unsupported (by simp)
  | some p =>
    obtain ⟨e, c⟩ := p
    dsimp only
    refine (SR.typeInfo hT e).bind fun σ1 i i' hl1 q => ?_
    obtain ⟨rfl, _⟩ := q
    refine SR.ite (fun _ => SR.dead (Dead.bind (Dead.halt (tt (by simp))))) fun _ => ?_
    refine (SR.byteOf hT ((h.mono hl).mono hl1) hsp).bind fun σ2 x z hl2 q => ?_
    subst q
    exact SR.pure (.int _ _)

/-- the types at which the road's code compares -/
def eqK (P : Program) (t : TypeId) : Bool := (match P.underlying t with | some (.int _) | some .bool | some .string => true | _ => false) && (match P.info? t with | some { desc := .named "sync.copyChecker" _, .. } => false | _ => true)

omit [NoBad P₁] in
theorem SR.equal (hg : P₀.globals.size = 0) {t : TypeId} (ht : eqK P₁ t = true) {v v' u u' : Value} (hv : VRel ρ v v') (hu : VRel ρ u u') : SR P₀ P₁ (fun _ a b => a = b) ρ (Op.equal t v u) (Op.equal t v' u') := by
  unfold Op.equal
  show SR P₀ P₁ (fun _ a b => a = b) ρ (Op.equalIn (9999 + 1) t v u) (Op.equalIn (9999 + 1) t v' u')
  unfold Op.equalIn
  refine (SR.underlying hT t).bind fun σ d d' hl e => ?_
  obtain ⟨rfl, e⟩ := e
  unfold eqK at ht
  rw [e, Bool.and_eq_true] at ht
  obtain ⟨h1, h2⟩ := ht
  have hv2 := hv.mono hl
  have hu2 := hu.mono hl
  have hk : d = .bool ∨ d = .string ∨ ∃ k, d = .int k := by
    cases d <;> simp_all
  rcases hk with rfl | rfl | ⟨k, rfl⟩
  · cases hv2 <;> cases hu2 <;> first | exact SR.pure rfl | exact SR.stuck _
  · cases hv2 <;> cases hu2 <;> first | exact SR.pure rfl | exact SR.stuck _
  · cases hv2 with
    | int k1 n1 =>
      cases hu2 with
      | int k2 n2 => exact SR.ite (fun _ => SR.pure rfl) fun _ => SR.stuck _
      | ptr off spot h =>
        by_cases h0 : n1 = 0
        · subst h0; exact SR.pure rfl
        · split <;> first | exact SR.unsupported (by simp) | exact SR.stuck _ | simp_all
      | pnil => split <;> first | exact SR.unsupported (by simp) | exact SR.stuck _ | simp_all
      | _ => exact SR.stuck _
    | ptr off spot h =>
      cases hu2 with
      | int k2 n2 =>
        by_cases h0 : n2 = 0
        · subst h0; exact SR.pure rfl
        · split <;> first | exact SR.unsupported (by simp) | exact SR.stuck _ | simp_all
      | ptr off2 spot2 h' =>
        dsimp only
        refine (SR.behindNumber (a := ⟨_, off, spot⟩) (a' := ⟨_, off, spot⟩) ⟨h, rfl, rfl⟩).bind fun σ1 p q hl1 _ => ?_
        refine (SR.behindNumber (a := ⟨_, off2, spot2⟩) (a' := ⟨_, off2, spot2⟩) ⟨h'.mono hl1, rfl, rfl⟩).bind fun σ2 p2 q2 hl2 _ => SR.dead ?_
        intro w
        have hc : (p.1.block == p2.1.block && decide (p.1.block < P₀.globals.size)) = false := by simp [hg]
        have hi : P₀.info? t = P₁.info? t := info_eq hT t
        simp only [Sem.run_bind, program, Sem.run, Result.andThen_ok, hc, Bool.false_eq_true, if_false, Go.typeInfo, hi]
        cases hq : P₁.info? t with
        | none => exact ⟨_, w, tame_stuck _, rfl⟩
        | some i =>
          rw [hq] at h2
          simp only [Sem.run_pure, Result.andThen_ok]
          split
          · rename_i hd
            obtain ⟨d, _, _, _, _, _, _, _, _, _⟩ := i
            simp only at hd
            subst hd
            simp at h2
          · exact ⟨_, w, tt (u := .addressObserved) (by simp), rfl⟩
      | _ => exact SR.unsupported (by simp)
    | pnil => cases hu2 <;> exact SR.unsupported (by simp)
    | _ => cases hu2 <;> first | exact SR.unsupported (by simp) | exact SR.stuck _

omit [NoBad P₁] in
omit hT in
theorem SR.intint (op : BinOp) (t : TypeId) (k k' : IntKind) (a b : Int) : SR P₀ P₁ VRel ρ (Go.binOp op t (.int k a) (.int k' b)) (Go.binOp op t (.int k a) (.int k' b)) := by
  cases op
  case shl => exact SR.ite (fun _ => SR.runtime (e := .error _) trivial) fun _ => SR.pure (.int _ _)
  case shr => exact SR.ite (fun _ => SR.runtime (e := .error _) trivial) fun _ => SR.pure (.int _ _)
  case quo => exact SR.ite (fun _ => SR.stuck _) fun _ => SR.ite (fun _ => SR.runtime (e := .error _) trivial) fun _ => SR.pure (.int _ _)
  case rem => exact SR.ite (fun _ => SR.stuck _) fun _ => SR.ite (fun _ => SR.runtime (e := .error _) trivial) fun _ => SR.pure (.int _ _)
  all_goals exact SR.ite (fun _ => SR.stuck _) fun _ => (by first | exact SR.pure (.int _ _) | exact SR.pure (.bool _) | exact SR.stuck _)
omit [NoBad P₁] in
omit hT in
theorem SR.strstr (op : BinOp) (t : TypeId) (a b : ByteArray) : SR P₀ P₁ VRel ρ (Go.binOp op t (.string a) (.string b)) (Go.binOp op t (.string a) (.string b)) := by
  cases op
  case add => exact SR.ite (fun _ => SR.unsupported (by simp)) fun _ => SR.pure (.string _)
  all_goals first | exact SR.pure (.bool _) | exact SR.stuck _
omit [NoBad P₁] in
/-- how an operator meets two values that are no numbers and no texts -/
theorem eqOp_rel (hg : P₀.globals.size = 0) {t : TypeId} (ht : eqK P₁ t = true) {v v' u u' : Value} (hv : VRel ρ v v') (hu : VRel ρ u u') (f : Bool → Bool) :
    SR P₀ P₁ VRel ρ (do pure (Value.bool (f (← Op.equal t v u)))) (do pure (Value.bool (f (← Op.equal t v' u')))) :=
  (SR.equal hT hg ht hv hu).bind fun σ a b hl e => by subst e; exact SR.pure (.bool _)
omit [NoBad P₁] in
theorem SR.ptrptr (hg : P₀.globals.size = 0) (op : BinOp) {t : TypeId} (ht : (op = .eql ∨ op = .neq) → eqK P₁ t = true) {a a' b b' : Addr} (ha : AddrRel ρ a a') (hb : AddrRel ρ b b') :
    SR P₀ P₁ VRel ρ (Go.binOp op t (.pointer (some a)) (.pointer (some b))) (Go.binOp op t (.pointer (some a')) (.pointer (some b'))) := by
  cases op
  case eql => exact eqOp_rel hT hg (ht (.inl rfl)) ha.ptr hb.ptr id
  case neq => exact eqOp_rel hT hg (ht (.inr rfl)) ha.ptr hb.ptr not
  case sub => exact (SR.behindNumber ha).bind fun σ p q hl _ => (SR.behindNumber (hb.mono hl)).bind fun σ2 p2 q2 hl2 _ => SR.dead (dead_addrSub hg _ _ _)
  case lss => exact (SR.behindNumber ha).bind fun σ p q hl _ => (SR.behindNumber (hb.mono hl)).bind fun σ2 p2 q2 hl2 _ => SR.dead (dead_addrCmp hg _ _ _)
  case leq => exact (SR.behindNumber ha).bind fun σ p q hl _ => (SR.behindNumber (hb.mono hl)).bind fun σ2 p2 q2 hl2 _ => SR.dead (dead_addrCmp hg _ _ _)
  case gtr => exact (SR.behindNumber ha).bind fun σ p q hl _ => (SR.behindNumber (hb.mono hl)).bind fun σ2 p2 q2 hl2 _ => SR.dead (dead_addrCmp hg _ _ _)
  case geq => exact (SR.behindNumber ha).bind fun σ p q hl _ => (SR.behindNumber (hb.mono hl)).bind fun σ2 p2 q2 hl2 _ => SR.dead (dead_addrCmp hg _ _ _)
  all_goals exact SR.unsupported (by simp)
theorem SR.addPtr {t : TypeId} {x x' y y' : Value} (hx : VRel ρ x x') (hy : VRel ρ y y') (hp : ∃ a, x = .pointer a) : SR P₀ P₁ VRel ρ (Go.movedPointer t x y) (Go.movedPointer t x' y') := by
  obtain ⟨a, rfl⟩ := hp
  unfold Go.movedPointer
  have fin : ∀ {σ : Ren} {a a' : Option Addr}, le ρ σ → ORel σ a a' → SR P₀ P₁ VRel σ (Builtin.unsafeAdd_ #[] t #[.pointer a, y]) (Builtin.unsafeAdd_ #[] t #[.pointer a', y']) := fun hl ho => by
    refine (SR.unsafeAdd hT ho (hy.mono hl) t).mono fun σ x z hl h => ?_
    obtain ⟨b, b', ho, rfl, rfl⟩ := h
    cases ho with
    | none => exact .pnil
    | some h => exact h.ptr
  cases hx with
  | pnil => exact fin (le_refl _) .none
  | ptr off spot h =>
    dsimp only
    refine (SR.numberAt h.1).bind fun σ p q hl e => ?_
    have hc : p.isSome = q.isSome := by
      rcases e with ⟨rfl, rfl⟩ | ⟨_, _, _, rfl, rfl, _⟩ <;> rfl
    rw [hc]
    refine SR.ite (fun _ => SR.dead (Dead.bind (Dead.halt (tt (by simp))))) fun _ => ?_
    exact fin hl (.some (a := ⟨_, off, spot⟩) (a' := ⟨_, off, spot⟩) ⟨h.mono hl, rfl, rfl⟩)

omit hT in
theorem pnil_or {v v' : Value} (h : VRel ρ v v') {a : Option Addr} (e : v = .pointer a) : ∃ a', v' = .pointer a' ∧ ORel ρ a a' := by
  subst e
  cases h with
  | pnil => exact ⟨_, rfl, .none⟩
  | ptr off spot h => exact ⟨_, rfl, .some ⟨h, rfl, rfl⟩⟩

/-- an operator -/
theorem binOp_rel (hg : P₀.globals.size = 0) (op : BinOp) {t : TypeId} (ht : (op = .eql ∨ op = .neq) → eqK P₁ t = true) {v v' u u' : Value} (hv : VRel ρ v v') (hu : VRel ρ u u') :
    SR P₀ P₁ VRel ρ (Go.binOp op t v u) (Go.binOp op t v' u') := by
  have heq : op = .eql → SR P₀ P₁ VRel ρ (do pure (Value.bool (id (← Op.equal t v u)))) (do pure (Value.bool (id (← Op.equal t v' u')))) := fun e => eqOp_rel hT hg (ht (.inl e)) hv hu id
  have hne : op = .neq → SR P₀ P₁ VRel ρ (do pure (Value.bool (!(← Op.equal t v u)))) (do pure (Value.bool (!(← Op.equal t v' u')))) := fun e => eqOp_rel hT hg (ht (.inr e)) hv hu not
  have hadd : ∀ {x x' y y' : Value}, VRel ρ x x' → VRel ρ y y' → (∃ a, x = .pointer a) → SR P₀ P₁ VRel ρ (do if (← Go.underlying t) matches .unsafePointer then Go.movedPointer t x y else Go.movedNumber t x y) (do if (← Go.underlying t) matches .unsafePointer then Go.movedPointer t x' y' else Go.movedNumber t x' y') := by
    intro x x' y y' hx hy hp
    refine (SR.underlying hT t).bind fun σ d d' hl e => ?_
    obtain ⟨rfl, _⟩ := e
    exact SR.ite (fun _ => SR.addPtr hT (hx.mono hl) (hy.mono hl) hp) fun _ => SR.movedNumber hT t (hx.mono hl) (hy.mono hl) hp
  cases hv with
  | int k a =>
    cases hu with
    | int k' b => exact SR.intint op t k k' a b
    | ptr off spot h =>
      cases op
      case eql => exact heq rfl
      case neq => exact hne rfl
      case add => exact SR.movedNumber hT t (.ptr off spot h) (.int k a) ⟨_, rfl⟩
      case and => exact (SR.behindNumber (a := ⟨_, off, spot⟩) (a' := ⟨_, off, spot⟩) ⟨h, rfl, rfl⟩).bind fun σ p q hl e => SR.addrMod hT _ e.1 _
      all_goals first | exact SR.unsupported (by simp) | exact SR.stuck _
    | pnil =>
      cases op
      case eql => exact heq rfl
      case neq => exact hne rfl
      case add => exact SR.movedNumber hT t .pnil (.int k a) ⟨_, rfl⟩
      all_goals first | exact SR.unsupported (by simp) | exact SR.stuck _
    | _ =>
      cases op
      case eql => exact heq rfl
      case neq => exact hne rfl
      all_goals first | exact SR.unsupported (by simp) | exact SR.stuck _
  | string s =>
    cases hu with
    | string s2 => exact SR.strstr op t s s2
    | _ =>
      cases op
      case eql => exact heq rfl
      case neq => exact hne rfl
      all_goals first | exact SR.unsupported (by simp) | exact SR.stuck _
  | ptr off spot h =>
    cases hu with
    | int k' b =>
      cases op
      case eql => exact heq rfl
      case neq => exact hne rfl
      case add => exact hadd (.ptr off spot h) (.int k' b) ⟨_, rfl⟩
      case sub => exact SR.movedNumber hT t (.ptr off spot h) (.int k' _) ⟨_, rfl⟩
      case rem => exact (SR.behindNumber (a := ⟨_, off, spot⟩) (a' := ⟨_, off, spot⟩) ⟨h, rfl, rfl⟩).bind fun σ p q hl e => SR.addrMod hT _ e.1 _
      case and => exact (SR.behindNumber (a := ⟨_, off, spot⟩) (a' := ⟨_, off, spot⟩) ⟨h, rfl, rfl⟩).bind fun σ p q hl e => SR.addrMod hT _ e.1 _
      all_goals first | exact SR.unsupported (by simp) | exact SR.stuck _
    | ptr off2 spot2 h2 => exact SR.ptrptr hT hg op ht (a := ⟨_, off, spot⟩) (a' := ⟨_, off, spot⟩) (b := ⟨_, off2, spot2⟩) (b' := ⟨_, off2, spot2⟩) ⟨h, rfl, rfl⟩ ⟨h2, rfl, rfl⟩
    | _ =>
      cases op
      case eql => exact heq rfl
      case neq => exact hne rfl
      all_goals first | exact SR.unsupported (by simp) | exact SR.stuck _
  | pnil =>
    cases hu with
    | int k' b =>
      cases op
      case eql => exact heq rfl
      case neq => exact hne rfl
      case add => exact hadd .pnil (.int k' b) ⟨_, rfl⟩
      case sub => exact SR.movedNumber hT t .pnil (.int k' _) ⟨_, rfl⟩
      all_goals first | exact SR.unsupported (by simp) | exact SR.stuck _
    | _ =>
      cases op
      case eql => exact heq rfl
      case neq => exact hne rfl
      all_goals first | exact SR.unsupported (by simp) | exact SR.stuck _
  | _ =>
    cases hu <;>
    (cases op
     case eql => exact heq rfl
     case neq => exact hne rfl
     all_goals first | exact SR.unsupported (by simp) | exact SR.stuck _)
end
end Go.Proofs.Ytjgkignnfkbeaaa.Sim

/-
  Two runs of one code, over two heaps: one operation of the code.
-/
namespace Go.Proofs.Ytjgkignnfkbeaaa.Sim
open Go
set_option linter.unusedVariables false
variable [Low]

/-- an operand that is no place and no function -/
def opndOk : Operand → Bool
  | .tmp _ => true
  | .const v => flat v
  | _ => false
def intK (P : Program) (t : TypeId) : Bool := match P.underlying t with | some (.int _) => true | _ => false
def sliceK (P : Program) (t : TypeId) : Bool := match P.underlying t with | some (.slice _) => true | _ => false
def lenK (P : Program) (ats : Array TypeId) : Bool := match ats[0]? with | some t => (match P.underlying t with | some .string | some (.slice _) => true | _ => false) | none => false
def appK (P : Program) (ats : Array TypeId) : Bool := match ats[0]?, ats[1]? with | some t, some u => sliceK P u && (match P.underlying t with | some (.slice e) => zeroOk P e | _ => false) | _, _ => false
def idxK (P : Program) (t : TypeId) : Bool := match P.underlying t with | some .string | some (.array _ _) => true | _ => false
def optOk : Option Operand → Bool
  | none => true
  | some x => opndOk x
/-- a call has as many arguments as the function has parameters -/
def arOk (P : Program) (f : FuncId) (n : Nat) : Bool := match P.funcs[f]? with | some fn => fn.params.size == n | none => false
/-- an operation that both runs make alike; F: the functions that may be called -/
def niceOp (P : Program) (F : FuncId → Bool) (o : Oper) : Bool :=
  match o.op with
  | .fieldAddr t x _ => fieldsOk P t && opndOk x
  | .move x | .assign x | .nilCheck x | .field _ x _ | .extract x _ | .unOp _ _ x | .load _ x | .box _ x => opndOk x
  | .pick c a b => opndOk c && opndOk a && opndOk b
  | .alloc t => zeroOk P t
  | .build t parts => zeroOk P t && parts.toList.all fun p => opndOk p.2
  | .buildSlice t _ parts => elemOk P t && parts.toList.all fun p => opndOk p.2
  | .store _ a x | .indexAddr _ a x => opndOk a && opndOk x
  | .binOp op t x y _ => opndOk x && opndOk y && (match op with | .eql | .neq => eqK P t | _ => true)
  | .convert s d x => intK P s && intK P d && opndOk x
  | .makeSlice t l c => elemOk P t && opndOk l && opndOk c
  | .slice t x lo hi mx => sliceK P t && opndOk x && optOk lo && optOk hi && optOk mx
  | .index t x i => idxK P t && opndOk x && opndOk i
  | .call c => c.args.toList.all opndOk && match c.callee with
    | .value (.func f) => F f && arOk P f c.args.size
    | .builtin .len => lenK P c.argTypes
    | .builtin .append => appK P c.argTypes
    | .builtin .copy | .builtin .min | .builtin .max => true
    | _ => false
  | _ => false
/-- a function that is entered when it is called -/
def callOk (P : Program) (f : FuncId) : Bool := match P.funcs[f]? with | some fn => !(fn.name == "runtime.NumGoroutine") && fn.body.isSome | none => false

/-- what an operation yields in both runs -/
inductive NextRel (P : Program) (F : FuncId → Bool) (ρ : Ren) : Next → Next → Prop
  | value {v v' : Value} (h : VRel ρ v v') : NextRel P F ρ (.value v) (.value v')
  | skip : NextRel P F ρ .skip .skip
  | enter (f : FuncId) (hf : F f = true) {a a' : Array Value} (hn : arOk P f a.size = true) (h : ARel ρ a a') : NextRel P F ρ (.enter f a) (.enter f a')

def EvRel (ρ : Ren) (e e' : Operand → Value) : Prop := ∀ x, opndOk x = true → VRel ρ (e x) (e' x)

section
variable {P₀ P₁ : Program} {ρ : Ren} {F : FuncId → Bool} (hT : P₀.toTables = P₁.toTables)
variable [NoBad P₁]

omit [Low] in
theorem eqGuardType_no {P : Program} {t : TypeId} (h : eqK P t = true) : P.eqGuardType P.depth t = false := by
  unfold eqK at h
  rw [Bool.and_eq_true] at h
  unfold Program.depth
  show P.eqGuardType (2 * (P.types.size + Made.depth) + 1 + 1) t = false
  unfold Program.eqGuardType
  cases hu : P.underlying t with
  | none => rfl
  | some d =>
    rw [hu] at h
    cases d <;> simp_all
omit [NoBad P₁] in
theorem v_rel {s s' : Sem Value} (h : SR P₀ P₁ VRel ρ s s') : SR P₀ P₁ (NextRel P₁ F) ρ (do let x ← s; Pure.pure (Next.value x)) (do let x ← s'; Pure.pure (Next.value x)) :=
  h.bind fun σ a b hl hab => SR.pure (.value hab)
omit [NoBad P₁] in
theorem u_rel {s s' : Sem Unit} (h : SR P₀ P₁ (fun _ _ _ => True) ρ s s') : SR P₀ P₁ (NextRel P₁ F) ρ (do s; Pure.pure Next.skip) (do s'; Pure.pure Next.skip) :=
  h.bind fun σ a b hl hab => SR.pure .skip
theorem args_rel {e e' : Operand → Value} (he : EvRel ρ e e') {xs : Array Operand} (h : xs.toList.all opndOk = true) : ARel ρ (xs.map e) (xs.map e') := by
  refine arel_of_get? (by simp) fun i v v' hv hv' => ?_
  simp only [Array.getElem?_map, Option.map_eq_some_iff] at hv hv'
  obtain ⟨a, ha, rfl⟩ := hv
  obtain ⟨b, hb, rfl⟩ := hv'
  rw [ha] at hb
  cases hb
  refine he a ?_
  rw [List.all_eq_true] at h
  exact h a (Array.mem_toList_iff.2 (Array.mem_of_getElem? ha))
theorem parts_rel {e e' : Operand → Value} (he : EvRel ρ e e') : ∀ {xs : List (Nat × Operand)}, (xs.all fun p => opndOk p.2) = true → PRel ρ (xs.map fun x => (x.1, e x.2)) (xs.map fun x => (x.1, e' x.2))
  | [], _ => .nil
  | x :: xs, h => by
    simp only [List.all_cons, Bool.and_eq_true] at h
    exact .cons x.1 (he _ h.1) (parts_rel he h.2)
theorem opt_rel {e e' : Operand → Value} (he : EvRel ρ e e') {x : Option Operand} (h : optOk x = true) : VO ρ (x.map e) (x.map e') := by
  cases x with
  | none => exact .none
  | some x => exact .some (he x h)
include hT
omit [NoBad P₁] in
theorem index_rel {t : TypeId} (ht : idxK P₁ t = true) {v v' i i' : Value} (hv : VRel ρ v v') (hi : VRel ρ i i') : SR P₀ P₁ VRel ρ (Instr.index t v i) (Instr.index t v' i') := by
  unfold Instr.index
  refine (SR.asIntOf hi).bind fun σ k k' hl e => ?_
  subst e
  obtain ⟨kk, n⟩ := k
  refine (SR.underlying hT t).bind fun σ1 d d' hl1 e => ?_
  obtain ⟨rfl, e⟩ := e
  unfold idxK at ht
  rw [e] at ht
  have hv2 := (hv.mono hl).mono hl1
  have hk : d = .string ∨ ∃ n e, d = .array n e := by cases d <;> simp_all
  rcases hk with rfl | ⟨len, el, rfl⟩
  · cases hv2 with
    | string s =>
      dsimp only
      cases (if 0 ≤ n then s[n.toNat]? else none) with
      | none => exact SR.bounds
      | some b => exact SR.pure (.int _ _)
    | _ => exact SR.stuck _
  · cases hv2 with
    | agg hs h =>
      dsimp only
      refine SR.ite (fun _ => ?_) fun _ => SR.bounds
      refine (SR.sizeOf hT el).bind fun σ2 x y hl2 e => ?_
      subst e
      exact SR.part hT el (show ARel _ _ _ from ⟨hs, fun i h1 h2 => (h i h1 h2).mono hl2⟩) _
    | _ => exact SR.stuck _
omit [NoBad P₁] in
omit hT in
theorem callFunc_rel (hF : ∀ f, F f = true → callOk P₀ f = true ∧ callOk P₁ f = true) {f : FuncId} (hf : F f = true) {a a' : Array Value} (hn : arOk P₁ f a.size = true) (h : ARel ρ a a') : SR P₀ P₁ (NextRel P₁ F) ρ (Go.callFunc f a) (Go.callFunc f a') := by
  obtain ⟨h0, h1⟩ := hF f hf
  unfold Go.callFunc
  refine SR.prog _ _ ?_
  unfold callOk at h0 h1
  cases e0 : P₀.funcs[f]? with
  | none => rw [e0] at h0; cases h0
  | some f0 =>
    cases e1 : P₁.funcs[f]? with
    | none => rw [e1] at h1; cases h1
    | some f1 =>
      rw [e0] at h0
      rw [e1] at h1
      simp only [Bool.and_eq_true, Bool.not_eq_true'] at h0 h1
      obtain ⟨a0, b0⟩ := h0
      obtain ⟨a1, b1⟩ := h1
      have c0 : f0.body.isNone = false := by cases hb : f0.body <;> simp_all
      have c1 : f1.body.isNone = false := by cases hb : f1.body <;> simp_all
      simp only [a0, a1, c0, c1, Bool.false_eq_true, if_false]
      exact SR.pure (.enter f hf hn h)
omit [NoBad P₁] in
theorem eqGuard_rel {op : BinOp} {t : TypeId} (ht : (op = .eql ∨ op = .neq) → eqK P₁ t = true) (x y : Operand) {v v' u u' : Value} (hv : VRel ρ v v') (hu : VRel ρ u u') : SR P₀ P₁ (fun _ _ _ => True) ρ (Go.eqGuard op t x y v u) (Go.eqGuard op t x y v' u') := by
  by_cases hop : op = .eql ∨ op = .neq
  · have h1 := ht hop
    have h0 : eqK P₀ t = true := by
      unfold eqK at h1 ⊢
      rw [und_eq hT, info_eq hT]; exact h1
    have g0 := eqGuardType_no h0
    have g1 := eqGuardType_no h1
    have key : SR P₀ P₁ (fun _ _ _ => True) ρ (match v, u with
        | .nilIface, .nilIface => do
          if (x matches .const _) || (y matches .const _) then return
          if ← Op.eqGuardIn Op.maxDepth t v u then Go.unsupported (.noEntry "binop/eql: two nil values of an interface type with methods, neither of them the literal nil")
        | .agg _, .agg _ => do
          if !(← Go.program).eqGuardType (← Go.program).depth t then return
          if ← Op.eqGuardIn Op.maxDepth t v u then Go.unsupported (.noEntry "binop/eql: two nil values of an interface type with methods, in a part of a struct or an array")
        | _, _ => Pure.pure ()) (match v', u' with
        | .nilIface, .nilIface => do
          if (x matches .const _) || (y matches .const _) then return
          if ← Op.eqGuardIn Op.maxDepth t v' u' then Go.unsupported (.noEntry "binop/eql: two nil values of an interface type with methods, neither of them the literal nil")
        | .agg _, .agg _ => do
          if !(← Go.program).eqGuardType (← Go.program).depth t then return
          if ← Op.eqGuardIn Op.maxDepth t v' u' then Go.unsupported (.noEntry "binop/eql: two nil values of an interface type with methods, in a part of a struct or an array")
        | _, _ => Pure.pure ()) := by
      cases hv with
      | agg hs h =>
        cases hu with
        | agg hs2 h2 =>
          refine SR.prog _ _ ?_
          refine SR.prog _ _ ?_
          rw [g0, g1]
          exact SR.pure trivial
        | _ => exact SR.pure trivial
      | _ => exact SR.pure trivial
    rcases hop with rfl | rfl
    · exact key
    · exact key
  · have h0 : ∀ a b : Value, Go.eqGuard op t x y a b = Pure.pure () := by
      intro a b
      unfold Go.eqGuard
      cases op <;> first | rfl | exact absurd (.inl rfl) hop | exact absurd (.inr rfl) hop
    rw [h0, h0]
    exact SR.pure trivial

/-- one operation -/
theorem execOp_rel (hg : P₀.globals.size = 0) (hF : ∀ f, F f = true → callOk P₀ f = true ∧ callOk P₁ f = true) {o : Oper} (hn : niceOp P₁ F o = true) {e e' : Operand → Value} (he : EvRel ρ e e')
    (hfn : ∀ f, e (.func f) = .func (.func f) #[] #[] ∧ e' (.func f) = .func (.func f) #[] #[]) : SR P₀ P₁ (NextRel P₁ F) ρ (execOp e o) (execOp e' o) := by
  unfold niceOp at hn
  unfold execOp
  dsimp only
  cases hop : o.op with
  | move x => rw [hop] at hn; exact SR.pure (.value (he x hn))
  | assign x => rw [hop] at hn; exact SR.pure (.value (he x hn))
  | pick c a b =>
    rw [hop] at hn
    simp only [Bool.and_eq_true] at hn
    refine (SR.asBool (he c hn.1.1)).bind fun σ x y hl q => ?_
    subst q
    refine SR.pure (.value ?_)
    split
    · exact (he a hn.1.2).mono hl
    · exact (he b hn.2).mono hl
  | alloc t => rw [hop] at hn; exact v_rel (SR.alloc hT hn)
  | box t x => rw [hop] at hn; exact v_rel (SR.box t (he x hn))
  | build t parts =>
    rw [hop] at hn
    simp only [Bool.and_eq_true] at hn
    refine v_rel (SR.build hT hn.1 ?_)
    simp only [Array.toList_map]
    exact parts_rel he hn.2
  | buildSlice t n parts =>
    rw [hop] at hn
    simp only [Bool.and_eq_true] at hn
    refine v_rel (SR.buildSlice hT hn.1 n ?_)
    simp only [Array.toList_map]
    exact parts_rel he hn.2
  | load t a => rw [hop] at hn; exact v_rel (SR.loadAt hT t (he a hn))
  | store t a x =>
    rw [hop] at hn
    simp only [Bool.and_eq_true] at hn
    exact u_rel (SR.storeAt hT t (he a hn.1) (he x hn.2))
  | nilCheck x =>
    rw [hop] at hn
    have := he x hn
    dsimp only
    generalize e x = v at this
    generalize e' x = v' at this
    cases this with
    | pnil => exact SR.runtime (e := .nilDeref) trivial
    | bool b => exact SR.pure (.value (.bool b))
    | int k n => exact SR.pure (.value (.int k n))
    | string s => exact SR.pure (.value (.string s))
    | ptr off spot h => exact SR.pure (.value (.ptr off spot h))
    | snil l c => exact SR.pure (.value (.snil l c))
    | slice off spot l c h => exact SR.pure (.value (.slice off spot l c h))
    | agg hs h => exact SR.pure (.value (.agg hs h))
    | tuple hs h => exact SR.pure (.value (.tuple hs h))
    | fn f => exact SR.pure (.value (.fn f))
  | binOp op t x y yt =>
    rw [hop] at hn
    simp only [Bool.and_eq_true] at hn
    have ht : (op = .eql ∨ op = .neq) → eqK P₁ t = true := by
      rintro (rfl | rfl)
      · exact hn.2
      · exact hn.2
    refine v_rel ?_
    exact (eqGuard_rel hT ht x y (he x hn.1.1) (he y hn.1.2)).bind fun σ _ _ hl _ => binOp_rel hT hg op ht ((he x hn.1.1).mono hl) ((he y hn.1.2).mono hl)
  | unOp op t x => rw [hop] at hn; exact v_rel (SR.unary op (he x hn))
  | convert s d x =>
    rw [hop] at hn
    simp only [Bool.and_eq_true] at hn
    have k1 : ∀ {t}, intK P₁ t = true → ∃ k, P₁.underlying t = some (.int k) := by
      intro t h
      unfold intK at h
      cases hu : P₁.underlying t with
      | none => rw [hu] at h; cases h
      | some d => rw [hu] at h; cases d <;> simp_all
    exact v_rel (SR.convert hT (k1 hn.1.1) (k1 hn.1.2) (he x hn.2))
  | makeSlice t l c =>
    rw [hop] at hn
    simp only [Bool.and_eq_true] at hn
    exact v_rel (SR.makeSlice hT hn.1.1 (he l hn.1.2) (he c hn.2))
  | slice t x lo hi mx =>
    rw [hop] at hn
    simp only [Bool.and_eq_true] at hn
    have ht : ∃ e, P₁.underlying t = some (.slice e) := by
      have h := hn.1.1.1.1
      unfold sliceK at h
      cases hu : P₁.underlying t with
      | none => rw [hu] at h; cases h
      | some d => rw [hu] at h; cases d <;> simp_all
    exact v_rel (SR.sliceAt hT ht (he x hn.1.1.1.2) (opt_rel he hn.1.1.2) (opt_rel he hn.1.2) (opt_rel he hn.2))
  | fieldAddr s x k => rw [hop] at hn; simp only [Bool.and_eq_true] at hn; exact v_rel (SR.fieldAt hT s hn.1 (he x hn.2) k)
  | field s x k => rw [hop] at hn; exact v_rel (SR.field hT s (he x hn) k)
  | indexAddr t x i =>
    rw [hop] at hn
    simp only [Bool.and_eq_true] at hn
    exact v_rel (SR.indexAt hT t (he x hn.1) (he i hn.2))
  | index t x i =>
    rw [hop] at hn
    simp only [Bool.and_eq_true] at hn
    exact v_rel (index_rel hT hn.1.1 (he x hn.1.2) (he i hn.2))
  | extract x i => rw [hop] at hn; exact v_rel (SR.extract (he x hn) i)
  | call c =>
    rw [hop] at hn
    simp only [Bool.and_eq_true] at hn
    obtain ⟨hargs, hc⟩ := hn
    have ha := args_rel he hargs
    unfold resolve
    dsimp only
    cases hcl : c.callee with
    | invoke r m => rw [hcl] at hc; cases hc
    | value f =>
      rw [hcl] at hc
      cases f with
      | func f =>
        dsimp only
        rw [(hfn f).1, (hfn f).2]
        refine SR.bind (RA := fun _ (x y : Deferred) => x = { target := .fn (.func f) #[], args := #[] ++ c.args.map e } ∧ y = { target := .fn (.func f) #[], args := #[] ++ c.args.map e' }) (SR.pure ⟨rfl, rfl⟩) fun σ x y hl q => ?_
        obtain ⟨rfl, rfl⟩ := q
        rw [Bool.and_eq_true] at hc
        refine callFunc_rel hF hc.1 (by simpa using hc.2) ?_
        simpa using ha.mono hl
      | _ => cases hc
    | builtin b =>
      rw [hcl] at hc
      refine SR.bind (RA := fun _ (x y : Deferred) => x = { target := .builtin b c.argTypes o.type (c.args.map fun | .const _ => true | _ => false), args := c.args.map e } ∧ y = { target := .builtin b c.argTypes o.type (c.args.map fun | .const _ => true | _ => false), args := c.args.map e' }) (SR.pure ⟨rfl, rfl⟩) fun σ x y hl q => ?_
      obtain ⟨rfl, rfl⟩ := q
      have ha2 := ha.mono hl
      cases b with
      | len =>
        refine v_rel (SR.len_ hT _ _ ?_ ha2)
        have h : lenK P₁ c.argTypes = true := hc
        unfold lenK at h
        cases h0 : c.argTypes[0]? with
        | none => rw [h0] at h; cases h
        | some t =>
          rw [h0] at h
          dsimp only at h
          cases hu : P₁.underlying t with
          | none => rw [hu] at h; cases h
          | some d =>
            rw [hu] at h
            refine ⟨t, d, rfl, hu, ?_⟩
            cases d <;> simp_all
      | append =>
        refine v_rel (SR.append_ hT _ _ ?_ ha2)
        have h : appK P₁ c.argTypes = true := hc
        unfold appK at h
        cases h0 : c.argTypes[0]? with
        | none => rw [h0] at h; cases h
        | some t =>
          cases h1 : c.argTypes[1]? with
          | none => rw [h0, h1] at h; cases h
          | some u =>
            rw [h0, h1] at h
            dsimp only at h
            simp only [Bool.and_eq_true] at h
            obtain ⟨hs, hz⟩ := h
            unfold sliceK at hs
            cases hu : P₁.underlying t with
            | none => rw [hu] at hz; cases hz
            | some d =>
              rw [hu] at hz
              cases hv : P₁.underlying u with
              | none => rw [hv] at hs; cases hs
              | some d2 =>
                rw [hv] at hs
                have e1 : ∃ x, d2 = .slice x := by cases d2 <;> simp_all
                have e2 : ∃ x, d = .slice x ∧ zeroOk P₁ x = true := by cases d <;> simp_all
                obtain ⟨x1, rfl⟩ := e1
                obtain ⟨x2, rfl, hzz⟩ := e2
                exact ⟨t, u, x2, rfl, rfl, hu, ⟨x1, hv⟩, hzz⟩
      | copy => exact v_rel (SR.copy_ hT _ _ ha2)
      | min => exact v_rel (SR.min_ _ _ ha2)
      | max => exact v_rel (SR.max_ _ _ ha2)
      | _ => cases hc
  | _ => rw [hop] at hn; cases hn
end
end Go.Proofs.Ytjgkignnfkbeaaa.Sim

/-
  Two runs of one code, over two heaps: one step of a goroutine.
-/
namespace Go.Proofs.Ytjgkignnfkbeaaa.Sim
open Go Go.Conc
set_option linter.unusedVariables false
variable [Low]

/-- code that both runs go through alike -/
def niceCode (P : Program) (F : FuncId → Bool) : Code → Bool
  | .skip | .ret | .exit _ | .label _ | .refuse _ => true
  | .region _ ops _ => ops.toList.all (niceOp P F)
  | .seq a b => niceCode P F a && niceCode P F b
  | .cond c a b => opndOk c && niceCode P F a && niceCode P F b
  | .block _ b | .loop b => niceCode P F b
  | _ => false
def niceItem (P : Program) (F : FuncId → Bool) : Item → Bool
  | .code c | .inLoop c => niceCode P F c
  | .inBlock _ => true
  | .inRegion ops _ => ops.toList.all (niceOp P F)
  | _ => false
/-- the functions that may be called, but K, have the same code in both programs, and it is nice -/
structure Good (P₀ P₁ : Program) (F : FuncId → Bool) (K : FuncId) : Prop where
  tables : P₀.toTables = P₁.toTables
  globals : P₀.globals.size = 0
  bad : NoBad P₁
  call : ∀ f, F f = true → callOk P₀ f = true ∧ callOk P₁ f = true
  same : ∀ f, F f = true → f ≠ K → P₀.funcs[f]? = P₁.funcs[f]?
  nice : ∀ f fn c, F f = true → f ≠ K → P₁.funcs[f]? = some fn → fn.body = some c → niceCode P₁ F c = true

/-- frames of both runs -/
structure FrRel (P : Program) (F : FuncId → Bool) (K : FuncId) (ρ : Ren) (f f' : Frame) : Prop where
  fn : f'.fn = f.fn
  ok : F f.fn = true
  notK : f.fn ≠ K
  tmps : ARel ρ f.tmps f'.tmps
  todo : f'.todo = f.todo
  nice : f.todo.all (niceItem P F) = true
  defers : f.defers = [] ∧ f'.defers = []
  mode : (f.mode = .run ∧ f'.mode = .run) ∨ (f.mode = .returning ∧ f'.mode = .returning)
  kind : f.kind = .normal ∧ f'.kind = .normal
  round : f.roundOf = none ∧ f'.roundOf = none

inductive StRel (P : Program) (F : FuncId → Bool) (K : FuncId) (ρ : Ren) : List Frame → List Frame → Prop
  | nil : StRel P F K ρ [] []
  | cons {f f' : Frame} {l l' : List Frame} (h : FrRel P F K ρ f f') (hm : f.mode = .run) (t : StRel P F K ρ l l') : StRel P F K ρ (f :: l) (f' :: l')

section
variable {P₀ P₁ : Program} {ρ σ : Ren} {F : FuncId → Bool} {K : FuncId}

theorem FrRel.mono (hl : le ρ σ) {f f' : Frame} (h : FrRel P₁ F K ρ f f') : FrRel P₁ F K σ f f' := { h with tmps := h.tmps.mono hl }
theorem StRel.mono (hl : le ρ σ) {l l' : List Frame} (h : StRel P₁ F K ρ l l') : StRel P₁ F K σ l l' := by
  induction h with
  | nil => exact .nil
  | cons h hm _ ih => exact .cons (h.mono hl) hm ih

theorem yielded_rel {t t' : Array Value} (h : ARel ρ t t') (ops : Array Oper) : yielded ops t = yielded ops t' := by
  funext j
  unfold yielded
  cases hd : (ops[j]?).bind (·.dst) with
  | none => rfl
  | some d =>
    simp only [Option.bind_some]
    rcases h.get? d with ⟨e1, e2⟩ | ⟨v, v', e1, e2, hv⟩
    · rw [e1, e2]
    · rw [e1, e2]
      cases hv <;> rfl
theorem ev_rel {t t' : Array Value} (h : ARel ρ t t') (d d' : List Deferred) : EvRel ρ (Act.eval ⟨t, d⟩) (Act.eval ⟨t', d'⟩) := by
  intro x hx
  cases x with
  | tmp i => exact h.getD i
  | const v => exact flat_rel hx
  | global g => cases hx
  | func f => cases hx
theorem FrRel.finish {f f' : Frame} (h : FrRel P₁ F K ρ f f') {v v' : Value} (hv : VRel ρ v v') : FrRel P₁ F K ρ (f.finish v) (f'.finish v') := by
  have ht := h.todo
  have hn := h.nice
  unfold Frame.finish
  rw [ht]
  cases hf : f.todo with
  | nil => exact h
  | cons x k =>
    rw [hf] at hn
    cases x with
    | inRegion ops todo =>
      cases todo with
      | nil => exact h
      | cons i rest =>
        simp only
        refine { h with tmps := ?_, todo := rfl, nice := ?_ }
        · cases (ops[i]?).bind (·.dst) with
          | none => exact h.tmps
          | some d => exact h.tmps.set d hv
        · simp only [List.all_cons, niceItem] at hn ⊢
          exact hn
    | code c => exact h
    | inLoop c => exact h
    | inBlock id => exact h
    | inScope b => simp [niceItem] at hn
    | inRangeFunc l => simp [niceItem] at hn
    | endRangeFunc l => simp [niceItem] at hn
    | beginRound => simp [niceItem] at hn
    | call d w r s => simp [niceItem] at hn
    | extern r a => simp [niceItem] at hn

omit [Low] in
theorem Mild.sub {W W' : World} {ev ev' : Array Event} (h : Mild ρ σ W W' ev) (hs : ∀ e ∈ ev', e ∈ ev) : Mild ρ σ W W' ev' := { h with ev := fun e he => h.ev e (hs e he) }
omit [Low] in
theorem Mild.none {W W' : World} {ev : Array Event} (h : Mild ρ σ W W' ev) : Mild ρ σ W W' #[] := h.sub fun e he => by simp at he

/-- the results of a call -/
theorem results_rel (hT : P₀.toTables = P₁.toTables) (fn : Func) {t t' : Array Value} (h : ARel ρ t t') : SR P₀ P₁ VRel ρ (results fn t) (results fn t') := by
  unfold results
  rw [Array.mapM_eq_mapM_toList, Array.mapM_eq_mapM_toList]
  have key : ∀ (l : List ResultVar) (σ : Ren), le ρ σ → SR P₀ P₁ LRel σ (l.mapM fun | .tmp x => Pure.pure (t.getD x undef) | .cell a ty => do Go.loadVar ty (← Go.asAddr (t.getD a undef))) (l.mapM fun | .tmp x => Pure.pure (t'.getD x undef) | .cell a ty => do Go.loadVar ty (← Go.asAddr (t'.getD a undef))) := by
    intro l
    induction l with
    | nil => intro σ hl; exact SR.pure .nil
    | cons x l ih =>
      intro σ hl
      simp only [List.mapM_cons]
      refine SR.bind (RA := VRel) ?_ fun σ1 a b hl1 hab => (ih σ1 (le_trans hl hl1)).bind fun σ2 la lb hl2 hlab => SR.pure (.cons (hab.mono hl2) hlab)
      cases x with
      | tmp x => exact SR.pure ((h.mono hl).getD x)
      | cell a ty => exact (SR.asAddr ((h.mono hl).getD a)).bind fun σ2 p q hl2 hpq => SR.loadVar hT hpq ty
  refine SR.bind (RA := ARel) (SR.map (key fn.results.toList ρ (le_refl ρ)) fun σ a b hl hab => ?_) fun σ a b hl hab => ?_
  · have : ∀ {x y : List Value}, LRel σ x y → x.length = y.length ∧ ∀ (i : Nat) (v v' : Value), x[i]? = some v → y[i]? = some v' → VRel σ v v' := by
      intro x y hxy
      induction hxy with
      | nil => exact ⟨rfl, fun i v v' e => by simp at e⟩
      | cons h _ ih =>
        refine ⟨by simp [ih.1], fun i v v' e e' => ?_⟩
        cases i with
        | zero => simp at e e'; subst e e'; exact h
        | succ i => exact ih.2 i v v' (by simpa using e) (by simpa using e')
    exact arel_of_get? (by simpa using (this hab).1) fun i v v' e e' => (this hab).2 i v v' (by simpa using e) (by simpa using e')
  · refine SR.pure ?_
    by_cases hs : a.size = 1
    · have hs' : b.size = 1 := hab.1 ▸ hs
      rw [dif_pos hs, dif_pos hs']
      exact hab.2 0 (by omega) (by omega)
    · have hs' : ¬ b.size = 1 := hab.1 ▸ hs
      rw [dif_neg hs, dif_neg hs']
      exact hab.tuple
end
end Go.Proofs.Ytjgkignnfkbeaaa.Sim

/-
  Two runs of one code, over two heaps: one step of a goroutine, all its cases.
-/
namespace Go.Proofs.Ytjgkignnfkbeaaa.Sim
open Go Go.Conc
set_option linter.unusedVariables false
variable [Low]

/-- a goroutine that unwinds by a panic: no frame above the base holds a deferred call -/
def Bad (P : Program) (g : Goroutine) (b : List Frame) : Prop :=
  ∃ (f : Frame) (cs : List Frame) (chain : List PanicEntry), g = G f (cs ++ b) ∧ f.mode = .panicking chain ∧ ∀ x, x ∈ f :: cs → x.defers = [] ∧ (P.funcs[x.fn]?).isSome = true
/-- K is entered -/
def EnterK (P₀ P₁ : Program) (F : FuncId → Bool) (K : FuncId) (ρ : Ren) (f f' : Frame) : Prop :=
  F K = true ∧
  ∃ args args', arOk P₁ K args.size = true ∧ ARel ρ args args' ∧ f = Frame.enter P₀ K args .normal ∧ f' = Frame.enter P₁ K args' .normal

section
variable {P₀ P₁ : Program} {ρ σ : Ren} {F : FuncId → Bool} {K : FuncId}

omit [Low] in
theorem fn_some (hG : Good P₀ P₁ F K) {f : FuncId} (h : F f = true) : (P₀.funcs[f]?).isSome = true := by
  have := (hG.call f h).1
  unfold callOk at this
  cases hq : P₀.funcs[f]? with
  | none => rw [hq] at this; cases this
  | some _ => rfl
theorem st_all (hG : Good P₀ P₁ F K) {l l' : List Frame} (h : StRel P₁ F K ρ l l') : ∀ x, x ∈ l → x.defers = [] ∧ (P₀.funcs[x.fn]?).isSome = true := by
  induction h with
  | nil => intro x hx; cases hx
  | cons h hm _ ih =>
    intro x hx
    rcases List.mem_cons.1 hx with rfl | hx
    · exact ⟨h.defers.1, fn_some hG h.ok⟩
    · exact ih x hx

/-- a function's frame at its entry, in both runs -/
theorem enter_rel (hG : Good P₀ P₁ F K) {f : FuncId} (hf : F f = true) {a a' : Array Value} (hn : f = K → arOk P₁ f a.size = true) (h : ARel ρ a a') :
    FrRel P₁ F K ρ (Frame.enter P₀ f a .normal) (Frame.enter P₁ f a' .normal) ∨ EnterK P₀ P₁ F K ρ (Frame.enter P₀ f a .normal) (Frame.enter P₁ f a' .normal) := by
  by_cases hk : f = K
  · subst hk; exact .inr ⟨hf, a, a', hn rfl, h, rfl, rfl⟩
  · left
    have hs := hG.same f hf hk
    have hc := (hG.call f hf).2
    unfold callOk at hc
    unfold Frame.enter
    rw [hs]
    cases hq : P₁.funcs[f]? with
    | none => rw [hq] at hc; cases hc
    | some fn =>
      rw [hq] at hc
      simp only [Bool.and_eq_true] at hc
      cases hb : fn.body with
      | none => rw [hb] at hc; cases hc.2
      | some c =>
        refine ⟨rfl, hf, hk, ?_, by simp [hb], ?_, ⟨rfl, rfl⟩, .inl ⟨rfl, rfl⟩, ⟨rfl, rfl⟩, ⟨rfl, rfl⟩⟩
        · simp only [← h.1]
          exact h.append (ARel.replicate _ undef_rel)
        · simp only [Option.bind_some, hb, Option.getD_some, List.all_cons, List.all_nil, Bool.and_true, niceItem]
          exact hG.nice f fn c hf hk hq hb

/-- the outcome of a step -/
def Outcome (P₀ P₁ : Program) (F : FuncId → Bool) (K : FuncId) (ρ : Ren) (m m' : Bool) (f f' : Frame) (cs cs' b b' : List Frame) (w W : World) : Prop :=
  (∃ o w' es, stepG P₀ m (G f (cs ++ b)) w = .ended o w' es) ∨
  (∃ g w' es, stepG P₀ m (G f (cs ++ b)) w = .go g w' es ∧ Bad P₀ g b) ∨
  ∃ fl csl fr csr w' W' es es' σ k, stepG P₀ m (G f (cs ++ b)) w = .go (G fl (csl ++ b)) w' es ∧ stepG P₁ m' (G f' (cs' ++ b')) W = .go (G fr (csr ++ b')) W' es' ∧
    (FrRel P₁ F K σ fl fr ∨ (EnterK P₀ P₁ F K σ fl fr ∧ csl ≠ [])) ∧ StRel P₁ F K σ csl csr ∧ WRel σ w' W' ∧ w'.drawn = w.drawn + k ∧ w'.tape = w.tape ∧ Mild ρ σ W W' es' ∧
    ∀ τ d, (∀ i, i < k → τ (d + i) = w.tape (w.drawn + i)) → ∃ es, stepG P₀ m (G f (cs ++ b)) (on w τ d) = .go (G fl (csl ++ b)) (on w' τ (d + k)) es

/-- a step that leaves the worlds -/
theorem Outcome.quiet {m m' : Bool} {f f' fl fr : Frame} {cs cs' b b' : List Frame} {w W : World} (hw : WRel ρ w W) (hcs : StRel P₁ F K ρ cs cs')
    (h0 : ∀ w, stepG P₀ m (G f (cs ++ b)) w = .go (G fl (cs ++ b)) w #[]) (h1 : ∀ W, stepG P₁ m' (G f' (cs' ++ b')) W = .go (G fr (cs' ++ b')) W #[]) (hr : FrRel P₁ F K ρ fl fr) : Outcome P₀ P₁ F K ρ m m' f f' cs cs' b b' w W :=
  .inr (.inr ⟨fl, cs, fr, cs', w, W, #[], #[], ρ, 0, h0 w, h1 W, .inl hr, hcs, hw, rfl, rfl, Mild.refl ρ W, fun τ d _ => ⟨#[], h0 _⟩⟩)


/-- a frame as the steps have it -/
def frm (fn : FuncId) (tmps : Array Value) (todo : List Item) : Frame := { fn, tmps, todo, defers := [], mode := .run, kind := .normal }
def frb (fn : FuncId) : Frame := frm fn #[] []
omit [Low] in
theorem mk_at (fn : FuncId) (tmps : Array Value) (todo : List Item) : frm fn tmps todo = (frb fn).at ⟨tmps, []⟩ todo := rfl
theorem frel_open {f f' : Frame} (h : FrRel P₁ F K ρ f f') (hm : f.mode = .run) : ∃ fn t t' todo, f = frm fn t todo ∧ f' = frm fn t' todo ∧ F fn = true ∧ fn ≠ K ∧ ARel ρ t t' ∧ todo.all (niceItem P₁ F) = true := by
  obtain ⟨fn, tmps, todo, defers, mode, kind, round⟩ := f
  obtain ⟨fn', tmps', todo', defers', mode', kind', round'⟩ := f'
  obtain ⟨h1, h2, h3, h4, h5, h6, ⟨h7, h7'⟩, h8, ⟨h9, h9'⟩, ⟨h10, h10'⟩⟩ := h
  simp only at *
  subst h1 h5 h7 h7' h9 h9' h10 h10' hm
  rcases h8 with ⟨_, h8⟩ | ⟨h8, _⟩
  · subst h8
    exact ⟨_, _, _, _, rfl, rfl, h2, h3, h4, h6⟩
  · cases h8
theorem mk_rel {fn : FuncId} {t t' : Array Value} {todo : List Item} (h1 : F fn = true) (h2 : fn ≠ K) (h3 : ARel ρ t t') (h4 : todo.all (niceItem P₁ F) = true) : FrRel P₁ F K ρ (frm fn t todo) (frm fn t' todo) :=
  ⟨rfl, h1, h2, h3, rfl, h4, ⟨rfl, rfl⟩, .inl ⟨rfl, rfl⟩, ⟨rfl, rfl⟩, ⟨rfl, rfl⟩⟩

omit [Low] in
theorem stepG_ret {P : Program} {m : Bool} {b : Frame} {a : Act} {k : List Item} {cs : List Frame} {w : World} : stepG P m (G (b.at a (.code .ret :: k)) cs) w = .go (G { b.at a (.code .ret :: k) with mode := .returning } cs) w := by simp [G, stepG, stepG.exec, Frame.at]
omit [Low] in
theorem stepG_draw {P : Program} {m : Bool} {b : Frame} {a : Act} {k : List Item} {cs : List Frame} {w : World} {id : Nat} {ops : Array Oper} :
    stepG P m (G (b.at a (.code (.region id ops true) :: k)) cs) w = .go (G (b.at a (.inRegion ops (Region.schedule (P.follows .mixedOrders) ops (w.tape w.drawn (.order b.fn id))) :: k)) cs) { w with drawn := w.drawn + 1 } := by
  simp [G, stepG, stepG.exec, Frame.at, choose, Sem.run, Question.forced, Question.cut]
omit [Low] in
theorem stepG_noop {P : Program} {m : Bool} {b : Frame} {a : Act} {k : List Item} {cs : List Frame} {w : World} {ops : Array Oper} {i : Nat} {rest : List Nat} (h : ((ops[i]?).map (Region.wanted · (yielded ops a.tmps))).getD false = false) :
    stepG P m (G (b.at a (.inRegion ops (i :: rest) :: k)) cs) w = .go (G (b.at (a.put ((ops[i]?).bind (·.dst)) undef) (.inRegion ops rest :: k)) cs) w := by
  rw [← Frame.finish_at]
  have h' := h
  simp only [Frame.at] at *
  simp [G, stepG, stepG.exec, h']

omit [Low] in
theorem stepG_cond_no {P : Program} {m : Bool} {b : Frame} {a : Act} {k : List Item} {cs : List Frame} {w : World} {c : Operand} {x y : Code} (h : ∀ q, a.eval c ≠ .bool q) : ∃ o es, stepG P m (G (b.at a (.code (.cond c x y) :: k)) cs) w = .ended o w es := by
  have he := Frame.eval_at b a (.code (.cond c x y) :: k) c
  simp only [Frame.at] at he
  refine ⟨.stuck "cond: bool expected" ((b.at a (.code (.cond c x y) :: k)).pos P), #[], ?_⟩
  simp [G, stepG, stepG.exec, Frame.at, he]
omit [Low] in
theorem stepG_exit_no {P : Program} {m : Bool} {b : Frame} {a : Act} {k : List Item} {cs : List Frame} {w : World} {id : Nat} (h : exitTo id k = none) : ∃ o es, stepG P m (G (b.at a (.code (.exit id) :: k)) cs) w = .ended o w es :=
  ⟨.stuck "exit, goto: no such block or label" ((b.at a (.code (.exit id) :: k)).pos P), #[], by simp [G, stepG, stepG.exec, Frame.at, h]⟩
omit [Low] in
theorem stepG_refuse {P : Program} {m : Bool} {b : Frame} {a : Act} {k : List Item} {cs : List Frame} {w : World} {why : String} : ∃ o es, stepG P m (G (b.at a (.code (.refuse why) :: k)) cs) w = .ended o w es :=
  ⟨_, #[], by simp only [G, stepG, stepG.exec, Frame.at]; rfl⟩

omit [Low] in
theorem stepG_panic {P : Program} {m : Bool} {b : Frame} {a : Act} {k : List Item} {cs : List Frame} {w w' : World} {ops : Array Oper} {i : Nat} {rest : List Nat} {o : Oper} {v : Value} (ho : ops[i]? = some o) (hw : Region.wanted o (yielded ops a.tmps) = true)
    (hr : (execOp a.eval o).run P w = .halt (.panic v) w') :
    ∃ es, stepG P m (G (b.at a (.inRegion ops (i :: rest) :: k)) cs) w = .go (G ((b.at a (.inRegion ops (i :: rest) :: k)).raise [{ v, recovered := false }]) cs) w' es := by
  rw [stepG_oper ho hw]
  exact ⟨_, by simp [stepG.apply, hr, G, GStep.after]; rfl⟩
omit [Low] in
theorem stepG_halt {P : Program} {m : Bool} {b : Frame} {a : Act} {k : List Item} {cs : List Frame} {w w' : World} {ops : Array Oper} {i : Nat} {rest : List Nat} {o : Oper} {h : Halt} (ho : ops[i]? = some o) (hw : Region.wanted o (yielded ops a.tmps) = true)
    (hr : (execOp a.eval o).run P w = .halt h w') (ht : Tame h) (hp : ∀ v, h ≠ .panic v) :
    ∃ q es, stepG P m (G (b.at a (.inRegion ops (i :: rest) :: k)) cs) w = .ended q w' es := by
  rw [stepG_oper ho hw]
  cases h with
  | panic v => exact absurd rfl (hp v)
  | stuck s => exact ⟨_, _, by simp [stepG.apply, hr, GStep.after]; exact ⟨rfl, rfl⟩⟩
  | unsupported u =>
    cases u with
    | initOrder g => cases ht
    | _ => exact ⟨_, _, by simp [stepG.apply, hr, GStep.after]; exact ⟨rfl, rfl⟩⟩
  | blocked => cases ht
  | waiting => cases ht
  | exit c => cases ht
  | fatal c => cases ht
  | throw c => cases ht
  | goexit => cases ht

omit [Low] in
theorem exit_nice {id : Nat} : ∀ {k k' : List Item}, exitTo id k = some k' → k.all (niceItem P₁ F) = true → k'.all (niceItem P₁ F) = true
  | [], _, h, _ => by cases h
  | x :: k, k', h, hn => by
    simp only [List.all_cons, Bool.and_eq_true] at hn
    unfold exitTo at h
    split at h
    · rename_i id' k2 e
      cases e
      split at h
      · cases h; exact hn.2
      · exact exit_nice h hn.2
    · rename_i k2 e
      cases e
      exact exit_nice h hn.2
    · cases h

theorem step_run (hG : Good P₀ P₁ F K) {fn : FuncId} {t t' : Array Value} {todo : List Item} {cs cs' : List Frame} (hf : F fn = true) (hK : fn ≠ K) (ht : ARel ρ t t') (hn : todo.all (niceItem P₁ F) = true) (hcs : StRel P₁ F K ρ cs cs')
    (b b' : List Frame) {w W : World} (hw : WRel ρ w W) (m m' : Bool) : Outcome P₀ P₁ F K ρ m m' (frm fn t todo) (frm fn t' todo) cs cs' b b' w W := by
  have he : ∀ x, opndOk x = true → VRel ρ (Act.eval ⟨t, []⟩ x) (Act.eval ⟨t', []⟩ x) := ev_rel ht [] []
  cases todo with
  | nil =>
    refine Outcome.quiet hw hcs (fl := { frm fn t [] with mode := .returning }) (fr := { frm fn t' [] with mode := .returning }) (fun w => ?_) (fun W => ?_) ⟨rfl, hf, hK, ht, rfl, rfl, ⟨rfl, rfl⟩, .inr ⟨rfl, rfl⟩, ⟨rfl, rfl⟩, ⟨rfl, rfl⟩⟩
    · exact stepG_end (b := frb fn) (a := ⟨t, []⟩)
    · exact stepG_end (b := frb fn) (a := ⟨t', []⟩)
  | cons x k =>
    simp only [List.all_cons, Bool.and_eq_true] at hn
    obtain ⟨hx, hk⟩ := hn
    have go : ∀ {todo2 : List Item}, todo2.all (niceItem P₁ F) = true → (∀ {P m a cs w}, stepG P m (G ((frb fn).at a (x :: k)) cs) w = .go (G ((frb fn).at a todo2) cs) w #[]) → Outcome P₀ P₁ F K ρ m m' (frm fn t (x :: k)) (frm fn t' (x :: k)) cs cs' b b' w W := by
      intro todo2 h2 hs
      exact Outcome.quiet hw hcs (fl := frm fn t todo2) (fr := frm fn t' todo2) (fun w => hs (a := ⟨t, []⟩)) (fun W => hs (a := ⟨t', []⟩)) (mk_rel hf hK ht h2)
    cases x with
    | inBlock id => exact go hk (fun {P m a cs w} => stepG_inBlock)
    | inLoop c =>
      refine go (todo2 := .code c :: .inLoop c :: k) ?_ (fun {P m a cs w} => stepG_inLoop)
      simp only [List.all_cons, Bool.and_eq_true]
      exact ⟨hx, hx, hk⟩
    | inRegion ops todo =>
      cases todo with
      | nil => exact go hk (fun {P m a cs w} => stepG_region_end)
      | cons i rest =>
        simp only [niceItem] at hx
        have hy : yielded ops t = yielded ops t' := yielded_rel ht ops
        have hkn : (Item.inRegion ops rest :: k).all (niceItem P₁ F) = true := by
          simp only [List.all_cons, Bool.and_eq_true, niceItem]
          exact ⟨hx, hk⟩
        have hput : ∀ {σ : Ren} {v v' : Value} (dst : Option Tmp), le ρ σ → VRel σ v v' → ARel σ (Act.put ⟨t, []⟩ dst v).tmps (Act.put ⟨t', []⟩ dst v').tmps := by
          intro σ v v' dst hl hv
          cases dst with
          | none => exact ht.mono hl
          | some d => exact (ht.mono hl).set d hv
        have hmk : ∀ {v : Value} (dst : Option Tmp) (t : Array Value), (frb fn).at (Act.put ⟨t, []⟩ dst v) (.inRegion ops rest :: k) = frm fn (Act.put ⟨t, []⟩ dst v).tmps (.inRegion ops rest :: k) := by
          intro v dst t
          cases dst with
          | none => rfl
          | some d => rfl
        by_cases hwant : ((ops[i]?).map (Region.wanted · (yielded ops t))).getD false = true
        · cases ho : ops[i]? with
          | none => rw [ho] at hwant; simp at hwant
          | some o =>
            rw [ho] at hwant
            simp only [Option.map_some, Option.getD_some] at hwant
            have hwant' : Region.wanted o (yielded ops t') = true := hy ▸ hwant
            have hno : niceOp P₁ F o = true := by
              rw [List.all_eq_true] at hx
              exact hx o (Array.mem_toList_iff.2 (Array.mem_of_getElem? ho))
            haveI := hG.bad
            have hex := execOp_rel hG.tables hG.globals hG.call hno (e := Act.eval ⟨t, []⟩) (e' := Act.eval ⟨t', []⟩) (ev_rel ht [] []) (fun f => ⟨rfl, rfl⟩)
            have hq : (frb fn).kind ≠ .early := by simp [frb, frm]
            rcases hex w W hw with ⟨q, w', htame, e⟩ | ⟨nx, w', nx', W', σ, kk, h1, h2, h3, h4, h5, h6, h7, h8⟩
            · by_cases hp : ∃ v, q = .panic v
              · obtain ⟨v, rfl⟩ := hp
                obtain ⟨es, hs⟩ := stepG_panic (P := P₀) (m := m) (b := frb fn) (a := ⟨t, []⟩) (k := k) (cs := cs ++ b) ho hwant e
                refine .inr (.inl ⟨_, w', es, hs, ⟨_, cs, [{ v, recovered := false }], rfl, ?_, ?_⟩⟩)
                · simp [Frame.raise, Frame.at, frb, frm]
                · intro x hxm
                  rcases List.mem_cons.1 hxm with rfl | hxm
                  · exact ⟨by simp [Frame.raise, Frame.at, frb, frm], fn_some hG (by simpa [Frame.raise, Frame.at, frb, frm] using hf)⟩
                  · exact st_all hG hcs x hxm
              · obtain ⟨o', es, hs⟩ := stepG_halt (P := P₀) (m := m) (b := frb fn) (a := ⟨t, []⟩) (k := k) (cs := cs ++ b) ho hwant e htame (fun v hv => hp ⟨v, hv⟩)
                exact .inl ⟨o', w', es, hs⟩
            · have hev : Mild ρ σ W W' (listed P₁ (frb fn).fn ⟨t', []⟩ o W) := h7.sub fun e he => mem_listed he
              cases h6 with
              | value hv =>
                refine .inr (.inr ⟨_, cs, _, cs', w', W', _, _, σ, kk, (stepG_value (b := frb fn) (a := ⟨t, []⟩) (k := k) (cs := cs ++ b) ho hwant hq h1).trans (by rw [hmk]), (stepG_value (b := frb fn) (a := ⟨t', []⟩) (k := k) (cs := cs' ++ b') ho hwant' hq h2).trans (by rw [hmk]), .inl (mk_rel hf hK (hput o.dst h7.le hv) hkn), hcs.mono h7.le, h3, h4, h5, hev, fun τ d hτ => ⟨_, (stepG_value (b := frb fn) (a := ⟨t, []⟩) (k := k) (cs := cs ++ b) ho hwant hq (h8 τ d hτ)).trans (by rw [hmk])⟩⟩)
              | skip =>
                refine .inr (.inr ⟨_, cs, _, cs', w', W', _, _, σ, kk, (stepG_none (b := frb fn) (a := ⟨t, []⟩) (k := k) (cs := cs ++ b) ho hwant hq h1).trans (by rw [hmk]), (stepG_none (b := frb fn) (a := ⟨t', []⟩) (k := k) (cs := cs' ++ b') ho hwant' hq h2).trans (by rw [hmk]), .inl (mk_rel hf hK (hput o.dst h7.le undef_rel) hkn), hcs.mono h7.le, h3, h4, h5, hev, fun τ d hτ => ⟨_, (stepG_none (b := frb fn) (a := ⟨t, []⟩) (k := k) (cs := cs ++ b) ho hwant hq (h8 τ d hτ)).trans (by rw [hmk])⟩⟩)
              | enter f hff hnn ha =>
                have hst : FrRel P₁ F K σ (frm fn t (.inRegion ops (i :: rest) :: k)) (frm fn t' (.inRegion ops (i :: rest) :: k)) := mk_rel hf hK (ht.mono h7.le) (by
                  simp only [List.all_cons, Bool.and_eq_true, niceItem]
                  exact ⟨hx, hk⟩)
                exact .inr (.inr ⟨_, _ :: cs, _, _ :: cs', w', W', _, _, σ, kk, Go.Conc.stepG_enter (b := frb fn) (a := ⟨t, []⟩) (k := k) (cs := cs ++ b) ho hwant hq h1, Go.Conc.stepG_enter (b := frb fn) (a := ⟨t', []⟩) (k := k) (cs := cs' ++ b') ho hwant' hq h2, (enter_rel hG hff (fun _ => hnn) ha).imp id (fun h => ⟨h, by simp⟩), .cons hst rfl (hcs.mono h7.le), h3, h4, h5, hev, fun τ d hτ => ⟨_, Go.Conc.stepG_enter (b := frb fn) (a := ⟨t, []⟩) (k := k) (cs := cs ++ b) ho hwant hq (h8 τ d hτ)⟩⟩)
        · have hw0 : ((ops[i]?).map (Region.wanted · (yielded ops t))).getD false = false := by simpa using hwant
          have hw1 : ((ops[i]?).map (Region.wanted · (yielded ops t'))).getD false = false := hy ▸ hw0
          exact Outcome.quiet hw hcs (fun w => (stepG_noop (b := frb fn) (a := ⟨t, []⟩) (k := k) hw0).trans (by rw [hmk])) (fun W => (stepG_noop (b := frb fn) (a := ⟨t', []⟩) (k := k) hw1).trans (by rw [hmk])) (mk_rel hf hK (hput ((ops[i]?).bind (·.dst)) (le_refl ρ) undef_rel) hkn)
    | code c =>
      cases c with
      | skip => exact go hk (fun {P m a cs w} => stepG_skip)
      | label l => exact go hk (fun {P m a cs w} => stepG_label)
      | ret =>
        refine Outcome.quiet hw hcs (fl := { frm fn t (.code .ret :: k) with mode := .returning }) (fr := { frm fn t' (.code .ret :: k) with mode := .returning }) (fun w => ?_) (fun W => ?_) ⟨rfl, hf, hK, ht, rfl, ?_, ⟨rfl, rfl⟩, .inr ⟨rfl, rfl⟩, ⟨rfl, rfl⟩, ⟨rfl, rfl⟩⟩
        · exact stepG_ret (b := frb fn) (a := ⟨t, []⟩)
        · exact stepG_ret (b := frb fn) (a := ⟨t', []⟩)
        · simp only [frm, List.all_cons, Bool.and_eq_true]
          exact ⟨hx, hk⟩
      | seq x y =>
        refine go (todo2 := .code x :: .code y :: k) ?_ (fun {P m a cs w} => stepG_seq)
        simp only [niceItem, niceCode, Bool.and_eq_true] at hx
        simp only [List.all_cons, Bool.and_eq_true]
        exact ⟨hx.1, hx.2, hk⟩
      | block id c =>
        refine go (todo2 := .code c :: .inBlock id :: k) ?_ (fun {P m a cs w} => stepG_block)
        simp only [List.all_cons, Bool.and_eq_true]
        exact ⟨hx, rfl, hk⟩
      | loop c =>
        refine go (todo2 := .code c :: .inLoop c :: k) ?_ (fun {P m a cs w} => stepG_loop)
        simp only [List.all_cons, Bool.and_eq_true]
        exact ⟨hx, hx, hk⟩
      | cond c x y =>
        simp only [niceItem, niceCode, Bool.and_eq_true] at hx
        have hc := he c hx.1.1
        cases hv : Act.eval ⟨t, []⟩ c with
        | bool q =>
          rw [hv] at hc
          have hv' : Act.eval ⟨t', []⟩ c = .bool q := by
            generalize Act.eval ⟨t', []⟩ c = v' at hc
            cases hc; rfl
          refine Outcome.quiet hw hcs (fl := frm fn t (.code (if q then x else y) :: k)) (fr := frm fn t' (.code (if q then x else y) :: k)) (fun w => stepG_cond (b := frb fn) (a := ⟨t, []⟩) hv) (fun W => stepG_cond (b := frb fn) (a := ⟨t', []⟩) hv') (mk_rel hf hK ht ?_)
          simp only [List.all_cons, Bool.and_eq_true]
          refine ⟨?_, hk⟩
          cases q
          · exact hx.2
          · exact hx.1.2
        | _ =>
          obtain ⟨o, es, h⟩ := stepG_cond_no (P := P₀) (m := m) (b := frb fn) (a := ⟨t, []⟩) (k := k) (cs := cs ++ b) (w := w) (c := c) (x := x) (y := y) (fun q => by rw [hv]; simp)
          exact .inl ⟨o, w, es, h⟩
      | exit id =>
        cases hq : exitTo id k with
        | some k' => exact go (exit_nice hq hk) (fun {P m a cs w} => stepG_exit hq)
        | none =>
          obtain ⟨o, es, h⟩ := stepG_exit_no (P := P₀) (m := m) (b := frb fn) (a := ⟨t, []⟩) (cs := cs ++ b) (w := w) hq
          exact .inl ⟨o, w, es, h⟩
      | refuse why =>
        obtain ⟨o, es, h⟩ := stepG_refuse (P := P₀) (m := m) (b := frb fn) (a := ⟨t, []⟩) (k := k) (cs := cs ++ b) (w := w) (why := why)
        exact .inl ⟨o, w, es, h⟩
      | region id ops draw =>
        cases draw with
        | false =>
          refine go (todo2 := .inRegion ops (List.range ops.size) :: k) ?_ (fun {P m a cs w} => stepG_region)
          simp only [List.all_cons, Bool.and_eq_true]
          exact ⟨hx, hk⟩
        | true =>
          have hfo : P₁.follows .mixedOrders = P₀.follows .mixedOrders := by show P₁.toTables.follows _ = P₀.toTables.follows _; rw [hG.tables]
          refine .inr (.inr ⟨frm fn t (.inRegion ops (Region.schedule (P₀.follows .mixedOrders) ops (w.tape w.drawn (.order fn id))) :: k), cs, frm fn t' (.inRegion ops (Region.schedule (P₀.follows .mixedOrders) ops (w.tape w.drawn (.order fn id))) :: k), cs', { w with drawn := w.drawn + 1 }, { W with drawn := W.drawn + 1 }, #[], #[], ρ, 1, stepG_draw (b := frb fn) (a := ⟨t, []⟩), ?_, .inl (mk_rel hf hK ht ?_), hcs, ⟨hw.inj, hw.blocks, hw.special, hw.grd, hw.all, hw.tape, by show w.drawn + 1 = W.drawn + 1; rw [hw.drawn]⟩, rfl, rfl, ⟨le_refl ρ, Nat.le_refl _, fun _ _ _ => rfl, fun _ _ h => .inl h, rfl, rfl, rfl, fun e he => by simp at he⟩, fun τ d hτ => ⟨#[], ?_⟩⟩)
          · have h := stepG_draw (P := P₁) (m := m') (b := frb fn) (a := ⟨t', []⟩) (k := k) (cs := cs' ++ b') (w := W) (id := id) (ops := ops)
            have h2 : W.tape W.drawn = w.tape w.drawn := by rw [hw.tape, hw.drawn]
            rw [h2, hfo] at h
            exact h
          · simp only [List.all_cons, Bool.and_eq_true]
            exact ⟨hx, hk⟩
          · have h0 := hτ 0 (by omega)
            simp only [Nat.add_zero] at h0
            have := stepG_draw (P := P₀) (m := m) (b := frb fn) (a := ⟨t, []⟩) (k := k) (cs := cs ++ b) (w := on w τ d) (id := id) (ops := ops)
            simp only [on, h0] at this ⊢
            exact this
      | rangeFunc f ps as bd => simp [niceItem, niceCode] at hx
      | scope c => simp [niceItem, niceCode] at hx
      | goto l => simp [niceItem, niceCode] at hx
    | inScope c => simp [niceItem] at hx
    | inRangeFunc l => simp [niceItem] at hx
    | endRangeFunc l => simp [niceItem] at hx
    | beginRound => simp [niceItem] at hx
    | call d w r s => simp [niceItem] at hx
    | extern r a => simp [niceItem] at hx
end
end Go.Proofs.Ytjgkignnfkbeaaa.Sim

/-
  Two runs of one code, over two heaps: a step that leaves a function; any step.
-/
namespace Go.Proofs.Ytjgkignnfkbeaaa.Sim
open Go Go.Conc
set_option linter.unusedVariables false
variable [Low]

omit [Low] in
theorem stepG_back {P : Program} {m : Bool} {f c : Frame} {cs : List Frame} {w w' : World} {fn : Func} {v : Value} (hm : f.mode = .returning) (hd : f.defers = []) (hk : f.kind = .normal) (hf : P.funcs[f.fn]? = some fn) (hr : (results fn f.tmps).run P w = .ok v w') :
    stepG P m (G f (c :: cs)) w = .go (G (c.finish v) cs) w' (seen P f.fn ((results fn f.tmps).events P w #[])) := by
  simp [G, stepG, unwind, doReturn, hm, hd, hk, hf, hr, GStep.after]
omit [Low] in
theorem stepG_back_no {P : Program} {m : Bool} {f : Frame} {cs : List Frame} {w w' : World} {fn : Func} {h : Halt} (hm : f.mode = .returning) (hd : f.defers = []) (hf : P.funcs[f.fn]? = some fn) (hr : (results fn f.tmps).run P w = .halt h w') :
    ∃ o es, stepG P m (G f cs) w = .ended o w' es := by
  cases h <;> exact ⟨_, _, by simp [G, stepG, unwind, hm, hd, hf, hr, GStep.after]; exact ⟨rfl, rfl⟩⟩

section
variable {P₀ P₁ : Program} {ρ σ : Ren} {F : FuncId → Bool} {K : FuncId}
theorem step_rel (hG : Good P₀ P₁ F K) {f f' : Frame} {cs cs' : List Frame} (hf : FrRel P₁ F K ρ f f') (hcs : StRel P₁ F K ρ cs cs') (hs : f.mode = .run ∨ cs ≠ [])
    (b b' : List Frame) {w W : World} (hw : WRel ρ w W) (m m' : Bool) : Outcome P₀ P₁ F K ρ m m' f f' cs cs' b b' w W := by
  rcases hf.mode with ⟨h1, _⟩ | ⟨h1, h2⟩
  · obtain ⟨fn, t, t', todo, rfl, rfl, e1, e2, e3, e4⟩ := frel_open hf h1
    exact step_run hG e1 e2 e3 e4 hcs b b' hw m m'
  · have hs2 : cs ≠ [] := by
      rcases hs with h | h
      · rw [h1] at h; cases h
      · exact h
    cases hcs with
    | nil => exact absurd rfl hs2
    | @cons c c' l l' hc hcm hl =>
      have hsome := fn_some hG hf.ok
      have hsame := hG.same f.fn hf.ok hf.notK
      cases hq : P₀.funcs[f.fn]? with
      | none => rw [hq] at hsome; cases hsome
      | some fn =>
        have hq' : P₁.funcs[f'.fn]? = some fn := by rw [hf.fn, ← hsame, hq]
        rcases results_rel hG.tables fn hf.tmps w W hw with ⟨q, w', _, e⟩ | ⟨v, w', v', W', σ, k, g1, g2, g3, g4, g5, g6, g7, g8⟩
        · obtain ⟨o, es, h⟩ := stepG_back_no (m := m) (cs := (c :: l) ++ b) h1 hf.defers.1 hq e
          exact .inl ⟨o, w', es, h⟩
        · exact .inr (.inr ⟨_, l, _, l', w', W', _, _, σ, k, stepG_back h1 hf.defers.1 hf.kind.1 hq g1, stepG_back h2 hf.defers.2 hf.kind.2 hq' g2, .inl ((hc.mono g7.le).finish g6), hl.mono g7.le, g3, g4, g5, g7.sub fun e he => mem_seen he, fun τ d hτ => ⟨_, stepG_back h1 hf.defers.1 hf.kind.1 hq (g8 τ d hτ)⟩⟩)
end
end Go.Proofs.Ytjgkignnfkbeaaa.Sim

/-
  A lone run that comes to its end on every tape: the tree of its runs.
-/
namespace Go.Proofs.Ytjgkignnfkbeaaa.Sim
open Go Go.Conc
set_option linter.unusedVariables false
variable [Low]

/-- under every frame: one that ends the run, however it is come back to -/
def Z : Frame := { (default : Frame) with fn := 0, todo := [], defers := [{ target := .nil, args := #[] }], mode := .panicking [], kind := .normal, roundOf := none, tmps := #[] }
/-- the worlds of the lone run: cells and single variables -/
def Cells (w : World) : Prop := ∀ (a : Nat) (o : Obj), w.heap[a]? = some o → (∃ (c : Array Value) (e : TypeId) (f : Nat × Nat), o = Obj.cells c e f) ∨ ∃ (p : Addr) (l : Bool), o = Obj.number p l

omit [Low] in
theorem stepG_Z {P : Program} {m : Bool} {z : Frame} {w : World} (hd : z.defers = Z.defers) (hm : ∃ c, z.mode = .panicking c) : ∃ o w' es, stepG P m (G z []) w = .ended o w' es := by
  obtain ⟨c, hz⟩ := hm
  exact ⟨_, _, _, by simp [G, stepG, unwind, hz, hd, Z, callDeferred]; exact ⟨rfl, rfl, rfl⟩⟩

omit [Low] in
theorem lone_go {P : Program} {f f' : Frame} {cs cs' : List Frame} {w w' : World} {es : Array Event} (h : stepG P true (G f cs) w = .go (G f' cs') w' es) : step P (lone f cs w) = .next (lone f' cs' w') := by
  have h' : stepG P true { frame := f, callers := cs, status := .running, dying := none } w = .go { frame := f', callers := cs', status := .running, dying := none } w' es := h
  exact step_lone_go (by rw [h']; rfl)
omit [Low] in
theorem lone_ended {P : Program} {f : Frame} {cs : List Frame} {w w' : World} {es : Array Event} {o : Go.Outcome} (h : stepG P true (G f cs) w = .ended o w' es) : step P (lone f cs w) = .ended o w' := by
  have h' : stepG P true { frame := f, callers := cs, status := .running, dying := none } w = .ended o w' es := h
  exact step_lone_ended (by rw [h']; rfl)
omit [Low] in
theorem runN_ended {P : Program} {M : Machine} {o : Go.Outcome} {w : World} (h : step P M = .ended o w) {n : Nat} {M' : Machine} (hr : runN P n M = .next M') : n = 0 := by
  cases n with
  | zero => rfl
  | succ n => simp [runN, h] at hr
omit [Low] in
theorem runN_next {P : Program} {M M1 : Machine} (h : step P M = .next M1) {n : Nat} {M' : Machine} (hr : runN P (n + 1) M = .next M') : runN P n M1 = .next M' := by
  simpa [runN, h] using hr
omit [Low] in
theorem lone_inj {f f' : Frame} {cs cs' : List Frame} {w w' : World} (h : lone f cs w = lone f' cs' w') : f = f' ∧ cs = cs' ∧ w = w' := by
  unfold lone at h
  simp only [Machine.mk.injEq] at h
  obtain ⟨h1, h2, _⟩ := h
  have h3 : ({ frame := f, callers := cs, status := .running, dying := none } : Goroutine) = { frame := f', callers := cs', status := .running, dying := none } := by
    have := congrArg (fun a => a[0]?) h2
    simpa using this
  simp only [Goroutine.mk.injEq] at h3
  exact ⟨h3.1, h3.2.1, h1⟩

section
variable {P : Program} {F : FuncId → Bool} {K : FuncId}
/-- a state that is related to itself -/
def Self (P : Program) (F : FuncId → Bool) (K : FuncId) (f : Frame) (cs : List Frame) (w : World) : Prop := ∃ ρ, FrRel P F K ρ f f ∧ StRel P F K ρ cs cs ∧ WRel ρ w w
theorem WRel.on {ρ : Ren} {w W : World} (h : WRel ρ w W) (τ : Nat → Question → Nat) (d : Nat) : WRel ρ (on w τ d) (on W τ d) := ⟨h.inj, h.blocks, h.special, h.grd, h.all, rfl, rfl⟩
theorem Self.on {f : Frame} {cs : List Frame} {w : World} (h : Self P F K f cs w) (τ : Nat → Question → Nat) (d : Nat) : Self P F K f cs (on w τ d) := by
  obtain ⟨ρ, h1, h2, h3⟩ := h
  exact ⟨ρ, h1, h2, h3.on τ d⟩
theorem Self.cells {f : Frame} {cs : List Frame} {w : World} (h : Self P F K f cs w) : Cells w := by
  obtain ⟨ρ, h1, h2, h3⟩ := h
  exact h3.all

theorem self_step (hG : Good P P F K) (hK : F K = false) {f : Frame} {cs : List Frame} {w : World} (h : Self P F K f cs w) (hs : f.mode = .run ∨ cs ≠ []) (b : List Frame) :
    (∃ o w' es, stepG P true (G f (cs ++ b)) w = .ended o w' es) ∨ (∃ g w' es, stepG P true (G f (cs ++ b)) w = .go g w' es ∧ Bad P g b) ∨
    ∃ f' cs' w' es k, stepG P true (G f (cs ++ b)) w = .go (G f' (cs' ++ b)) w' es ∧ Self P F K f' cs' w' ∧ w'.drawn = w.drawn + k ∧ w'.tape = w.tape ∧
      ∀ τ d, (∀ i, i < k → τ (d + i) = w.tape (w.drawn + i)) → ∃ es, stepG P true (G f (cs ++ b)) (on w τ d) = .go (G f' (cs' ++ b)) (on w' τ (d + k)) es := by
  obtain ⟨ρ, h1, h2, h3⟩ := h
  rcases step_rel hG h1 h2 hs b b h3 true true with q | q | ⟨fl, csl, fr, csr, w', W', es, es', σ, k, e1, e2, e3, e4, e5, e6, e7, e8, e9⟩
  · exact .inl q
  · exact .inr (.inl q)
  · rw [e1] at e2
    simp only [GStep.go.injEq, G, Goroutine.mk.injEq, and_true] at e2
    obtain ⟨⟨rfl, q2⟩, rfl, _⟩ := e2
    have q3 : csl = csr := List.append_cancel_right q2
    subst q3
    rcases e3 with e3 | e3
    · exact .inr (.inr ⟨fl, csl, w', es, k, e1, ⟨σ, e3, e4, e5⟩, e6, e7, e9⟩)
    · rw [e3.1.1] at hK; cases hK
omit [Low] in
theorem stepG_bad {P : Program} {m : Bool} {f c : Frame} {cs : List Frame} {w : World} {chain : List PanicEntry} (hm : f.mode = .panicking chain) (hd : f.defers = []) (hf : (P.funcs[f.fn]?).isSome = true) :
    ∃ es, stepG P m (G f (c :: cs)) w = .go (G (c.raise chain) cs) w es := by
  cases hq : P.funcs[f.fn]? with
  | none => rw [hq] at hf; cases hf
  | some fn => exact ⟨_, by simp [G, stepG, unwind, hm, hd, Frame.catches, hq]; rfl⟩
omit [Low] in
theorem raise_mode (f : Frame) (c : List PanicEntry) : ∃ c', (f.raise c).mode = .panicking c' := by
  unfold Frame.raise
  cases f.mode <;> exact ⟨_, rfl⟩
omit [Low] in
theorem raise_rest (f : Frame) (c : List PanicEntry) : (f.raise c).defers = f.defers ∧ (f.raise c).fn = f.fn := by
  unfold Frame.raise
  cases f.mode <;> exact ⟨rfl, rfl⟩
omit [Low] in
theorem Z_dead {P : Program} {z : Frame} {w w' : World} {fr : Frame} (hd : z.defers = Z.defers) (hm : ∃ c, z.mode = .panicking c) {n : Nat} {b : List Frame} (hb : b ≠ []) (h : runN P n (lone z [] w) = .next (lone fr b w')) : False := by
  obtain ⟨o, w1, es, q⟩ := stepG_Z (P := P) (m := true) (w := w) hd hm
  have hn := runN_ended (lone_ended q) h
  subst hn
  simp only [runN, Stepped.next.injEq] at h
  exact hb (lone_inj h).2.1.symm
omit [Low] in
/-- a panic never comes to an ordinary end -/
theorem bad_dead {P : Program} : ∀ (cs : List Frame) {f : Frame} {w w' : World} {fr : Frame} {chain : List PanicEntry} {n : Nat} {b : List Frame}, f.mode = .panicking chain → (∀ x, x ∈ f :: cs → x.defers = [] ∧ (P.funcs[x.fn]?).isSome = true) →
    b ≠ [] → fr.mode = .returning → runN P n (lone f (cs ++ [Z]) w) = .next (lone fr b w') → False
  | [], f, w, w', fr, chain, n, b, hm, hx, hb, hr, h => by
    obtain ⟨es, q⟩ := stepG_bad (P := P) (m := true) (c := Z) (cs := []) (w := w) hm (hx f (List.mem_cons_self ..)).1 (hx f (List.mem_cons_self ..)).2
    cases n with
    | zero =>
      simp only [runN, Stepped.next.injEq] at h
      have := (lone_inj h).1
      subst this
      rw [hm] at hr; cases hr
    | succ n => exact Z_dead (raise_rest Z chain).1 (raise_mode Z chain) hb (runN_next (lone_go q) h)
  | c :: cs, f, w, w', fr, chain, n, b, hm, hx, hb, hr, h => by
    obtain ⟨es, q⟩ := stepG_bad (P := P) (m := true) (c := c) (cs := cs ++ [Z]) (w := w) hm (hx f (List.mem_cons_self ..)).1 (hx f (List.mem_cons_self ..)).2
    cases n with
    | zero =>
      simp only [runN, Stepped.next.injEq] at h
      have := (lone_inj h).1
      subst this
      rw [hm] at hr; cases hr
    | succ n =>
      obtain ⟨c', hc'⟩ := raise_mode c chain
      refine bad_dead cs hc' (fun x hxm => ?_) hb hr (runN_next (lone_go q) h)
      rcases List.mem_cons.1 hxm with rfl | hxm
      · rw [(raise_rest c chain).1, (raise_rest c chain).2]
        exact hx c (List.mem_cons_of_mem _ (List.mem_cons_self ..))
      · exact hx x (List.mem_cons_of_mem _ (List.mem_cons_of_mem _ hxm))

/-- a frame that has come to its end, above the last: nothing with callers comes behind it -/
theorem stop_dead {P : Program} {F : FuncId → Bool} {K : FuncId} (hG : Good P P F K) {f : Frame} {w w' : World} {fr : Frame} {n : Nat} {b : List Frame} (hs : Self P F K f [] w) (hm : f.mode = .returning) (hb : b ≠ []) (h : runN P n (lone f [Z] w) = .next (lone fr b w')) : n = 0 := by
  cases n with
  | zero => rfl
  | succ n =>
    exfalso
    obtain ⟨ρ, h1, h2, h3⟩ := hs
    have hsome := fn_some hG h1.ok
    cases hq : P.funcs[f.fn]? with
    | none => rw [hq] at hsome; cases hsome
    | some fn =>
      cases hr : (results fn f.tmps).run P w with
      | halt q w1 =>
        obtain ⟨o, es, h4⟩ := stepG_back_no (m := true) (cs := [Z]) hm h1.defers.1 hq hr
        have := runN_ended (lone_ended h4) h
        omega
      | ok v w1 =>
        have h4 := stepG_back (m := true) (c := Z) (cs := []) hm h1.defers.1 h1.kind.1 hq hr
        exact Z_dead (z := Z.finish v) (by rfl) ⟨[], rfl⟩ hb (runN_next (lone_go h4) h)
end
end Go.Proofs.Ytjgkignnfkbeaaa.Sim

/-
  A lone run that comes to its end on every tape: the tree of its runs.
-/
namespace Go.Proofs.Ytjgkignnfkbeaaa.Sim
open Go Go.Conc
set_option linter.unusedVariables false
variable [Low]

section
variable {P : Program} {F : FuncId → Bool} {K : FuncId} {S : Frame → World → Prop}

/-- every run from here, whatever is drawn, comes to an end of which S holds -/
inductive Tree (P : Program) (F : FuncId → Bool) (K : FuncId) (S : Frame → World → Prop) : Frame → List Frame → World → Prop
  | stop {f : Frame} {w : World} (hs : Self P F K f [] w) (hm : f.mode = .returning) (h : ∀ τ d, S f (on w τ d)) : Tree P F K S f [] w
  | step {f : Frame} {cs : List Frame} {w : World} (hs : Self P F K f cs w) (hr : f.mode = .run ∨ cs ≠ [])
      (hgo : ∀ τ d, ∃ f' cs' w' es, stepG P true (G f (cs ++ [Z])) (on w τ d) = .go (G f' (cs' ++ [Z])) w' es ∧ Self P F K f' cs' w')
      (h : ∀ τ d f' cs' w' es, stepG P true (G f (cs ++ [Z])) (on w τ d) = .go (G f' (cs' ++ [Z])) w' es → Tree P F K S f' cs' w') : Tree P F K S f cs w

def Reaches (P : Program) (S : Frame → World → Prop) (f : Frame) (cs : List Frame) (w : World) : Prop := ∃ n fr w', runN P n (lone f (cs ++ [Z]) w) = .next (lone fr [Z] w') ∧ fr.mode = .returning ∧ S fr w'

omit [Low] in
theorem on_self {w : World} {τ : Nat → Question → Nat} {d : Nat} (h1 : w.tape = τ) (h2 : w.drawn = d) : w = on w τ d := by
  subst h1 h2; rfl
theorem modes {f : Frame} {cs : List Frame} {w : World} (h : Self P F K f cs w) : f.mode = .run ∨ f.mode = .returning := by
  obtain ⟨ρ, h1, _⟩ := h
  rcases h1.mode with q | q
  · exact .inl q.1
  · exact .inr q.1
omit [Low] in
theorem nocs {cs : List Frame} (h : cs ++ [Z] = [Z]) : cs = [] := by
  cases cs with
  | nil => rfl
  | cons a l => simp at h

/-- a step of a run that reaches the end -/
theorem reach_step (hG : Good P P F K) (hK : F K = false) {f : Frame} {cs : List Frame} {w : World} (hs : Self P F K f cs w) {n : Nat} {fr : Frame} {w1 : World} (h : runN P (n + 1) (lone f (cs ++ [Z]) w) = .next (lone fr [Z] w1)) (hm : fr.mode = .returning) :
    (f.mode = .run ∨ cs ≠ []) ∧ ∃ f' cs' w' es k, stepG P true (G f (cs ++ [Z])) w = .go (G f' (cs' ++ [Z])) w' es ∧ Self P F K f' cs' w' ∧ w'.drawn = w.drawn + k ∧ w'.tape = w.tape ∧
      (∀ τ d, (∀ i, i < k → τ (d + i) = w.tape (w.drawn + i)) → ∃ es, stepG P true (G f (cs ++ [Z])) (on w τ d) = .go (G f' (cs' ++ [Z])) (on w' τ (d + k)) es) ∧
      runN P n (lone f' (cs' ++ [Z]) w') = .next (lone fr [Z] w1) := by
  have hr : f.mode = .run ∨ cs ≠ [] := by
    rcases modes hs with q | q
    · exact .inl q
    · refine .inr fun hc => ?_
      subst hc
      have := stop_dead hG hs q (by simp) h
      omega
  refine ⟨hr, ?_⟩
  rcases self_step hG hK hs hr [Z] with ⟨o, w', es, q⟩ | ⟨g, w', es, q, hb⟩ | ⟨f', cs', w', es, k, q1, q2, q3, q4, q5⟩
  · have := runN_ended (lone_ended q) h
    omega
  · exfalso
    obtain ⟨f2, cs2, chain, rfl, hm2, hx⟩ := hb
    exact bad_dead cs2 hm2 hx (by simp) hm (runN_next (lone_go q) h)
  · exact ⟨f', cs', w', es, k, q1, q2, q3, q4, q5, runN_next (lone_go q1) h⟩

theorem reach_shift (hG : Good P P F K) (hK : F K = false) : ∀ (n : Nat) {f : Frame} {cs : List Frame} {w : World} {τ τ' : Nat → Question → Nat} {d d' : Nat} {fr : Frame} {w1 : World}, Self P F K f cs w → (∀ i, τ (d + i) = τ' (d' + i)) →
    runN P n (lone f (cs ++ [Z]) (on w τ d)) = .next (lone fr [Z] w1) → fr.mode = .returning → ∃ w2 k, w1 = on w2 τ (d + k) ∧ runN P n (lone f (cs ++ [Z]) (on w τ' d')) = .next (lone fr [Z] (on w2 τ' (d' + k))) ∧ Self P F K fr [] w2 := by
  intro n
  induction n with
  | zero =>
    intro f cs w τ τ' d d' fr w1 hs ht h hm
    simp only [runN, Stepped.next.injEq] at h
    obtain ⟨rfl, q2, rfl⟩ := lone_inj h
    have := nocs q2
    subst this
    exact ⟨w, 0, rfl, rfl, hs⟩
  | succ n ih =>
    intro f cs w τ τ' d d' fr w1 hs ht h hm
    obtain ⟨hr, f', cs', w', es, k, q1, q2, q3, q4, q5, q6⟩ := reach_step hG hK (hs.on τ d) h hm
    have e : w' = on w' τ (d + k) := on_self q4 q3
    rw [e] at q6
    obtain ⟨w2, k2, e1, e2, e3⟩ := ih (τ' := τ') (d' := d' + k) q2 (fun i => by rw [Nat.add_assoc, Nat.add_assoc]; exact ht (k + i)) q6 hm
    obtain ⟨es', q7⟩ := q5 τ' d' fun i hi => (ht i).symm
    have q8 := lone_go q7
    refine ⟨w2, k + k2, by rw [← Nat.add_assoc]; exact e1, ?_, e3⟩
    rw [← Nat.add_assoc]
    show runN P (n + 1) (lone f (cs ++ [Z]) (on w τ' d')) = _
    have q9 : step P (lone f (cs ++ [Z]) (on w τ' d')) = .next (lone f' (cs' ++ [Z]) (on w' τ' (d' + k))) := q8
    simp only [runN, q9]
    exact e2

structure Cfg where
  f : Frame
  cs : List Frame
  w : World
def Wild (P : Program) (F : FuncId → Bool) (K : FuncId) (S : Frame → World → Prop) (c : Cfg) : Prop := Self P F K c.f c.cs c.w ∧ (∀ τ d, Reaches P S c.f c.cs (on c.w τ d)) ∧ ¬ Tree P F K S c.f c.cs c.w
def Moves (P : Program) (c c' : Cfg) (σ : Nat → Question → Nat) (k : Nat) : Prop := ∀ τ d, (∀ i, i < k → τ (d + i) = σ i) → ∃ es, stepG P true (G c.f (c.cs ++ [Z])) (on c.w τ d) = .go (G c'.f (c'.cs ++ [Z])) (on c'.w τ (d + k)) es

theorem wild_next (hG : Good P P F K) (hK : F K = false) (hS : ∀ f w τ d, Self P F K f [] w → S f w → S f (on w τ d)) {c : Cfg} (hc : Wild P F K S c) : (c.f.mode = .run ∨ c.cs ≠ []) ∧ ∃ (c' : Cfg) (σ : Nat → Question → Nat) (k : Nat), Wild P F K S c' ∧ Moves P c c' σ k := by
  obtain ⟨f, cs, w⟩ := c
  obtain ⟨hs, hre, hT⟩ := hc
  simp only at hs hre hT
  by_cases hr : f.mode = .run ∨ cs ≠ []
  · refine ⟨hr, ?_⟩
    refine Classical.byContradiction fun hno => hT ?_
    have one : ∀ τ d, ∃ f' cs' w' es k, stepG P true (G f (cs ++ [Z])) (on w τ d) = .go (G f' (cs' ++ [Z])) w' es ∧ Self P F K f' cs' w' ∧ w'.drawn = d + k ∧ w'.tape = τ ∧
      (∀ τ' d', (∀ i, i < k → τ' (d' + i) = τ (d + i)) → ∃ es, stepG P true (G f (cs ++ [Z])) (on w τ' d') = .go (G f' (cs' ++ [Z])) (on w' τ' (d' + k)) es) := by
      intro τ d
      obtain ⟨n, fr, w1, h1, h2, h3⟩ := hre τ d
      cases n with
      | zero =>
        simp only [runN, Stepped.next.injEq] at h1
        obtain ⟨rfl, q2, rfl⟩ := lone_inj h1
        have q3 := nocs q2
        rcases hr with q | q
        · rw [h2] at q; cases q
        · exact absurd q3 q
      | succ n =>
        obtain ⟨_, f', cs', w', es, k, q1, q2, q3, q4, q5, q6⟩ := reach_step hG hK (hs.on τ d) h1 h2
        exact ⟨f', cs', w', es, k, q1, q2, q3, q4, q5⟩
    refine .step hs hr (fun τ d => ?_) (fun τ d f' cs' w' es hst => ?_)
    · obtain ⟨f', cs', w', es, k, q1, q2, _⟩ := one τ d
      exact ⟨f', cs', w', es, q1, q2⟩
    · refine Classical.byContradiction fun hT' => hno ?_
      obtain ⟨f2, cs2, w2, es2, k, q1, q2, q3, q4, q5⟩ := one τ d
      rw [hst] at q1
      simp only [GStep.go.injEq, G, Goroutine.mk.injEq, and_true] at q1
      obtain ⟨⟨rfl, e2⟩, rfl, _⟩ := q1
      have e3 := List.append_cancel_right e2
      subst e3
      refine ⟨⟨f', cs', w'⟩, fun i => τ (d + i), k, ⟨q2, fun τ' d' => ?_, hT'⟩, fun τ' d' h => q5 τ' d' h⟩
      show Reaches P S f' cs' (on w' τ' d')
      obtain ⟨n, fr, w1, h1, h2, h3⟩ := hre (fun i => if i < k then τ (d + i) else τ' (d' + (i - k))) 0
      obtain ⟨es4, q6⟩ := q5 (fun i => if i < k then τ (d + i) else τ' (d' + (i - k))) 0 fun i hi => by simp [hi]
      cases n with
      | zero =>
        simp only [runN, Stepped.next.injEq] at h1
        obtain ⟨rfl, q2', rfl⟩ := lone_inj h1
        have q3' := nocs q2'
        rcases hr with q | q
        · rw [h2] at q; cases q
        · exact absurd q3' q
      | succ n =>
        have h4 := runN_next (lone_go q6) h1
        obtain ⟨w5, k5, e5, e6, e7⟩ := reach_shift hG hK n (τ' := τ') (d' := d') q2 (fun i => by
          have : ¬ (0 + k + i < k) := by omega
          simp only [this, if_false]
          congr 2
          omega) h4 h2
        refine ⟨n, fr, _, e6, h2, ?_⟩
        subst e5
        exact hS fr (on w5 (fun i => if i < k then τ (d + i) else τ' (d' + (i - k))) (0 + k + k5)) τ' (d' + k5) (e7.on _ _) h3
  · exfalso
    have hc : cs = [] := Classical.byContradiction fun q => hr (.inr q)
    subst hc
    have hm : f.mode = .returning := by
      rcases modes hs with q | q
      · exact absurd (.inl q) hr
      · exact q
    refine hT (.stop hs hm fun τ d => ?_)
    obtain ⟨n, fr, w1, h1, h2, h3⟩ := hre τ d
    have hn := stop_dead hG (hs.on τ d) hm (by simp) h1
    subst hn
    simp only [runN, Stepped.next.injEq] at h1
    obtain ⟨rfl, q2, rfl⟩ := lone_inj h1
    exact h3

theorem tree_of (hG : Good P P F K) (hK : F K = false) (hS : ∀ f w τ d, Self P F K f [] w → S f w → S f (on w τ d)) {f : Frame} {cs : List Frame} {w : World} (hs : Self P F K f cs w) (hre : ∀ τ d, Reaches P S f cs (on w τ d)) : Tree P F K S f cs w := by
  refine Classical.byContradiction fun hT => ?_
  let N : {c : Cfg // Wild P F K S c} → {c : Cfg // Wild P F K S c} := fun c => ⟨Classical.choose (wild_next hG hK hS c.2).2, (Classical.choose_spec (Classical.choose_spec (Classical.choose_spec (wild_next hG hK hS c.2).2))).1⟩
  let A : {c : Cfg // Wild P F K S c} → Nat → Question → Nat := fun c => Classical.choose (Classical.choose_spec (wild_next hG hK hS c.2).2)
  let B : {c : Cfg // Wild P F K S c} → Nat := fun c => Classical.choose (Classical.choose_spec (Classical.choose_spec (wild_next hG hK hS c.2).2))
  have hN : ∀ c, Moves P c.1 (N c).1 (A c) (B c) := fun c => (Classical.choose_spec (Classical.choose_spec (Classical.choose_spec (wild_next hG hK hS c.2).2))).2
  have hA : ∀ c : {c : Cfg // Wild P F K S c}, c.1.f.mode = .run ∨ c.1.cs ≠ [] := fun c => (wild_next hG hK hS c.2).1
  clear_value N A B
  let s : Nat → {c : Cfg // Wild P F K S c} := fun n => Nat.rec ⟨⟨f, cs, w⟩, hs, hre, hT⟩ (fun _ c => N c) n
  let D : Nat → Nat := fun n => Nat.rec 0 (fun m d => d + B (s m)) n
  have hs1 : ∀ n, s (n + 1) = N (s n) := fun n => rfl
  have hD1 : ∀ n, D (n + 1) = D n + B (s n) := fun n => rfl
  have hs0 : s 0 = ⟨⟨f, cs, w⟩, hs, hre, hT⟩ := rfl
  have hD0 : D 0 = 0 := rfl
  clear_value s D
  have hDm : ∀ m n, m ≤ n → D m ≤ D n := by
    intro m n h
    induction h with
    | refl => exact Nat.le_refl _
    | step _ ih => rw [hD1]; omega
  let T : Nat → Question → Nat := fun i => open Classical in if h : ∃ n, D n ≤ i ∧ i < D (n + 1) then A (s (Classical.choose h)) (i - D (Classical.choose h)) else fun _ => 0
  have hT1 : ∀ n i, i < B (s n) → T (D n + i) = A (s n) i := by
    intro n i hi
    have h : ∃ m, D m ≤ D n + i ∧ D n + i < D (m + 1) := ⟨n, Nat.le_add_right _ _, by rw [hD1]; omega⟩
    have hc := Classical.choose_spec h
    have e : T (D n + i) = A (s (Classical.choose h)) (D n + i - D (Classical.choose h)) := dif_pos h
    rw [e]
    generalize Classical.choose h = m at hc
    have hm : m = n := by
      rcases Nat.lt_trichotomy m n with q | q | q
      · have := hDm (m + 1) n q; omega
      · exact q
      · have := hDm (n + 1) m q
        rw [hD1] at this
        omega
    subst hm
    rw [Nat.add_sub_cancel_left]
  clear_value T
  have run : ∀ n, runN P n (lone f (cs ++ [Z]) (on w T 0)) = .next (lone (s n).1.f ((s n).1.cs ++ [Z]) (on (s n).1.w T (D n))) := by
    intro n
    induction n with
    | zero => rw [hs0, hD0]; rfl
    | succ n ih =>
      rw [runN_add, ih]
      obtain ⟨es, h⟩ := hN (s n) T (D n) (hT1 n)
      have h2 := lone_go h
      simp only [runN, h2]
      rw [hs1, hD1]
  obtain ⟨n, fr, w1, h1, h2, h3⟩ := hre T 0
  rw [run n] at h1
  simp only [Stepped.next.injEq] at h1
  obtain ⟨q1, q2, _⟩ := lone_inj h1
  rcases hA (s n) with q | q
  · rw [q1, h2] at q; cases q
  · exact q (nocs q2)
end
end Go.Proofs.Ytjgkignnfkbeaaa.Sim

/-
  A goroutine that walks in company, its blocks its own: the judgement; and it holds of whatever comes to its end alone.
-/
namespace Go.Proofs.Ytjgkignnfkbeaaa.Sim
open Go Go.Conc
set_option linter.unusedVariables false
variable [Low]

/-- what the others may have done: nothing to the blocks of O -/
structure Rely (O : Nat → Prop) (w w₁ : World) : Prop where
  size : w.heap.size ≤ w₁.heap.size
  keep : ∀ b, O b → w₁.heap[b]? = w.heap[b]?
  tape : w₁.tape = w.tape
  os : w₁.os = w.os
  output : w₁.output = w.output
omit [Low] in
theorem Rely.refl (O : Nat → Prop) (w : World) : Rely O w w := ⟨Nat.le_refl _, fun _ _ => rfl, rfl, rfl, rfl⟩
omit [Low] in
theorem Rely.trans {O : Nat → Prop} {a b c : World} (h : Rely O a b) (k : Rely O b c) : Rely O a c :=
  ⟨Nat.le_trans h.size k.size, fun x hx => (k.keep x hx).trans (h.keep x hx), k.tape.trans h.tape, k.os.trans h.os, k.output.trans h.output⟩
omit [Low] in
theorem Rely.sub {O O' : Nat → Prop} {a b : World} (h : Rely O a b) (hs : ∀ x, O' x → O x) : Rely O' a b := { h with keep := fun x hx => h.keep x (hs x hx) }

/-- what a step may list: touches of its own blocks, reads of shared ones -/
def EvOk (Sh O : Nat → Prop) (e : Event) : Prop :=
  (∃ x off spot wr, O x ∧ e = ⟨.cell ⟨x, off, spot⟩, wr, false⟩) ∨ (∃ x sy, (O x ∨ sy = true) ∧ e = ⟨.obj x, false, sy⟩) ∨ (∃ x off spot, Sh x ∧ e = ⟨.cell ⟨x, off, spot⟩, false, false⟩) ∨ e = ⟨.mark .noRoom, false, true⟩
/-- what a step of its own does -/
structure Guar (Sh O : Nat → Prop) (w : World) (O' : Nat → Prop) (w' : World) (es : Array Event) : Prop where
  sub : ∀ b, O b → O' b
  fresh : ∀ b, O' b → O b ∨ w.heap.size ≤ b
  inside : ∀ b, O' b → b < w'.heap.size
  size : w.heap.size ≤ w'.heap.size
  keep : ∀ b, b < w.heap.size → ¬ O b → w'.heap[b]? = w.heap[b]?
  tape : w'.tape = w.tape
  os : w'.os = w.os
  output : w'.output = w.output
  ev : ∀ e ∈ es, EvOk Sh O' e

/-- g, whose blocks are O, is on its way to a stop, whatever the others do -/
inductive Walks (P : Program) (main : Bool) (Sh : Nat → Prop) (Stop : Goroutine → (Nat → Prop) → World → Prop) : Goroutine → (Nat → Prop) → World → Prop
  | stop {g : Goroutine} {O : Nat → Prop} {w : World} (h : ∀ w₁, Rely (fun x => O x ∨ Sh x) w w₁ → Stop g O w₁) : Walks P main Sh Stop g O w
  | step {g : Goroutine} {O : Nat → Prop} {w : World} (hs : g.status = .running) (ng : World → Goroutine) (nO : World → Nat → Prop) (nw : World → World) (ne : World → Array Event)
      (h1 : ∀ w₁, Rely (fun x => O x ∨ Sh x) w w₁ → stepG P main g w₁ = .go (ng w₁) (nw w₁) (ne w₁) ∧ Guar Sh O w₁ (nO w₁) (nw w₁) (ne w₁))
      (h2 : ∀ w₁, Rely (fun x => O x ∨ Sh x) w w₁ → Walks P main Sh Stop (ng w₁) (nO w₁) (nw w₁)) : Walks P main Sh Stop g O w

section
variable {P : Program} {main : Bool} {Sh : Nat → Prop} {Stop : Goroutine → (Nat → Prop) → World → Prop}
omit [Low] in
theorem Walks.go {g : Goroutine} {O : Nat → Prop} {w : World} (hs : g.status = .running)
    (h : ∀ w₁, Rely (fun x => O x ∨ Sh x) w w₁ → ∃ g' O' w' es, stepG P main g w₁ = .go g' w' es ∧ Guar Sh O w₁ O' w' es ∧ Walks P main Sh Stop g' O' w') : Walks P main Sh Stop g O w := by
  have h' : ∀ w₁, ∃ (q : Goroutine × (Nat → Prop) × World × Array Event), Rely (fun x => O x ∨ Sh x) w w₁ → stepG P main g w₁ = .go q.1 q.2.2.1 q.2.2.2 ∧ Guar Sh O w₁ q.2.1 q.2.2.1 q.2.2.2 ∧ Walks P main Sh Stop q.1 q.2.1 q.2.2.1 := by
    intro w₁
    by_cases hr : Rely (fun x => O x ∨ Sh x) w w₁
    · obtain ⟨g', O', w', es, a, b, c⟩ := h w₁ hr
      exact ⟨⟨g', O', w', es⟩, fun _ => ⟨a, b, c⟩⟩
    · exact ⟨⟨g, O, w, #[]⟩, fun x => absurd x hr⟩
  exact .step hs (fun w₁ => (Classical.choose (h' w₁)).1) (fun w₁ => (Classical.choose (h' w₁)).2.1) (fun w₁ => (Classical.choose (h' w₁)).2.2.1) (fun w₁ => (Classical.choose (h' w₁)).2.2.2)
    (fun w₁ hr => ⟨(Classical.choose_spec (h' w₁) hr).1, (Classical.choose_spec (h' w₁) hr).2.1⟩) (fun w₁ hr => (Classical.choose_spec (h' w₁) hr).2.2)
omit [Low] in
theorem Walks.rely {g : Goroutine} {O : Nat → Prop} {w w₁ : World} (h : Walks P main Sh Stop g O w) (hr : Rely (fun x => O x ∨ Sh x) w w₁) : Walks P main Sh Stop g O w₁ := by
  cases h with
  | stop h => exact .stop fun w₂ h₂ => h w₂ (hr.trans h₂)
  | step hs ng nO nw ne h1 h2 => exact .step hs ng nO nw ne (fun w₂ h₂ => h1 w₂ (hr.trans h₂)) (fun w₂ h₂ => h2 w₂ (hr.trans h₂))
omit [Low] in
/-- on to the next stop -/
theorem Walks.then {Stop' : Goroutine → (Nat → Prop) → World → Prop} {g : Goroutine} {O : Nat → Prop} {w : World} (h : Walks P main Sh Stop g O w) (hk : ∀ g O w, Stop g O w → Walks P main Sh Stop' g O w) : Walks P main Sh Stop' g O w := by
  induction h with
  | @stop g O w h => exact hk g O w (h w (Rely.refl _ w))
  | step hs ng nO nw ne h1 h2 ih => exact .step hs ng nO nw ne h1 ih

omit [Low] in
/-- a control step, or one that only reads -/
theorem Guar.quiet {O : Nat → Prop} {w : World} {d : Nat} {es : Array Event} (hi : ∀ b, O b → b < w.heap.size) (he : ∀ e ∈ es, EvOk Sh O e) : Guar Sh O w O (w.at d) es :=
  ⟨fun _ h => h, fun _ h => .inl h, hi, Nat.le_refl _, fun _ _ _ => rfl, rfl, rfl, rfl, he⟩
omit [Low] in
theorem Guar.same {O : Nat → Prop} {w : World} {es : Array Event} (hi : ∀ b, O b → b < w.heap.size) (he : ∀ e ∈ es, EvOk Sh O e) : Guar Sh O w O w es :=
  ⟨fun _ h => h, fun _ h => .inl h, hi, Nat.le_refl _, fun _ _ _ => rfl, rfl, rfl, rfl, he⟩
end

section
variable {P₀ P₁ : Program} {F : FuncId → Bool} {K : FuncId} {S : Frame → World → Prop} {Sh : Nat → Prop}

theorem wrel_rely {ρ : Ren} {w W W₁ : World} {O : Nat → Prop} (h : WRel ρ (on w W.tape W.drawn) W) (hO : ∀ a x, ρ a = some x → O x) (hr : Rely O W W₁) : WRel ρ (on w W₁.tape W₁.drawn) W₁ := by
  refine ⟨h.inj, fun a x hx hns => ?_, fun a x hx hs => ?_, h.grd, h.all, rfl, rfl⟩
  rotate_left
  · obtain ⟨c, c', e, f, h1, h2, h4, h3⟩ := h.special a x hx hs
    exact ⟨c, c', e, f, h1, (hr.keep x (hO a x hx)).trans h2, h4, h3⟩
  have e := hr.keep x (hO a x hx)
  rcases h.blocks a x hx hns with ⟨c, c', ty, f, h1, h2, h3, h4⟩ | ⟨p, p', l, h1, h2, h3⟩
  · exact .inl ⟨c, c', ty, f, h1, e.trans h2, h3, h4⟩
  · exact .inr ⟨p, p', l, h1, e.trans h2, h3⟩
theorem Guar.of_mild {ρ σ : Ren} {W W' : World} {es : Array Event} {O : Nat → Prop} {w' : World} (h : Mild ρ σ W W' es) (hw : WRel σ w' W') (hO : ∀ a x, ρ a = some x → O x) (hi : ∀ b, O b → b < W.heap.size) :
    Guar Sh O W (fun x => O x ∨ ∃ a, σ a = some x) W' es := by
  refine ⟨fun _ h => .inl h, ?_, ?_, h.size, fun b hb hn => h.keep b hb fun a ha => hn (hO a b ha), h.tape, h.os, h.output, fun e he => ?_⟩
  · rintro b (hb | ⟨a, ha⟩)
    · exact .inl hb
    · rcases h.new a b ha with q | q
      · exact .inl (hO a b q)
      · exact .inr q
  · rintro b (hb | ⟨a, ha⟩)
    · exact Nat.lt_of_lt_of_le (hi b hb) h.size
    · exact (hw.lt ha).2
  · rcases h.ev e he with ⟨a, x, off, spot, wr, h1, h2⟩ | ⟨a, x, h1, h2⟩ | h1
    · exact .inl ⟨x, off, spot, wr, .inr ⟨a, h1⟩, h2⟩
    · exact .inr (.inl ⟨x, false, .inl (.inr ⟨a, h1⟩), h2⟩)
    · exact .inr (.inr (.inr h1))

/-- a walk of nice code, at its end -/
def AtStop (P : Program) (F : FuncId → Bool) (K : FuncId) (S : Frame → World → Prop) (ρ₀ : Ren) (b' : List Frame) (g : Goroutine) (O : Nat → Prop) (W : World) : Prop :=
  ∃ (ρ : Ren) (fr fr' : Frame) (w : World), le ρ₀ ρ ∧ S fr w ∧ fr.mode = .returning ∧ FrRel P F K ρ fr fr' ∧ g = G fr' b' ∧ WRel ρ w W ∧ (∀ a x, ρ a = some x → O x) ∧ ∀ b, O b → b < W.heap.size

theorem tree_go {K0 : FuncId} (hG : Good P₀ P₁ F K) {f f' : Frame} {cs cs' b' : List Frame} {w W : World} {ρ : Ren} {main : Bool} (hr : f.mode = .run ∨ cs ≠ [])
    (hgo : ∀ τ d, ∃ f' cs' w' es, stepG P₀ true (G f (cs ++ [Z])) (on w τ d) = .go (G f' (cs' ++ [Z])) w' es ∧ Self P₀ F K0 f' cs' w')
    (h1 : FrRel P₁ F K ρ f f') (h2 : StRel P₁ F K ρ cs cs') (h3 : WRel ρ (on w W.tape W.drawn) W) :
    ∃ fl csl fr csr w' W' es es' σ, stepG P₀ true (G f (cs ++ [Z])) (on w W.tape W.drawn) = .go (G fl (csl ++ [Z])) w' es ∧ stepG P₁ main (G f' (cs' ++ b')) W = .go (G fr (csr ++ b')) W' es' ∧
      (FrRel P₁ F K σ fl fr ∨ (EnterK P₀ P₁ F K σ fl fr ∧ csl ≠ [])) ∧ StRel P₁ F K σ csl csr ∧ WRel σ (on w' W'.tape W'.drawn) W' ∧ Mild ρ σ W W' es' := by
  obtain ⟨fa, ca, wa, ea, q1, q2⟩ := hgo W.tape W.drawn
  rcases step_rel hG h1 h2 hr [Z] b' h3 true main with ⟨o, w', es, q⟩ | ⟨g, w', es, q, hb⟩ | ⟨fl, csl, fr, csr, w', W', es, es', σ, k, e1, e2, e3, e4, e5, e6, e7, e8, e9⟩
  · rw [q] at q1; cases q1
  · exfalso
    obtain ⟨f2, cs2, chain, rfl, hm2, hx⟩ := hb
    rw [q] at q1
    simp only [GStep.go.injEq, G, Goroutine.mk.injEq, and_true] at q1
    obtain ⟨⟨rfl, _⟩, _⟩ := q1
    rcases modes q2 with h | h
    · rw [hm2] at h; cases h
    · rw [hm2] at h; cases h
  · refine ⟨fl, csl, fr, csr, w', W', es, es', σ, e1, e2, e3, e4, ?_, e8⟩
    exact ⟨e5.inj, e5.blocks, e5.special, e5.grd, e5.all, rfl, rfl⟩

/-- whatever comes to its end alone, comes to it in company -/
theorem walks_of_tree (hG : Good P₀ P₁ F K) (hK : F K = false) {f : Frame} {cs : List Frame} {w : World} (T : Tree P₀ F K S f cs w) (main : Bool) (ρ₀ : Ren) (b' : List Frame) : ∀ {ρ : Ren} {f' : Frame} {cs' : List Frame} {O : Nat → Prop} {W : World},
    le ρ₀ ρ → FrRel P₁ F K ρ f f' → StRel P₁ F K ρ cs cs' → WRel ρ (on w W.tape W.drawn) W → (∀ a x, ρ a = some x → O x) → (∀ b, O b → b < W.heap.size) → Walks P₁ main Sh (AtStop P₁ F K S ρ₀ b') (G f' (cs' ++ b')) O W := by
  induction T with
  | @stop f w hs hm h =>
    intro ρ f' cs' O W h0 h1 h2 h3 h4 h5
    cases h2
    refine .stop fun W₁ hr => ?_
    have hr' : Rely O W W₁ := hr.sub fun _ h => .inl h
    exact ⟨ρ, f, f', on w W₁.tape W₁.drawn, h0, h _ _, hm, h1, rfl, wrel_rely h3 h4 hr', h4, fun b hb => Nat.lt_of_lt_of_le (h5 b hb) hr.size⟩
  | @step f cs w hs hr hgo h ih =>
    intro ρ f' cs' O W h0 h1 h2 h3 h4 h5
    refine .go rfl fun W₁ hre => ?_
    have hr' : Rely O W W₁ := hre.sub fun _ h => .inl h
    have h5' : ∀ b, O b → b < W₁.heap.size := fun b hb => Nat.lt_of_lt_of_le (h5 b hb) hre.size
    obtain ⟨fl, csl, fr, csr, w', W', es, es', σ, e1, e2, e3, e4, e5, e6⟩ := tree_go hG (main := main) (b' := b') hr hgo h1 h2 (wrel_rely h3 h4 hr')
    have hgu := Guar.of_mild (Sh := Sh) e6 e5 h4 h5'
    refine ⟨_, fun x => O x ∨ ∃ a, σ a = some x, W', es', e2, hgu, ?_⟩
    rcases e3 with e3 | e3
    · exact ih _ _ _ _ _ _ e1 (le_trans h0 e6.le) e3 e4 e5 (fun a x hx => .inr ⟨a, hx⟩) hgu.inside
    · rw [e3.1.1] at hK; cases hK
end
end Go.Proofs.Ytjgkignnfkbeaaa.Sim
