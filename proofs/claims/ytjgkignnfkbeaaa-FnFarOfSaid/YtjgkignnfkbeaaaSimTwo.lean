/-
  Two goroutines that both work, each in its own blocks: what is held of the trace.
-/
import Derived.Test.YtjgkignnfkbeaaaSimOne
import Derived.Conc.Beside
import Derived.Conc.CrowdComm
import Derived.Conc.CompanyDraw
namespace Go.Proofs.Ytjgkignnfkbeaaa.Sim
open Go Go.Conc
set_option linter.unusedVariables false
variable [Low]

def blockOf : Loc → Option Nat
  | .cell a => some a.block
  | .obj r => some r
  | _ => none
/-- a touch of a block of O, or a read of a shared one -/
def Mine (O Sh : Nat → Prop) (a : Touch) : Prop := (∀ r, a.loc = .obj r → a.write = false) ∧ ((∃ r, a.loc = .obj r) ∨ ∃ x, blockOf a.loc = some x ∧ (O x ∨ (Sh x ∧ a.write = false)))
omit [Low] in
theorem Mine.sub {O O' Sh : Nat → Prop} (hs : ∀ x, O x → O' x) {a : Touch} (h : Mine O Sh a) : Mine O' Sh a := by
  refine ⟨h.1, h.2.imp id ?_⟩
  rintro ⟨x, h1, h2⟩
  exact ⟨x, h1, h2.imp (hs x) id⟩
/-- g knows every touch, but h's own -/
def Half (t : Trace) (g h : Nat) (O Sh : Nat → Prop) : Prop := ∀ i a, touchAt t i = some a → a.loc.isMemory = true → Knows t g i ∨ (t.g? i = some h ∧ Mine O Sh a)
/-- what is held where goroutine 0 alone works: no race; it knows every touch; it hears -/
structure PastW (t : Trace) : Prop where
  clean : ∀ said, ¬ Race said t
  known : ∀ i a, touchAt t i = some a → a.loc.isMemory = true → Knows t 0 i
  hears : Deaf t 0 = 0
omit [Low] in
theorem PastW.over {t : Trace} (h : PastW t) : t.HandedOver := by
  intro i g hg hne hc
  obtain ⟨x, hx, hm, _⟩ := hc
  obtain ⟨q, z, h1, h2, h3⟩ := h.known i x hx hm
  rcases h3 with rfl | h3
  · simp [Trace.g?, h1, h2] at hg
    exact absurd hg.symm hne
  · exact ⟨q, by simp [Trace.g?, h1, h2], h3⟩
omit [Low] in
theorem pastW_nil : PastW #[] := ⟨past_nil.clean, fun i a ha => by simp [touchAt, Trace.act?] at ha, rfl⟩

section
variable {t u : Trace} {g h : Nat} {O O' Sh : Nat → Prop}

omit [Low] in
theorem Half.app (H : Half t g h O Sh) (hs : ∀ x, O x → O' x) (hu : ∀ op ∈ u, ∀ b, op.act.touch? = some b → b.loc.isMemory = true → op.g = g ∨ (op.g = h ∧ Mine O' Sh b)) : Half (t ++ u) g h O' Sh := by
  intro i a ha hm
  obtain ⟨x, hx, hxa⟩ := touch_of ha
  rcases getElem?_append_cases hx with ⟨hi, hx'⟩ | ⟨_, hxu⟩
  · rcases H i a (by rw [touchAt_of hx']; exact hxa) hm with q | ⟨q, m⟩
    · exact .inl (q.app u)
    · exact .inr ⟨by rw [g?_old hi]; exact q, m.sub hs⟩
  · rcases hu x hxu a hxa hm with q | ⟨q, m⟩
    · have := knows_own hx
      rw [q] at this
      exact .inl this
    · exact .inr ⟨by simp [Trace.g?, hx, q], m⟩

omit [Low] in
theorem evOk_touch {e : Event} (he : EvOk Sh O e) {b : Touch} (hb : (MemAct.ofEvent e).touch? = some b) : Mine O Sh b := by
  rcases he with ⟨x, off, spot, wr, hx, rfl⟩ | ⟨x, sy, hx, rfl⟩ | ⟨x, off, spot, hx, rfl⟩ | rfl
  · have e1 : MemAct.ofEvent ⟨.cell ⟨x, off, spot⟩, wr, false⟩ = .access ⟨.cell ⟨x, off, spot⟩, wr, false⟩ := rfl
    rw [e1] at hb
    simp only [MemAct.touch?, Option.some.injEq] at hb
    subst hb
    exact ⟨fun r h => (by cases h), .inr ⟨x, rfl, .inl hx⟩⟩
  · have e1 : MemAct.ofEvent ⟨.obj x, false, sy⟩ = .access ⟨.obj x, false, sy⟩ := rfl
    rw [e1] at hb
    simp only [MemAct.touch?, Option.some.injEq] at hb
    subst hb
    exact ⟨fun r _ => rfl, .inl ⟨x, rfl⟩⟩
  · have e1 : MemAct.ofEvent ⟨.cell ⟨x, off, spot⟩, false, false⟩ = .access ⟨.cell ⟨x, off, spot⟩, false, false⟩ := rfl
    rw [e1] at hb
    simp only [MemAct.touch?, Option.some.injEq] at hb
    subst hb
    exact ⟨fun r h => (by cases h), .inr ⟨x, rfl, .inr ⟨hx, rfl⟩⟩⟩
  · have e1 : MemAct.ofEvent ⟨.mark .noRoom, false, true⟩ = .mark .noRoom := rfl
    rw [e1] at hb
    cases hb
omit [Low] in
theorem evOk_still {e : Event} (he : EvOk Sh O e) : e.loc ≠ .mark .disable ∧ e.loc ≠ .mark .enable := by
  rcases he with ⟨x, off, spot, wr, hx, rfl⟩ | ⟨x, sy, hx, rfl⟩ | ⟨x, off, spot, hx, rfl⟩ | rfl <;> simp

variable {fn : FuncId} {pos : String} {es : Array Event}
omit [Low] in
theorem ops_g (g : Nat) (fn : FuncId) (pos : String) (es : Array Event) : ∀ op ∈ MemOp.ofEvents g fn pos es, op.g = g := fun op hop => by
  obtain ⟨e, _, rfl⟩ := Go.Conc.mem_ofEvents hop; rfl
omit [Low] in
theorem ops_mine (hes : ∀ e ∈ es, EvOk Sh O e) : ∀ op ∈ MemOp.ofEvents g fn pos es, ∀ b, op.act.touch? = some b → Mine O Sh b := fun op hop b hb => by
  obtain ⟨e, he, rfl⟩ := Go.Conc.mem_ofEvents hop
  exact evOk_touch (hes e he) hb
omit [Low] in
theorem ops_deaf (hes : ∀ e ∈ es, EvOk Sh O e) (g' : Nat) : Deaf (t ++ MemOp.ofEvents g fn pos es) g' = Deaf t g' := by
  by_cases hg : g = g'
  · subst hg
    rw [Deaf_own]
    exact deafBehind_still (fun e he => evOk_still (hes e he)) _
  · exact Deaf_other t hg _ (ops_g g fn pos es)

omit [Low] in
/-- a step of g's: no race -/
theorem clean_step {said : Bool} (hc : ¬ Race said t) (H : Half t g h O' Sh) (hes : ∀ e ∈ es, EvOk Sh O e) (d1 : ∀ x, O x → ¬ O' x) (d2 : ∀ x, O x → ¬ Sh x) (d3 : ∀ x, O' x → ¬ Sh x) : ¬ Race said (t ++ MemOp.ofEvents g fn pos es) := by
  refine noRace_append hc (ops_g g fn pos es) fun i a ha op hop b hb hcon => ?_
  obtain ⟨e1, e2, e3, _⟩ := hcon
  rcases H i a ha e2 with q | ⟨_, ha1, ha2⟩
  · exact q
  · exfalso
    obtain ⟨hb1, hb2⟩ := ops_mine hes op hop b hb
    have obj : ∀ r, a.loc ≠ .obj r := fun r h => by
      rw [ha1 r h, hb1 r (e1 ▸ h)] at e3
      simp at e3
    rcases ha2 with ⟨r, h⟩ | ⟨x, h1, h2⟩
    · exact obj r h
    rcases hb2 with ⟨r, h⟩ | ⟨y, k1, k2⟩
    · exact obj r (e1.trans h)
    rw [e1, k1] at h1
    cases h1
    rcases h2 with h2 | ⟨h2, w2⟩ <;> rcases k2 with k2 | ⟨k2, v2⟩
    · exact d1 _ k2 h2
    · exact d3 _ h2 k2
    · exact d2 _ k2 h2
    · rw [w2, v2] at e3
      simp at e3
omit [Low] in
theorem Half.own (H : Half t g h O Sh) : Half (t ++ MemOp.ofEvents g fn pos es) g h O Sh := H.app (fun _ h => h) fun op hop b hb hm => .inl (ops_g g fn pos es op hop)
omit [Low] in
theorem Half.other (H : Half t g h O Sh) (hs : ∀ x, O x → O' x) (hes : ∀ e ∈ es, EvOk Sh O' e) : Half (t ++ MemOp.ofEvents h fn pos es) g h O' Sh := H.app hs fun op hop b hb hm => .inr ⟨ops_g h fn pos es op hop, ops_mine hes op hop b hb⟩
omit [Low] in
theorem Half.mute (H : Half t g h O Sh) (hu : ∀ op ∈ u, op.act.touch? = none) : Half (t ++ u) g h O Sh := H.app (fun _ h => h) fun op hop b hb hm => by rw [hu op hop] at hb; cases hb
omit [Low] in
theorem clean_mute {said : Bool} (hc : ¬ Race said t) (hu : ∀ op ∈ u, op.act.touch? = none) : ¬ Race said (t ++ u) := by
  have key : ∀ (l : List MemOp) (t : Trace), ¬ Race said t → (∀ op ∈ l, op.act.touch? = none) → ¬ Race said (t ++ l.toArray) := by
    intro l
    induction l with
    | nil => intro t h _; simpa using h
    | cons x l ih =>
      intro t h hl
      have e : t ++ (x :: l).toArray = (t ++ #[x]) ++ l.toArray := by apply Array.ext'; simp
      rw [e]
      refine ih (t ++ #[x]) (noRace_append (g := x.g) h (fun op hop => by simp at hop; rw [hop]) fun i a ha op hop b hb => ?_) fun op hop => hl op (List.mem_cons_of_mem _ hop)
      have : op = x := by simpa using hop
      rw [this, hl x (List.mem_cons_self ..)] at hb
      cases hb
  have := key u.toList t hc fun op hop => hu op (Array.mem_toList_iff.1 hop)
  simpa using this

omit [Low] in
/-- nobody else has done anything -/
theorem half_of_known (H : PastW t) : Half t 0 0 (fun _ => False) (fun _ => False) := fun i a ha hm => .inl (H.known i a ha hm)
omit [Low] in
theorem known_app (H : PastW t) (hu : ∀ op ∈ u, op.act.touch? = none ∨ op.g = 0) : ∀ i a, touchAt (t ++ u) i = some a → a.loc.isMemory = true → Knows (t ++ u) 0 i := by
  intro i a ha hm
  obtain ⟨x, hx, hxa⟩ := touch_of ha
  rcases getElem?_append_cases hx with ⟨hi, hx'⟩ | ⟨_, hxu⟩
  · exact (H.known i a (by rw [touchAt_of hx']; exact hxa) hm).app u
  · rcases hu x hxu with q | q
    · rw [q] at hxa; cases hxa
    · have := knows_own hx
      rw [q] at this
      exact this
omit [Low] in
theorem PastW.own (H : PastW t) (hes : ∀ e ∈ es, EvOk (fun _ => False) O e) : PastW (t ++ MemOp.ofEvents 0 fn pos es) :=
  ⟨fun said => clean_step (H.clean said) (half_of_known H) hes (fun _ _ h => h) (fun _ _ h => h) (fun _ _ h => h), known_app H fun op hop => .inr (ops_g 0 fn pos es op hop), (ops_deaf hes 0).trans H.hears⟩
omit [Low] in
theorem PastW.mute (H : PastW t) {g : Nat} (hg : g ≠ 0) (hm : ∀ e ∈ es, e.mute = true) : PastW (t ++ MemOp.ofEvents g fn pos es) := by
  have hn : ∀ op ∈ MemOp.ofEvents g fn pos es, op.act.touch? = none := fun op hop => by obtain ⟨e, he, rfl⟩ := Go.Conc.mem_ofEvents hop; exact touch_mute (hm e he)
  exact ⟨fun said => clean_mute (H.clean said) hn, known_app H fun op hop => .inl (hn op hop), (Deaf_other t hg _ (ops_g g fn pos es)).trans H.hears⟩
end
end Go.Proofs.Ytjgkignnfkbeaaa.Sim

/-
  Two goroutines that both work, and a channel without room between them: scripts, ranks, and small laws.
-/
namespace Go.Proofs.Ytjgkignnfkbeaaa.Sim
open Go Go.Conc
open Go.ConcN (sumTo upd sumTo_upd upd_ne upd_same)
set_option linter.unusedVariables false
variable [Low]

/-! ### ranks -/
inductive Tm where
  | leaf
  | node (f : World → Tm)
def Tm.Sub (a b : Tm) : Prop := ∃ f w, b = .node f ∧ a = f w
omit [Low] in
theorem Tm.wf : WellFounded Tm.Sub := by
  refine ⟨fun a => ?_⟩
  induction a with
  | leaf => exact ⟨_, fun y ⟨f, w, h, _⟩ => by cases h⟩
  | node f ih => exact ⟨_, fun y ⟨f', w, h, e⟩ => by cases h; subst e; exact ih w⟩
def RankLt : (Nat × Tm × Tm × Nat) → (Nat × Tm × Tm × Nat) → Prop := Prod.Lex (· < ·) (Prod.Lex Tm.Sub (Prod.Lex Tm.Sub (· < ·)))
omit [Low] in
theorem RankLt.wf : WellFounded RankLt := (Prod.lex ⟨_, Nat.lt_wfRel.wf⟩ (Prod.lex ⟨_, Tm.wf⟩ (Prod.lex ⟨_, Tm.wf⟩ ⟨_, Nat.lt_wfRel.wf⟩))).wf

omit [Low] in
theorem reach_of_inv {P : Program} {α : Type} {r : α → α → Prop} (wf : WellFounded r) (Inv : α → Machine → Trace → Prop) (End : Machine → Trace → Prop)
    (h : ∀ μ m t, Inv μ m t → End m t ∨ ∃ m' ops μ', stepT P m = (.next m', ops) ∧ r μ' μ ∧ Inv μ' m' (t ++ ops)) : ∀ μ m t, Inv μ m t → ∃ n m' t', runNT P n m t = (.next m', t') ∧ End m' t' := by
  intro μ
  induction μ using wf.induction with
  | _ μ ih =>
    intro m t hI
    rcases h μ m t hI with he | ⟨m', ops, μ', hs, hr, hI'⟩
    · exact ⟨0, m, t, rfl, he⟩
    · obtain ⟨n, m2, t2, h1, h2⟩ := ih μ' hr m' (t ++ ops) hI'
      exact ⟨n + 1, m2, t2, by rw [runNT_succ_next hs]; exact h1, h2⟩

/-- a walk, with its rank -/
inductive WalksT (P : Program) (main : Bool) (Sh : Nat → Prop) (Stop : Goroutine → (Nat → Prop) → World → Prop) : Tm → Goroutine → (Nat → Prop) → World → Prop
  | stop {g : Goroutine} {O : Nat → Prop} {w : World} (h : ∀ w₁, Rely (fun x => O x ∨ Sh x) w w₁ → Stop g O w₁) : WalksT P main Sh Stop (.node fun _ => .leaf) g O w
  | step {g : Goroutine} {O : Nat → Prop} {w : World} (f : World → Tm) (hs : g.status = .running) (ng : World → Goroutine) (nO : World → Nat → Prop) (nw : World → World) (ne : World → Array Event)
      (h1 : ∀ w₁, Rely (fun x => O x ∨ Sh x) w w₁ → stepG P main g w₁ = .go (ng w₁) (nw w₁) (ne w₁) ∧ Guar Sh O w₁ (nO w₁) (nw w₁) (ne w₁))
      (h2 : ∀ w₁, Rely (fun x => O x ∨ Sh x) w w₁ → WalksT P main Sh Stop (f w₁) (ng w₁) (nO w₁) (nw w₁)) : WalksT P main Sh Stop (.node f) g O w

section
variable {P : Program} {main : Bool} {Sh : Nat → Prop} {Stop : Goroutine → (Nat → Prop) → World → Prop}
omit [Low] in
theorem Walks.tm {g : Goroutine} {O : Nat → Prop} {w : World} (h : Walks P main Sh Stop g O w) : ∃ T, WalksT P main Sh Stop T g O w := by
  induction h with
  | stop h => exact ⟨_, .stop h⟩
  | @step g O w hs ng nO nw ne h1 h2 ih =>
    have h' : ∀ w₁, ∃ T, Rely (fun x => O x ∨ Sh x) w w₁ → WalksT P main Sh Stop T (ng w₁) (nO w₁) (nw w₁) := by
      intro w₁
      by_cases hr : Rely (fun x => O x ∨ Sh x) w w₁
      · obtain ⟨T, hT⟩ := ih w₁ hr
        exact ⟨T, fun _ => hT⟩
      · exact ⟨.leaf, fun x => absurd x hr⟩
    exact ⟨_, .step (fun w₁ => Classical.choose (h' w₁)) hs ng nO nw ne h1 fun w₁ hr => Classical.choose_spec (h' w₁) hr⟩
omit [Low] in
theorem WalksT.rely {T : Tm} {g : Goroutine} {O : Nat → Prop} {w w₁ : World} (h : WalksT P main Sh Stop T g O w) (hr : Rely (fun x => O x ∨ Sh x) w w₁) : WalksT P main Sh Stop T g O w₁ := by
  cases h with
  | stop h => exact .stop fun w₂ h₂ => h w₂ (hr.trans h₂)
  | step f hs ng nO nw ne h1 h2 => exact .step f hs ng nO nw ne (fun w₂ h₂ => h1 w₂ (hr.trans h₂)) (fun w₂ h₂ => h2 w₂ (hr.trans h₂))
end

/-! ### scripts -/
section
variable (P : Program) (c : Nat) (Sh : Nat → Prop)
/-- it stands at a receive -/
def AtRecvW (Next : Bool → Value → Frame → List Frame → (Nat → Prop) → World → Prop) (g : Goroutine) (O : Nat → Prop) (w : World) : Prop :=
  ∃ fr cs ok z, g = G fr cs ∧ ∀ w₁, Rely (fun x => O x ∨ Sh x) w w₁ → ∃ es, stepG P true (G fr cs) w₁ = .comm (G fr cs) #[rcase c z] true (.recv ok) w₁ es ∧ (∀ e ∈ es, EvOk Sh O e) ∧ Next ok z fr cs O w₁
def RecvsW (Fin : Goroutine → (Nat → Prop) → World → Prop) : List Value → Goroutine → (Nat → Prop) → World → Prop
  | [] => Walks P true Sh (AtRecvW P c Sh fun ok z fr cs O w => Fin (G (fr.finish (recvd ok z false)) cs) O w)
  | v :: vs => Walks P true Sh (AtRecvW P c Sh fun ok z fr cs O w => RecvsW Fin vs (G (fr.finish (recvd ok v true)) cs) O w)
def NextR (Fin : Goroutine → (Nat → Prop) → World → Prop) : List Value → Bool → Value → Frame → List Frame → (Nat → Prop) → World → Prop
  | [] => fun ok z fr cs O w => Fin (G (fr.finish (recvd ok z false)) cs) O w
  | v :: vs => fun ok z fr cs O w => RecvsW P c Sh Fin vs (G (fr.finish (recvd ok v true)) cs) O w
omit [Low] in
theorem recvsW_eq (Fin : Goroutine → (Nat → Prop) → World → Prop) (vs : List Value) : RecvsW P c Sh Fin vs = Walks P true Sh (AtRecvW P c Sh (NextR P c Sh Fin vs)) := by cases vs <;> rfl

/-- it stands at a send of v -/
def AtSendW (v : Value) (Next : Frame → List Frame → (Nat → Prop) → World → Prop) (g : Goroutine) (O : Nat → Prop) (w : World) : Prop :=
  ∃ fr cs z, g = G fr cs ∧ ∀ w₁, Rely (fun x => O x ∨ Sh x) w w₁ → ∃ es, stepG P false (G fr cs) w₁ = .comm (G fr cs) #[scase c v z] true .send w₁ es ∧ (∀ e ∈ es, EvOk Sh O e) ∧ Next fr cs O w₁
/-- it closes the channel, and only leaves -/
def AtCloseW (g : Goroutine) (O : Nat → Prop) (w : World) : Prop :=
  g.status = .running ∧ mayWake P g = true ∧ ∃ g₂ n, QuitsIn P n g₂ ∧ ∀ w₁ s r tm, Rely (fun x => O x ∨ Sh x) w w₁ → w₁.heap[c]? = some (.chan 0 #[] false s r tm) →
    ∃ es : Array Event, stepG P false g w₁ = .go g₂ (w₁.shut c s r tm) (es.push ⟨.obj c, true, true⟩) ∧ ∀ e ∈ es, EvOk Sh O e
def SendsW : List Value → Goroutine → (Nat → Prop) → World → Prop
  | [] => Walks P false Sh (AtCloseW P c Sh)
  | v :: vs => Walks P false Sh (AtSendW P c Sh v fun fr cs O w => SendsW vs (G (fr.finish undef) cs) O w)
def StopW : List Value → Goroutine → (Nat → Prop) → World → Prop
  | [] => AtCloseW P c Sh
  | v :: vs => AtSendW P c Sh v fun fr cs O w => SendsW P c Sh vs (G (fr.finish undef) cs) O w
omit [Low] in
theorem sendsW_eq (vs : List Value) : SendsW P c Sh vs = Walks P false Sh (StopW P c Sh vs) := by cases vs <;> rfl

/-- the receiver: on its way, or parked -/
inductive MSt (Fin : Goroutine → (Nat → Prop) → World → Prop) (vs : List Value) : Tm → Goroutine → (Nat → Prop) → World → Prop
  | walk {T : Tm} {g : Goroutine} {O : Nat → Prop} {w : World} (h : WalksT P true Sh (AtRecvW P c Sh (NextR P c Sh Fin vs)) T g O w) : MSt Fin vs T g O w
  | park {fr : Frame} {cs : List Frame} {ok : Bool} {z : Value} {O : Nat → Prop} {w : World}
      (h : ∀ w₁, Rely (fun x => O x ∨ Sh x) w w₁ → ∃ es, stepG P true (G fr cs) w₁ = .comm (G fr cs) #[rcase c z] true (.recv ok) w₁ es ∧ (∀ e ∈ es, EvOk Sh O e) ∧ NextR P c Sh Fin vs ok z fr cs O w₁) : MSt Fin vs .leaf (parked (G fr cs) #[rcase c z] (.recv ok)) O w
/-- the sender: on its way, or parked -/
inductive WSt : List Value → Tm → Goroutine → (Nat → Prop) → World → Prop
  | walk {vs : List Value} {T : Tm} {g : Goroutine} {O : Nat → Prop} {w : World} (h : WalksT P false Sh (StopW P c Sh vs) T g O w) : WSt vs T g O w
  | park {v : Value} {vs : List Value} {fr : Frame} {cs : List Frame} {z : Value} {O : Nat → Prop} {w : World}
      (h : ∀ w₁, Rely (fun x => O x ∨ Sh x) w w₁ → SendsW P c Sh vs (G (fr.finish undef) cs) O w₁) : WSt (v :: vs) .leaf (parked (G fr cs) #[scase c v z] .send) O w
end

/-! ### the blocks -/
structure Sets (w : World) (c : Nat) (Om Ow Sh : Nat → Prop) : Prop where
  mw : ∀ x, Om x → ¬ Ow x
  ms : ∀ x, Om x → ¬ Sh x
  ws : ∀ x, Ow x → ¬ Sh x
  cm : ¬ Om c
  cw : ¬ Ow c
  cs : ¬ Sh c
  im : ∀ x, Om x → x < w.heap.size
  iw : ∀ x, Ow x → x < w.heap.size
  is : ∀ x, Sh x → x < w.heap.size
  ic : c < w.heap.size

section
variable {P : Program} {c : Nat} {Sh Om Ow O' : Nat → Prop} {w w' : World} {es : Array Event}
omit [Low] in
theorem Sets.swap (h : Sets w c Om Ow Sh) : Sets w c Ow Om Sh := ⟨fun x a b => h.mw x b a, h.ws, h.ms, h.cw, h.cm, h.cs, h.iw, h.im, h.is, h.ic⟩
omit [Low] in
theorem Sets.guar (h : Sets w c Om Ow Sh) (g : Guar Sh Om w O' w' es) : Sets w' c O' Ow Sh := by
  refine ⟨fun x a b => ?_, fun x a b => ?_, h.ws, fun a => ?_, h.cw, h.cs, g.inside, fun x a => Nat.lt_of_lt_of_le (h.iw x a) g.size, fun x a => Nat.lt_of_lt_of_le (h.is x a) g.size, Nat.lt_of_lt_of_le h.ic g.size⟩
  · rcases g.fresh x a with q | q
    · exact h.mw x q b
    · have := h.iw x b; omega
  · rcases g.fresh x a with q | q
    · exact h.ms x q b
    · have := h.is x b; omega
  · rcases g.fresh c a with q | q
    · exact h.cm q
    · have := h.ic; omega
omit [Low] in
/-- the one's step, as the other sees it -/
theorem Sets.other (h : Sets w c Om Ow Sh) (g : Guar Sh Om w O' w' es) : Rely (fun x => Ow x ∨ Sh x) w w' :=
  ⟨g.size, fun b hb => hb.elim (fun q => g.keep b (h.iw b q) fun m => h.mw b m q) (fun q => g.keep b (h.is b q) fun m => h.ms b m q), g.tape, g.os, g.output⟩
omit [Low] in
theorem Sets.chan (h : Sets w c Om Ow Sh) (g : Guar Sh Om w O' w' es) : w'.heap[c]? = w.heap[c]? := g.keep c h.ic h.cm
omit [Low] in
theorem Sets.same (h : Sets w c Om Ow Sh) (hs : w'.heap.size = w.heap.size) : Sets w' c Om Ow Sh :=
  ⟨h.mw, h.ms, h.ws, h.cm, h.cw, h.cs, fun x a => hs ▸ h.im x a, fun x a => hs ▸ h.iw x a, fun x a => hs ▸ h.is x a, hs ▸ h.ic⟩
omit [Low] in
theorem Sets.put (h : Sets w c Om Ow Sh) (o : Obj) : Rely (fun x => Om x ∨ Sh x) w { w with heap := w.heap.setIfInBounds c o } := by
  refine ⟨by simp, fun b hb => ?_, rfl, rfl, rfl⟩
  have : c ≠ b := by
    rintro rfl
    exact hb.elim h.cm h.cs
  simp [this]
omit [Low] in
theorem rely_at (O : Nat → Prop) (w : World) (d : Nat) : Rely O w (w.at d) := ⟨Nat.le_refl _, fun _ _ => rfl, rfl, rfl, rfl⟩
end
end Go.Proofs.Ytjgkignnfkbeaaa.Sim

/-
  Two goroutines that both work, and a channel without room between them: the trace, step by step.
-/
namespace Go.Proofs.Ytjgkignnfkbeaaa.Sim
open Go Go.Conc
open Go.ConcN (sumTo upd sumTo_upd upd_ne upd_same)
set_option linter.unusedVariables false
variable [Low]

omit [Low] in
theorem deaf_plain {t u : Trace} {g : Nat} (hu : ∀ op ∈ u, op.act ≠ .mark .disable ∧ op.act ≠ .mark .enable) : Deaf (t ++ u) g = Deaf t g := by
  obtain ⟨l⟩ := u
  have e := Deaf_append t g l
  rw [e]
  clear e
  generalize Deaf t g = d
  induction l generalizing d with
  | nil => rfl
  | cons x l ih =>
    have hx := hu x (by simp)
    have e : deafStep g d x = d := by
      obtain ⟨xg, xf, xp, xa⟩ := x
      simp only at hx
      unfold deafStep
      split
      · rename_i heq; cases heq; exact absurd rfl hx.1
      · rename_i heq; cases heq; exact absurd rfl hx.2
      · rfl
    rw [List.foldl_cons, e]
    exact ih (fun op hop => hu op (by simp at hop ⊢; exact .inr hop)) d

/-- while both work -/
structure Two (t : Trace) (k : Nat) (Om Ow Sh : Nat → Prop) : Prop where
  clean : ∀ said, ¬ Race said t
  h0 : Half t 0 k Ow Sh
  hk : Half t k 0 Om Sh
  d0 : Deaf t 0 = 0
  dk : Deaf t k = 0
/-- the channel has been closed, at pc -/
structure Shut (t : Trace) (k c pc : Nat) (Ow Sh : Nat → Prop) : Prop where
  clean : ∀ said, ¬ Race said t
  h0 : Half t 0 k Ow Sh
  pre : ∀ i a, touchAt t i = some a → a.loc.isMemory = true → Knows t 0 i ∨ HappensBefore t i pc
  close : ∃ op, t[pc]? = some op ∧ op.g = k ∧ op.act = .close c
  heard : t.heard pc
  d0 : Deaf t 0 = 0

section
variable {t u : Trace} {k c pc g : Nat} {Om Ow Sh O' : Nat → Prop} {fn : FuncId} {pos : String} {es : Array Event}
omit [Low] in
theorem Two.stepM (h : Two t k Om Ow Sh) (hs : ∀ x, Om x → O' x) (hes : ∀ e ∈ es, EvOk Sh O' e) (d1 : ∀ x, O' x → ¬ Ow x) (d2 : ∀ x, O' x → ¬ Sh x) (d3 : ∀ x, Ow x → ¬ Sh x) : Two (t ++ MemOp.ofEvents 0 fn pos es) k O' Ow Sh :=
  ⟨fun said => clean_step (h.clean said) h.h0 hes d1 d2 d3, h.h0.own, h.hk.other hs hes, (ops_deaf hes 0).trans h.d0, (ops_deaf hes k).trans h.dk⟩
omit [Low] in
theorem Two.stepW (h : Two t k Om Ow Sh) (hs : ∀ x, Ow x → O' x) (hes : ∀ e ∈ es, EvOk Sh O' e) (d1 : ∀ x, O' x → ¬ Om x) (d2 : ∀ x, O' x → ¬ Sh x) (d3 : ∀ x, Om x → ¬ Sh x) : Two (t ++ MemOp.ofEvents k fn pos es) k Om O' Sh :=
  ⟨fun said => clean_step (h.clean said) h.hk hes d1 d2 d3, h.h0.other hs hes, h.hk.own, (ops_deaf hes 0).trans h.d0, (ops_deaf hes k).trans h.dk⟩
omit [Low] in
theorem Two.comm (h : Two t k Om Ow Sh) (hu : ∀ op ∈ u, op.act.touch? = none) (hd : ∀ op ∈ u, op.act ≠ .mark .disable ∧ op.act ≠ .mark .enable) : Two (t ++ u) k Om Ow Sh :=
  ⟨fun said => clean_mute (h.clean said) hu, h.h0.mute hu, h.hk.mute hu, (deaf_plain hd).trans h.d0, (deaf_plain hd).trans h.dk⟩
omit [Low] in
theorem mute_ops (hm : ∀ e ∈ es, e.mute = true) : ∀ op ∈ MemOp.ofEvents g fn pos es, op.act.touch? = none := fun op hop => by
  obtain ⟨e, he, rfl⟩ := Go.Conc.mem_ofEvents hop
  exact touch_mute (hm e he)
omit [Low] in
theorem Two.mute (h : Two t k Om Ow Sh) (h1 : g ≠ 0) (h2 : g ≠ k) (hm : ∀ e ∈ es, e.mute = true) : Two (t ++ MemOp.ofEvents g fn pos es) k Om Ow Sh :=
  ⟨fun said => clean_mute (h.clean said) (mute_ops hm), h.h0.mute (mute_ops hm), h.hk.mute (mute_ops hm), (Deaf_other t h1 _ (ops_g g fn pos es)).trans h.d0, (Deaf_other t h2 _ (ops_g g fn pos es)).trans h.dk⟩

omit [Low] in
theorem close_push : MemOp.ofEvents k fn pos (es.push ⟨.obj c, true, true⟩) = MemOp.ofEvents k fn pos es ++ #[{ g := k, fn, pos, act := .close c }] := by
  rw [ofEvents_eq, ofEvents_eq]
  simp
  rfl
omit [Low] in
/-- the worker closes -/
theorem Two.shut (h : Two t k Om Ow Sh) : Shut (t ++ #[{ g := k, fn, pos, act := .close c }]) k c t.size Ow Sh := by
  have hu : ∀ op ∈ #[({ g := k, fn, pos, act := .close c } : MemOp)], op.act.touch? = none := fun op hop => by
    have : op = { g := k, fn, pos, act := .close c } := by simpa using hop
    rw [this]; rfl
  have hd : ∀ op ∈ #[({ g := k, fn, pos, act := .close c } : MemOp)], op.act ≠ .mark .disable ∧ op.act ≠ .mark .enable := fun op hop => by
    have : op = { g := k, fn, pos, act := .close c } := by simpa using hop
    rw [this]; simp
  have h2 := h.comm hu hd
  have hlast : (t ++ #[({ g := k, fn, pos, act := .close c } : MemOp)])[t.size]? = some { g := k, fn, pos, act := .close c } := by rw [Array.getElem?_append_right (Nat.le_refl _)]; simp
  refine ⟨h2.clean, h2.h0, fun i a ha hm => ?_, ⟨_, hlast, rfl, rfl⟩, ⟨k, by simp [Trace.g?], by rw [deaf_old (Nat.le_refl _)]; exact h.dk⟩, h2.d0⟩
  obtain ⟨x, hx, hxa⟩ := touch_of ha
  rcases getElem?_append_cases hx with ⟨hi, hx'⟩ | ⟨_, hxu⟩
  · have ha' : touchAt t i = some a := by rw [touchAt_of hx']; exact hxa
    rcases h.hk i a ha' hm with q | ⟨q, _⟩
    · exact .inr (q.hb_new (Nat.le_refl _) hlast rfl)
    · left
      have := knows_own hx
      have e : x.g = 0 := by simpa [Trace.g?, hx'] using q
      rwa [e] at this
  · rw [hu x hxu] at hxa; cases hxa
omit [Low] in
theorem Shut.app (h : Shut t k c pc Ow Sh) (hc : ∀ said, ¬ Race said (t ++ u)) (h0 : Half (t ++ u) 0 k Ow Sh) (hd : Deaf (t ++ u) 0 = 0) (hu : ∀ op ∈ u, op.g = 0 ∨ op.act.touch? = none) : Shut (t ++ u) k c pc Ow Sh := by
  obtain ⟨op, h1, h2, h3⟩ := h.close
  refine ⟨hc, h0, fun i a ha hm => ?_, ⟨op, by rw [getElem?_append_old (lt_size_of_getElem? h1)]; exact h1, h2, h3⟩, (heard_old (lt_size_of_getElem? h1)).2 h.heard, hd⟩
  obtain ⟨x, hx, hxa⟩ := touch_of ha
  rcases getElem?_append_cases hx with ⟨hi, hx'⟩ | ⟨_, hxu⟩
  · rcases h.pre i a (by rw [touchAt_of hx']; exact hxa) hm with q | q
    · exact .inl (q.app u)
    · exact .inr (hb_app u q)
  · rcases hu x hxu with q | q
    · have := knows_own hx
      rw [q] at this
      exact .inl this
    · rw [q] at hxa; cases hxa
omit [Low] in
theorem Shut.stepM (h : Shut t k c pc Ow Sh) (hes : ∀ e ∈ es, EvOk Sh O' e) (d1 : ∀ x, O' x → ¬ Ow x) (d2 : ∀ x, O' x → ¬ Sh x) (d3 : ∀ x, Ow x → ¬ Sh x) : Shut (t ++ MemOp.ofEvents 0 fn pos es) k c pc Ow Sh :=
  h.app (fun said => clean_step (h.clean said) h.h0 hes d1 d2 d3) h.h0.own ((ops_deaf hes 0).trans h.d0) fun op hop => .inl (ops_g 0 fn pos es op hop)
omit [Low] in
theorem Shut.mute (h : Shut t k c pc Ow Sh) (h1 : g ≠ 0) (hm : ∀ e ∈ es, e.mute = true) : Shut (t ++ MemOp.ofEvents g fn pos es) k c pc Ow Sh :=
  h.app (fun said => clean_mute (h.clean said) (mute_ops hm)) (h.h0.mute (mute_ops hm)) ((Deaf_other t h1 _ (ops_g g fn pos es)).trans h.d0) fun op hop => .inr (mute_ops hm op hop)
omit [Low] in
/-- goroutine 0 finds it closed: it knows all -/
theorem Shut.recv (h : Shut t k c pc Ow Sh) : PastW (t ++ #[{ g := 0, fn, pos, act := .recvClosed c }]) := by
  have hu : ∀ op ∈ #[({ g := 0, fn, pos, act := .recvClosed c } : MemOp)], op.act.touch? = none := fun op hop => by
    have : op = { g := 0, fn, pos, act := .recvClosed c } := by simpa using hop
    rw [this]; rfl
  have hd : ∀ op ∈ #[({ g := 0, fn, pos, act := .recvClosed c } : MemOp)], op.act ≠ .mark .disable ∧ op.act ≠ .mark .enable := fun op hop => by
    have : op = { g := 0, fn, pos, act := .recvClosed c } := by simpa using hop
    rw [this]; simp
  have hlast : (t ++ #[({ g := 0, fn, pos, act := .recvClosed c } : MemOp)])[t.size]? = some { g := 0, fn, pos, act := .recvClosed c } := by rw [Array.getElem?_append_right (Nat.le_refl _)]; simp
  obtain ⟨op, h1, h2, h3⟩ := h.close
  have hpc : Knows (t ++ #[({ g := 0, fn, pos, act := .recvClosed c } : MemOp)]) 0 pc := by
    refine ⟨t.size, _, hlast, rfl, .inr (.single (.inr ⟨.closed (c := c) (by rw [act?_old (lt_size_of_getElem? h1), act?_of h1, h3]) (by rw [act?_of hlast]), (heard_old (lt_size_of_getElem? h1)).2 h.heard, ⟨0, by simp [Trace.g?], by rw [deaf_old (Nat.le_refl _)]; exact h.d0⟩⟩))⟩
  refine ⟨fun said => clean_mute (h.clean said) hu, fun i a ha hm => ?_, (deaf_plain hd).trans h.d0⟩
  obtain ⟨x, hx, hxa⟩ := touch_of ha
  rcases getElem?_append_cases hx with ⟨hi, hx'⟩ | ⟨_, hxu⟩
  · rcases h.pre i a (by rw [touchAt_of hx']; exact hxa) hm with q | q
    · exact q.app _
    · exact Knows.of_before (.inr (hb_app _ q)) hpc
  · rw [hu x hxu] at hxa; cases hxa
end
end Go.Proofs.Ytjgkignnfkbeaaa.Sim

/-
  Two goroutines that both work, and a channel without room between them: the machine.
-/
namespace Go.Proofs.Ytjgkignnfkbeaaa.Sim
open Go Go.Conc
open Go.ConcN (sumTo upd sumTo_upd upd_ne upd_same)
set_option linter.unusedVariables false
variable [Low]

/-- all but 0 and k only leave -/
structure Bys (P : Program) (t : Trace) (gs : Array Goroutine) (q : Nat → Nat) (k : Nat) : Prop where
  old : ∀ i g, i ≠ 0 → i ≠ k → gs[i]? = some g → QuitsD P (q i) (Deaf t i) g
  above : ∀ j, gs.size ≤ j → Deaf t j = 0

section
variable {P : Program} {t t' : Trace} {gs gs' : Array Goroutine} {q : Nat → Nat} {k : Nat}
omit [Low] in
theorem Bys.keep (h : Bys P t gs q k) (hsz : gs'.size = gs.size) (hg : ∀ i x', i ≠ 0 → i ≠ k → gs'[i]? = some x' → ∃ x, gs[i]? = some x ∧ (QuitsD P (q i) (Deaf t i) x → x' = x))
    (hd : ∀ i, i ≠ 0 → i ≠ k → Deaf t' i = Deaf t i) (h0 : 0 < gs.size) (hk : k < gs.size) : Bys P t' gs' q k := by
  refine ⟨fun i x' h1 h2 hx => ?_, fun j hj => ?_⟩
  · obtain ⟨x, hx2, e⟩ := hg i x' h1 h2 hx
    have hq := h.old i x h1 h2 hx2
    rw [e hq, hd i h1 h2]
    exact hq
  · rw [hsz] at hj
    rw [hd j (by omega) (by omega)]
    exact h.above j hj
omit [Low] in
theorem Bys.quiet (h : Bys P t gs q k) {i : Nat} {x : Goroutine} (h1 : i ≠ 0) (h2 : i ≠ k) (hx : gs[i]? = some x) : x.status ≠ .blocked := by
  rcases (h.old i x h1 h2 hx).status with e | e <;> rw [e] <;> simp
end

section
variable {P : Program} {k c : Nat} {Sh : Nat → Prop} {Fin : Goroutine → (Nat → Prop) → World → Prop}

/-- the receiver, once the channel has been closed -/
inductive SSt (P : Program) (c : Nat) (Sh : Nat → Prop) (Fin : Goroutine → (Nat → Prop) → World → Prop) : Tm → Goroutine → (Nat → Prop) → World → Prop
  | walk {T : Tm} {g : Goroutine} {O : Nat → Prop} {w : World} (h : WalksT P true Sh (AtRecvW P c Sh (NextR P c Sh Fin [])) T g O w) : SSt P c Sh Fin T g O w
  | tries {fr : Frame} {cs : List Frame} {ok : Bool} {z : Value} {O : Nat → Prop} {w : World}
      (h : ∀ w₁, Rely (fun x => O x ∨ Sh x) w w₁ → ∃ es, stepG P true (G fr cs) w₁ = .comm (G fr cs) #[rcase c z] true (.recv ok) w₁ es ∧ (∀ e ∈ es, EvOk Sh O e) ∧ NextR P c Sh Fin [] ok z fr cs O w₁) :
      SSt P c Sh Fin .leaf { parked (G fr cs) #[rcase c z] (.recv ok) with status := .running } O w

inductive PInv (P : Program) (k c : Nat) (Sh : Nat → Prop) (Fin : Goroutine → (Nat → Prop) → World → Prop) (n : Nat) : (Nat × Tm × Tm × Nat) → Machine → Trace → Prop
  | opn {vs : List Value} {Tm' Tw : Tm} {gs : Array Goroutine} {a b : Goroutine} {w : World} {sl : Option (Nat × Nat)} {t : Trace} {q : Nat → Nat} {Om Ow : Nat → Prop} {s r : Nat} {tm : Bool}
      (hn : gs.size = n) (h0 : gs[0]? = some a) (hk : gs[k]? = some b) (kpos : k ≠ 0) (hA : MSt P c Sh Fin vs Tm' a Om w) (hB : WSt P c Sh vs Tw b Ow w) (live : a.status = .running ∨ b.status = .running)
      (bys : Bys P t gs q k) (st : Sets w c Om Ow Sh) (hc : w.heap[c]? = some (.chan 0 #[] false s r tm)) (tr : Two t k Om Ow Sh) : PInv P k c Sh Fin n (vs.length + 1, Tm', Tw, sumTo gs.size q) (crowd gs w sl) t
  | shut {Tm' : Tm} {gs : Array Goroutine} {a : Goroutine} {w : World} {sl : Option (Nat × Nat)} {t : Trace} {q : Nat → Nat} {Om Ow : Nat → Prop} {s r pc : Nat} {tm : Bool}
      (hn : gs.size = n) (h0 : gs[0]? = some a) (hA : SSt P c Sh Fin Tm' a Om w) (lv : Leavers P t gs q) (st : Sets w c Om Ow Sh) (hc : w.heap[c]? = some (.chan 0 #[] true s r tm)) (tr : Shut t k c pc Ow Sh) :
      PInv P k c Sh Fin n (0, Tm', .leaf, sumTo gs.size q) (crowd gs w sl) t

/-- the receiver has found the channel closed -/
def PEnd (P : Program) (Fin : Goroutine → (Nat → Prop) → World → Prop) (n : Nat) (m : Machine) (t : Trace) : Prop :=
  ∃ gs g w sl q O, m = crowd gs w sl ∧ gs.size = n ∧ gs[0]? = some g ∧ Leavers P t gs q ∧ PastW t ∧ Fin g O w

omit [Low] in
theorem recvsT_run {Next : Bool → Value → Frame → List Frame → (Nat → Prop) → World → Prop} {T : Tm} {g : Goroutine} {O : Nat → Prop} {w : World} (h : WalksT P true Sh (AtRecvW P c Sh Next) T g O w) : g.status = .running := by
  cases h with
  | stop h =>
    obtain ⟨fr, cs, ok, z, rfl, _⟩ := h w (Rely.refl _ w)
    rfl
  | step f hs => exact hs
omit [Low] in
theorem sendsT_run {vs : List Value} {T : Tm} {g : Goroutine} {O : Nat → Prop} {w : World} (h : WalksT P false Sh (StopW P c Sh vs) T g O w) : g.status = .running := by
  cases h with
  | stop h =>
    cases vs with
    | nil => exact (h w (Rely.refl _ w)).1
    | cons v vs =>
      obtain ⟨fr, cs, z, rfl, _⟩ := h w (Rely.refl _ w)
      rfl
  | step f hs => exact hs
omit [Low] in
theorem SSt.run {T : Tm} {g : Goroutine} {O : Nat → Prop} {w : World} (h : SSt P c Sh Fin T g O w) : g.status = .running := by
  cases h with
  | walk h => exact recvsT_run h
  | tries h => rfl
omit [Low] in
theorem SSt.rely {T : Tm} {g : Goroutine} {O : Nat → Prop} {w w₁ : World} (h : SSt P c Sh Fin T g O w) (hr : Rely (fun x => O x ∨ Sh x) w w₁) : SSt P c Sh Fin T g O w₁ := by
  cases h with
  | walk h => exact .walk (h.rely hr)
  | tries h => exact .tries fun w₂ h₂ => h w₂ (hr.trans h₂)
omit [Low] in
theorem MSt.rely {vs : List Value} {T : Tm} {g : Goroutine} {O : Nat → Prop} {w w₁ : World} (h : MSt P c Sh Fin vs T g O w) (hr : Rely (fun x => O x ∨ Sh x) w w₁) : MSt P c Sh Fin vs T g O w₁ := by
  cases h with
  | walk h => exact .walk (h.rely hr)
  | park h => exact .park fun w₂ h₂ => h w₂ (hr.trans h₂)
omit [Low] in
theorem WSt.rely {vs : List Value} {T : Tm} {g : Goroutine} {O : Nat → Prop} {w w₁ : World} (h : WSt P c Sh vs T g O w) (hr : Rely (fun x => O x ∨ Sh x) w w₁) : WSt P c Sh vs T g O w₁ := by
  cases h with
  | walk h => exact .walk (h.rely hr)
  | park h => exact .park fun w₂ h₂ => h w₂ (hr.trans h₂)
omit [Low] in
theorem MSt.awake {vs : List Value} {T : Tm} {g : Goroutine} {O : Nat → Prop} {w : World} (h : MSt P c Sh Fin vs T g O w) : awake g := by
  cases h with
  | walk h => exact awake_of (.inl (recvsT_run h))
  | park h => exact awake_of (.inr (.inl rfl))
omit [Low] in
theorem WSt.awake {vs : List Value} {T : Tm} {g : Goroutine} {O : Nat → Prop} {w : World} (h : WSt P c Sh vs T g O w) : awake g := by
  cases h with
  | walk h => exact awake_of (.inl (sendsT_run h))
  | park h => exact awake_of (.inr (.inl rfl))
omit [Low] in
theorem MSt.woken {vs : List Value} {T : Tm} {g x x' : Goroutine} {O : Nat → Prop} {w w' : World} {s r : Nat} {tm : Bool} (h : MSt P c Sh Fin vs T g O w) (hc : w'.heap[c]? = some (.chan 0 #[] false s r tm)) : woken P x x' w' g = g := by
  cases h with
  | walk h => exact woken_running (recvsT_run h)
  | park h => exact woken_recv_open x x' hc
omit [Low] in
theorem WSt.woken {vs : List Value} {T : Tm} {g x x' : Goroutine} {O : Nat → Prop} {w w' : World} {s r : Nat} {tm : Bool} (h : WSt P c Sh vs T g O w) (hc : w'.heap[c]? = some (.chan 0 #[] false s r tm)) : woken P x x' w' g = g := by
  cases h with
  | walk h => exact woken_running (sendsT_run h)
  | park h => exact woken_send_open x x' hc

omit [Low] in
theorem rank_m {l : Nat} {f : World → Tm} {w : World} {T : Tm} {x y : Nat} : RankLt (l, f w, T, x) (l, .node f, T, y) := .right _ (.left _ _ ⟨f, w, rfl, rfl⟩)
omit [Low] in
theorem rank_w {l : Nat} {f : World → Tm} {w : World} {T : Tm} {x y : Nat} : RankLt (l, T, f w, x) (l, T, .node f, y) := .right _ (.right _ (.left _ _ ⟨f, w, rfl, rfl⟩))
omit [Low] in
theorem rank_q {l : Nat} {T T' : Tm} {x y : Nat} (h : x < y) : RankLt (l, T, T', x) (l, T, T', y) := .right _ (.right _ (.right _ h))

omit [Low] in
theorem set_get {gs : Array Goroutine} {i : Nat} {x : Goroutine} (h : i < gs.size) : (gs.setIfInBounds i x)[i]? = some x := by simp [h]
omit [Low] in
theorem lt_of_get {gs : Array Goroutine} {i : Nat} {x : Goroutine} (h : gs[i]? = some x) : i < gs.size := (Array.getElem?_eq_some_iff.1 h).1

omit [Low] in
/-- a leaver's step, in the machine -/
theorem slip {gs : Array Goroutine} {w : World} {sl : Option (Nat × Nat)} {t : Trace} {i n : Nat} {g : Goroutine} (hi : gs[i]? = some g) (hi0 : i ≠ 0) (hrun : g.status = .running) (hq : QuitsD P n (Deaf t i) g) :
    ∃ n' g' es, n = n' + 1 ∧ runT P (crowd gs w sl) i = (.next (crowd ((gs.map (woken P g g' w)).setIfInBounds i g') w sl), MemOp.ofEvents i g.frame.fn g.frame.place es) ∧ (∀ e ∈ es, e.mute = true) ∧ QuitsD P n' (Deaf (t ++ MemOp.ofEvents i g.frame.fn g.frame.place es) i) g' := by
  have hb : (i == 0) = false := by simp [hi0]
  cases n with
  | zero => rw [hq.1] at hrun; cases hrun
  | succ n =>
    rcases hq with ⟨hf, _⟩ | ⟨_, g', es, hm, hstp, hq'⟩
    · rw [hf] at hrun; cases hrun
    · refine ⟨n, g', es, rfl, runT_crowd_go hi (by rw [hb]; exact hstp w), hm, ?_⟩
      rw [Deaf_own]
      exact hq'
end
end Go.Proofs.Ytjgkignnfkbeaaa.Sim

/-
  Two goroutines that both work, and a channel without room between them: the machine's step once the channel has been closed.
-/
namespace Go.Proofs.Ytjgkignnfkbeaaa.Sim
open Go Go.Conc
open Go.ConcN (sumTo upd sumTo_upd upd_ne upd_same)
set_option linter.unusedVariables false
variable [Low]

section
variable {P : Program} {k c n : Nat} {Sh : Nat → Prop} {Fin : Goroutine → (Nat → Prop) → World → Prop}

omit [Low] in
theorem leavers_awake {t : Trace} {gs : Array Goroutine} {q : Nat → Nat} {a : Goroutine} (h0 : gs[0]? = some a) (ha : a.status = .running) (lv : Leavers P t gs q) : ∀ g ∈ gs, awake g := by
  intro g hg
  obtain ⟨i, hi, rfl⟩ := Array.mem_iff_getElem.1 hg
  rcases Nat.eq_zero_or_pos i with rfl | hpos
  · have : gs[0] = a := by simpa [Array.getElem?_eq_getElem hi] using h0
    rw [this]; exact awake_of (.inl ha)
  · exact awake_of ((lv.old i _ hpos (Array.getElem?_eq_getElem hi)).status.elim .inl fun x => .inr (.inr x))

omit [Low] in
/-- goroutine 0's step leaves the leavers as they are -/
theorem leavers_main {t : Trace} {gs : Array Goroutine} {q : Nat → Nat} {a a' : Goroutine} {w' : World} {u : Trace} (h0 : gs[0]? = some a) (lv : Leavers P t gs q) (hu : ∀ op ∈ u, op.g = 0) : Leavers P (t ++ u) ((gs.map (woken P a a' w')).setIfInBounds 0 a') q := by
  have hlt := lt_of_get h0
  refine ⟨fun j x hj hx => ?_, fun j hj => ?_⟩
  · have hne : 0 ≠ j := by omega
    rw [Array.getElem?_setIfInBounds_ne hne, Array.getElem?_map] at hx
    obtain ⟨y, hy, rfl⟩ := Option.map_eq_some_iff.1 hx
    have hq := lv.old j y hj hy
    rw [woken_quitsD hq, Deaf_other t (by omega) _ hu]
    exact hq
  · rw [Deaf_other t (g' := 0) (by simp at hj; omega) _ hu]
    exact lv.above j (by simpa using hj)
omit [Low] in
theorem leavers_main' {t : Trace} {gs : Array Goroutine} {q : Nat → Nat} {a a' : Goroutine} {u : Trace} (h0 : gs[0]? = some a) (lv : Leavers P t gs q) (hu : ∀ op ∈ u, op.g = 0) : Leavers P (t ++ u) (gs.setIfInBounds 0 a') q := by
  have hlt := lt_of_get h0
  refine ⟨fun j x hj hx => ?_, fun j hj => ?_⟩
  · have hne : 0 ≠ j := by omega
    rw [Array.getElem?_setIfInBounds_ne hne] at hx
    have hq := lv.old j x hj hx
    rw [Deaf_other t (by omega) _ hu]
    exact hq
  · rw [Deaf_other t (g' := 0) (by simp at hj; omega) _ hu]
    exact lv.above j (by simpa using hj)
omit [Low] in
/-- a leaver slips -/
theorem leavers_slip {t : Trace} {gs : Array Goroutine} {q : Nat → Nat} {g g' : Goroutine} {i n' : Nat} {w : World} {fn : FuncId} {pos : String} {es : Array Event} (hi : gs[i]? = some g) (lv : Leavers P t gs q)
    (hq' : QuitsD P n' (Deaf (t ++ MemOp.ofEvents i fn pos es) i) g') : Leavers P (t ++ MemOp.ofEvents i fn pos es) ((gs.map (woken P g g' w)).setIfInBounds i g') (upd q i n') := by
  have hlt := lt_of_get hi
  have hu := ops_g i fn pos es
  refine ⟨fun j x hj hx => ?_, fun j hj => ?_⟩
  · by_cases hji : i = j
    · subst hji
      rw [Array.getElem?_setIfInBounds_self_of_lt (by simpa using hlt)] at hx
      obtain rfl := Option.some.inj hx
      rw [upd_same]
      exact hq'
    · rw [Array.getElem?_setIfInBounds_ne hji, Array.getElem?_map] at hx
      obtain ⟨y, hy, rfl⟩ := Option.map_eq_some_iff.1 hx
      have hqj := lv.old j y hj hy
      rw [woken_quitsD hqj, upd_ne q n' (Ne.symm hji), Deaf_other t hji _ hu]
      exact hqj
  · rw [Deaf_other t (g' := i) (by simp at hj; omega) _ hu]
    exact lv.above j (by simpa using hj)

omit [Low] in
theorem no_partner {t : Trace} {gs : Array Goroutine} {q : Nat → Nat} (lv : Leavers P t gs q) (r : Nat) (send : Bool) : partners (gs.setIfInBounds 0 ph) r send = [] := by
  refine partners_nil fun j g hg => ?_
  rcases getElem?_stand gs 0 j g hg with ⟨_, rfl⟩ | ⟨hj, hg⟩
  · rfl
  · refine offersAt_of_not_blocked ?_ r send
    rcases (lv.old j g (by omega) hg).status with e | e <;> rw [e] <;> simp

omit [Low] in
/-- the channel has been closed: one step -/
theorem shut_step {Tm' : Tm} {gs : Array Goroutine} {a : Goroutine} {w : World} {sl : Option (Nat × Nat)} {t : Trace} {q : Nat → Nat} {Om Ow : Nat → Prop} {s r pc : Nat} {tm : Bool}
    (hn : gs.size = n) (h0 : gs[0]? = some a) (hA : SSt P c Sh Fin Tm' a Om w) (lv : Leavers P t gs q) (st : Sets w c Om Ow Sh) (hc : w.heap[c]? = some (.chan 0 #[] true s r tm)) (tr : Shut t k c pc Ow Sh) :
    ∃ m' ops, stepT P (crowd gs w sl) = (.next m', ops) ∧ (PEnd P Fin n m' (t ++ ops) ∨ ∃ μ', RankLt μ' (0, Tm', .leaf, sumTo gs.size q) ∧ PInv P k c Sh Fin n μ' m' (t ++ ops)) := by
  have hrun := hA.run
  obtain ⟨i, g, d, sl', hi, hg, hst⟩ := crowd_pick (P := P) (w := w) (sl := sl) (leavers_awake h0 hrun lv) ⟨0, a, h0, hrun⟩
  have hlt := lt_of_get hi
  have hA1 := hA.rely (rely_at (fun x => Om x ∨ Sh x) w d)
  have st1 : Sets (w.at d) c Om Ow Sh := st.same rfl
  by_cases hi0 : i = 0
  · subst hi0
    obtain rfl : g = a := by rw [h0] at hi; exact (Option.some.inj hi).symm
    have fin : ∀ {fr : Frame} {cs : List Frame} {ok : Bool} {z : Value}, (∀ w₁, Rely (fun x => Om x ∨ Sh x) (w.at d) w₁ → ∃ es, stepG P true (G fr cs) w₁ = .comm (G fr cs) #[rcase c z] true (.recv ok) w₁ es ∧ (∀ e ∈ es, EvOk Sh Om e) ∧ NextR P c Sh Fin [] ok z fr cs Om w₁) →
        (∀ w₁, stepG P true g w₁ = stepG P true (G fr cs) w₁) → ∃ m' ops, stepT P (crowd gs w sl) = (.next m', ops) ∧ (PEnd P Fin n m' (t ++ ops) ∨ ∃ μ', RankLt μ' (0, Tm', .leaf, sumTo gs.size q) ∧ PInv P k c Sh Fin n μ' m' (t ++ ops)) := by
      intro fr cs ok z h heq
      obtain ⟨es, e1, hes, hnext⟩ := h (w.at d) (Rely.refl _ _)
      have hstep : stepG P (0 == 0) g (w.at d) = .comm (G fr cs) #[rcase c z] true (.recv ok) (w.at d) es := (heq _).trans e1
      have hr := crowd_recv_closed (sl := sl') hi hstep hc (no_partner lv c true)
      refine ⟨_, _, hst.trans hr, .inl ?_⟩
      rw [← Array.append_assoc]
      refine ⟨_, _, _, _, q, Om, rfl, by simpa using hn, set_get hlt, ?_, (tr.stepM hes st1.mw st1.ms st1.ws).recv, by rw [finishComm_recv]; exact hnext⟩
      rw [Array.append_assoc]
      refine leavers_main' h0 lv fun op hop => ?_
      rcases Array.mem_append.1 hop with h | h
      · exact ops_g 0 _ _ es op h
      · have : op = { g := 0, fn := (G fr cs).frame.fn, pos := (G fr cs).frame.place, act := .recvClosed c } := by simpa using h
        rw [this]
    cases hA1 with
    | tries h => exact fin h fun w₁ => stepG_tries true _ w₁
    | walk h =>
      cases h with
      | stop h =>
        obtain ⟨fr, cs, ok, z, rfl, h'⟩ := h (w.at d) (Rely.refl _ _)
        exact fin h' fun w₁ => rfl
      | step f hs ng nO nw ne h1 h2 =>
        obtain ⟨e1, gu⟩ := h1 (w.at d) (Rely.refl _ _)
        have hT := h2 (w.at d) (Rely.refl _ _)
        have hr := runT_crowd_go (sl := sl') (i := 0) hi (show stepG P (0 == 0) g (w.at d) = _ from e1)
        have st2 := st1.guar gu
        refine ⟨_, _, hst.trans hr, .inr ⟨(0, f (w.at d), .leaf, _), rank_m, .shut (by simpa using hn) (set_get (by simpa using hlt)) (.walk hT) (leavers_main h0 lv (ops_g 0 _ _ _)) st2 ((st1.chan gu).trans hc) (tr.stepM gu.ev st2.mw st2.ms st2.ws)⟩⟩
  · obtain ⟨n', g', es, hqi, hr, hm, hq'⟩ := slip (sl := sl') (w := w.at d) hi hi0 hg (lv.old i g (by omega) hi)
    have hsum : sumTo gs.size (upd q i n') + (n' + 1) = sumTo gs.size q + n' := by
      have := sumTo_upd q n' id hlt
      simpa [hqi] using this
    have hsz : ((gs.map (woken P g g' (w.at d))).setIfInBounds i g').size = gs.size := by simp
    have hne : i ≠ 0 := hi0
    refine ⟨_, _, hst.trans hr, .inr ⟨(0, Tm', .leaf, sumTo ((gs.map (woken P g g' (w.at d))).setIfInBounds i g').size (upd q i n')), rank_q (by rw [hsz]; omega), .shut (by simpa using hn) (by
      rw [Array.getElem?_setIfInBounds_ne hne, Array.getElem?_map, h0]
      simp [woken_running hrun]) hA1 (leavers_slip hi lv hq') st1 hc (tr.mute hi0 hm)⟩⟩
end
end Go.Proofs.Ytjgkignnfkbeaaa.Sim

/-
  Two goroutines that both work, and a channel without room between them: the machine's step while the channel is open; the phase.
-/
namespace Go.Proofs.Ytjgkignnfkbeaaa.Sim
open Go Go.Conc
open Go.ConcN (sumTo upd sumTo_upd upd_ne upd_same)
set_option linter.unusedVariables false
variable [Low]

section
variable {P : Program} {k c n : Nat} {Sh : Nat → Prop} {Fin : Goroutine → (Nat → Prop) → World → Prop}

omit [Low] in
/-- goroutine j (0 or k) has taken an own step -/
theorem Bys.go {t : Trace} {gs : Array Goroutine} {q : Nat → Nat} {g g' : Goroutine} {j : Nat} {w' : World} {u : Trace} (h : Bys P t gs q k) (hj : j = 0 ∨ j = k) (hu : ∀ op ∈ u, op.g = j) (h0 : 0 < gs.size) (hk : k < gs.size) : Bys P (t ++ u) ((gs.map (woken P g g' w')).setIfInBounds j g') q k := by
  refine h.keep (by simp) (fun i x' h1 h2 hx => ?_) (fun i h1 h2 => Deaf_other t (by omega) u hu) h0 hk
  have hne : j ≠ i := by omega
  rw [Array.getElem?_setIfInBounds_ne hne, Array.getElem?_map] at hx
  obtain ⟨y, hy, rfl⟩ := Option.map_eq_some_iff.1 hx
  exact ⟨y, hy, fun hq => woken_quitsD hq⟩
omit [Low] in
theorem Bys.set {t t' : Trace} {gs : Array Goroutine} {q : Nat → Nat} {g' : Goroutine} {j : Nat} (h : Bys P t gs q k) (hj : j = 0 ∨ j = k) (hd : ∀ i, i ≠ 0 → i ≠ k → Deaf t' i = Deaf t i) (h0 : 0 < gs.size) (hk : k < gs.size) : Bys P t' (gs.setIfInBounds j g') q k := by
  refine h.keep (by simp) (fun i x' h1 h2 hx => ?_) hd h0 hk
  have hne : j ≠ i := by omega
  rw [Array.getElem?_setIfInBounds_ne hne] at hx
  exact ⟨x', hx, fun _ => rfl⟩
omit [Low] in
theorem Bys.slip {t : Trace} {gs : Array Goroutine} {q : Nat → Nat} {g g' : Goroutine} {i n' : Nat} {w : World} {fn : FuncId} {pos : String} {es : Array Event} (h : Bys P t gs q k) (h1 : i ≠ 0) (h2 : i ≠ k) (hlt : i < gs.size)
    (hq' : QuitsD P n' (Deaf (t ++ MemOp.ofEvents i fn pos es) i) g') : Bys P (t ++ MemOp.ofEvents i fn pos es) ((gs.map (woken P g g' w)).setIfInBounds i g') (upd q i n') k := by
  have hu := ops_g i fn pos es
  refine ⟨fun j x a1 a2 hx => ?_, fun j hj => ?_⟩
  · by_cases hji : i = j
    · subst hji
      rw [Array.getElem?_setIfInBounds_self_of_lt (by simpa using hlt)] at hx
      obtain rfl := Option.some.inj hx
      rw [upd_same]
      exact hq'
    · rw [Array.getElem?_setIfInBounds_ne hji, Array.getElem?_map] at hx
      obtain ⟨y, hy, rfl⟩ := Option.map_eq_some_iff.1 hx
      have hqj := h.old j y a1 a2 hy
      rw [woken_quitsD hqj, upd_ne q n' (Ne.symm hji), Deaf_other t hji _ hu]
      exact hqj
  · rw [Deaf_other t (g' := i) (by simp at hj; omega) _ hu]
    exact h.above j (by simpa using hj)
omit [Low] in
/-- who offers nothing: all but the other -/
theorem Bys.partners {t : Trace} {gs : Array Goroutine} {q : Nat → Nat} {i j : Nat} {x : Goroutine} {r : Nat} {send : Bool} (h : Bys P t gs q k) (hij : (i = 0 ∧ j = k) ∨ (i = k ∧ j = 0)) (hk : k ≠ 0) (hj : gs[j]? = some x) :
    partners (gs.setIfInBounds i ph) r send = (offersAt x r send).map fun m => (j, m) := by
  refine partners_one (stand_get (by omega) hj) fun m y hm hy => ?_
  rcases getElem?_stand gs i m y hy with ⟨_, rfl⟩ | ⟨hmi, hy⟩
  · rfl
  · exact offersAt_of_not_blocked (h.quiet (by omega) (by omega) hy) r send

omit [Low] in
/-- the operations that a communication lists -/
theorem comm_ops {g g' : Nat} {fn fn' : FuncId} {pos pos' : String} {x y x' y' : MemAct} (h : ∀ z, z = x ∨ z = y ∨ z = x' ∨ z = y' → z.touch? = none ∧ z ≠ .mark .disable ∧ z ≠ .mark .enable) :
    (∀ op ∈ #[({ g, fn, pos, act := x } : MemOp), { g := g', fn := fn', pos := pos', act := y }, { g, fn, pos, act := x' }, { g := g', fn := fn', pos := pos', act := y' }], op.act.touch? = none) ∧
    ∀ op ∈ #[({ g, fn, pos, act := x } : MemOp), { g := g', fn := fn', pos := pos', act := y }, { g, fn, pos, act := x' }, { g := g', fn := fn', pos := pos', act := y' }], op.act ≠ .mark .disable ∧ op.act ≠ .mark .enable := by
  have key : ∀ op ∈ #[({ g, fn, pos, act := x } : MemOp), { g := g', fn := fn', pos := pos', act := y }, { g, fn, pos, act := x' }, { g := g', fn := fn', pos := pos', act := y' }], op.act = x ∨ op.act = y ∨ op.act = x' ∨ op.act = y' := by
    intro op hop
    simp only [List.mem_toArray, List.mem_cons, List.not_mem_nil, or_false] at hop
    rcases hop with rfl | rfl | rfl | rfl
    · exact .inl rfl
    · exact .inr (.inl rfl)
    · exact .inr (.inr (.inl rfl))
    · exact .inr (.inr (.inr rfl))
  exact ⟨fun op hop => (h _ (key op hop)).1, fun op hop => (h _ (key op hop)).2⟩

omit [Low] in
theorem opn_step {vs : List Value} {Tm' Tw : Tm} {gs : Array Goroutine} {a b : Goroutine} {w : World} {sl : Option (Nat × Nat)} {t : Trace} {q : Nat → Nat} {Om Ow : Nat → Prop} {s r : Nat} {tm : Bool}
    (hn : gs.size = n) (h0 : gs[0]? = some a) (hk : gs[k]? = some b) (kpos : k ≠ 0) (hA : MSt P c Sh Fin vs Tm' a Om w) (hB : WSt P c Sh vs Tw b Ow w) (live : a.status = .running ∨ b.status = .running)
    (bys : Bys P t gs q k) (st : Sets w c Om Ow Sh) (hc : w.heap[c]? = some (.chan 0 #[] false s r tm)) (tr : Two t k Om Ow Sh) :
    ∃ m' ops μ', stepT P (crowd gs w sl) = (.next m', ops) ∧ RankLt μ' (vs.length + 1, Tm', Tw, sumTo gs.size q) ∧ PInv P k c Sh Fin n μ' m' (t ++ ops) := by
  have l0 := lt_of_get h0
  have lk := lt_of_get hk
  have haw : ∀ g ∈ gs, awake g := by
    intro g hg
    obtain ⟨i, hi, rfl⟩ := Array.mem_iff_getElem.1 hg
    by_cases e0 : i = 0
    · subst e0
      have : gs[0] = a := by simpa [Array.getElem?_eq_getElem hi] using h0
      rw [this]; exact hA.awake
    · by_cases ek : i = k
      · subst ek
        have : gs[i] = b := by simpa [Array.getElem?_eq_getElem hi] using hk
        rw [this]; exact hB.awake
      · exact awake_of ((bys.old i _ e0 ek (Array.getElem?_eq_getElem hi)).status.elim .inl fun x => .inr (.inr x))
  obtain ⟨i, g, d, sl', hi, hg, hst⟩ := crowd_pick (P := P) (w := w) (sl := sl) haw (live.elim (fun h => ⟨0, a, h0, h⟩) fun h => ⟨k, b, hk, h⟩)
  have hlt := lt_of_get hi
  have hA1 := hA.rely (rely_at (fun x => Om x ∨ Sh x) w d)
  have hB1 := hB.rely (rely_at (fun x => Ow x ∨ Sh x) w d)
  have st1 : Sets (w.at d) c Om Ow Sh := st.same rfl
  have hc1 : (w.at d).heap[c]? = some (.chan 0 #[] false s r tm) := hc
  by_cases hi0 : i = 0
  · subst hi0
    obtain rfl : g = a := by rw [h0] at hi; exact (Option.some.inj hi).symm
    cases hA1 with
    | park h => cases hg
    | walk h =>
      cases h with
      | step f hs ng nO nw ne h1 h2 =>
        obtain ⟨e1, gu⟩ := h1 (w.at d) (Rely.refl _ _)
        have hT := h2 (w.at d) (Rely.refl _ _)
        have hr := runT_crowd_go (sl := sl') (i := 0) hi (show stepG P (0 == 0) g (w.at d) = _ from e1)
        have st2 := st1.guar gu
        have hc2 := (st1.chan gu).trans hc1
        have hB2 := hB1.rely (st1.other gu)
        refine ⟨_, _, (vs.length + 1, f (w.at d), Tw, sumTo ((gs.map (woken P g (ng (w.at d)) (nw (w.at d)))).setIfInBounds 0 (ng (w.at d))).size q), hst.trans hr, rank_m, .opn (by simpa using hn) (set_get (by simpa using l0)) (b := b) ?_ kpos (.walk hT) hB2 (.inl (recvsT_run hT)) (bys.go (.inl rfl) (ops_g 0 _ _ _) l0 lk) st2 hc2 (tr.stepM gu.sub gu.ev st2.mw st2.ms st2.ws)⟩
        rw [Array.getElem?_setIfInBounds_ne (Ne.symm kpos), Array.getElem?_map, hk]
        simp [hB2.woken hc2]
      | stop h =>
        obtain ⟨fr, cs, ok, z, rfl, h'⟩ := h (w.at d) (Rely.refl _ _)
        obtain ⟨es, e1, hes, hnext⟩ := h' (w.at d) (Rely.refl _ _)
        have hstep : stepG P (0 == 0) (G fr cs) (w.at d) = .comm (G fr cs) #[rcase c z] true (.recv ok) (w.at d) es := e1
        have tr1 := tr.stepM (fn := (G fr cs).frame.fn) (pos := (G fr cs).frame.place) (es := es) (fun _ h => h) hes st1.mw st1.ms st1.ws
        cases hB1 with
        | walk hW =>
          have hbr := sendsT_run hW
          have hp : partners (gs.setIfInBounds 0 ph) c true = [] := by
            rw [bys.partners (.inl ⟨rfl, rfl⟩) kpos hk, offersAt_of_not_blocked (by rw [hbr]; simp)]
            rfl
          have hr := crowd_waits (sl := sl') hi hstep (fun cc hcc => by
            have : cc = rcase c z := by simpa using hcc
            rw [this]; exact ways_recv_none hc1 hp)
          refine ⟨_, _, (vs.length + 1, .leaf, Tw, sumTo (gs.setIfInBounds 0 (parked (G fr cs) #[rcase c z] (.recv ok))).size q), hst.trans hr, .right _ (.left _ _ ⟨fun _ => .leaf, w, rfl, rfl⟩), .opn (by simpa using hn) (set_get l0) (b := b) ?_ kpos (.park h') (.walk hW) (.inr hbr) (bys.set (.inl rfl) (fun i h1 h2 => Deaf_other t (by omega) _ (ops_g 0 _ _ _)) l0 lk) st1 hc1 tr1⟩
          rw [Array.getElem?_setIfInBounds_ne (Ne.symm kpos)]
          exact hk
        | @park v vs' fr' cs' z' O w0 hW =>
          have hp : partners (gs.setIfInBounds 0 ph) c true = [(k, 0)] := by
            rw [bys.partners (.inl ⟨rfl, rfl⟩) kpos hk, offersAt_parked_send]
            simp
          have hr := crowd_recv_meets (sl := sl') hi hstep hc1 kpos hk hp
          obtain ⟨_, _, _, hn2⟩ := h' ((w.at d).setChan c 0 #[] false (s + 1) (r + 1) tm) (st1.put _)
          have hw2 := hW ((w.at d).setChan c 0 #[] false (s + 1) (r + 1) tm) (st1.swap.put _)
          have hn3 : RecvsW P c Sh Fin vs' (G (fr.finish (recvd ok v true)) cs) Om ((w.at d).setChan c 0 #[] false (s + 1) (r + 1) tm) := hn2
          rw [recvsW_eq] at hn3
          rw [sendsW_eq] at hw2
          obtain ⟨T1, hT1⟩ := hn3.tm
          obtain ⟨T2, hT2⟩ := hw2.tm
          have ho := comm_ops (g := k) (g' := 0) (fn := (G fr' cs').frame.fn) (pos := (G fr' cs').frame.place) (fn' := (G fr cs).frame.fn) (pos' := (G fr cs).frame.place) (x := .send c s) (y := .recv c r 0) (x' := .sendDone c s) (y' := .recvDone c r) (by rintro z (rfl | rfl | rfl | rfl) <;> simp [MemAct.touch?])
          refine ⟨_, _, (vs'.length + 1, T1, T2, sumTo ((gs.setIfInBounds k ((G fr' cs').finishComm P #[scase c v z'] .send 0 undef false)).setIfInBounds 0 ((G fr cs).finishComm P #[rcase c z] (.recv ok) 0 v true)).size q), hst.trans hr, .left _ _ (by simp), ?_⟩
          rw [← Array.append_assoc]
          refine .opn (by simpa using hn) (set_get (by simpa using l0)) (b := G (fr'.finish undef) cs') ?_ kpos (.walk (by rw [finishComm_recv]; exact hT1)) (.walk hT2) (.inr rfl) ((bys.set (.inr rfl) (fun i h1 h2 => rfl) l0 lk).set (.inl rfl) (fun i h1 h2 => (deaf_plain ho.2).trans (Deaf_other t (by omega) _ (ops_g 0 _ _ _))) (by simpa using l0) (by simpa using lk)) (st1.same (by simp [World.setChan])) (heap_put hc1) (tr1.comm ho.1 ho.2)
          rw [Array.getElem?_setIfInBounds_ne (Ne.symm kpos), finishComm_send]
          exact set_get lk
  · by_cases hik : i = k
    · subst hik
      obtain rfl : g = b := by rw [hk] at hi; exact (Option.some.inj hi).symm
      have hb0 : (i == 0) = false := by simp [kpos]
      cases hB1 with
      | park h => cases hg
      | walk h =>
        cases h with
        | step f hs ng nO nw ne h1 h2 =>
          obtain ⟨e1, gu⟩ := h1 (w.at d) (Rely.refl _ _)
          have hT := h2 (w.at d) (Rely.refl _ _)
          have hr := runT_crowd_go (sl := sl') (i := i) hi (show stepG P (i == 0) g (w.at d) = _ from by rw [hb0]; exact e1)
          have st2 := (st1.swap.guar gu).swap
          have hc2 := (st1.swap.chan gu).trans hc1
          have hA2 := hA1.rely (st1.swap.other gu)
          refine ⟨_, _, (vs.length + 1, Tm', f (w.at d), sumTo ((gs.map (woken P g (ng (w.at d)) (nw (w.at d)))).setIfInBounds i (ng (w.at d))).size q), hst.trans hr, rank_w, .opn (by simpa using hn) (a := a) ?_ (set_get (by simpa using lk)) kpos hA2 (.walk hT) (.inr (sendsT_run hT)) (bys.go (.inr rfl) (ops_g i _ _ _) l0 lk) st2 hc2 (tr.stepW gu.sub gu.ev (fun x a b => st2.mw x b a) st2.ws st2.ms)⟩
          rw [Array.getElem?_setIfInBounds_ne kpos, Array.getElem?_map, h0]
          simp [hA2.woken hc2]
        | stop h =>
          cases vs with
          | nil =>
            obtain ⟨_, hmw, g₂, m, hq, hcl⟩ := h (w.at d) (Rely.refl _ _)
            obtain ⟨es, e1, hes⟩ := hcl (w.at d) s r tm (Rely.refl _ _) hc1
            have hr := runT_crowd_go (sl := sl') (i := i) hi (show stepG P (i == 0) g (w.at d) = _ from by rw [hb0]; exact e1)
            have tr1 := tr.stepW (fn := g.frame.fn) (pos := g.frame.place) (es := es) (fun _ h => h) hes (fun x a b => st1.mw x b a) st1.ws st1.ms
            have hcs : ((w.at d).shut c s r tm).heap[c]? = some (.chan 0 #[] true s r tm) := heap_put hc1
            have hg2 := hq.status
            have hup : sumTo gs.size (upd q i m) = sumTo ((gs.map (woken P g g₂ ((w.at d).shut c s r tm))).setIfInBounds i g₂).size (upd q i m) := by simp
            have hA2 : ∃ a', woken P g g₂ ((w.at d).shut c s r tm) a = a' ∧ ∃ T, SSt P c Sh Fin T a' Om ((w.at d).shut c s r tm) := by
              refine ⟨_, rfl, ?_⟩
              have hr2 : Rely (fun x => Om x ∨ Sh x) (w.at d) ((w.at d).shut c s r tm) := st1.put _
              cases hA1 with
              | walk h =>
                rw [woken_running (recvsT_run h)]
                exact ⟨_, .walk (h.rely hr2)⟩
              | @park fr cs ok z O w0 h =>
                refine ⟨.leaf, ?_⟩
                have : woken P g g₂ ((w.at d).shut c s r tm) (parked (G fr cs) #[rcase c z] (.recv ok)) = { parked (G fr cs) #[rcase c z] (.recv ok) with status := .running } := by
                  unfold woken
                  rw [if_pos, again_recv_closed hcs]
                  rcases hg2 with e | e <;> simp [hmw, e]
                rw [this]
                exact .tries fun w₁ h₁ => h w₁ (hr2.trans h₁)
            obtain ⟨a', ea, T, hS⟩ := hA2
            rw [close_push] at hr
            refine ⟨_, _, (0, T, .leaf, sumTo ((gs.map (woken P g g₂ ((w.at d).shut c s r tm))).setIfInBounds i g₂).size (upd q i m)), hst.trans hr, .left _ _ (by simp), ?_⟩
            have hdk : Deaf (t ++ (MemOp.ofEvents i g.frame.fn g.frame.place es ++ #[{ g := i, fn := g.frame.fn, pos := g.frame.place, act := .close c }])) i = 0 := by
              rw [← Array.append_assoc, deaf_plain (fun op hop => by
                have : op = { g := i, fn := g.frame.fn, pos := g.frame.place, act := .close c } := by simpa using hop
                rw [this]; simp)]
              exact tr1.dk
            have hu : ∀ op ∈ MemOp.ofEvents i g.frame.fn g.frame.place es ++ #[({ g := i, fn := g.frame.fn, pos := g.frame.place, act := .close c } : MemOp)], op.g = i := fun op hop => by
              rcases Array.mem_append.1 hop with h | h
              · exact ops_g i _ _ es op h
              · have : op = { g := i, fn := g.frame.fn, pos := g.frame.place, act := .close c } := by simpa using h
                rw [this]
            have bys2 := bys.go (g := g) (g' := g₂) (w' := (w.at d).shut c s r tm) (.inr rfl) hu l0 lk
            refine .shut (by simpa using hn) (a := a') ?_ hS ⟨fun j x hj hx => ?_, bys2.above⟩ (st1.same (by simp [World.shut])) hcs (by rw [← Array.append_assoc]; exact tr1.shut)
            · rw [Array.getElem?_setIfInBounds_ne kpos, Array.getElem?_map, h0]
              simp [ea]
            · by_cases hji : i = j
              · subst hji
                rw [set_get (by simpa using lk)] at hx
                obtain rfl := Option.some.inj hx
                rw [upd_same, hdk]
                exact QuitsD.of_quitsIn hq
              · rw [upd_ne q m (Ne.symm hji)]
                exact bys2.old j x (by omega) (Ne.symm hji) hx
          | cons v vs =>
            obtain ⟨fr, cs, z, rfl, h'⟩ := h (w.at d) (Rely.refl _ _)
            obtain ⟨es, e1, hes, hnext⟩ := h' (w.at d) (Rely.refl _ _)
            have hstep : stepG P (i == 0) (G fr cs) (w.at d) = .comm (G fr cs) #[scase c v z] true .send (w.at d) es := by rw [hb0]; exact e1
            have tr1 := tr.stepW (fn := (G fr cs).frame.fn) (pos := (G fr cs).frame.place) (es := es) (fun _ h => h) hes (fun x a b => st1.mw x b a) st1.ws st1.ms
            cases hA1 with
            | walk hW =>
              have har := recvsT_run hW
              have hp : partners (gs.setIfInBounds i ph) c false = [] := by
                rw [bys.partners (.inr ⟨rfl, rfl⟩) kpos h0, offersAt_of_not_blocked (by rw [har]; simp)]
                rfl
              have hr := crowd_waits (sl := sl') hi hstep (fun cc hcc => by
                have : cc = scase c v z := by simpa using hcc
                rw [this]; exact ways_send_none hc1 (by simp) hp)
              refine ⟨_, _, ((v :: vs).length + 1, Tm', .leaf, sumTo (gs.setIfInBounds i (parked (G fr cs) #[scase c v z] .send)).size q), hst.trans hr, .right _ (.right _ (.left _ _ ⟨fun _ => .leaf, w, rfl, rfl⟩)), .opn (by simpa using hn) (a := a) ?_ (set_get lk) kpos (.walk hW) (.park fun w₁ h₁ => ?_) (.inl har) (bys.set (.inr rfl) (fun j h1 h2 => Deaf_other t (by omega) _ (ops_g i _ _ _)) l0 lk) st1 hc1 tr1⟩
              · rw [Array.getElem?_setIfInBounds_ne kpos]
                exact h0
              · obtain ⟨_, _, _, hn2⟩ := h' w₁ h₁
                exact hn2
            | @park fr' cs' ok z' O w0 hW =>
              have hp : partners (gs.setIfInBounds i ph) c false = [(0, 0)] := by
                rw [bys.partners (.inr ⟨rfl, rfl⟩) kpos h0, offersAt_parked_recv]
                simp
              have hr := crowd_send_meets (sl := sl') hi hstep hc1 (Ne.symm kpos) h0 hp
              obtain ⟨_, _, _, hn2⟩ := h' ((w.at d).setChan c 0 #[] false (s + 1) (r + 1) tm) (st1.swap.put _)
              obtain ⟨_, _, _, hw2⟩ := hW ((w.at d).setChan c 0 #[] false (s + 1) (r + 1) tm) (st1.put _)
              have hn3 : RecvsW P c Sh Fin vs (G (fr'.finish (recvd ok v true)) cs') Om ((w.at d).setChan c 0 #[] false (s + 1) (r + 1) tm) := hw2
              rw [recvsW_eq] at hn3
              rw [sendsW_eq] at hn2
              obtain ⟨T1, hT1⟩ := hn3.tm
              obtain ⟨T2, hT2⟩ := hn2.tm
              have ho := comm_ops (g := i) (g' := 0) (fn := (G fr cs).frame.fn) (pos := (G fr cs).frame.place) (fn' := (G fr' cs').frame.fn) (pos' := (G fr' cs').frame.place) (x := .send c s) (y := .recv c r 0) (x' := .sendDone c s) (y' := .recvDone c r) (by rintro z (rfl | rfl | rfl | rfl) <;> simp [MemAct.touch?])
              refine ⟨_, _, (vs.length + 1, T1, T2, sumTo ((gs.setIfInBounds 0 ((G fr' cs').finishComm P #[rcase c z'] (.recv ok) 0 v true)).setIfInBounds i ((G fr cs).finishComm P #[scase c v z] .send 0 undef false)).size q), hst.trans hr, .left _ _ (by simp), ?_⟩
              rw [← Array.append_assoc]
              refine .opn (by simpa using hn) (a := G (fr'.finish (recvd ok v true)) cs') ?_ (set_get (by simpa using lk)) kpos (.walk hT1) (.walk (by rw [finishComm_send]; exact hT2)) (.inl rfl) ((bys.set (.inl rfl) (fun i h1 h2 => rfl) l0 lk).set (.inr rfl) (fun j h1 h2 => (deaf_plain ho.2).trans (Deaf_other t (by omega) _ (ops_g i _ _ _))) (by simpa using l0) (by simpa using lk)) (st1.same (by simp [World.setChan])) (heap_put hc1) (tr1.comm ho.1 ho.2)
              rw [Array.getElem?_setIfInBounds_ne kpos, finishComm_recv]
              exact set_get l0
    · obtain ⟨n', g', es, hqi, hr, hm, hq'⟩ := slip (sl := sl') (w := w.at d) hi hi0 hg (bys.old i g hi0 hik hi)
      have hsum : sumTo gs.size (upd q i n') + (n' + 1) = sumTo gs.size q + n' := by
        have := sumTo_upd q n' id hlt
        simpa [hqi] using this
      have hsz : ((gs.map (woken P g g' (w.at d))).setIfInBounds i g').size = gs.size := by simp
      refine ⟨_, _, (vs.length + 1, Tm', Tw, sumTo ((gs.map (woken P g g' (w.at d))).setIfInBounds i g').size (upd q i n')), hst.trans hr, rank_q (by rw [hsz]; omega), .opn (by simpa using hn) (a := a) (b := b) ?_ ?_ kpos hA1 hB1 live (bys.slip hi0 hik hlt hq') st1 hc1 (tr.mute hi0 hik hm)⟩
      · rw [Array.getElem?_setIfInBounds_ne hi0, Array.getElem?_map, h0]
        simp [hA1.woken hc1]
      · rw [Array.getElem?_setIfInBounds_ne hik, Array.getElem?_map, hk]
        simp [hB1.woken hc1]

omit [Low] in
/-- the phase: from two goroutines at work to the receiver that finds the channel closed -/
theorem phase : ∀ (μ : Nat × Tm × Tm × Nat) (m : Machine) (t : Trace), PInv P k c Sh Fin n μ m t → ∃ N m' t', runNT P N m t = (.next m', t') ∧ PEnd P Fin n m' t' := by
  intro μ
  induction μ using RankLt.wf.induction with
  | _ μ ih =>
    intro m t h
    cases h with
    | opn hn h0 hk kpos hA hB live bys st hc tr =>
      obtain ⟨m', ops, μ', h1, h2, h3⟩ := opn_step hn h0 hk kpos hA hB live bys st hc tr
      obtain ⟨N, m2, t2, e1, e2⟩ := ih μ' h2 m' _ h3
      exact ⟨N + 1, m2, t2, by rw [runNT_succ_next h1]; exact e1, e2⟩
    | shut hn h0 hA lv st hc tr =>
      obtain ⟨m', ops, h1, h2⟩ := shut_step hn h0 hA lv st hc tr
      rcases h2 with h2 | ⟨μ', h2, h3⟩
      · exact ⟨1, m', t ++ ops, by rw [runNT_succ_next h1]; rfl, h2⟩
      · obtain ⟨N, m2, t2, e1, e2⟩ := ih μ' h2 m' _ h3
        exact ⟨N + 1, m2, t2, by rw [runNT_succ_next h1]; exact e1, e2⟩
end
end Go.Proofs.Ytjgkignnfkbeaaa.Sim

/-
  Goroutine 0 walks beside those that only leave: to its stop; and a whole lone run carried over, where one function is another in the two programs.
-/
namespace Go.Proofs.Ytjgkignnfkbeaaa.Sim
open Go Go.Conc
open Go.ConcN (sumTo upd sumTo_upd upd_ne upd_same)
set_option linter.unusedVariables false
variable [Low]

def NoSh : Nat → Prop := fun _ => False

section
variable {P : Program} {Stop : Goroutine → (Nat → Prop) → World → Prop}

omit [Low] in
/-- one step of the machine in which all but goroutine 0 only leave: goroutine 0's own, or a slip -/
theorem beside_one {gs : Array Goroutine} {a : Goroutine} {w : World} {sl : Option (Nat × Nat)} {t : Trace} {q : Nat → Nat} (h0 : gs[0]? = some a) (ha : a.status = .running) (lv : Leavers P t gs q) (past : PastW t) :
    (∃ d sl', stepT P (crowd gs w sl) = runT P (crowd gs (w.at d) sl') 0) ∨
    ∃ d sl' gs' ops q', stepT P (crowd gs w sl) = (.next (crowd gs' (w.at d) sl'), ops) ∧ gs'.size = gs.size ∧ gs'[0]? = some a ∧ Leavers P (t ++ ops) gs' q' ∧ PastW (t ++ ops) ∧ sumTo gs'.size q' < sumTo gs.size q := by
  obtain ⟨i, g, d, sl', hi, hg, hst⟩ := crowd_pick (P := P) (w := w) (sl := sl) (leavers_awake h0 ha lv) ⟨0, a, h0, ha⟩
  have hlt := lt_of_get hi
  by_cases hi0 : i = 0
  · subst hi0
    exact .inl ⟨d, sl', hst⟩
  · right
    obtain ⟨n', g', es, hqi, hr, hm, hq'⟩ := slip (sl := sl') (w := w.at d) hi hi0 hg (lv.old i g (by omega) hi)
    have hsum : sumTo gs.size (upd q i n') + (n' + 1) = sumTo gs.size q + n' := by
      have := sumTo_upd q n' id hlt
      simpa [hqi] using this
    have hsz : ((gs.map (woken P g g' (w.at d))).setIfInBounds i g').size = gs.size := by simp
    refine ⟨d, sl', _, _, upd q i n', hst.trans hr, hsz, ?_, leavers_slip hi lv hq', past.mute hi0 hm, by rw [hsz]; omega⟩
    rw [Array.getElem?_setIfInBounds_ne hi0, Array.getElem?_map, h0]
    simp [woken_running ha]

/-- what is asked of the machine, from here: that it come to 'End' -/
def Comes' (P : Program) (End : Machine → Trace → Prop) (m : Machine) (t : Trace) : Prop := ∃ N m' t', runNT P N m t = (.next m', t') ∧ End m' t'
omit [Low] in
theorem Comes'.head {End : Machine → Trace → Prop} {m m1 : Machine} {t : Trace} {ops : Array MemOp} (h : stepT P m = (.next m1, ops)) (h' : Comes' P End m1 (t ++ ops)) : Comes' P End m t := by
  obtain ⟨N, m', t', h1, h2⟩ := h'
  exact ⟨N + 1, m', t', by rw [runNT_succ_next h]; exact h1, h2⟩
omit [Low] in
theorem Comes'.trans {End : Machine → Trace → Prop} {m m1 : Machine} {t t1 : Trace} {N : Nat} (h : runNT P N m t = (.next m1, t1)) (h' : Comes' P End m1 t1) : Comes' P End m t := by
  obtain ⟨N', m', t', h1, h2⟩ := h'
  exact ⟨N + N', m', t', by rw [runNT_add, h]; exact h1, h2⟩

omit [Low] in
/-- goroutine 0's next step, whatever slips before it -/
theorem beside_step {End : Machine → Trace → Prop} {a : Goroutine} (ha : a.status = .running) (R : World → Prop) (hR : ∀ w d, R w → R (w.at d))
    (h : ∀ (gs : Array Goroutine) (w : World) (sl : Option (Nat × Nat)) (t : Trace) (q : Nat → Nat), gs[0]? = some a → Leavers P t gs q → PastW t → R w → ∃ m' ops, runT P (crowd gs w sl) 0 = (.next m', ops) ∧ Comes' P End m' (t ++ ops)) :
    ∀ (M : Nat) (gs : Array Goroutine) (w : World) (sl : Option (Nat × Nat)) (t : Trace) (q : Nat → Nat), sumTo gs.size q ≤ M → gs[0]? = some a → Leavers P t gs q → PastW t → R w → Comes' P End (crowd gs w sl) t := by
  intro M
  induction M with
  | zero =>
    intro gs w sl t q hM h0 lv past hw
    rcases beside_one (w := w) (sl := sl) h0 ha lv past with ⟨d, sl', hst⟩ | ⟨d, sl', gs', ops, q', _, _, _, _, _, hlt⟩
    · obtain ⟨m', ops, h1, h2⟩ := h gs (w.at d) sl' t q h0 lv past (hR w d hw)
      exact Comes'.head (hst.trans h1) h2
    · omega
  | succ M ih =>
    intro gs w sl t q hM h0 lv past hw
    rcases beside_one (w := w) (sl := sl) h0 ha lv past with ⟨d, sl', hst⟩ | ⟨d, sl', gs', ops, q', hst, hsz, h0', lv', past', hlt⟩
    · obtain ⟨m', ops, h1, h2⟩ := h gs (w.at d) sl' t q h0 lv past (hR w d hw)
      exact Comes'.head (hst.trans h1) h2
    · exact Comes'.head hst (ih gs' (w.at d) sl' (t ++ ops) q' (by omega) h0' lv' past' (hR w d hw))

/-- where goroutine 0 stands, beside leavers -/
def Stands (P : Program) (Stop : Goroutine → (Nat → Prop) → World → Prop) (m : Machine) (t : Trace) : Prop :=
  ∃ gs a w sl q O, m = crowd gs w sl ∧ gs[0]? = some a ∧ Leavers P t gs q ∧ PastW t ∧ Stop a O w

omit [Low] in
/-- a walk beside leavers -/
theorem walk_stands {a : Goroutine} {O : Nat → Prop} {w : World} (h : Walks P true NoSh Stop a O w) : ∀ {gs : Array Goroutine} {sl : Option (Nat × Nat)} {t : Trace} {q : Nat → Nat}, gs[0]? = some a → Leavers P t gs q → PastW t → Comes' P (Stands P Stop) (crowd gs w sl) t := by
  induction h with
  | @stop a O w h =>
    intro gs sl t q h0 lv past
    exact ⟨0, _, _, rfl, gs, a, w, sl, q, O, rfl, h0, lv, past, h w (Rely.refl _ w)⟩
  | @step a O w hs ng nO nw ne h1 h2 ih =>
    intro gs sl t q h0 lv past
    refine beside_step hs (fun w' => ∃ d, w' = w.at d) (fun w' d ⟨d', e⟩ => ⟨d, by subst e; rfl⟩) (fun gs' w' sl' t' q' h0' lv' past' hw' => ?_) _ gs w sl t q (Nat.le_refl _) h0 lv past ⟨w.drawn, rfl⟩
    obtain ⟨d, rfl⟩ := hw'
    obtain ⟨e1, gu⟩ := h1 (w.at d) (rely_at _ w d)
    have hr := runT_crowd_go (sl := sl') (i := 0) h0' (show stepG P (0 == 0) a (w.at d) = _ from e1)
    exact ⟨_, _, hr, ih (w.at d) (rely_at _ w d) (set_get (by simpa using lt_of_get h0')) (leavers_main h0' lv' (ops_g 0 _ _ _)) (past'.own gu.ev)⟩
end
end Go.Proofs.Ytjgkignnfkbeaaa.Sim

/-
  A whole lone run carried over, where one function is another in the two programs: that one is entered, and what it does is given.
-/
namespace Go.Proofs.Ytjgkignnfkbeaaa.Sim
open Go Go.Conc
open Go.ConcN (sumTo upd sumTo_upd upd_ne upd_same)
set_option linter.unusedVariables false
variable [Low]

/-- c' is what a step of the lone run leads to, on some tape -/
def Child (P : Program) (c' c : Cfg) : Prop := (c.f.mode = .run ∨ c.cs ≠ []) ∧ ∃ τ d es, stepG P true (G c.f (c.cs ++ [Z])) (on c.w τ d) = .go (G c'.f (c'.cs ++ [Z])) c'.w es

section
variable {P₀ P₁ : Program} {F : FuncId → Bool} {K K0 : FuncId} {S : Frame → World → Prop}
theorem Tree.child {c c' : Cfg} (T : Tree P₀ F K0 S c.f c.cs c.w) (h : Child P₀ c' c) : Tree P₀ F K0 S c'.f c'.cs c'.w := by
  obtain ⟨hr, τ, d, es, hs⟩ := h
  obtain ⟨f, cs, w⟩ := c
  cases T with
  | stop _ hm _ =>
    rcases hr with q | q
    · simp only at q hm; rw [hm] at q; cases q
    · exact absurd rfl q
  | step _ _ _ h => exact h τ d _ _ _ es hs
theorem Tree.desc {c c' : Cfg} (T : Tree P₀ F K0 S c.f c.cs c.w) (h : Relation.TransGen (Child P₀) c' c) : Tree P₀ F K0 S c'.f c'.cs c'.w := by
  induction h with
  | single h => exact T.child h
  | tail _ h2 ih => exact ih (T.child h2)
theorem Tree.acc {f : Frame} {cs : List Frame} {w : World} (T : Tree P₀ F K0 S f cs w) : Acc (Child P₀) ⟨f, cs, w⟩ := by
  induction T with
  | stop _ hm _ =>
    refine ⟨_, fun y h => ?_⟩
    rcases h.1 with q | q
    · simp only at q; rw [hm] at q; cases q
    · exact absurd rfl q
  | step _ _ _ _ ih =>
    refine ⟨_, fun y h => ?_⟩
    obtain ⟨_, τ, d, es, hs⟩ := h
    exact ih τ d _ _ _ es hs

/-- what is given of K: at its entry, in both runs; b': what lies under the call in the second -/
def KSpec (P₀ P₁ : Program) (F : FuncId → Bool) (K K0 : FuncId) (S : Frame → World → Prop) (b' : List Frame) : Prop :=
  ∀ (ρ : Ren) (args args' : Array Value) (fc fc' : Frame) (cs cs' : List Frame) (w W : World) (O : Nat → Prop) (gs : Array Goroutine) (sl : Option (Nat × Nat)) (t : Trace) (q : Nat → Nat),
    arOk P₁ K args.size = true → ARel ρ args args' → FrRel P₁ F K ρ fc fc' → fc.mode = .run → StRel P₁ F K ρ cs cs' → WRel ρ (on w W.tape W.drawn) W → (∀ a x, ρ a = some x → O x) → (∀ x, O x → x < W.heap.size) →
    Tree P₀ F K0 S (Frame.enter P₀ K args .normal) (fc :: cs) w → gs[0]? = some (G (Frame.enter P₁ K args' .normal) (fc' :: cs' ++ b')) → Leavers P₁ t gs q → PastW t →
    ∃ v w2, Relation.TransGen (Child P₀) ⟨fc.finish v, cs, w2⟩ ⟨Frame.enter P₀ K args .normal, fc :: cs, w⟩ ∧
      Comes' P₁ (Stands P₁ fun g _ W' => ∃ v', VRel ρ v v' ∧ g = G (fc'.finish v') (cs' ++ b') ∧ WRel ρ (on w2 W'.tape W'.drawn) W' ∧ Rely (fun x => x < W.heap.size) W W') (crowd gs W sl) t

omit [Low] in
theorem Comes'.then {E1 E2 : Machine → Trace → Prop} {m : Machine} {t : Trace} (h : Comes' P₁ E1 m t) (hk : ∀ m t, E1 m t → Comes' P₁ E2 m t) : Comes' P₁ E2 m t := by
  obtain ⟨N, m', t', h1, h2⟩ := h
  exact Comes'.trans h1 (hk m' t' h2)

omit [Low] in
theorem rely_guar {Sh O O' Old : Nat → Prop} {w w' : World} {es : Array Event} (g : Guar Sh O w O' w' es) (h : ∀ x, Old x → x < w.heap.size ∧ ¬ O x) : Rely Old w w' := ⟨g.size, fun b hb => g.keep b (h b hb).1 (h b hb).2, g.tape, g.os, g.output⟩

/-- the lone run's end is the second run's -/
theorem company (hG : Good P₀ P₁ F K) (b' : List Frame) (HK : KSpec P₀ P₁ F K K0 S b') (Old : Nat → Prop) (W0 : World) (ρ₀ : Ren) : ∀ (c : Cfg), Tree P₀ F K0 S c.f c.cs c.w → Acc (Relation.TransGen (Child P₀)) c →
    ∀ {ρ : Ren} {f' : Frame} {cs' : List Frame} {W : World} {O : Nat → Prop} {gs : Array Goroutine} {sl : Option (Nat × Nat)} {t : Trace} {q : Nat → Nat},
      le ρ₀ ρ → (FrRel P₁ F K ρ c.f f' ∨ (EnterK P₀ P₁ F K ρ c.f f' ∧ c.cs ≠ [])) → StRel P₁ F K ρ c.cs cs' → WRel ρ (on c.w W.tape W.drawn) W → (∀ a x, ρ a = some x → O x) → (∀ x, O x → x < W.heap.size) →
      (∀ x, Old x → x < W.heap.size ∧ ¬ O x) → Rely Old W0 W → gs[0]? = some (G f' (cs' ++ b')) → Leavers P₁ t gs q → PastW t →
      Comes' P₁ (Stands P₁ fun g O W => AtStop P₁ F K S ρ₀ b' g O W ∧ Rely Old W0 W ∧ ∀ x, Old x → ¬ O x) (crowd gs W sl) t := by
  intro c T hacc
  induction hacc with
  | intro c _ ih =>
    intro ρ f' cs' W O gs sl t q hle hf hcs hw hO hi hold hre h0 lv past
    obtain ⟨f, cs, w⟩ := c
    simp only at *
    rcases hf with hf | ⟨⟨hFK, args, args', hnn, ha, rfl, rfl⟩, hne⟩
    · cases T with
      | stop hs hm h =>
        cases hcs
        exact ⟨0, _, _, rfl, gs, _, W, sl, q, O, rfl, h0, lv, past, ⟨ρ, f, f', on w W.tape W.drawn, hle, h _ _, hm, hf, rfl, hw, hO, hi⟩, hre, fun x hx => (hold x hx).2⟩
      | step hs hr hgo h =>
        refine beside_step rfl (fun W' => ∃ d, W' = W.at d) (fun w' d ⟨d', e⟩ => ⟨d, by subst e; rfl⟩) (fun gs' W' sl' t' q' h0' lv' past' hw' => ?_) _ gs W sl t q (Nat.le_refl _) h0 lv past ⟨W.drawn, rfl⟩
        obtain ⟨d, rfl⟩ := hw'
        have hw1 : WRel ρ (on w (W.at d).tape (W.at d).drawn) (W.at d) := wrel_rely hw hO (rely_at _ W d)
        obtain ⟨fl, csl, fr, csr, w', W', es, es', σ, e1, e2, e3, e4, e5, e6⟩ := tree_go hG (main := true) (b' := b') hr hgo hf hcs hw1
        have hi1 : ∀ x, O x → x < (W.at d).heap.size := hi
        have hgu := Guar.of_mild (Sh := NoSh) e6 e5 hO hi1
        have hrun := runT_crowd_go (sl := sl') (i := 0) h0' (show stepG P₁ (0 == 0) (G f' (cs' ++ b')) (W.at d) = _ from e2)
        refine ⟨_, _, hrun, ih ⟨fl, csl, w'⟩ (.single ⟨hr, _, _, es, e1⟩) (h _ _ _ _ _ _ e1) (le_trans hle e6.le) e3 e4 e5 (fun a x hx => .inr ⟨a, hx⟩) hgu.inside (fun x hx => ⟨Nat.lt_of_lt_of_le (hold x hx).1 hgu.size, ?_⟩) ((hre.trans (rely_at _ W d)).trans (rely_guar hgu hold)) (set_get (by simpa using lt_of_get h0')) (leavers_main h0' lv' (ops_g 0 _ _ _)) (past'.own hgu.ev)⟩
        rintro hx2
        rcases hgu.fresh x hx2 with q1 | q1
        · exact (hold x hx).2 q1
        · have := (hold x hx).1
          have h3 : (W.at d).heap.size ≤ x := q1
          exact absurd this (by show ¬ x < (W.at d).heap.size; omega)
    · cases hcs with
      | nil => exact absurd rfl hne
      | @cons fc fc' l l' hc hcm hl =>
        obtain ⟨v, w2, hd, hcome⟩ := HK ρ args args' fc fc' l l' w W O gs sl t q hnn ha hc hcm hl hw hO hi T h0 lv past
        refine Comes'.then hcome fun m1 t1 hst => ?_
        obtain ⟨gs1, a1, W1, sl1, q1, O1, rfl, h01, lv1, past1, v', hv, rfl, hw1, hre1⟩ := hst
        exact ih ⟨fc.finish v, l, w2⟩ hd (T.desc hd) hle (.inl (hc.finish hv)) hl hw1 hO (fun x hx => Nat.lt_of_lt_of_le (hi x hx) hre1.size) (fun x hx => ⟨Nat.lt_of_lt_of_le (hold x hx).1 hre1.size, (hold x hx).2⟩) (hre.trans (hre1.sub fun x hx => (hold x hx).1)) h01 lv1 past1
end
end Go.Proofs.Ytjgkignnfkbeaaa.Sim

/-
  A whole lone run carried over: from the contract in the one program to a good run of the other.
-/
namespace Go.Proofs.Ytjgkignnfkbeaaa.Sim
open Go Go.Conc
open Go.ConcN (sumTo upd sumTo_upd upd_ne upd_same)
set_option linter.unusedVariables false
variable [Low]

section
variable {P : Program} {F : FuncId → Bool} {K0 : FuncId} {S : Frame → World → Prop}
/-- what the lone run comes to is a descendant -/
theorem desc_of_run (hG : Good P P F K0) : ∀ (n : Nat) {f f2 : Frame} {cs cs2 : List Frame} {w w2 : World}, Tree P F K0 S f cs w → runN P n (lone f (cs ++ [Z]) w) = .next (lone f2 (cs2 ++ [Z]) w2) →
    (n = 0 ∧ f = f2 ∧ cs = cs2 ∧ w = w2) ∨ Relation.TransGen (Child P) ⟨f2, cs2, w2⟩ ⟨f, cs, w⟩ := by
  intro n
  induction n with
  | zero =>
    intro f f2 cs cs2 w w2 T h
    simp only [runN, Stepped.next.injEq] at h
    obtain ⟨h1, h2, h3⟩ := lone_inj h
    exact .inl ⟨rfl, h1, List.append_cancel_right h2, h3⟩
  | succ n ih =>
    intro f f2 cs cs2 w w2 T h
    right
    cases T with
    | stop hs hm _ =>
      exfalso
      have := stop_dead hG hs hm (b := cs2 ++ [Z]) (by simp) h
      omega
    | step hs hr hgo hT =>
      obtain ⟨f', cs', w', es, e1, e2⟩ := hgo w.tape w.drawn
      have e1' : stepG P true (G f (cs ++ [Z])) w = .go (G f' (cs' ++ [Z])) w' es := e1
      have hc : Child P ⟨f', cs', w'⟩ ⟨f, cs, w⟩ := ⟨hr, w.tape, w.drawn, es, e1⟩
      rcases ih (hT _ _ _ _ _ _ e1) (runN_next (lone_go e1') h) with ⟨_, rfl, rfl, rfl⟩ | q
      · exact .single hc
      · exact .tail q hc
/-- a call whose contract is known -/
theorem desc_of_calls (hG : Good P P F K0) {K : FuncId} {args : Array Value} {fc : Frame} {cs : List Frame} {w : World} {R : Value → World → Prop} (T : Tree P F K0 S (Frame.enter P K args .normal) (fc :: cs) w)
    (hc : Calls P K args w fun e w' => ∃ v, e = .returned v ∧ R v w') : ∃ v w2, R v w2 ∧ Relation.TransGen (Child P) ⟨fc.finish v, cs, w2⟩ ⟨Frame.enter P K args .normal, fc :: cs, w⟩ := by
  obtain ⟨e, w', fr, ⟨v, rfl, hR⟩, hcom, hfn, hl⟩ := hc (fc :: cs ++ [Z])
  obtain ⟨n, hn⟩ := hcom
  have hstep := step_leave_returned (c := fc) (cs := cs ++ [Z]) hl
  have h2 : runN P (n + 1) (lone (Frame.enter P K args .normal) ((fc :: cs) ++ [Z]) w) = .next (lone (fc.finish v) (cs ++ [Z]) w') := by
    rw [runN_add, hn]
    have : step P (lone fr (fc :: cs ++ [Z]) w') = .next (lone (fc.finish v) (cs ++ [Z]) w') := hstep
    simp only [runN, this]
  rcases desc_of_run hG (n + 1) T h2 with ⟨h, _⟩ | q
  · omega
  · exact ⟨v, w', hR, q⟩

omit [Low] in
theorem stepG_done {f : Frame} {w w' : World} {fn : Func} {v : Value} (hm : f.mode = .returning) (hd : f.defers = []) (hk : f.kind = .normal) (hf : P.funcs[f.fn]? = some fn) (hi : P.inits.idxOf? f.fn = none) (hr : (results fn f.tmps).run P w = .ok v w') :
    stepG P true (G f []) w = .ended (.done v) w' (seen P f.fn ((results fn f.tmps).events P w #[])) := by
  simp [G, stepG, unwind, doReturn, hm, hd, hk, hf, hr, hi, GStep.after]

omit [Low] in
/-- the last step, whatever slips before it -/
theorem ends_well {Post : Value → World → Prop} {a : Goroutine} (ha : a.status = .running) (R : World → Prop) (hR : ∀ w d, R w → R (w.at d))
    (h : ∀ w, R w → ∃ v w' es O, stepG P true a w = .ended (.done v) w' es ∧ (∀ e ∈ es, EvOk NoSh O e) ∧ Post v w') :
    ∀ (M : Nat) (gs : Array Goroutine) (w : World) (sl : Option (Nat × Nat)) (t : Trace) (q : Nat → Nat), sumTo gs.size q ≤ M → gs[0]? = some a → Leavers P t gs q → PastW t → R w →
      ∃ N last o w' t', runNT P (N + 1) (crowd gs w sl) t = (.ended o w', t') ∧ runN P N (crowd gs w sl) = .next last ∧ step P last = .ended o w' ∧ Go.Conc.Good P Post last o w' t' := by
  have last : ∀ (gs : Array Goroutine) (w : World) (sl sl' : Option (Nat × Nat)) (t : Trace) (q : Nat → Nat) (d : Nat), gs[0]? = some a → Leavers P t gs q → PastW t → R w → stepT P (crowd gs w sl) = runT P (crowd gs (w.at d) sl') 0 →
      ∃ N last o w' t', runNT P (N + 1) (crowd gs w sl) t = (.ended o w', t') ∧ runN P N (crowd gs w sl) = .next last ∧ step P last = .ended o w' ∧ Go.Conc.Good P Post last o w' t' := by
    intro gs w sl sl' t q d h0 lv past hw hst
    obtain ⟨v, w', es, O, hend, hes, hpost⟩ := h (w.at d) (hR w d hw)
    have hrunT := runT_many_ended (P := P) (sl := sl') (i := 0) h0 (show stepG P (0 == 0) a (w.at d) = _ from hend)
    have hs := hst.trans hrunT
    have hP' := past.own (fn := a.frame.fn) (pos := a.frame.place) hes
    refine ⟨0, crowd gs w sl, _, _, _, by simp [runNT, hs], rfl, by simp [step, hs], v, rfl, hpost, hP'.clean, hP'.over, ⟨fun x hx => ?_, rfl⟩, fun j x hx hj => ?_⟩
    · obtain ⟨j, hj⟩ := List.mem_iff_getElem?.1 hx
      rw [List.getElem?_drop] at hj
      exact ⟨_, (lv.old (1 + j) x (by omega) (by simpa [crowd] using hj)).leaves⟩
    · have hq := lv.old j x (by omega) hx
      refine ⟨q j, ?_⟩
      have e : (t ++ MemOp.ofEvents 0 a.frame.fn a.frame.place es).deaf j (t ++ MemOp.ofEvents 0 a.frame.fn a.frame.place es).size = Deaf t j :=
        Deaf_other t (g := j) (g' := 0) (by omega) _ (ops_g 0 _ _ _)
      rw [e]
      exact hq.hears _
  intro M
  induction M with
  | zero =>
    intro gs w sl t q hM h0 lv past hw
    rcases beside_one (w := w) (sl := sl) h0 ha lv past with ⟨d, sl', hst⟩ | ⟨d, sl', gs', ops, q', _, _, _, _, _, hlt⟩
    · exact last gs w sl sl' t q d h0 lv past hw hst
    · omega
  | succ M ih =>
    intro gs w sl t q hM h0 lv past hw
    rcases beside_one (w := w) (sl := sl) h0 ha lv past with ⟨d, sl', hst⟩ | ⟨d, sl', gs', ops, q', hst, hsz, h0', lv', past', hlt⟩
    · exact last gs w sl sl' t q d h0 lv past hw hst
    · obtain ⟨N, la, o, w', t', h1, h2, h3, h4⟩ := ih gs' (w.at d) sl' (t ++ ops) q' (by omega) h0' lv' past' (hR w d hw)
      exact ⟨N + 1, la, o, w', t', by rw [runNT_succ_next hst]; exact h1, by rw [runN_succ_next hst]; exact h2, h3, h4⟩
end

section
variable {P₀ P₁ : Program} {F : FuncId → Bool} {K K0 : FuncId}
/-- the results of a frame, read alone: nothing is drawn -/
def Ends (P : Program) (law : FuncId) (R : Value → World → Prop) (f : Frame) (w : World) : Prop := f.fn = law ∧ ∃ fn v, P.funcs[f.fn]? = some fn ∧ (results fn f.tmps).run P w = .ok v w ∧ R v w
theorem results_local (hT : P₀.toTables = P₁.toTables) {ρ : Ren} {t t' : Array Value} {w W : World} {fn : Func} {v : Value} (ht : ARel ρ t t') (hw : WRel ρ w W) (h : (results fn t).run P₀ w = .ok v w) : ∀ τ d, (results fn t).run P₀ (on w τ d) = .ok v (on w τ d) := by
  intro τ d
  rcases results_rel hT fn ht w W hw with ⟨q, w', _, e⟩ | ⟨v1, w', v', W', σ, k, g1, g2, g3, g4, g5, g6, g7, g8⟩
  · rw [h] at e; cases e
  · rw [h] at g1
    cases g1
    have hk : k = 0 := by omega
    subst hk
    exact g8 τ d fun i hi => by omega

/-- the whole: a contract in the one program, for all worlds and tapes, is a good run of the other -/
theorem carried (hG : Good P₀ P₁ F K) (hG0 : Good P₀ P₀ F K0) (hK0 : F K0 = false) {law : FuncId} (hF : F law = true) (hlaw : law ≠ K) (hi : P₁.inits.idxOf? law = none) {R : Value → World → Prop} (hR : ∀ v w τ d, R v w → R v (on w τ d))
    (HK : ∀ S, KSpec P₀ P₁ F K K0 S []) {ρ ρ' : Ren} {args args' : Array Value} {w W : World} (ha : ARel ρ args args') (ha0 : ARel ρ' args args) (hw0 : WRel ρ' w w) (hw : WRel ρ (on w W.tape W.drawn) W)
    (hc : ∀ τ d, Calls P₀ law args (on w τ d) fun e w' => ∃ v, e = .returned v ∧ R v w') {Post : Value → World → Prop}
    (hpost : ∀ (v v' : Value) (σ : Ren) (w2 W2 : World), R v w2 → VRel σ v v' → WRel σ w2 W2 → le ρ σ → Rely (fun x => x < W.heap.size ∧ ∀ a, ρ a ≠ some x) W W2 → Post v' W2) :
    ∃ N last o w' t', runNT P₁ (N + 1) (crowd #[G (Frame.enter P₁ law args' .normal) []] W none) #[] = (.ended o w', t') ∧ runN P₁ N (crowd #[G (Frame.enter P₁ law args' .normal) []] W none) = .next last ∧ step P₁ last = .ended o w' ∧ Go.Conc.Good P₁ Post last o w' t' := by
  have hS : ∀ f w τ d, Self P₀ F K0 f [] w → Ends P₀ law R f w → Ends P₀ law R f (on w τ d) := by
    rintro f w τ d ⟨ρ1, h1, _, h3⟩ ⟨e1, fn, v, e2, e3, e4⟩
    exact ⟨e1, fn, v, e2, results_local hG0.tables h1.tmps h3 e3 τ d, hR _ _ _ _ e4⟩
  have hs : Self P₀ F K0 (Frame.enter P₀ law args .normal) [] w := by
    refine ⟨ρ', ?_, .nil, hw0⟩
    rcases enter_rel hG0 hF (fun e => by rw [e] at hF; rw [hF] at hK0; cases hK0) ha0 with h | h
    · exact h
    · rw [h.1] at hK0; cases hK0
  have hre : ∀ τ d, Reaches P₀ (Ends P₀ law R) (Frame.enter P₀ law args .normal) [] (on w τ d) := by
    intro τ d
    obtain ⟨e, w', fr, ⟨v, rfl, hRv⟩, hcom, hfn, hm, hd, hk, fn, hf, hr⟩ := hc τ d [Z]
    obtain ⟨n, hn⟩ := hcom
    exact ⟨n, fr, w', hn, hm, hfn, fn, v, hf, hr, hRv⟩
  have T := tree_of hG0 hK0 hS hs hre
  have hfr : FrRel P₁ F K ρ (Frame.enter P₀ law args .normal) (Frame.enter P₁ law args' .normal) := by
    rcases enter_rel hG hF (fun e => absurd e hlaw) ha with h | ⟨_, a1, a2, _, _, e, _⟩
    · exact h
    · exact absurd (congrArg Frame.fn e) hlaw
  have hcome := company hG [] (HK (Ends P₀ law R)) (fun x => x < W.heap.size ∧ ∀ a, ρ a ≠ some x) W ρ ⟨Frame.enter P₀ law args .normal, [], w⟩ T T.acc.transGen (ρ := ρ) (f' := Frame.enter P₁ law args' .normal) (cs' := []) (W := W) (O := fun x => ∃ a, ρ a = some x)
    (gs := #[G (Frame.enter P₁ law args' .normal) []]) (sl := none) (t := #[]) (q := fun _ => 0) (le_refl ρ) (.inl hfr) .nil hw (fun a x h => ⟨a, h⟩) (fun x ⟨a, h⟩ => (hw.lt h).2) (fun x hx => ⟨hx.1, fun ⟨a, h⟩ => hx.2 a h⟩) (Rely.refl _ W) rfl (leavers_one P₁ _) pastW_nil
  obtain ⟨N, m1, t1, hrun, gs1, a1, W1, sl1, q1, O1, rfl, h01, lv1, past1, ⟨σ, fr, fr', w1, hle, ⟨e1, fn, v, e2, e3, e4⟩, hm, hfr1, rfl, hw1, hO1, hi1⟩, hre1, hold1⟩ := hcome
  have hm' : fr'.mode = .returning := by
    rcases hfr1.mode with ⟨q, _⟩ | ⟨_, q⟩
    · rw [hm] at q; cases q
    · exact q
  have hsame := hG.same fr.fn hfr1.ok hfr1.notK
  have hq' : P₁.funcs[fr'.fn]? = some fn := by rw [hfr1.fn, ← hsame, e2]
  have hin : P₁.inits.idxOf? fr'.fn = none := by rw [hfr1.fn, e1]; exact hi
  have hloc := results_local hG.tables hfr1.tmps hw1 e3
  obtain ⟨N2, last, o, w', t', g1, g2, g3, g4⟩ := ends_well (Post := Post) (a := G fr' []) rfl (fun W' => ∃ d, W' = W1.at d) (fun w' d ⟨d', e⟩ => ⟨d, by subst e; rfl⟩) (fun W' hW' => by
    obtain ⟨d, rfl⟩ := hW'
    have hwd : WRel σ (on w1 W1.tape d) (W1.at d) := hw1.on W1.tape d
    rcases results_rel hG.tables fn hfr1.tmps _ _ hwd with ⟨q, w', _, e⟩ | ⟨v1, w', v', W', σ2, k, k1, k2, k3, k4, k5, k6, k7, k8⟩
    · rw [hloc] at e; cases e
    · rw [hloc] at k1
      cases k1
      have hi2 : ∀ x, O1 x → x < (W1.at d).heap.size := hi1
      have hgu := Guar.of_mild (Sh := NoSh) k7 k3 hO1 hi2
      refine ⟨v', W', _, _, stepG_done hm' hfr1.defers.2 hfr1.kind.2 hq' hin k2, fun e he => hgu.ev e (mem_seen he), ?_⟩
      refine hpost v v' σ2 _ W' (hR _ _ _ _ e4) k6 k3 (le_trans hle k7.le) ((hre1.trans (rely_at _ W1 d)).trans (rely_guar hgu fun x hx => ⟨?_, hold1 x hx⟩))
      exact Nat.lt_of_lt_of_le hx.1 hre1.size) _ gs1 W1 sl1 t1 q1 (Nat.le_refl _) h01 lv1 past1 ⟨W1.drawn, rfl⟩
  refine ⟨N + N2, last, o, w', t', ?_, ?_, g3, g4⟩
  · rw [Nat.add_assoc, runNT_add, hrun]
    exact g1
  · rw [runN_add, ← runNT_fst P₁ N _ #[], hrun]
    exact g2
end
end Go.Proofs.Ytjgkignnfkbeaaa.Sim

/-
  A call in company: from the lone contract of the function.
-/
namespace Go.Proofs.Ytjgkignnfkbeaaa.Sim
open Go Go.Conc
set_option linter.unusedVariables false
variable [Low]

section
variable {P : Program} {main : Bool} {Sh X : Nat → Prop} {Stop : Goroutine → (Nat → Prop) → World → Prop}
omit [Low] in
/-- what is shared stays as it is -/
theorem Walks.keep {W0 : World} {g : Goroutine} {O : Nat → Prop} {w : World} (h : Walks P main Sh Stop g O w) : (∀ x, Sh x → x < w.heap.size ∧ ¬ O x) → Rely Sh W0 w → Walks P main Sh (fun g O w => Stop g O w ∧ Rely Sh W0 w ∧ ∀ x, Sh x → x < w.heap.size ∧ ¬ O x) g O w := by
  induction h with
  | @stop g O w h => exact fun hs hr => .stop fun w₁ h₁ => ⟨h w₁ h₁, hr.trans (h₁.sub fun _ h => .inr h), fun x hx => ⟨Nat.lt_of_lt_of_le (hs x hx).1 h₁.size, (hs x hx).2⟩⟩
  | @step g O w hst ng nO nw ne h1 h2 ih =>
    intro hs hr
    refine .step hst ng nO nw ne h1 fun w₁ h₁ => ?_
    obtain ⟨_, gu⟩ := h1 w₁ h₁
    have hs1 : ∀ x, Sh x → x < w₁.heap.size ∧ ¬ O x := fun x hx => ⟨Nat.lt_of_lt_of_le (hs x hx).1 h₁.size, (hs x hx).2⟩
    refine ih w₁ h₁ (fun x hx => ⟨Nat.lt_of_lt_of_le (hs1 x hx).1 gu.size, fun ho => ?_⟩) ((hr.trans (h₁.sub fun _ h => .inr h)).trans (rely_guar gu hs1))
    rcases gu.fresh x ho with q | q
    · exact (hs1 x hx).2 q
    · have := (hs1 x hx).1
      omega
omit [Low] in
/-- what it held to be shared may be its own -/
theorem Walks.widen {g : Goroutine} {O : Nat → Prop} {w : World} (h : Walks P main (fun x => Sh x ∨ X x) Stop g O w) : (∀ x, X x → x < w.heap.size) → Walks P main Sh (fun g O' w => ∃ O, (∀ x, O' x ↔ O x ∨ X x) ∧ Stop g O w) g (fun x => O x ∨ X x) w := by
  have conv : ∀ {O : Nat → Prop} {w w₁ : World}, Rely (fun x => (O x ∨ X x) ∨ Sh x) w w₁ → Rely (fun x => O x ∨ Sh x ∨ X x) w w₁ := by
    intro O w w₁ h
    refine h.sub fun x hx => ?_
    rcases hx with q | q | q
    · exact .inl (.inl q)
    · exact .inr q
    · exact .inl (.inr q)
  induction h with
  | @stop g O w h => exact fun _ => .stop fun w₁ h₁ => ⟨O, fun _ => Iff.rfl, h w₁ (conv h₁)⟩
  | @step g O w hst ng nO nw ne h1 h2 ih =>
    intro hX
    refine .step hst ng (fun w₁ x => nO w₁ x ∨ X x) nw ne (fun w₁ h₁ => ?_) fun w₁ h₁ => ?_
    · obtain ⟨e, gu⟩ := h1 w₁ (conv h₁)
      have hX1 : ∀ x, X x → x < w₁.heap.size := fun x hx => Nat.lt_of_lt_of_le (hX x hx) h₁.size
      refine ⟨e, fun b hb => hb.imp (gu.sub b) id, fun b hb => ?_, fun b hb => hb.elim (gu.inside b) fun q => Nat.lt_of_lt_of_le (hX1 b q) gu.size, gu.size, fun b hb hn => gu.keep b hb fun q => hn (.inl q), gu.tape, gu.os, gu.output, fun ev hev => ?_⟩
      · rcases hb with q | q
        · exact (gu.fresh b q).imp .inl id
        · exact .inl (.inr q)
      · rcases gu.ev ev hev with ⟨x, off, spot, wr, hx, rfl⟩ | ⟨x, sy, hx, rfl⟩ | ⟨x, off, spot, hx, rfl⟩ | rfl
        · exact .inl ⟨x, off, spot, wr, .inl hx, rfl⟩
        · exact .inr (.inl ⟨x, sy, hx.imp .inl id, rfl⟩)
        · rcases hx with hx | hx
          · exact .inr (.inr (.inl ⟨x, off, spot, hx, rfl⟩))
          · exact .inl ⟨x, off, spot, false, .inr hx, rfl⟩
        · exact .inr (.inr (.inr rfl))
    · obtain ⟨_, gu⟩ := h1 w₁ (conv h₁)
      exact ih w₁ (conv h₁) fun x hx => Nat.lt_of_lt_of_le (Nat.lt_of_lt_of_le (hX x hx) h₁.size) gu.size
omit [Low] in
/-- what it takes is new -/
theorem Walks.new {O₀ : Nat → Prop} {n₀ : Nat} {g : Goroutine} {O : Nat → Prop} {w : World} (h : Walks P main Sh Stop g O w) : (∀ x, O₀ x → O x) → (∀ x, O x → O₀ x ∨ n₀ ≤ x) → n₀ ≤ w.heap.size →
    Walks P main Sh (fun g O w => Stop g O w ∧ (∀ x, O₀ x → O x) ∧ (∀ x, O x → O₀ x ∨ n₀ ≤ x) ∧ n₀ ≤ w.heap.size) g O w := by
  induction h with
  | @stop g O w h => exact fun h1 h2 h3 => .stop fun w₁ hr => ⟨h w₁ hr, h1, h2, Nat.le_trans h3 hr.size⟩
  | @step g O w hst ng nO nw ne h1 h2 ih =>
    intro a1 a2 a3
    refine .step hst ng nO nw ne h1 fun w₁ h₁ => ?_
    obtain ⟨_, gu⟩ := h1 w₁ h₁
    have a4 := Nat.le_trans a3 h₁.size
    refine ih w₁ h₁ (fun x hx => gu.sub x (a1 x hx)) (fun x hx => ?_) (Nat.le_trans a4 gu.size)
    rcases gu.fresh x hx with q | q
    · exact a2 x q
    · exact .inr (Nat.le_trans a4 q)
omit [Low] in
/-- the same blocks, said otherwise -/
theorem Walks.congr {g : Goroutine} {O O' : Nat → Prop} {w : World} (h : Walks P main Sh Stop g O w) (e : ∀ x, O' x ↔ O x) : Walks P main Sh Stop g O' w := by
  have : O' = O := funext fun x => propext (e x)
  rw [this]; exact h
end

section
variable {P : Program} {F : FuncId → Bool} {K0 : FuncId} {main : Bool} {Sh : Nat → Prop} {Stop : Goroutine → (Nat → Prop) → World → Prop}
theorem walks_call (hG0 : Good P P F K0) (hK0 : F K0 = false) {f : FuncId} (hF : F f = true) {R : Value → World → Prop} (hR : ∀ v w τ d, R v w → R v (on w τ d)) {ρ ρ' : Ren} {args args' : Array Value} {w W : World} {O : Nat → Prop}
    (ha : ARel ρ args args') (ha0 : ARel ρ' args args) (hw0 : WRel ρ' w w) (hw : WRel ρ (on w W.tape W.drawn) W) (hO : ∀ a x, ρ a = some x → O x) (hi : ∀ x, O x → x < W.heap.size) (hsh : ∀ x, Sh x → x < W.heap.size ∧ ¬ O x)
    (hc : ∀ τ d, Calls P f args (on w τ d) fun e w' => ∃ v, e = .returned v ∧ R v w') {fc : Frame} {cs : List Frame}
    (hk : ∀ (v v' : Value) (σ : Ren) (w2 W2 : World) (O2 : Nat → Prop), R v w2 → (∃ ρ2, VRel ρ2 v v ∧ WRel ρ2 w2 w2) → VRel σ v v' → WRel σ w2 W2 → le ρ σ → (∀ x, O x → O2 x) → (∀ a x, σ a = some x → O2 x) → (∀ x, O2 x → x < W2.heap.size) → (∀ x, O2 x → O x ∨ W.heap.size ≤ x) →
      Rely (fun x => (Sh x ∨ O x) ∧ ∀ a, ρ a ≠ some x) W W2 → Walks P main Sh Stop (G (fc.finish v') cs) O2 W2) : Walks P main Sh Stop (G (Frame.enter P f args' .normal) (fc :: cs)) O W := by
  let S : Frame → World → Prop := fun f' w => Ends P f R f' w ∧ Self P F K0 f' [] w
  have hS : ∀ f' w τ d, Self P F K0 f' [] w → S f' w → S f' (on w τ d) := by
    rintro f' w τ d ⟨ρ1, h1, _, h3⟩ ⟨⟨e1, fn, v, e2, e3, e4⟩, hself⟩
    exact ⟨⟨e1, fn, v, e2, results_local hG0.tables h1.tmps h3 e3 τ d, hR _ _ _ _ e4⟩, hself.on τ d⟩
  have ent : ∀ {ρ : Ren} {a a' : Array Value}, ARel ρ a a' → FrRel P F K0 ρ (Frame.enter P f a .normal) (Frame.enter P f a' .normal) := by
    intro ρ a a' h
    rcases enter_rel hG0 hF (fun e => by rw [e] at hF; rw [hF] at hK0; cases hK0) h with h | h
    · exact h
    · rw [h.1] at hK0; cases hK0
  have hs : Self P F K0 (Frame.enter P f args .normal) [] w := ⟨ρ', ent ha0, .nil, hw0⟩
  have hre : ∀ τ d, Reaches P S (Frame.enter P f args .normal) [] (on w τ d) := by
    intro τ d
    obtain ⟨e, w', fr, ⟨v, rfl, hRv⟩, hcom, hfn, hm, hd, hk, fn, hf, hr⟩ := hc τ d [Z]
    obtain ⟨n, hn⟩ := hcom
    obtain ⟨w5, k5, e5, _, e7⟩ := reach_shift hG0 hK0 n (cs := []) hs (fun i => rfl) hn hm
    refine ⟨n, fr, w', hn, hm, ⟨hfn, fn, v, hf, hr, hRv⟩, ?_⟩
    rw [e5]
    exact e7.on _ _
  have T := tree_of hG0 hK0 hS hs hre
  -- the callee's own blocks: those that it was handed
  let O0 : Nat → Prop := fun x => ∃ a, ρ a = some x
  let X : Nat → Prop := fun x => O x ∧ ∀ a, ρ a ≠ some x
  have hw' := walks_of_tree (Sh := fun x => Sh x ∨ X x) hG0 hK0 T main ρ (fc :: cs) (ρ := ρ) (cs' := []) (O := O0) (W := W) (le_refl ρ) (ent ha) .nil hw (fun a x h => ⟨a, h⟩) (fun x ⟨a, h⟩ => (hw.lt h).2)
  have hkeep := hw'.keep (W0 := W) (fun x hx => by
    rcases hx with q | q
    · exact ⟨(hsh x q).1, fun ⟨a, h⟩ => (hsh x q).2 (hO a x h)⟩
    · exact ⟨hi x q.1, fun ⟨a, h⟩ => q.2 a h⟩) (Rely.refl _ W)
  have hwid := hkeep.widen (fun x hx => hi x hx.1)
  have hcon : Walks P main Sh _ (G (Frame.enter P f args' .normal) (fc :: cs)) O W := hwid.congr fun x => ⟨fun hx => by
    by_cases h : ∃ a, ρ a = some x
    · exact .inl h
    · exact .inr ⟨hx, fun a e => h ⟨a, e⟩⟩, fun hx => hx.elim (fun ⟨a, h⟩ => hO a x h) fun q => q.1⟩
  refine Walks.then (hcon.new (O₀ := O) (n₀ := W.heap.size) (fun _ h => h) (fun _ h => .inl h) (Nat.le_refl _)) fun g O' W' hst => ?_
  obtain ⟨⟨O1, hiff, ⟨σ, fr, fr', w1, hle, ⟨⟨e1, fn, v, e2, e3, e4⟩, hself⟩, hm, hfr, rfl, hw1, hO1, hi1⟩, hre1, hsh1⟩, hnew1, hnew2, hnew3⟩ := hst
  have hm' : fr'.mode = .returning := by
    rcases hfr.mode with ⟨q, _⟩ | ⟨_, q⟩
    · rw [hm] at q; cases q
    · exact q
  have hq' : P.funcs[fr'.fn]? = some fn := by rw [hfr.fn]; exact e2
  have hloc := results_local hG0.tables hfr.tmps hw1 e3
  have hi' : ∀ x, O' x → x < W'.heap.size := fun x hx => ((hiff x).1 hx).elim (hi1 x) fun q => (hsh1 x (.inr q)).1
  refine .go rfl fun w₁ hre => ?_
  have hself2 : ∃ ρ2, VRel ρ2 v v ∧ WRel ρ2 (on w1 w₁.tape w₁.drawn) (on w1 w₁.tape w₁.drawn) := by
    obtain ⟨ρ5, s1, _, s3⟩ := hself
    rcases results_rel hG0.tables fn s1.tmps _ _ s3 with ⟨q, w', _, e⟩ | ⟨v1, w', v', W2, σ2, k, k1, k2, k3, k4, k5, k6, k7, k8⟩
    · rw [e3] at e; cases e
    · rw [e3] at k1 k2
      cases k1; cases k2
      exact ⟨σ2, k6, k3.on _ _⟩
  have hro : Rely O1 W' w₁ := hre.sub fun x hx => .inl ((hiff x).2 (.inl hx))
  have hwr : WRel σ (on w1 w₁.tape w₁.drawn) w₁ := wrel_rely (hw1.on W'.tape W'.drawn) hO1 hro
  rcases results_rel hG0.tables fn hfr.tmps _ _ hwr with ⟨q, w', _, e⟩ | ⟨v1, w', v', W2, σ2, k, k1, k2, k3, k4, k5, k6, k7, k8⟩
  · rw [hloc] at e; cases e
  · rw [hloc] at k1
    cases k1
    have hi1' : ∀ x, O1 x → x < w₁.heap.size := fun x hx => Nat.lt_of_lt_of_le (hi1 x hx) hre.size
    have hi2 : ∀ x, O' x → x < w₁.heap.size := fun x hx => Nat.lt_of_lt_of_le (hi' x hx) hre.size
    have g1 := Guar.of_mild (Sh := Sh) k7 k3 hO1 hi1'
    have g2 := Guar.of_mild (Sh := Sh) k7 k3 (fun a x h => (hiff x).2 (.inl (hO1 a x h))) hi2
    have hback := stepG_back (m := main) (c := fc) (cs := cs) hm' hfr.defers.2 hfr.kind.2 hq' k2
    refine ⟨_, _, _, _, hback, { g2 with ev := fun e he => g2.ev e (mem_seen he) }, hk v v' σ2 _ W2 _ (hR _ _ _ _ e4) hself2 k6 k3 (le_trans hle k7.le) (fun x hx => .inl (hnew1 x hx)) (fun a x h => .inr ⟨a, h⟩) g2.inside (fun x hx => ?_) ?_⟩
    · rcases g2.fresh x hx with q | q
      · exact hnew2 x q
      · exact .inr (Nat.le_trans hnew3 (Nat.le_trans hre.size q))
    · have r1 : Rely (fun x => Sh x ∨ X x) W' w₁ := hre.sub fun x hx => hx.elim .inr fun q => .inl ((hiff x).2 (.inr q))
      have r2 : Rely (fun x => Sh x ∨ X x) w₁ W2 := rely_guar g1 fun x hx => ⟨Nat.lt_of_lt_of_le (hsh1 x hx).1 hre.size, (hsh1 x hx).2⟩
      exact ((hre1.trans r1).trans r2).sub fun x hx => hx.1.elim .inl fun q => .inr ⟨q, hx.2⟩
end
end Go.Proofs.Ytjgkignnfkbeaaa.Sim

/-
  Rules of a walk in company: control, one operation, a region in any order.
-/
namespace Go.Proofs.Ytjgkignnfkbeaaa.Sim
open Go Go.Conc
set_option linter.unusedVariables false
variable [Low]

section
variable {P : Program} {main : Bool} {Sh : Nat → Prop} {Stop : Goroutine → (Nat → Prop) → World → Prop} {b : Frame} {k : List Item} {cs : List Frame} {ops : Array Oper} {O : Nat → Prop} {w : World}

omit [Low] in
theorem Walks.ctl {g g' : Goroutine} (hs : g.status = .running) (h : ∀ w, stepG P main g w = .go g' w #[]) (hi : ∀ x, O x → x < w.heap.size) (k : Walks P main Sh Stop g' O w) : Walks P main Sh Stop g O w :=
  .go hs fun w₁ hr => ⟨g', O, w₁, #[], h w₁, Guar.same (fun x hx => Nat.lt_of_lt_of_le (hi x hx) hr.size) (fun e he => by simp at he), k.rely hr⟩
omit [Low] in
/-- one operation that yields a value, or nothing -/
theorem Walks.opk {a : Act} {i : Nat} {rest : List Nat} {o : Oper} (ho : ops[i]? = some o) (hw : Region.wanted o (yielded ops a.tmps) = true) (hk : b.kind ≠ .early)
    (h : ∀ w₁, Rely (fun x => O x ∨ Sh x) w w₁ → ∀ Kk : Act → World → Prop, (∀ a' w', (∃ O', Guar Sh O w₁ O' w' (listed P b.fn a o w₁) ∧ Walks P main Sh Stop (G (b.at a' (.inRegion ops rest :: k)) cs) O' w') → Kk a' w') → uponK o a Kk ((execOp a.eval o).run P w₁)) :
    Walks P main Sh Stop (G (b.at a (.inRegion ops (i :: rest) :: k)) cs) O w := by
  refine .go rfl fun w₁ hr => ?_
  have := h w₁ hr (fun a' w' => ∃ O', Guar Sh O w₁ O' w' (listed P b.fn a o w₁) ∧ Walks P main Sh Stop (G (b.at a' (.inRegion ops rest :: k)) cs) O' w') (fun _ _ x => x)
  generalize hres : (execOp a.eval o).run P w₁ = r at this
  match r, this with
  | .ok (.value v) w', ⟨O', gu, hwk⟩ => exact ⟨_, O', w', _, stepG_value ho hw hk hres, gu, hwk⟩
  | .ok .skip w', ⟨O', gu, hwk⟩ => exact ⟨_, O', w', _, stepG_none ho hw hk hres, gu, hwk⟩
omit [Low] in
/-- one operation that turns nothing and lists nothing -/
theorem Walks.op0 {a : Act} {i : Nat} {rest : List Nat} {o : Oper} {v : Value} (ho : ops[i]? = some o) (hw : Region.wanted o (yielded ops a.tmps) = true) (hk : b.kind ≠ .early) (hi : ∀ x, O x → x < w.heap.size)
    (hr : ∀ w, (execOp a.eval o).run P w = .ok (.value v) w) (he : ∀ w, (execOp a.eval o).events P w #[] = #[]) (k' : Walks P main Sh Stop (G (b.at (a.put o.dst v) (.inRegion ops rest :: k)) cs) O w) :
    Walks P main Sh Stop (G (b.at a (.inRegion ops (i :: rest) :: k)) cs) O w := by
  refine .go rfl fun w₁ h₁ => ⟨_, O, w₁, _, stepG_value ho hw hk (hr w₁), Guar.same (fun x hx => Nat.lt_of_lt_of_le (hi x hx) h₁.size) (fun e hm => ?_), k'.rely h₁⟩
  have := mem_listed hm
  rw [he] at this
  simp at this
omit [Low] in
/-- a call is entered -/
theorem Walks.enter {a : Act} {i : Nat} {rest : List Nat} {o : Oper} {f : FuncId} {args : Array Value} (ho : ops[i]? = some o) (hw : Region.wanted o (yielded ops a.tmps) = true) (hk : b.kind ≠ .early) (hi : ∀ x, O x → x < w.heap.size)
    (hr : ∀ w, (execOp a.eval o).run P w = .ok (.enter f args) w) (he : ∀ w, (execOp a.eval o).events P w #[] = #[]) (k' : Walks P main Sh Stop (G (Frame.enter P f args .normal) (b.at a (.inRegion ops (i :: rest) :: k) :: cs)) O w) :
    Walks P main Sh Stop (G (b.at a (.inRegion ops (i :: rest) :: k)) cs) O w := by
  refine .go rfl fun w₁ h₁ => ⟨_, O, w₁, _, Go.Conc.stepG_enter ho hw hk (hr w₁), Guar.same (fun x hx => Nat.lt_of_lt_of_le (hi x hx) h₁.size) (fun e hm => ?_), k'.rely h₁⟩
  have := mem_listed hm
  rw [he] at this
  simp at this

/-! ### a region in any order -/
def cnt (l : Array Bool) : Nat → Nat
  | 0 => 0
  | n + 1 => cnt l n + (if l.getD n true then 0 else 1)
omit [Low] in
theorem getD_set (l : Array Bool) (i j : Nat) : (l.setIfInBounds i true).getD j true = if j = i then true else l.getD j true := by
  simp only [Array.getD_eq_getD_getElem?, Array.getElem?_setIfInBounds]
  by_cases h : i = j
  · subst h
    by_cases hl : i < l.size <;> simp [hl]
  · have h' : ¬ j = i := fun e => h e.symm
    simp [h, h']
omit [Low] in
theorem cnt_set (l : Array Bool) {i : Nat} (h : l.getD i true = false) : ∀ {n : Nat}, (n ≤ i → cnt (l.setIfInBounds i true) n = cnt l n) ∧ (i < n → cnt (l.setIfInBounds i true) n + 1 = cnt l n)
  | 0 => ⟨fun _ => rfl, fun h => by omega⟩
  | n + 1 => by
    obtain ⟨h1, h2⟩ := cnt_set l h (n := n)
    refine ⟨fun hn => ?_, fun hn => ?_⟩
    · have : n ≠ i := by omega
      simp only [cnt, getD_set, if_neg this, h1 (by omega)]
    · rcases Nat.lt_or_ge i n with q | q
      · have : n ≠ i := by omega
        have := h2 q
        simp only [cnt, getD_set]
        split <;> split <;> simp_all <;> omega
      · have e : n = i := by omega
        subst e
        simp only [cnt, getD_set, if_true, h, h1 (Nat.le_refl _)]
        simp
omit [Low] in
theorem cnt_zero {l : Array Bool} : ∀ {n : Nat}, cnt l n = 0 → ∀ i, i < n → l.getD i true = true
  | 0, _, i, h => by omega
  | n + 1, hc, i, h => by
    simp only [cnt] at hc
    rcases Nat.lt_or_ge i n with q | q
    · exact cnt_zero (by omega) i q
    · have e : i = n := by omega
      subst e
      by_cases hq : l.getD i true = true
      · exact hq
      · simp [hq] at hc
omit [Low] in
theorem cnt_le (l : Array Bool) : ∀ n, cnt l n ≤ n
  | 0 => Nat.le_refl _
  | n + 1 => by
    have := cnt_le l n
    simp only [cnt]
    split <;> omega
omit [Low] in
theorem ready_mem {ops : Array Oper} {l : Array Bool} {i : Nat} (h : i ∈ Region.ready .any ops l) : i < ops.size ∧ l.getD i true = false ∧ ∃ o, ops[i]? = some o ∧ ∀ e ∈ o.after, (!Region.binds .any e || l.getD e.on false) = true := by
  unfold Region.ready at h
  simp only [List.mem_filter, List.mem_range, Bool.and_eq_true, Bool.not_eq_true'] at h
  obtain ⟨h1, h2, h3⟩ := h
  refine ⟨h1, h2, ?_⟩
  cases ho : ops[i]? with
  | none => rw [ho] at h3; simp at h3
  | some o =>
    rw [ho] at h3
    refine ⟨o, rfl, fun e he => ?_⟩
    simp only [Option.map_some, Option.getD_some] at h3
    exact (Array.all_eq_true'.1 h3) e he

omit [Low] in
theorem go_nil {ops : Array Oper} (fuel t : Nat) (l : Array Bool) (h : Region.ready .any ops l = []) : Region.linearise.go .any ops fuel t l [] = [] := by
  cases fuel with
  | zero => rfl
  | succ fuel =>
    simp only [Region.linearise.go]
    change (match (Region.ready .any ops l)[t % (Region.ready .any ops l).length]? with
      | some i => Region.linearise.go .any ops fuel (t / (Region.ready .any ops l).length) (l.setIfInBounds i true) [i]
      | none => [].reverse) = []
    rw [h]
    rfl
omit [Low] in
theorem walks_any (Inv : Array Bool → Act → (Nat → Prop) → World → Prop)
    (hstep : ∀ (l : Array Bool) (a : Act) (O : Nat → Prop) (w : World) (i : Nat) (rest : List Nat), Inv l a O w → i ∈ Region.ready .any ops l → (Region.ready .any ops (l.setIfInBounds i true) = [] → rest = []) →
      (∀ a' O' w', Inv (l.setIfInBounds i true) a' O' w' → Walks P main Sh Stop (G (b.at a' (.inRegion ops rest :: k)) cs) O' w') → Walks P main Sh Stop (G (b.at a (.inRegion ops (i :: rest) :: k)) cs) O w)
    (hend : ∀ (l : Array Bool) (a : Act) (O : Nat → Prop) (w : World), Inv l a O w → Region.ready .any ops l = [] → Walks P main Sh Stop (G (b.at a (.inRegion ops [] :: k)) cs) O w) :
    ∀ (fuel t : Nat) (l : Array Bool) (a : Act) (O : Nat → Prop) (w : World), cnt l ops.size ≤ fuel → Inv l a O w → Walks P main Sh Stop (G (b.at a (.inRegion ops (Region.linearise.go .any ops fuel t l []) :: k)) cs) O w := by
  intro fuel
  induction fuel with
  | zero =>
    intro t l a O w hc hI
    refine hend l a O w hI ?_
    rw [List.eq_nil_iff_forall_not_mem]
    intro i hi
    obtain ⟨h1, h2, _⟩ := ready_mem hi
    rw [cnt_zero (Nat.le_zero.1 hc) i h1] at h2
    cases h2
  | succ fuel ih =>
    intro t l a O w hc hI
    simp only [Region.linearise.go]
    change Walks P main Sh Stop (G (b.at a (.inRegion ops (match (Region.ready .any ops l)[t % (Region.ready .any ops l).length]? with
      | some i => Region.linearise.go .any ops fuel (t / (Region.ready .any ops l).length) (l.setIfInBounds i true) [i]
      | none => [].reverse) :: k)) cs) O w
    cases hi : (Region.ready .any ops l)[t % (Region.ready .any ops l).length]? with
    | none =>
      have hnil : Region.ready .any ops l = [] := by
        cases hr : Region.ready .any ops l with
        | nil => rfl
        | cons x xs =>
          rw [hr] at hi
          have hlt : t % (x :: xs).length < (x :: xs).length := Nat.mod_lt _ (by simp)
          simp at hi
          simp at hlt
          omega
      exact hend l a O w hI hnil
    | some i =>
      simp only []
      rw [linearise_go_acc, List.reverse_singleton, List.singleton_append]
      have hmem := List.mem_of_getElem? hi
      obtain ⟨h1, h2, _⟩ := ready_mem hmem
      exact hstep l a O w i _ hI hmem (go_nil _ _ _) fun a' O' w' hI' => ih _ _ a' O' w' (by have := (cnt_set l h2 (n := ops.size)).2 h1; omega) hI'
omit [Low] in
/-- a region whose order is drawn -/
theorem Walks.draw {a : Act} {id : Nat} (hm : P.follows .mixedOrders = true) (Inv : Array Bool → Act → (Nat → Prop) → World → Prop) (hi : ∀ x, O x → x < w.heap.size)
    (h0 : ∀ w₁, Rely (fun x => O x ∨ Sh x) w w₁ → Inv (Array.replicate ops.size false) a O w₁)
    (hstep : ∀ (l : Array Bool) (a : Act) (O : Nat → Prop) (w : World) (i : Nat) (rest : List Nat), Inv l a O w → i ∈ Region.ready .any ops l → (Region.ready .any ops (l.setIfInBounds i true) = [] → rest = []) →
      (∀ a' O' w', Inv (l.setIfInBounds i true) a' O' w' → Walks P main Sh Stop (G (b.at a' (.inRegion ops rest :: k)) cs) O' w') → Walks P main Sh Stop (G (b.at a (.inRegion ops (i :: rest) :: k)) cs) O w)
    (hend : ∀ (l : Array Bool) (a : Act) (O : Nat → Prop) (w : World), Inv l a O w → Region.ready .any ops l = [] → Walks P main Sh Stop (G (b.at a (.inRegion ops [] :: k)) cs) O w) :
    Walks P main Sh Stop (G (b.at a (.code (.region id ops true) :: k)) cs) O w := by
  refine .go rfl fun w₁ hr => ⟨_, O, _, _, stepG_region_draw, ?_, ?_⟩
  · exact Guar.quiet (d := w₁.drawn + 1) (fun x hx => Nat.lt_of_lt_of_le (hi x hx) hr.size) (fun e he => by simp at he)
  · simp only [Region.schedule, hm, Bool.true_or, if_true]
    exact walks_any Inv hstep hend _ _ _ _ _ _ (cnt_le _ _) (h0 _ ⟨hr.size, hr.keep, hr.tape, hr.os, hr.output⟩)

/-! ### memory -/
omit [Low] in
theorem Guar.push {o : Obj} {es : Array Event} (hi : ∀ x, O x → x < w.heap.size) (he : ∀ e ∈ es, EvOk Sh (fun x => O x ∨ x = w.heap.size) e) : Guar Sh O w (fun x => O x ∨ x = w.heap.size) { w with heap := w.heap.push o } es := by
  refine ⟨fun _ h => .inl h, fun b hb => hb.imp id fun h => by omega, fun b hb => ?_, by simp, fun b hb hn => ?_, rfl, rfl, rfl, he⟩
  · rcases hb with q | q
    · have := hi b q; simp; omega
    · simp; omega
  · simp [Array.getElem?_push, Nat.ne_of_lt hb]
omit [Low] in
theorem Guar.setCell {x off : Nat} {spot : Option Nat} {v : Value} {es : Array Event} (hi : ∀ x, O x → x < w.heap.size) (hx : O x) (he : ∀ e ∈ es, EvOk Sh O e) : Guar Sh O w O (w.setCell ⟨x, off, spot⟩ v) es := by
  have hsz : (w.setCell ⟨x, off, spot⟩ v).heap.size = w.heap.size := by simp [World.setCell]
  refine ⟨fun _ h => h, fun b hb => .inl hb, fun b hb => by rw [hsz]; exact hi b hb, by rw [hsz]; exact Nat.le_refl _, fun b hb hn => ?_, rfl, rfl, rfl, he⟩
  have hne : x ≠ b := fun e => hn (e ▸ hx)
  simp [World.setCell, Array.getElem?_modify, hne]
end
end Go.Proofs.Ytjgkignnfkbeaaa.Sim

/-
  From a go statement on: two goroutines at work, till goroutine 0 has found the channel closed and walks on beside those that leave.
-/
namespace Go.Proofs.Ytjgkignnfkbeaaa.Sim
open Go Go.Conc
open Go.ConcN (sumTo upd sumTo_upd upd_ne upd_same)
set_option linter.unusedVariables false
variable [Low]

section
variable {P : Program} {Stop : Goroutine → (Nat → Prop) → World → Prop}

/-- goroutine 0 stands at a go statement, over an open channel c without room: what it is to receive is what the child sends -/
def AtGoW (P : Program) (Stop : Goroutine → (Nat → Prop) → World → Prop) (a : Goroutine) (O : Nat → Prop) (w : World) : Prop :=
  a.status = .running ∧ ∃ (c : Nat) (vs : List Value) (s r : Nat) (tm : Bool), w.heap[c]? = some (.chan 0 #[] false s r tm) ∧ ∀ d, ∃ (a' child : Goroutine) (es : Array Event),
    stepG P true a (w.at d) = .spawn a' child (w.at d) es ∧ (∀ e ∈ es, EvOk NoSh O e) ∧
    RecvsW P c (fun x => x < w.heap.size ∧ x ≠ c) (fun g _ w' => ∃ O', Walks P true NoSh Stop g O' w') vs a' NoSh (w.at d) ∧ SendsW P c (fun x => x < w.heap.size ∧ x ≠ c) vs child NoSh (w.at d)

omit [Low] in
/-- the trace behind a go statement -/
theorem two_of_go {t : Trace} {k : Nat} {Sh : Nat → Prop} {x y : MemOp} (h : PastW t) (hk : k ≠ 0) (hd : Deaf t k = 0) (hx : x.g = 0 ∧ x.act = .go k) (hy : y.g = k ∧ y.act = .start) : Two (t ++ #[x, y]) k NoSh NoSh Sh := by
  have hu : ∀ op ∈ #[x, y], op.act.touch? = none := fun op hop => by
    rcases (by simpa using hop : op = x ∨ op = y) with rfl | rfl
    · rw [hx.2]; rfl
    · rw [hy.2]; rfl
  have hdd : ∀ op ∈ #[x, y], op.act ≠ .mark .disable ∧ op.act ≠ .mark .enable := fun op hop => by
    rcases (by simpa using hop : op = x ∨ op = y) with rfl | rfl
    · rw [hx.2]; simp
    · rw [hy.2]; simp
  have hh : ∀ g (O : Nat → Prop), Half t 0 g O Sh := fun g O i a ha hm => .inl (h.known i a ha hm)
  have e1 : (t ++ #[x, y])[t.size]? = some x := by rw [Array.getElem?_append_right (Nat.le_refl _)]; simp
  have e2 : (t ++ #[x, y])[t.size + 1]? = some y := by rw [Array.getElem?_append_right (by omega)]; simp
  have d1 : (t ++ #[x, y]).deaf k (t.size + 1) = 0 := by
    have := deaf_succ (g := k) e1
    rw [this, deaf_old (Nat.le_refl _)]
    have hd' : t.deaf k t.size = 0 := hd
    rw [hd']
    unfold deafStep
    rw [hx.2]
  refine ⟨fun said => clean_mute (h.clean said) hu, (hh k NoSh).mute hu, fun i a ha hm => ?_, (deaf_plain hdd).trans h.hears, (deaf_plain hdd).trans hd⟩
  obtain ⟨z, hz, hza⟩ := touch_of ha
  rcases getElem?_append_cases hz with ⟨hi, hz'⟩ | ⟨_, hzu⟩
  · have hkn := h.known i a (by rw [touchAt_of hz']; exact hza) hm
    have hb := hkn.hb_new (Nat.le_refl _) e1 hx.1
    have hsp : HappensBefore (t ++ #[x, y]) t.size (t.size + 1) := .single (.inr ⟨.spawn (child := k) (by rw [act?_of e1, hx.2]) (by rw [act?_of e2, hy.2]) (by simp [Trace.g?, hy.1]), ⟨0, by simp [Trace.g?, hx.1], by rw [deaf_old (Nat.le_refl _)]; exact h.hears⟩, ⟨k, by simp [Trace.g?, hy.1], d1⟩⟩)
    exact .inl ⟨t.size + 1, y, e2, hy.1, .inr (hb.trans hsp)⟩
  · rw [hu z hzu] at hza; cases hza

omit [Low] in
theorem lt_heap {w : World} {c : Nat} {o : Obj} (h : w.heap[c]? = some o) : c < w.heap.size := (Array.getElem?_eq_some_iff.1 h).1

omit [Low] in
/-- from the go statement on -/
theorem go_phase {gs : Array Goroutine} {a : Goroutine} {O : Nat → Prop} {w : World} {sl : Option (Nat × Nat)} {t : Trace} {q : Nat → Nat} (h : AtGoW P Stop a O w) (h0 : gs[0]? = some a) (lv : Leavers P t gs q) (past : PastW t) : Comes' P (Stands P Stop) (crowd gs w sl) t := by
  obtain ⟨ha, c, vs, s, r, tm, hc, hgo⟩ := h
  refine beside_step ha (fun w' => ∃ d, w' = w.at d) (fun w' d ⟨d', e⟩ => ⟨d, by subst e; rfl⟩) (fun gs' w' sl' t' q' h0' lv' past' hw' => ?_) _ gs w sl t q (Nat.le_refl _) h0 lv past ⟨w.drawn, rfl⟩
  obtain ⟨d, rfl⟩ := hw'
  obtain ⟨a', child, es, hst, hes, hA, hB⟩ := hgo d
  have hr := runT_crowd_spawn (sl := sl') (i := 0) h0' (show stepG P (0 == 0) a (w.at d) = _ from hst)
  have l0 := lt_of_get h0'
  have hk : gs'.size ≠ 0 := by omega
  refine ⟨_, _, hr, ?_⟩
  rw [recvsW_eq] at hA
  rw [sendsW_eq] at hB
  obtain ⟨T1, hT1⟩ := hA.tm
  obtain ⟨T2, hT2⟩ := hB.tm
  have past1 := past'.own (fn := a.frame.fn) (pos := a.frame.place) hes
  have hdk : Deaf (t' ++ MemOp.ofEvents 0 a.frame.fn a.frame.place es) gs'.size = 0 := (Deaf_other t' (by omega) _ (ops_g 0 _ _ _)).trans (lv'.above _ (Nat.le_refl _))
  have htr := two_of_go (Sh := fun x => x < w.heap.size ∧ x ≠ c) past1 hk hdk (x := { g := 0, fn := a.frame.fn, pos := a.frame.place, act := .go gs'.size }) (y := { g := gs'.size, fn := child.frame.fn, pos := a.frame.place, act := .start }) ⟨rfl, rfl⟩ ⟨rfl, rfl⟩
  have etr : t' ++ ((MemOp.ofEvents 0 a.frame.fn a.frame.place es).push { g := 0, fn := a.frame.fn, pos := a.frame.place, act := .go gs'.size } |>.push { g := gs'.size, fn := child.frame.fn, pos := a.frame.place, act := .start }) = (t' ++ MemOp.ofEvents 0 a.frame.fn a.frame.place es) ++ #[{ g := 0, fn := a.frame.fn, pos := a.frame.place, act := .go gs'.size }, { g := gs'.size, fn := child.frame.fn, pos := a.frame.place, act := .start }] := by
    apply Array.ext'
    simp
  rw [etr]
  have hsz : ((gs'.setIfInBounds 0 a').push child).size = gs'.size + 1 := by simp
  have hdo : ∀ i, i ≠ 0 → i ≠ gs'.size → Deaf ((t' ++ MemOp.ofEvents 0 a.frame.fn a.frame.place es) ++ #[({ g := 0, fn := a.frame.fn, pos := a.frame.place, act := .go gs'.size } : MemOp), { g := gs'.size, fn := child.frame.fn, pos := a.frame.place, act := .start }]) i = Deaf t' i := by
    intro i h1 h2
    rw [deaf_plain (fun op hop => by
      rcases (by simpa using hop : op = ({ g := 0, fn := a.frame.fn, pos := a.frame.place, act := .go gs'.size } : MemOp) ∨ op = { g := gs'.size, fn := child.frame.fn, pos := a.frame.place, act := .start }) with rfl | rfl <;> simp)]
    exact Deaf_other t' (by omega) _ (ops_g 0 _ _ _)
  have g0 : ((gs'.setIfInBounds 0 a').push child)[0]? = some a' := by
    rw [Array.getElem?_push, if_neg (by simp; omega)]
    exact set_get l0
  have gk : ((gs'.setIfInBounds 0 a').push child)[gs'.size]? = some child := by rw [Array.getElem?_push, if_pos (by simp)]
  have key := phase (P := P) (k := gs'.size) (c := c) (Sh := fun x => x < w.heap.size ∧ x ≠ c) (Fin := fun g _ w' => ∃ O', Walks P true NoSh Stop g O' w') (n := gs'.size + 1) _ _ _
    (.opn (sl := sl') (gs := (gs'.setIfInBounds 0 a').push child) (q := q') (a := a') (b := child) (Om := NoSh) (Ow := NoSh) (s := s) (r := r) (tm := tm) hsz g0 gk hk (.walk hT1) (.walk hT2) (.inl (recvsT_run hT1)) ⟨fun i x h1 h2 hx => ?_, fun j hj => ?_⟩
      ⟨fun _ h => h.elim, fun _ h => h.elim, fun _ h => h.elim, id, id, fun h => h.2 rfl, fun _ h => h.elim, fun _ h => h.elim, fun _ h => h.1, lt_heap hc⟩ hc htr)
  · obtain ⟨N, m', t2, hrun, gs2, g2, w2, sl2, q2, O2, rfl, _, h02, lv2, past2, O3, hW⟩ := key
    exact Comes'.trans hrun (walk_stands hW h02 lv2 past2)
  · rw [hdo i h1 h2]
    refine lv'.old i x (by omega) ?_
    rw [Array.getElem?_push] at hx
    simp only [Array.size_setIfInBounds, h2, if_false] at hx
    rw [Array.getElem?_setIfInBounds_ne (Ne.symm h1)] at hx
    exact hx
  · rw [hsz] at hj
    rw [hdo j (by omega) (by omega)]
    exact lv'.above j (by omega)
omit [Low] in
/-- a walk to a go statement, and from it on -/
theorem goes_on {gs : Array Goroutine} {a : Goroutine} {O : Nat → Prop} {w : World} {sl : Option (Nat × Nat)} {t : Trace} {q : Nat → Nat} (h : Walks P true NoSh (AtGoW P Stop) a O w) (h0 : gs[0]? = some a) (lv : Leavers P t gs q) (past : PastW t) : Comes' P (Stands P Stop) (crowd gs w sl) t := by
  obtain ⟨N, m', t', hrun, gs1, a1, w1, sl1, q1, O1, rfl, h01, lv1, past1, hgo⟩ := walk_stands h (sl := sl) h0 lv past
  exact Comes'.trans hrun (go_phase hgo h01 lv1 past1)
end
end Go.Proofs.Ytjgkignnfkbeaaa.Sim

/-
  Calls in company: with plain values; that give a value with memory of its own; that take one.
-/
namespace Go.Proofs.Ytjgkignnfkbeaaa.Sim
open Go Go.Conc
set_option linter.unusedVariables false
/-- no special block -/
instance low0 : Low := ⟨false, 0, 0, .number ⟨0, 0, none⟩ false⟩
theorem spc0 (b : Nat) : ¬ Spc b := fun h => by cases h.1

def noRen : Ren := fun _ => none
theorem le_no (σ : Ren) : le noRen σ := fun a x h => by cases h
/-- the empty memory beside a world -/
def bare (W : World) : World := { W with heap := #[] }
theorem wrel_bare (W : World) : WRel noRen (on (bare W) W.tape W.drawn) W := ⟨fun a b x h => (by cases h), fun a x h => (by cases h), fun a x h => (by cases h), fun h => (by cases h), fun a o h => (by simp [bare, on] at h), rfl, rfl⟩
theorem wrel_bare' (W : World) : WRel noRen (bare W) (bare W) := ⟨fun a b x h => (by cases h), fun a x h => (by cases h), fun a x h => (by cases h), fun h => (by cases h), fun a o h => (by simp [bare] at h), rfl, rfl⟩
/-- a value that holds no address -/
def Plain' (v : Value) : Prop := ∀ σ, VRel σ v v ∧ ∀ v', VRel σ v v' → v' = v
theorem plain_int (k : IntKind) (n : Int) : Plain' (.int k n) := fun σ => ⟨.int k n, fun v' h => by cases h; rfl⟩
theorem plain_bool (b : Bool) : Plain' (.bool b) := fun σ => ⟨.bool b, fun v' h => by cases h; rfl⟩
theorem plain_agg {a : Array Value} (h : ∀ (i : Nat) (v : Value), a[i]? = some v → Plain' v) : Plain' (.agg a) := by
  refine fun σ => ⟨.agg rfl fun i h1 h2 => (h i _ (Array.getElem?_eq_getElem h1) σ).1, fun v' hv => ?_⟩
  cases hv with
  | @agg _ a' hs hh =>
    congr 1
    refine Array.ext hs.symm fun i h1 h2 => ?_
    exact (h i _ (Array.getElem?_eq_getElem h2) σ).2 _ (hh i h2 h1)
theorem plain_two (k k' : IntKind) (m n : Int) : Plain' (.agg #[.int k m, .int k' n]) := by
  refine plain_agg fun i v hv => ?_
  match i, hv with
  | 0, hv => simp at hv; subst hv; exact plain_int _ _
  | 1, hv => simp at hv; subst hv; exact plain_int _ _
  | i + 2, hv => simp at hv

/-- a value whose memory is own: it is the image of one of which R holds, alone -/
def Held (R : Value → World → Prop) (v' : Value) (O : Nat → Prop) (W : World) : Prop :=
  ∃ σ ρ2 w2 v, R v w2 ∧ VRel ρ2 v v ∧ WRel ρ2 w2 w2 ∧ VRel σ v v' ∧ WRel σ (on w2 W.tape W.drawn) W ∧ ∀ a x, σ a = some x → O x
theorem Held.rely {R : Value → World → Prop} {v' : Value} {O Q : Nat → Prop} {W W₁ : World} (h : Held R v' O W) (hr : Rely Q W W₁) (hs : ∀ x, O x → Q x) : Held R v' O W₁ := by
  obtain ⟨σ, ρ2, w2, v, h1, h2, h3, h4, h5, h6⟩ := h
  exact ⟨σ, ρ2, w2, v, h1, h2, h3, h4, wrel_rely h5 h6 (hr.sub hs), h6⟩
theorem Held.sub {R : Value → World → Prop} {v' : Value} {O O' : Nat → Prop} {W : World} (h : Held R v' O W) (hs : ∀ x, O x → O' x) : Held R v' O' W := by
  obtain ⟨σ, ρ2, w2, v, h1, h2, h3, h4, h5, h6⟩ := h
  exact ⟨σ, ρ2, w2, v, h1, h2, h3, h4, h5, fun a x hx => hs x (h6 a x hx)⟩

section
variable {P : Program} {F : FuncId → Bool} {K0 : FuncId} {main : Bool} {Sh : Nat → Prop} {Stop : Goroutine → (Nat → Prop) → World → Prop} {f : FuncId} {O : Nat → Prop} {W : World} {fc : Frame} {cs : List Frame} {args : Array Value}

theorem arel_plain {args : Array Value} (h : ∀ (i : Nat) (v : Value), args[i]? = some v → Plain' v) (σ : Ren) : ARel σ args args :=
  ⟨rfl, fun i h1 h2 => (h i _ (Array.getElem?_eq_getElem h1) σ).1⟩

/-- a call that is handed plain values and gives one -/
theorem walks_plain (hG0 : Good P P F K0) (hK0 : F K0 = false) (hF : F f = true) (ha : ∀ (i : Nat) (v : Value), args[i]? = some v → Plain' v) {v : Value} (hv : Plain' v) (hi : ∀ x, O x → x < W.heap.size) (hsh : ∀ x, Sh x → x < W.heap.size ∧ ¬ O x)
    (hc : ∀ w, Calls P f args w fun e w' => e = .returned v)
    (hk : ∀ W2 O2, (∀ x, O x → O2 x) → (∀ x, O2 x → x < W2.heap.size) → (∀ x, O2 x → O x ∨ W.heap.size ≤ x) → Rely (fun x => Sh x ∨ O x) W W2 → Walks P main Sh Stop (G (fc.finish v) cs) O2 W2) :
    Walks P main Sh Stop (G (Frame.enter P f args .normal) (fc :: cs)) O W := by
  refine walks_call hG0 hK0 hF (R := fun x _ => x = v) (fun _ _ _ _ h => h) (arel_plain ha noRen) (arel_plain ha noRen) (wrel_bare' W) (wrel_bare W) (fun a x h => by cases h) hi hsh (fun τ d => (hc _).mono fun e w' h => ⟨v, h, rfl⟩) fun x v' σ w2 W2 O2 hx _ hvr _ _ h1 _ h3 h4 h5 => ?_
  subst hx
  rw [(hv σ).2 v' hvr]
  exact hk W2 O2 h1 h3 h4 (h5.sub fun x hx => ⟨hx, fun a e => by cases e⟩)
/-- a call that is handed plain values and gives one with memory of its own -/
theorem walks_gives (hG0 : Good P P F K0) (hK0 : F K0 = false) (hF : F f = true) (ha : ∀ (i : Nat) (v : Value), args[i]? = some v → Plain' v) {R : Value → World → Prop} (hR : ∀ v w τ d, R v w → R v (on w τ d)) (hi : ∀ x, O x → x < W.heap.size) (hsh : ∀ x, Sh x → x < W.heap.size ∧ ¬ O x)
    (hc : ∀ w, Calls P f args w fun e w' => ∃ v, e = .returned v ∧ R v w')
    (hk : ∀ v' W2 O2, Held R v' O2 W2 → (∀ x, O x → O2 x) → (∀ x, O2 x → x < W2.heap.size) → (∀ x, O2 x → O x ∨ W.heap.size ≤ x) → Rely (fun x => Sh x ∨ O x) W W2 → Walks P main Sh Stop (G (fc.finish v') cs) O2 W2) :
    Walks P main Sh Stop (G (Frame.enter P f args .normal) (fc :: cs)) O W := by
  refine walks_call hG0 hK0 hF hR (arel_plain ha noRen) (arel_plain ha noRen) (wrel_bare' W) (wrel_bare W) (fun a x h => by cases h) hi hsh (fun τ d => hc _) fun x v' σ w2 W2 O2 hx hself hvr hw2 _ h1 h2 h3 h4 h5 => ?_
  obtain ⟨ρ2, s1, s2⟩ := hself
  exact hk v' W2 O2 ⟨σ, ρ2, w2, x, hx, s1, s2, hvr, hw2.on W2.tape W2.drawn, h2⟩ h1 h3 h4 (h5.sub fun x hx => ⟨hx, fun a e => by cases e⟩)
/-- a call that is handed a plain value and one with memory of its own, and gives a plain one -/
theorem walks_takes (hG0 : Good P P F K0) (hK0 : F K0 = false) (hF : F f = true) {p v' u : Value} (hp : Plain' p) (hu : Plain' u) {R : Value → World → Prop} (hR : ∀ v w τ d, R v w → R v (on w τ d)) (hh : Held R v' O W) (hi : ∀ x, O x → x < W.heap.size) (hsh : ∀ x, Sh x → x < W.heap.size ∧ ¬ O x)
    (hc : ∀ v w, R v w → Calls P f #[p, v] w fun e w' => e = .returned u)
    (hk : ∀ W2 O2, (∀ x, O x → O2 x) → (∀ x, O2 x → x < W2.heap.size) → (∀ x, O2 x → O x ∨ W.heap.size ≤ x) → Rely Sh W W2 → Walks P main Sh Stop (G (fc.finish u) cs) O2 W2) :
    Walks P main Sh Stop (G (Frame.enter P f #[p, v'] .normal) (fc :: cs)) O W := by
  obtain ⟨σ, ρ2, w2, v, h1, h2, h3, h4, h5, h6⟩ := hh
  refine walks_call hG0 hK0 hF (R := fun x _ => x = u) (fun _ _ _ _ h => h) (args := #[p, v]) (ARel.two (hp σ).1 h4) (ARel.two (hp ρ2).1 h2) h3 h5 h6 hi hsh (fun τ d => (hc v _ (hR v w2 τ d h1)).mono fun e w' h => ⟨u, h, rfl⟩) fun x v' σ w2 W2 O2 hx _ hvr _ _ h1 _ h3 h4 h5' => ?_
  subst hx
  rw [(hu σ).2 v' hvr]
  exact hk W2 O2 h1 h3 h4 (h5'.sub fun x hx => ⟨.inl hx, fun a e => (hsh x hx).2 (h6 a x e)⟩)
end
end Go.Proofs.Ytjgkignnfkbeaaa.Sim
