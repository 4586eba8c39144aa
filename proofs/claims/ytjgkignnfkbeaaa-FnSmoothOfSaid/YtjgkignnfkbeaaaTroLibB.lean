/-
  Plain mathematics of voices: the least way of all pairings is that of a turn; a step of one tone changes it by at most 1; some step makes it less.
-/
import Derived.Test.YtjgkignnfkbeaaaTroLib
import Derived.Deep.RegionHeld3
import Derived.Deep.Cut
import Derived.Deep.QuietTactic
import Derived.BigQuiet
import Derived.WalkLawsBesides
import Derived.OpenShut
namespace Go.Proofs.YtjgkignnfkbeaaaTro
set_option linter.unusedVariables false

/-- the sum of the first k numbers -/
def smv (f : Nat → Nat) : Nat → Nat
  | 0 => 0
  | k + 1 => smv f k + f k
theorem smv_congr {f g : Nat → Nat} : ∀ k, (∀ i, i < k → f i = g i) → smv f k = smv g k
  | 0, _ => rfl
  | k + 1, h => by
    unfold smv
    rw [smv_congr k (fun i hi => h i (by omega)), h k (by omega)]
theorem smv_upd {f g : Nat → Nat} {l : Nat} : ∀ k, l < k → (∀ i, i < k → i ≠ l → f i = g i) → smv f k + g l = smv g k + f l
  | 0, hl, _ => by omega
  | k + 1, hl, h => by
    unfold smv
    by_cases e : l = k
    · subst e
      rw [smv_congr (f := f) (g := g) l (fun i hi => h i (by omega) (by omega))]; omega
    · have := smv_upd k (by omega) (fun i hi hn => h i (by omega) hn)
      rw [h k (by omega) (fun q => e q.symm)]; omega
theorem smv_le1 {f g : Nat → Nat} {l k : Nat} (hl : l < k) (h : ∀ i, i < k → i ≠ l → f i = g i) (h1 : f l ≤ g l + 1) : smv f k ≤ smv g k + 1 := by
  have := smv_upd (f := f) (g := g) k hl h
  omega
theorem smv_head (f : Nat → Nat) : ∀ k, smv f (k + 1) = f 0 + smv (fun i => f (i + 1)) k
  | 0 => by simp [smv]
  | k + 1 => by
    rw [smv, smv_head f k]
    show _ = f 0 + (smv (fun i => f (i + 1)) k + f (k + 1))
    omega
theorem smv_rot1 (f : Nat → Nat) : ∀ k, smv (fun i => f ((i + 1) % k)) k = smv f k
  | 0 => rfl
  | k + 1 => by
    rw [smv_head f k]
    show smv (fun i => f ((i + 1) % (k + 1))) k + f ((k + 1) % (k + 1)) = _
    rw [Nat.mod_self, smv_congr (g := fun i => f (i + 1)) k (fun i hi => by show f _ = f _; rw [Nat.mod_eq_of_lt (by omega)]), Nat.add_comm]
theorem smv_rot (f : Nat → Nat) (k : Nat) : ∀ j, smv (fun i => f ((i + j) % k)) k = smv f k
  | 0 => smv_congr k (fun i hi => by show f _ = _; rw [Nat.add_zero, Nat.mod_eq_of_lt hi])
  | j + 1 => by
    rw [← smv_rot f k j, ← smv_rot1 (fun i => f ((i + j) % k)) k]
    refine smv_congr k (fun i hi => ?_)
    show f _ = f _
    congr 1
    rw [Nat.mod_add_mod, Nat.add_assoc, Nat.add_comm 1 j]
theorem smv_zero {f : Nat → Nat} : ∀ k, (∀ i, i < k → f i = 0) → smv f k = 0
  | 0, _ => rfl
  | k + 1, h => by unfold smv; rw [smv_zero k (fun i hi => h i (by omega)), h k (by omega)]

theorem apt_self : ∀ n, n < 13 → ∀ x, x < n → Tic.apt n x x = 0 := by decide +kernel
theorem apt_symm : ∀ n, n < 13 → ∀ x, x < n → ∀ y, y < n → Tic.apt n x y = Tic.apt n y x := by decide +kernel
theorem apt_eq : ∀ n, n < 13 → ∀ x, x < n → ∀ y, y < n → Tic.apt n x y = 0 → x = y := by decide +kernel
theorem apt_up : ∀ n, n < 13 → ∀ x, x < n → ∀ y, y < n → Tic.apt n (Tic.up n x) y ≤ Tic.apt n x y + 1 ∧ Tic.apt n x y ≤ Tic.apt n (Tic.up n x) y + 1 := by decide +kernel
theorem apt_dn : ∀ n, n < 13 → ∀ x, x < n → ∀ y, y < n → Tic.apt n (Tic.dn n x) y ≤ Tic.apt n x y + 1 ∧ Tic.apt n x y ≤ Tic.apt n (Tic.dn n x) y + 1 := by decide +kernel
theorem apt_step : ∀ n, n < 13 → ∀ x, x < n → ∀ y, y < n → x ≠ y → Tic.apt n (Tic.up n x) y + 1 = Tic.apt n x y ∨ Tic.apt n (Tic.dn n x) y + 1 = Tic.apt n x y := by decide +kernel

/-- x tells the tones of A, k of them, each once -/
structure En (n A k : Nat) (x : Nat → Nat) : Prop where
  lt : ∀ i, i < k → x i < n
  bit : ∀ i, i < k → A.testBit (x i) = true
  on : ∀ p, p < n → A.testBit p = true → ∃ i, i < k ∧ x i = p
  inj : ∀ i j, i < k → j < k → x i = x j → i = j
/-- a step of one tone -/
def Stp (n A p q : Nat) : Prop := p < n ∧ q < n ∧ A.testBit p = true ∧ A.testBit q = false ∧ (q = Tic.up n p ∨ q = Tic.dn n p)
/-- how far voices go by a pairing -/
def ways (n : Nat) (x y : Nat → Nat) (k : Nat) : Nat := smv (fun i => Tic.apt n (x i) (y i)) k
theorem dsc {n A B k : Nat} {y : Nat → Nat} (hn : n < 13) (hy : En n B k y) : ∀ (d : Nat) (x : Nat → Nat) (l : Nat), En n A k x → l < k → Tic.apt n (x l) (y l) = d → A.testBit (y l) = false →
    ∃ p q x', Stp n A p q ∧ En n (Tic.mv1 A p q) k x' ∧ ways n x' y k + 1 ≤ ways n x y k
  | 0, x, l, hx, hl, hd, hb => by
    have e := apt_eq n hn _ (hx.lt l hl) _ (hy.lt l hl) hd
    have := hx.bit l hl
    rw [e, hb] at this; cases this
  | d + 1, x, l, hx, hl, hd, hb => by
    have hxl := hx.lt l hl
    have hyl := hy.lt l hl
    have hne : x l ≠ y l := fun e => by have := hx.bit l hl; rw [e, hb] at this; cases this
    obtain ⟨q, hq, hqn, hqd, hqa⟩ : ∃ q, (q = Tic.up n (x l) ∨ q = Tic.dn n (x l)) ∧ q < n ∧ Tic.apt n q (y l) = d ∧ (∀ z, z < n → Tic.apt n (x l) z ≤ Tic.apt n q z + 1) := by
      rcases apt_step n hn _ hxl _ hyl hne with h | h
      · exact ⟨_, .inl rfl, Tic.up_lt hxl, by omega, fun z hz => (apt_up n hn _ hxl z hz).2⟩
      · exact ⟨_, .inr rfl, Tic.dn_lt hxl, by omega, fun z hz => (apt_dn n hn _ hxl z hz).2⟩
    have hqx : q ≠ x l := fun e => by rw [e, hd] at hqd; omega
    cases hA : A.testBit q with
    | false =>
      refine ⟨x l, q, fun i => if i = l then q else x i, ⟨hxl, hqn, hx.bit l hl, hA, hq⟩, ⟨fun i hi => ?_, fun i hi => ?_, fun p hp hpb => ?_, fun i j hi hj e => ?_⟩, ?_⟩
      · by_cases e : i = l
        · simp only [e, if_true]; exact hqn
        · simp only [e, if_false]; exact hx.lt i hi
      · by_cases e : i = l
        · simp only [e, if_true]; rw [Tic.mv1_bit]; simp
        · simp only [e, if_false]; rw [Tic.mv1_bit, hx.bit i hi]
          have : x l ≠ x i := fun q => e (hx.inj i l hi hl q.symm)
          simp [this]
      · rw [Tic.mv1_bit] at hpb
        by_cases e : q = p
        · exact ⟨l, hl, by simp [e]⟩
        · simp [e] at hpb
          obtain ⟨i, hi, hip⟩ := hx.on p hp hpb.1
          refine ⟨i, hi, ?_⟩
          have : i ≠ l := fun q => hpb.2 (by rw [← q]; exact hip)
          simp [this, hip]
      · have hq0 : ∀ i, i < k → x i ≠ q := fun i hi q' => by have := hx.bit i hi; rw [q', hA] at this; cases this
        by_cases e1 : i = l <;> by_cases e2 : j = l
        · omega
        · simp only [e1, e2, if_true, if_false] at e; exact absurd e.symm (hq0 j hj)
        · simp only [e1, e2, if_true, if_false] at e; exact absurd e (hq0 i hi)
        · simp only [e1, e2, if_false] at e; exact hx.inj i j hi hj e
      · have := smv_upd (f := fun i => Tic.apt n (if i = l then q else x i) (y i)) (g := fun i => Tic.apt n (x i) (y i)) (l := l) k hl (fun i hi hn => by simp [hn])
        simp only [if_true] at this
        show smv (fun i => Tic.apt n (if i = l then q else x i) (y i)) k + 1 ≤ smv (fun i => Tic.apt n (x i) (y i)) k
        omega
    | true =>
      obtain ⟨m, hm, hmq⟩ := hx.on q hqn hA
      have hml : m ≠ l := fun e => hqx (by rw [← e]; exact hmq.symm)
      have hEn : En n A k (fun i => if i = l then q else if i = m then x l else x i) := by
        refine ⟨fun i hi => ?_, fun i hi => ?_, fun p hp hpb => ?_, fun i j hi hj e => ?_⟩
        · by_cases e : i = l
          · simp only [e, if_true]; exact hqn
          · by_cases e2 : i = m
            · simp only [e, e2, hml, if_true, if_false]; exact hxl
            · simp only [e, e2, if_false]; exact hx.lt i hi
        · by_cases e : i = l
          · simp only [e, if_true]; exact hA
          · by_cases e2 : i = m
            · simp only [e, e2, hml, if_true, if_false]; exact hx.bit l hl
            · simp only [e, e2, if_false]; exact hx.bit i hi
        · obtain ⟨i, hi, hip⟩ := hx.on p hp hpb
          by_cases e : i = l
          · exact ⟨m, hm, by simp only [hml, if_true, if_false]; rw [← e]; exact hip⟩
          · by_cases e2 : i = m
            · exact ⟨l, hl, by simp only [if_true]; rw [← hmq, ← e2]; exact hip⟩
            · exact ⟨i, hi, by simp only [e, e2, if_false]; exact hip⟩
        · have hI := hx.inj
          by_cases i1 : i = l <;> by_cases j1 : j = l
          · omega
          · by_cases j2 : j = m
            · simp only [i1, j1, j2, hml, if_true, if_false] at e; exact absurd e hqx
            · simp only [i1, j1, j2, if_true, if_false] at e
              exact absurd (hI m j hm hj (hmq.trans e)) (fun q => j2 q.symm)
          · by_cases i2 : i = m
            · simp only [i1, j1, i2, hml, if_true, if_false] at e; exact absurd e.symm hqx
            · simp only [i1, j1, i2, if_true, if_false] at e
              exact absurd (hI i m hi hm (e.trans hmq.symm)) i2
          · by_cases i2 : i = m <;> by_cases j2 : j = m
            · omega
            · simp only [i1, j1, i2, j2, hml, if_true, if_false] at e
              exact absurd (hI l j hl hj e) (fun q => j1 q.symm)
            · simp only [i1, j1, i2, j2, hml, if_true, if_false] at e
              exact absurd (hI i l hi hl e) i1
            · simp only [i1, j1, i2, j2, if_false] at e; exact hI i j hi hj e
      obtain ⟨p, q', x', h1, h2, h3⟩ := dsc hn hy d _ l hEn hl (by simp only [if_true]; exact hqd) hb
      refine ⟨p, q', x', h1, h2, ?_⟩
      have u1 := smv_upd (f := fun i => Tic.apt n (if i = l then q else x i) (y i)) (g := fun i => Tic.apt n (x i) (y i)) (l := l) k hl (fun i hi hn => by simp [hn])
      have u2 := smv_upd (f := fun i => Tic.apt n (if i = l then q else if i = m then x l else x i) (y i)) (g := fun i => Tic.apt n (if i = l then q else x i) (y i)) (l := m) k hm (fun i hi hn => by simp [hn])
      simp only [if_true, hml, if_false] at u1 u2
      rw [hmq] at u2
      have := hqa (y m) (hy.lt m hm)
      replace h3 : ways n x' y k + 1 ≤ smv (fun i => Tic.apt n (if i = l then q else if i = m then x l else x i) (y i)) k := h3
      show ways n x' y k + 1 ≤ smv (fun i => Tic.apt n (x i) (y i)) k
      omega
theorem mem_tonesN (S : Nat) (y : Int) : ∀ k, y ∈ tonesTo S k ↔ ∃ x, x < k ∧ S.testBit x = true ∧ y = ((x : Nat) : Int)
  | 0 => by simp [tonesTo]
  | k + 1 => by
    have ih := mem_tonesN S y k
    cases h : S.testBit k
    · rw [tonesTo_no h, ih]
      constructor
      · rintro ⟨m, h1, h2, h3⟩; exact ⟨m, by omega, h2, h3⟩
      · rintro ⟨m, h1, h2, h3⟩
        by_cases e : m = k
        · subst e; rw [h] at h2; cases h2
        · exact ⟨m, by omega, h2, h3⟩
    · rw [tonesTo_yes h, List.mem_append, ih]
      constructor
      · rintro (⟨m, h1, h2, h3⟩ | h1)
        · exact ⟨m, by omega, h2, h3⟩
        · exact ⟨k, by omega, h, by simpa using h1⟩
      · rintro ⟨m, h1, h2, h3⟩
        by_cases e : m = k
        · subst e; exact .inr (by simp [h3])
        · exact .inl ⟨m, by omega, h2, h3⟩
theorem asc_tonesN (S : Nat) : ∀ k, (tonesTo S k).Pairwise (· < ·)
  | 0 => List.Pairwise.nil
  | k + 1 => by
    have ih := asc_tonesN S k
    cases h : S.testBit k
    · rw [tonesTo_no h]; exact ih
    · rw [tonesTo_yes h, List.pairwise_append]
      refine ⟨ih, List.pairwise_singleton _ _, fun a ha b hb => ?_⟩
      obtain ⟨m, h1, _, rfl⟩ := (mem_tonesN S a k).1 ha
      simp at hb
      omega
/-- the tones of A, by place -/
def tn (A n : Nat) (i : Nat) : Nat := ((tonesTo A n).getD i 0).toNat
theorem en_tones (A n : Nat) : En n A (tonesTo A n).length (tn A n) := by
  refine ⟨fun i hi => ?_, fun i hi => ?_, fun p hp hb => ?_, fun i j hi hj e => ?_⟩
  · obtain ⟨y, h1, h2, h3, h4⟩ := tonesTo_at A n i hi
    unfold tn; rw [h3]; exact h1
  · obtain ⟨y, h1, h2, h3, h4⟩ := tonesTo_at A n i hi
    unfold tn; rw [h3]; exact h2
  · have hm := (mem_tonesN A (p : Int) n).2 ⟨p, hp, hb, rfl⟩
    obtain ⟨i, hi, e⟩ := List.getElem_of_mem hm
    refine ⟨i, hi, ?_⟩
    unfold tn
    rw [List.getD_eq_getElem?_getD, List.getElem?_eq_getElem hi, e]; rfl
  · obtain ⟨y, h1, h2, h3, h4⟩ := tonesTo_at A n i hi
    obtain ⟨y', h1', h2', h3', h4'⟩ := tonesTo_at A n j hj
    unfold tn at e
    rw [h3, h3'] at e
    have : y = y' := by simpa using e
    subst this
    rw [← h4, ← h4']
theorem en_rot {n B k : Nat} {y : Nat → Nat} (h : En n B k y) (j : Nat) : En n B k (fun i => y ((i + j) % k)) := by
  rcases Nat.eq_zero_or_pos k with rfl | hk
  · exact ⟨fun i hi => absurd hi (by omega), fun i hi => absurd hi (by omega), fun p hp hb => by obtain ⟨i, hi, _⟩ := h.on p hp hb; omega, fun i j hi => absurd hi (by omega)⟩
  · refine ⟨fun i hi => h.lt _ (Nat.mod_lt _ hk), fun i hi => h.bit _ (Nat.mod_lt _ hk), fun p hp hb => ?_, fun a b ha hb e => ?_⟩
    · obtain ⟨i, hi, e⟩ := h.on p hp hb
      refine ⟨(i + (k - j % k)) % k, Nat.mod_lt _ hk, ?_⟩
      have hj : j % k < k := Nat.mod_lt _ hk
      have : ((i + (k - j % k)) % k + j) % k = i := by
        rw [Nat.mod_add_mod, ← Nat.add_mod_mod (i + (k - j % k)) j, show i + (k - j % k) + j % k = i + k by omega, Nat.add_mod_right, Nat.mod_eq_of_lt hi]
      rw [this]; exact e
    · have := h.inj _ _ (Nat.mod_lt _ hk) (Nat.mod_lt _ hk) e
      have h1 : (a + j) % k = (b + j) % k := this
      have h2 : ∀ c, c < k → ((c + j) % k + (k - j % k)) % k = c := fun c hc => by
        have hj : j % k < k := Nat.mod_lt _ hk
        rw [Nat.mod_add_mod, show c + j + (k - j % k) = c + (k - j % k) + j by omega, ← Nat.add_mod_mod (c + (k - j % k)) j, show c + (k - j % k) + j % k = c + k by omega, Nat.add_mod_right, Nat.mod_eq_of_lt hc]
      rw [← h2 a ha, ← h2 b hb, h1]
/-- how far voices go by a turn -/
def rc (n A B : Nat) (j : Nat) : Nat := ways n (tn A n) (fun i => tn B n ((i + j) % (tonesTo A n).length)) (tonesTo A n).length
theorem rc_mod (n A B j : Nat) : rc n A B (j % (tonesTo A n).length) = rc n A B j := by
  unfold rc ways
  refine smv_congr _ fun i hi => ?_
  show Tic.apt _ _ (tn B n _) = Tic.apt _ _ (tn B n _)
  rw [Nat.add_mod_mod]
theorem far_smv (n : Nat) (L M : List Int) : ∀ k, farTo n L M k = smv (fun i => Tic.apt n (L.getD i 0).toNat (M.getD i 0).toNat) k
  | 0 => rfl
  | k + 1 => by unfold farTo smv; rw [far_smv n L M k]
theorem far_rc {n A B j : Nat} (hl : (tonesTo A n).length = (tonesTo B n).length) (hj : j < (tonesTo A n).length) : farTo n (tonesTo A n) (rotL (tonesTo B n) j) (tonesTo A n).length = rc n A B j := by
  rw [far_smv]
  unfold rc ways
  refine smv_congr _ fun i hi => ?_
  show Tic.apt _ _ _ = Tic.apt _ (tn A n i) (tn B n _)
  unfold tn
  rw [rotL_at _ (by omega) (by omega), hl]
/-- how far voices go at least -/
def dst (n A B : Nat) : Nat := (prF n (tonesTo A n) (tonesTo B n) (tonesTo A n).length).1
theorem prF_least {n : Nat} {L M : List Int} : ∀ j i, i < j → (prF n L M j).1 ≤ farTo n L (rotL M i) L.length
  | j + 1, i, h => by
    by_cases q : farTo n L (rotL M j) L.length < (prF n L M j).1
    · rw [prF_yes q]
      by_cases e : i = j
      · rw [e]; exact Nat.le_refl _
      · exact Nat.le_trans (Nat.le_of_lt q) (prF_least j i (by omega))
    · rw [prF_no q]
      by_cases e : i = j
      · rw [e]; omega
      · exact prF_least j i (by omega)
theorem prF_some {n : Nat} {L M : List Int} (h : farTo n L (rotL M 0) L.length < n * n) : ∀ j, ∃ i, i ≤ j ∧ (prF n L M (j + 1)).1 = farTo n L (rotL M i) L.length
  | 0 => ⟨0, Nat.le_refl _, by rw [prF_yes (j := 0) h]⟩
  | j + 1 => by
    by_cases q : farTo n L (rotL M (j + 1)) L.length < (prF n L M (j + 1)).1
    · exact ⟨j + 1, Nat.le_refl _, by rw [prF_yes (j := j + 1) q]⟩
    · obtain ⟨i, hi, e⟩ := prF_some h j
      exact ⟨i, by omega, by rw [prF_no (j := j + 1) q]; exact e⟩
theorem dst_le {n A B : Nat} (hl : (tonesTo A n).length = (tonesTo B n).length) (h0 : 0 < (tonesTo A n).length) (j : Nat) : dst n A B ≤ rc n A B j := by
  rw [← rc_mod]
  have hj := Nat.mod_lt j h0
  rw [← far_rc hl hj]
  exact prF_least _ _ hj
theorem dst_is {n A B : Nat} (hn : 1 ≤ n) (hl : (tonesTo A n).length = (tonesTo B n).length) (h0 : 0 < (tonesTo A n).length) : ∃ j, dst n A B = rc n A B j := by
  have hle := tonesTo_le A n
  have hfar := farTo_le (n := n) hn (tonesTo A n) (rotL (tonesTo B n) 0) (tonesTo A n).length
  have hmul := Nat.mul_le_mul_right n hle
  have hnn : 0 < n * n := Nat.mul_pos (by omega) (by omega)
  obtain ⟨i, hi, e⟩ := prF_some (n := n) (L := tonesTo A n) (M := tonesTo B n) (by omega) ((tonesTo A n).length - 1)
  rw [show (tonesTo A n).length - 1 + 1 = (tonesTo A n).length by omega] at e
  exact ⟨i, by unfold dst; rw [e, far_rc hl (by omega)]⟩
end Go.Proofs.YtjgkignnfkbeaaaTro

/-
  Plain mathematics of voices: a step of one tone changes the least way by at most 1; all pairings go at least that far; some step makes it less.
-/
namespace Go.Proofs.YtjgkignnfkbeaaaTro
set_option linter.unusedVariables false

theorem getD_toNat_map {L : List Int} {f : Int → Int} {i : Nat} (h : i < L.length) : ((L.map f).getD i 0) = f (L.getD i 0) := by
  rw [List.getD_eq_getElem?_getD, List.getD_eq_getElem?_getD, List.getElem?_map, List.getElem?_eq_getElem h]; rfl
theorem up_cases {n p : Nat} (hp : p < n) : (p + 1 < n ∧ Tic.up n p = p + 1) ∨ (p + 1 = n ∧ Tic.up n p = 0) := by
  unfold Tic.up
  split
  · exact .inr ⟨‹_›, rfl⟩
  · exact .inl ⟨by omega, rfl⟩
/-- a step up: the tones stand as before, one of them further, and in turn -/
theorem up_turn {n A p : Nat} (hp : p < n) (h2 : 2 ≤ n) (hA : A.testBit p = true) (hq : A.testBit (Tic.up n p) = false) :
    (tonesTo (Tic.mv1 A p (Tic.up n p)) n).length = (tonesTo A n).length ∧ ∃ δ, ∀ i, i < (tonesTo A n).length → tn (Tic.mv1 A p (Tic.up n p)) n ((i + δ) % (tonesTo A n).length) = if tn A n i = p then Tic.up n p else tn A n i := by
  have HB := Tic.mv1_bit A p (Tic.up n p)
  have he := en_tones A n
  rcases up_cases hp with ⟨h1, hu⟩ | ⟨h1, hu⟩
  · rw [hu] at HB hq ⊢
    have hL : tonesTo (Tic.mv1 A p (p + 1)) n = (tonesTo A n).map (fun z => if z = (p : Int) then ((p + 1 : Nat) : Int) else z) := by
      refine asc_ext _ _ (asc_tonesN _ _) ?_ (fun y => ?_)
      · rw [List.pairwise_map]
        refine (asc_tonesN A n).imp_of_mem (fun {a b} ha hb hab => ?_)
        obtain ⟨u, hu1, hu2, rfl⟩ := (mem_tonesN A a n).1 ha
        obtain ⟨v, hv1, hv2, rfl⟩ := (mem_tonesN A b n).1 hb
        have hv : v ≠ p + 1 := fun e => by rw [e, hq] at hv2; cases hv2
        split <;> split <;> omega
      · rw [mem_tonesN, List.mem_map]
        constructor
        · rintro ⟨x, hx, hb, rfl⟩
          rw [HB] at hb
          by_cases e : p + 1 = x
          · exact ⟨(p : Int), (mem_tonesN A _ n).2 ⟨p, hp, hA, rfl⟩, by simp [← e]⟩
          · simp [e] at hb
            exact ⟨(x : Int), (mem_tonesN A _ n).2 ⟨x, hx, hb.1, rfl⟩, by rw [if_neg (fun q => hb.2 (by omega))]⟩
        · rintro ⟨a, ha, rfl⟩
          obtain ⟨x, hx, hb, rfl⟩ := (mem_tonesN A a n).1 ha
          by_cases e : x = p
          · exact ⟨p + 1, h1, by rw [HB]; simp, by rw [if_pos (by omega)]⟩
          · exact ⟨x, hx, by rw [HB, hb]; simp; left; omega, by rw [if_neg (by omega)]⟩
    refine ⟨by rw [hL, List.length_map], 0, fun i hi => ?_⟩
    rw [show i + 0 = i from rfl, Nat.mod_eq_of_lt hi]
    obtain ⟨y, y1, y2, y3, y4⟩ := tonesTo_at A n i hi
    unfold tn
    rw [hL, getD_toNat_map hi, y3]
    by_cases e : y = p
    · simp [e]
    · rw [if_neg (by omega), Int.toNat_natCast, if_neg e]
  · rw [hu] at HB hq ⊢
    obtain rfl : p = n - 1 := by omega
    obtain ⟨m, rfl⟩ : ∃ m, n = m + 1 := ⟨n - 1, by omega⟩
    rw [Nat.add_sub_cancel] at *
    have hL0 : tonesTo A (m + 1) = tonesTo A m ++ [(m : Int)] := tonesTo_yes hA
    have hL : tonesTo (Tic.mv1 A m 0) (m + 1) = 0 :: tonesTo A m := by
      refine asc_ext _ _ (asc_tonesN _ _) ?_ (fun y => ?_)
      · rw [List.pairwise_cons]
        refine ⟨fun b hb => ?_, asc_tonesN A m⟩
        obtain ⟨v, hv1, hv2, rfl⟩ := (mem_tonesN A b m).1 hb
        have hv : v ≠ 0 := fun e => by rw [e, hq] at hv2; cases hv2
        omega
      · rw [mem_tonesN, List.mem_cons, mem_tonesN]
        constructor
        · rintro ⟨x, hx, hb, rfl⟩
          rw [HB] at hb
          by_cases e : 0 = x
          · left; omega
          · simp [e] at hb
            right
            exact ⟨x, by omega, hb.1, rfl⟩
        · rintro (rfl | ⟨x, hx, hb, rfl⟩)
          · exact ⟨0, by omega, by rw [HB]; simp, rfl⟩
          · exact ⟨x, by omega, by rw [HB, hb]; simp; left; omega, rfl⟩
    have hk : (tonesTo A (m + 1)).length = (tonesTo A m).length + 1 := by rw [hL0]; simp
    refine ⟨by rw [hL, hk, List.length_cons], 1, fun i hi => ?_⟩
    unfold tn
    rw [hL, hL0]
    rw [hL0] at hi
    rw [List.length_append, List.length_singleton] at hi ⊢
    by_cases e : i < (tonesTo A m).length
    · rw [Nat.mod_eq_of_lt (by omega)]
      obtain ⟨y, y1, y2, y3, y4⟩ := tonesTo_at A m i e
      have e1 : (tonesTo A m ++ [(m : Int)]).getD i 0 = (y : Int) := by rw [List.getD_eq_getElem?_getD, List.getElem?_append_left e, ← List.getD_eq_getElem?_getD, y3]
      have e2 : (0 :: tonesTo A m).getD (i + 1) 0 = (y : Int) := by rw [List.getD_cons_succ, y3]
      rw [e1, e2, Int.toNat_natCast, if_neg (by omega)]
    · obtain rfl : i = (tonesTo A m).length := by omega
      rw [Nat.mod_self]
      have e1 : (tonesTo A m ++ [(m : Int)]).getD (tonesTo A m).length 0 = (m : Int) := by simp [List.getD_eq_getElem?_getD]
      rw [e1, Int.toNat_natCast, if_pos rfl]; rfl
/-- both ways, a turn of the one is as far as a turn of the other, give or take 1 -/
theorem up_rc {n A B p : Nat} (hn : n < 13) (h2 : 2 ≤ n) (hp : p < n) (hA : A.testBit p = true) (hq : A.testBit (Tic.up n p) = false) (hl : (tonesTo A n).length = (tonesTo B n).length) :
    ∃ δ, ∀ j, rc n (Tic.mv1 A p (Tic.up n p)) B j ≤ rc n A B (δ + j) + 1 ∧ rc n A B (δ + j) ≤ rc n (Tic.mv1 A p (Tic.up n p)) B j + 1 := by
  obtain ⟨e1, δ, e2⟩ := up_turn hp h2 hA hq
  have he := en_tones A n
  have hb := en_tones B n
  refine ⟨δ, fun j => ?_⟩
  obtain ⟨l, hl1, hl2⟩ := he.on p hp hA
  have hk : 0 < (tonesTo A n).length := by omega
  have key : rc n (Tic.mv1 A p (Tic.up n p)) B j = smv (fun i => Tic.apt n (if tn A n i = p then Tic.up n p else tn A n i) (tn B n ((i + (δ + j)) % (tonesTo A n).length))) (tonesTo A n).length := by
    unfold rc ways
    rw [e1, ← smv_rot _ _ δ]
    refine smv_congr _ fun i hi => ?_
    show Tic.apt n (tn (Tic.mv1 A p (Tic.up n p)) n ((i + δ) % (tonesTo A n).length)) (tn B n (((i + δ) % (tonesTo A n).length + j) % (tonesTo A n).length)) = _
    rw [e2 i hi, Nat.mod_add_mod, Nat.add_assoc]
  have hother : ∀ i, i < (tonesTo A n).length → i ≠ l → Tic.apt n (if tn A n i = p then Tic.up n p else tn A n i) (tn B n ((i + (δ + j)) % (tonesTo A n).length)) = Tic.apt n (tn A n i) (tn B n ((i + (δ + j)) % (tonesTo A n).length)) := fun i hi hne => by
    rw [if_neg (fun q => hne (he.inj i l hi hl1 (q.trans hl2.symm)))]
  have hz : tn B n ((l + (δ + j)) % (tonesTo A n).length) < n := hb.lt _ (by rw [← hl]; exact Nat.mod_lt _ hk)
  have hu := apt_up n hn p hp _ hz
  rw [key]
  unfold rc ways
  constructor
  · refine smv_le1 hl1 hother ?_
    show Tic.apt n (if tn A n l = p then Tic.up n p else tn A n l) _ ≤ Tic.apt n (tn A n l) _ + 1
    rw [hl2, if_pos rfl]; exact hu.1
  · refine smv_le1 hl1 (fun i hi hne => (hother i hi hne).symm) ?_
    show Tic.apt n (tn A n l) _ ≤ Tic.apt n (if tn A n l = p then Tic.up n p else tn A n l) _ + 1
    rw [hl2, if_pos rfl]; exact hu.2
theorem up_lip {n A B p : Nat} (hn : n < 13) (h2 : 2 ≤ n) (hp : p < n) (hA : A.testBit p = true) (hq : A.testBit (Tic.up n p) = false) (hl : (tonesTo A n).length = (tonesTo B n).length) :
    dst n (Tic.mv1 A p (Tic.up n p)) B ≤ dst n A B + 1 ∧ dst n A B ≤ dst n (Tic.mv1 A p (Tic.up n p)) B + 1 := by
  obtain ⟨δ, h⟩ := up_rc hn h2 hp hA hq hl
  obtain ⟨e1, _⟩ := up_turn hp h2 hA hq
  have he := en_tones A n
  obtain ⟨l, hl1, hl2⟩ := he.on p hp hA
  have hk : 0 < (tonesTo A n).length := by omega
  constructor
  · obtain ⟨j, hj⟩ := dst_is (by omega) hl hk
    have hd : δ % (tonesTo A n).length < (tonesTo A n).length := Nat.mod_lt _ hk
    have := (h (j + ((tonesTo A n).length - δ % (tonesTo A n).length))).1
    rw [← rc_mod n A B (δ + _), ← Nat.mod_add_mod, show δ % (tonesTo A n).length + (j + ((tonesTo A n).length - δ % (tonesTo A n).length)) = j + (tonesTo A n).length by omega, Nat.add_mod_right, rc_mod, ← hj] at this
    exact Nat.le_trans (dst_le (by omega) (by omega) _) this
  · obtain ⟨j, hj⟩ := dst_is (n := n) (A := Tic.mv1 A p (Tic.up n p)) (B := B) (by omega) (by omega) (by omega)
    have := (h j).2
    rw [← hj] at this
    exact Nat.le_trans (dst_le hl hk _) this
theorem mv1_back {A p q : Nat} (hp : A.testBit p = true) (hq : A.testBit q = false) : Tic.mv1 (Tic.mv1 A p q) q p = A := by
  refine Nat.eq_of_testBit_eq fun i => ?_
  rw [Tic.mv1_bit, Tic.mv1_bit]
  by_cases e1 : p = i
  · subst e1; simp [hp]
  · by_cases e2 : q = i
    · subst e2; simp [hq, e1]
    · simp [e1, e2]
theorem Stp.back {n A p q : Nat} (h : Stp n A p q) : Stp n (Tic.mv1 A p q) q p := by
  obtain ⟨h1, h2, h3, h4, h5⟩ := h
  have hne : p ≠ q := fun e => by rw [e, h4] at h3; cases h3
  refine ⟨h2, h1, by rw [Tic.mv1_bit]; simp, by rw [Tic.mv1_bit]; simp; exact fun e => hne e.symm, ?_⟩
  rcases h5 with rfl | e
  · right; exact (Tic.up_dn h2 h1).1 rfl
  · left; exact (Tic.up_dn h1 h2).2 e
/-- a step of one tone changes the least way by at most 1 -/
theorem stp_lip {n A B p q : Nat} (hn : n < 13) (h2 : 2 ≤ n) (h : Stp n A p q) (hl : (tonesTo A n).length = (tonesTo B n).length) :
    (tonesTo (Tic.mv1 A p q) n).length = (tonesTo A n).length ∧ dst n (Tic.mv1 A p q) B ≤ dst n A B + 1 ∧ dst n A B ≤ dst n (Tic.mv1 A p q) B + 1 := by
  have hb := h.back
  obtain ⟨h1, h3, h4, h5, h6⟩ := h
  rcases h6 with rfl | e
  · exact ⟨(up_turn h1 h2 h4 h5).1, up_lip hn h2 h1 h4 h5 hl⟩
  · obtain ⟨b1, b2, b3, b4, b5⟩ := hb
    have e' : p = Tic.up n q := (Tic.up_dn b2 b1).2 e
    have hk := mv1_back h4 h5
    generalize Tic.mv1 A p q = A' at *
    subst e'
    obtain ⟨t1, _⟩ := up_turn b1 h2 b3 b4
    rw [hk] at t1
    have := up_lip (B := B) hn h2 b1 b3 b4 (by omega)
    rw [hk] at this
    exact ⟨t1.symm, this.2, this.1⟩
theorem len_sub {a b : Nat} : ∀ f, (∀ i, i < f → b.testBit i = true → a.testBit i = true) → (tonesTo b f).length ≤ (tonesTo a f).length ∧ ((tonesTo b f).length = (tonesTo a f).length → ∀ i, i < f → a.testBit i = true → b.testBit i = true)
  | 0, _ => ⟨Nat.le_refl _, fun _ i hi => absurd hi (by omega)⟩
  | f + 1, h => by
    obtain ⟨h1, h2⟩ := len_sub f (fun i hi hb => h i (by omega) hb)
    cases hb : b.testBit f with
    | true =>
      have ha := h f (by omega) hb
      rw [tonesTo_yes hb, tonesTo_yes ha]
      simp only [List.length_append, List.length_singleton]
      refine ⟨by omega, fun e i hi hia => ?_⟩
      by_cases q : i = f
      · rw [q]; exact hb
      · exact h2 (by omega) i (by omega) hia
    | false =>
      rw [tonesTo_no hb]
      cases ha : a.testBit f with
      | true =>
        rw [tonesTo_yes ha]
        simp only [List.length_append, List.length_singleton]
        exact ⟨by omega, fun e => by omega⟩
      | false =>
        rw [tonesTo_no ha]
        refine ⟨h1, fun e i hi hia => ?_⟩
        by_cases q : i = f
        · rw [q, ha] at hia; cases hia
        · exact h2 e i (by omega) hia
theorem dst_self {n A : Nat} (hn : n < 13) (h0 : 0 < (tonesTo A n).length) : dst n A A = 0 := by
  have := dst_le (n := n) (A := A) (B := A) rfl h0 0
  have e : rc n A A 0 = 0 := by
    unfold rc ways
    refine smv_zero _ fun i hi => ?_
    show Tic.apt n (tn A n i) (tn A n ((i + 0) % _)) = 0
    rw [show i + 0 = i from rfl, Nat.mod_eq_of_lt hi]
    exact apt_self n hn _ ((en_tones A n).lt i hi)
  omega
theorem sub_eq {n A B : Nat} (hA : A < 2 ^ n) (hB : B < 2 ^ n) (hl : (tonesTo A n).length = (tonesTo B n).length) (h : ∀ i, i < n → B.testBit i = true → A.testBit i = true) : A = B := by
  have := (len_sub n h).2 hl.symm
  refine Nat.eq_of_testBit_eq fun i => ?_
  by_cases hi : i < n
  · cases ha : A.testBit i with
    | true => exact (this i hi ha).symm
    | false =>
      cases hb : B.testBit i with
      | true => rw [h i hi hb] at ha; cases ha
      | false => rfl
  · rw [Nat.testBit_lt_two_pow (Nat.lt_of_lt_of_le hA (Nat.pow_le_pow_right (by decide) (by omega))), Nat.testBit_lt_two_pow (Nat.lt_of_lt_of_le hB (Nat.pow_le_pow_right (by decide) (by omega)))]
theorem Stp.lt {n A p q : Nat} (h : Stp n A p q) (hA : A < 2 ^ n) : Tic.mv1 A p q < 2 ^ n := Tic.mv1_lt hA h.2.1
/-- no pairing goes less far than the least turn -/
theorem dst_ways {n B : Nat} (hn : n < 13) (h2 : 2 ≤ n) (hB : B < 2 ^ n) {y : Nat → Nat} (hy : En n B (tonesTo B n).length y) (h0 : 0 < (tonesTo B n).length) : ∀ (c A : Nat) (x : Nat → Nat), A < 2 ^ n → (tonesTo A n).length = (tonesTo B n).length → En n A (tonesTo B n).length x → ways n x y (tonesTo B n).length ≤ c → dst n A B ≤ c := by
  intro c
  induction c with
  | zero =>
    intro A x hA hl hx hc
    by_cases h : ∃ l, l < (tonesTo B n).length ∧ A.testBit (y l) = false
    · obtain ⟨l, h1, h3⟩ := h
      obtain ⟨p, q, x', _, _, h5⟩ := dsc hn hy _ x l hx h1 rfl h3
      omega
    · have : A = B := sub_eq hA hB hl (fun i hi hb => by
        obtain ⟨l, h1, rfl⟩ := hy.on i hi hb
        cases q : A.testBit (y l) with
        | true => rfl
        | false => exact absurd ⟨l, h1, q⟩ h)
      subst this
      rw [dst_self hn h0]; exact Nat.zero_le _
  | succ c ih =>
    intro A x hA hl hx hc
    by_cases h : ∃ l, l < (tonesTo B n).length ∧ A.testBit (y l) = false
    · obtain ⟨l, h1, h3⟩ := h
      obtain ⟨p, q, x', hs, hx', h5⟩ := dsc hn hy _ x l hx h1 rfl h3
      obtain ⟨e1, e2, e3⟩ := stp_lip hn h2 hs hl
      have := ih (Tic.mv1 A p q) x' (hs.lt hA) (by omega) hx' (by omega)
      omega
    · have : A = B := sub_eq hA hB hl (fun i hi hb => by
        obtain ⟨l, h1, rfl⟩ := hy.on i hi hb
        cases q : A.testBit (y l) with
        | true => rfl
        | false => exact absurd ⟨l, h1, q⟩ h)
      subst this
      rw [dst_self hn h0]; exact Nat.zero_le _
/-- some step makes the least way less -/
theorem dst_step {n A B : Nat} (hn : n < 13) (h2 : 2 ≤ n) (hA : A < 2 ^ n) (hB : B < 2 ^ n) (hl : (tonesTo A n).length = (tonesTo B n).length) (h0 : 0 < (tonesTo B n).length) (hne : A ≠ B) :
    ∃ p q, Stp n A p q ∧ dst n (Tic.mv1 A p q) B + 1 = dst n A B := by
  obtain ⟨j, hj⟩ := dst_is (n := n) (by omega) hl (by omega)
  have hx := en_tones A n
  have hy := en_rot (en_tones B n) j
  rw [hl] at hx
  have hc : rc n A B j = ways n (tn A n) (fun i => tn B n ((i + j) % (tonesTo B n).length)) (tonesTo B n).length := by unfold rc; rw [hl]
  by_cases h : ∃ l, l < (tonesTo B n).length ∧ A.testBit ((fun i => tn B n ((i + j) % (tonesTo B n).length)) l) = false
  · obtain ⟨l, h1, h3⟩ := h
    obtain ⟨p, q, x', hs, hx', h5⟩ := dsc hn hy _ _ l hx h1 rfl h3
    obtain ⟨e1, e2, e3⟩ := stp_lip hn h2 hs hl
    have := dst_ways hn h2 hB hy h0 _ (Tic.mv1 A p q) x' (hs.lt hA) (by omega) hx' (Nat.le_refl _)
    exact ⟨p, q, hs, by omega⟩
  · exact absurd (sub_eq hA hB hl (fun i hi hb => by
      obtain ⟨l, h1, rfl⟩ := hy.on i hi hb
      cases q : A.testBit ((fun i => tn B n ((i + j) % (tonesTo B n).length)) l) with
      | true => rfl
      | false => exact absurd ⟨l, h1, q⟩ h)) hne
/-- the same both ways -/
theorem dst_symm {n A B : Nat} (hn : n < 13) (h2 : 2 ≤ n) (hl : (tonesTo A n).length = (tonesTo B n).length) (h0 : 0 < (tonesTo B n).length) : dst n A B = dst n B A := by
  have half : ∀ A B : Nat, (tonesTo A n).length = (tonesTo B n).length → 0 < (tonesTo B n).length → dst n A B ≤ dst n B A := fun A B hl h0 => by
    obtain ⟨j, hj⟩ := dst_is (n := n) (A := B) (B := A) (by omega) hl.symm h0
    have hk : (tonesTo A n).length = (tonesTo B n).length := hl
    have hd : j % (tonesTo B n).length < (tonesTo B n).length := Nat.mod_lt _ h0
    have e : rc n B A j = rc n A B ((tonesTo B n).length - j % (tonesTo B n).length) := by
      unfold rc ways
      rw [hk, ← smv_rot _ (tonesTo B n).length ((tonesTo B n).length - j % (tonesTo B n).length)]
      refine smv_congr _ fun i hi => ?_
      show Tic.apt n (tn B n ((i + ((tonesTo B n).length - j % (tonesTo B n).length)) % (tonesTo B n).length)) (tn A n (((i + ((tonesTo B n).length - j % (tonesTo B n).length)) % (tonesTo B n).length + j) % (tonesTo B n).length)) = _
      rw [Nat.mod_add_mod, ← Nat.add_mod_mod (i + ((tonesTo B n).length - j % (tonesTo B n).length)) j, show i + ((tonesTo B n).length - j % (tonesTo B n).length) + j % (tonesTo B n).length = i + (tonesTo B n).length by omega, Nat.add_mod_right, Nat.mod_eq_of_lt hi]
      exact apt_symm n hn _ ((en_tones B n).lt _ (Nat.mod_lt _ h0)) _ ((en_tones A n).lt _ (by omega))
    rw [hj, e]
    exact dst_le hl (by omega) _
  exact Nat.le_antisymm (half A B hl h0) (half B A hl.symm (by omega))
theorem dst_pos {n A B : Nat} (hn : n < 13) (h2 : 2 ≤ n) (hA : A < 2 ^ n) (hB : B < 2 ^ n) (hl : (tonesTo A n).length = (tonesTo B n).length) (h0 : 0 < (tonesTo B n).length) : dst n A B = 0 ↔ A = B := by
  constructor
  · intro h
    refine Classical.byContradiction fun hne => ?_
    obtain ⟨p, q, _, e⟩ := dst_step hn h2 hA hB hl h0 hne
    omega
  · rintro rfl
    exact dst_self hn h0
end Go.Proofs.YtjgkignnfkbeaaaTro

/-
  Plain mathematics of the model's search: sets are met in the order of how far they are, and each is told how far it is.
-/
namespace Go.Proofs.YtjgkignnfkbeaaaTro
set_option linter.unusedVariables false

/-- as many tones as s -/
def Lk (n s S : Nat) : Prop := S < 2 ^ n ∧ (tonesTo S n).length = (tonesTo s n).length
theorem Lk.step {n s S p q : Nat} (hn : n < 13) (h2 : 2 ≤ n) (h : Lk n s S) (hs : Stp n S p q) : Lk n s (Tic.mv1 S p q) :=
  ⟨hs.lt h.1, (stp_lip (B := S) hn h2 hs rfl).1.trans h.2⟩
/-- the state of the search: O what is told of each set, T the sets met, i how many of them are done, m how many moves of the next one are done -/
structure Bf (n s : Nat) (O T : List Int) (i m : Nat) : Prop where
  olen : O.length = 2 ^ n
  mem : ∀ v ∈ T, ∃ S, Lk n s S ∧ v = (S : Int) ∧ O.getD S 0 = (dst n S s : Int)
  neg : ∀ S : Nat, S < 2 ^ n → (S : Int) ∉ T → O.getD S 0 = -1
  start : (s : Int) ∈ T
  nodup : T.Nodup
  sorted : ∀ a b, a < b → b < T.length → dst n (T.getD a 0).toNat s ≤ dst n (T.getD b 0).toNat s
  band : i < T.length → ∀ a, a < T.length → dst n (T.getD a 0).toNat s ≤ dst n (T.getD i 0).toNat s + 1
  closed : ∀ a, a < i → a < T.length → ∀ p q, Stp n (T.getD a 0).toNat p q → (Tic.mv1 (T.getD a 0).toNat p q : Int) ∈ T
  part : i < T.length → ∀ x j, x < n → j < 2 → 2 * x + j < m → (T.getD i 0).toNat.testBit x = true → (T.getD i 0).toNat.testBit (if j = 0 then Tic.dn n x else Tic.up n x) = false → (Tic.mv1 (T.getD i 0).toNat x (if j = 0 then Tic.dn n x else Tic.up n x) : Int) ∈ T
theorem getD_mem {T : List Int} {a : Nat} (h : a < T.length) : T.getD a 0 ∈ T := by
  rw [List.getD_eq_getElem?_getD, List.getElem?_eq_getElem h]; exact List.getElem_mem h
theorem mem_getD {T : List Int} {v : Int} (h : v ∈ T) : ∃ a, a < T.length ∧ T.getD a 0 = v := by
  obtain ⟨a, ha, e⟩ := List.getElem_of_mem h
  exact ⟨a, ha, by rw [List.getD_eq_getElem?_getD, List.getElem?_eq_getElem ha, e]; rfl⟩
theorem Bf.at {n s : Nat} {O T : List Int} {i m : Nat} (h : Bf n s O T i m) {a : Nat} (ha : a < T.length) : ∃ S, Lk n s S ∧ T.getD a 0 = (S : Int) ∧ O.getD S 0 = (dst n S s : Int) := h.mem _ (getD_mem ha)
/-- sets that are less far than the one at hand have been met -/
theorem Bf.early {n s : Nat} {O T : List Int} {i m : Nat} (h : Bf n s O T i m) (hn : n < 13) (h2 : 2 ≤ n) (hs : s < 2 ^ n) (h0 : 0 < (tonesTo s n).length) (hi : i < T.length) :
    ∀ d S, Lk n s S → dst n S s = d → d < dst n (T.getD i 0).toNat s → (S : Int) ∈ T
  | 0, S, hS, hd, _ => by
    rw [(dst_pos hn h2 hS.1 hs hS.2 h0).1 hd]; exact h.start
  | d + 1, S, hS, hd, hlt => by
    have hne : S ≠ s := fun e => by rw [e, dst_self hn h0] at hd; omega
    obtain ⟨p, q, hst, he⟩ := dst_step hn h2 hS.1 hs hS.2 h0 hne
    have ih := Bf.early h hn h2 hs h0 hi d (Tic.mv1 S p q) (hS.step hn h2 hst) (by omega) (by omega)
    obtain ⟨a, ha, hav⟩ := mem_getD ih
    have hai : a < i := by
      rcases Nat.lt_or_ge a i with q | q
      · exact q
      · exfalso
        rcases Nat.lt_or_ge i a with r | r
        · have := h.sorted i a r ha
          rw [hav, Int.toNat_natCast] at this; omega
        · obtain rfl : a = i := by omega
          rw [hav, Int.toNat_natCast] at hlt; omega
    have := h.closed a hai ha q p (by rw [hav, Int.toNat_natCast]; exact hst.back)
    rw [hav, Int.toNat_natCast, mv1_back hst.2.2.1 hst.2.2.2.1] at this
    exact this
/-- a set that is no further than the one at hand and a step from it has been met -/
theorem Bf.level {n s : Nat} {O T : List Int} {i m : Nat} (h : Bf n s O T i m) (hn : n < 13) (h2 : 2 ≤ n) (hs : s < 2 ^ n) (h0 : 0 < (tonesTo s n).length) (hi : i < T.length) (S : Nat) (hS : Lk n s S) (hd : dst n S s ≤ dst n (T.getD i 0).toNat s) : (S : Int) ∈ T := by
  by_cases hz : S = s
  · rw [hz]; exact h.start
  · obtain ⟨p, q, hst, he⟩ := dst_step hn h2 hS.1 hs hS.2 h0 hz
    have ih := h.early hn h2 hs h0 hi (dst n (Tic.mv1 S p q) s) (Tic.mv1 S p q) (hS.step hn h2 hst) rfl (by omega)
    obtain ⟨a, ha, hav⟩ := mem_getD ih
    have hai : a < i := by
      rcases Nat.lt_or_ge a i with q | q
      · exact q
      · exfalso
        rcases Nat.lt_or_ge i a with r | r
        · have := h.sorted i a r ha
          rw [hav, Int.toNat_natCast] at this; omega
        · obtain rfl : a = i := by omega
          rw [hav, Int.toNat_natCast] at hd; omega
    have := h.closed a hai ha q p (by rw [hav, Int.toNat_natCast]; exact hst.back)
    rw [hav, Int.toNat_natCast, mv1_back hst.2.2.1 hst.2.2.2.1] at this
    exact this
theorem stp_of {n S x j : Nat} (hx : x < n) (hb : S.testBit x = true) (hc : S.testBit (if j = 0 then Tic.dn n x else Tic.up n x) = false) : Stp n S x (if j = 0 then Tic.dn n x else Tic.up n x) := by
  by_cases e : j = 0
  · simp only [e, if_true] at hc ⊢; exact ⟨hx, Tic.dn_lt hx, hb, hc, .inr rfl⟩
  · simp only [e, if_false] at hc ⊢; exact ⟨hx, Tic.up_lt hx, hb, hc, .inl rfl⟩
/-- a move that meets nothing new -/
theorem Bf.stay {n s : Nat} {O T : List Int} {i x j : Nat} (h : Bf n s O T i (2 * x + j)) (hx : x < n) (hj : j < 2) (hi : i < T.length)
    (hq : (T.getD i 0).toNat.testBit x = true → (T.getD i 0).toNat.testBit (if j = 0 then Tic.dn n x else Tic.up n x) = false → (Tic.mv1 (T.getD i 0).toNat x (if j = 0 then Tic.dn n x else Tic.up n x) : Int) ∈ T) : Bf n s O T i (2 * x + j + 1) :=
  ⟨h.olen, h.mem, h.neg, h.start, h.nodup, h.sorted, h.band, h.closed, fun _ x' j' hx' hj' hlt hb hc => by
    by_cases e : 2 * x' + j' = 2 * x + j
    · obtain ⟨rfl, rfl⟩ : x' = x ∧ j' = j := by omega
      exact hq hb hc
    · exact h.part hi x' j' hx' hj' (by omega) hb hc⟩
theorem getD_app {T : List Int} {v : Int} {a : Nat} (h : a < T.length) : (T ++ [v]).getD a 0 = T.getD a 0 := by
  rw [List.getD_eq_getElem?_getD, List.getElem?_append_left h, ← List.getD_eq_getElem?_getD]
theorem getD_last {T : List Int} {v : Int} : (T ++ [v]).getD T.length 0 = v := by simp [List.getD_eq_getElem?_getD]
theorem getD_set {O : List Int} {a b : Nat} {v : Int} (hb : b < O.length) : (O.set b v).getD a 0 = if a = b then v else O.getD a 0 := by
  rw [List.getD_eq_getElem?_getD, List.getD_eq_getElem?_getD, List.getElem?_set]
  by_cases e : b = a
  · subst e; simp [hb]
  · have e' : ¬ a = b := fun q => e q.symm
    simp [e, e']
/-- a move that meets a new set -/
theorem Bf.new {n s : Nat} {O T : List Int} {i x j : Nat} (h : Bf n s O T i (2 * x + j)) (hn : n < 13) (h2 : 2 ≤ n) (hs : s < 2 ^ n) (h0 : 0 < (tonesTo s n).length) (hx : x < n) (hj : j < 2) (hi : i < T.length)
    (hb : (T.getD i 0).toNat.testBit x = true) (hc : (T.getD i 0).toNat.testBit (if j = 0 then Tic.dn n x else Tic.up n x) = false) (hO : O.getD (Tic.mv1 (T.getD i 0).toNat x (if j = 0 then Tic.dn n x else Tic.up n x)) 0 < 0) :
    Bf n s (O.set (Tic.mv1 (T.getD i 0).toNat x (if j = 0 then Tic.dn n x else Tic.up n x)) (O.getD (T.getD i 0).toNat 0 + 1)) (T ++ [(Tic.mv1 (T.getD i 0).toNat x (if j = 0 then Tic.dn n x else Tic.up n x) : Int)]) i (2 * x + j + 1) := by
  have hst := stp_of hx hb hc
  obtain ⟨N, hN, hTi, hON⟩ := h.at hi
  rw [hTi, Int.toNat_natCast] at hst hO ⊢
  have hYN := hN.step hn h2 hst
  have hlip := (stp_lip (B := s) hn h2 hst hN.2).2.1
  generalize hY : Tic.mv1 N x (if j = 0 then Tic.dn n x else Tic.up n x) = Y at *
  have hnot : (Y : Int) ∉ T := fun hm => by
    obtain ⟨S, _, e, e2⟩ := h.mem _ hm
    have : Y = S := by omega
    subst this
    omega
  have hD : dst n Y s = dst n N s + 1 := by
    rcases Nat.lt_or_ge (dst n N s) (dst n Y s) with q | q
    · omega
    · exact absurd (h.level hn h2 hs h0 hi Y hYN (by rw [hTi, Int.toNat_natCast]; exact q)) hnot
  have hYl : Y < O.length := by rw [h.olen]; exact hYN.1
  have hne : ∀ S : Nat, (S : Int) ∈ T → S ≠ Y := fun S hm e => hnot (by rw [← e]; exact hm)
  refine ⟨by rw [List.length_set]; exact h.olen, fun v hv => ?_, fun S hS hm => ?_, List.mem_append_left _ h.start, ?_, fun a b hab hbl => ?_, fun _ a ha => ?_, fun a hai hal p q hpq => ?_, fun _ x' j' hx' hj' hlt hb' hc' => ?_⟩
  · rcases List.mem_append.1 hv with hv | hv
    · obtain ⟨S, h1, rfl, h3⟩ := h.mem v hv
      exact ⟨S, h1, rfl, by rw [getD_set hYl, if_neg (hne S hv)]; exact h3⟩
    · rw [List.mem_singleton] at hv
      exact ⟨Y, hYN, hv, by rw [getD_set hYl, if_pos rfl, hON, hD]; omega⟩
  · have h1 : (S : Int) ∉ T := fun q => hm (List.mem_append_left _ q)
    have h3 : S ≠ Y := fun q => hm (List.mem_append_right _ (by rw [q]; exact List.mem_singleton.2 rfl))
    rw [getD_set hYl, if_neg h3]
    exact h.neg S hS h1
  · rw [List.nodup_append]
    refine ⟨h.nodup, List.nodup_cons.2 ⟨List.not_mem_nil, List.nodup_nil⟩, fun a ha b hb e => ?_⟩
    rw [List.mem_singleton] at hb
    exact hnot (by rw [← hb, ← e]; exact ha)
  · rw [List.length_append, List.length_singleton] at hbl
    by_cases e : b < T.length
    · rw [getD_app (by omega), getD_app e]; exact h.sorted a b hab e
    · obtain rfl : b = T.length := by omega
      rw [getD_app hab, getD_last, Int.toNat_natCast]
      have := h.band hi a hab
      rw [hTi, Int.toNat_natCast] at this
      omega
  · rw [List.length_append, List.length_singleton] at ha
    rw [getD_app hi, hTi, Int.toNat_natCast]
    by_cases e : a < T.length
    · rw [getD_app e]
      have := h.band hi a e
      rw [hTi, Int.toNat_natCast] at this
      exact this
    · obtain rfl : a = T.length := by omega
      rw [getD_last, Int.toNat_natCast]; omega
  · rw [getD_app (by omega)] at hpq ⊢
    exact List.mem_append_left _ (h.closed a hai (by omega) p q hpq)
  · rw [getD_app hi] at hb' hc' ⊢
    by_cases e : 2 * x' + j' = 2 * x + j
    · obtain ⟨rfl, rfl⟩ : x' = x ∧ j' = j := by omega
      rw [hTi, Int.toNat_natCast, hY]
      exact List.mem_append_right _ (List.mem_singleton.2 rfl)
    · exact List.mem_append_left _ (h.part hi x' j' hx' hj' (by omega) hb' hc')
/-- all moves of one done -/
theorem Bf.next {n s : Nat} {O T : List Int} {i : Nat} (h : Bf n s O T i (2 * n)) (hi : i < T.length) : Bf n s O T (i + 1) 0 :=
  ⟨h.olen, h.mem, h.neg, h.start, h.nodup, h.sorted, fun hi1 a ha => by
    have h1 := h.band hi a ha
    have h2 := h.sorted i (i + 1) (by omega) hi1
    omega, fun a hai hal p q hpq => by
    by_cases e : a = i
    · subst e
      obtain ⟨h1, h2, h3, h4, h5⟩ := hpq
      rcases h5 with e | e
      · have := h.part hi p 1 h1 (by omega) (by omega) h3 (by simp only [Nat.one_ne_zero, if_false]; rw [← e]; exact h4)
        simp only [Nat.one_ne_zero, if_false] at this
        rw [e]; exact this
      · have := h.part hi p 0 h1 (by omega) (by omega) h3 (by simp only [if_true]; rw [← e]; exact h4)
        simp only [if_true] at this
        rw [e]; exact this
    · exact h.closed a (by omega) hal p q hpq, fun _ x j _ _ hlt => by omega⟩
/-- at the end all sets of as many tones have been met -/
theorem Bf.all {n s : Nat} {O T : List Int} {m : Nat} (h : Bf n s O T T.length m) (hn : n < 13) (h2 : 2 ≤ n) (hs : s < 2 ^ n) (h0 : 0 < (tonesTo s n).length) : ∀ d S, Lk n s S → dst n S s = d → O.getD S 0 = (dst n S s : Int) := by
  have key : ∀ d S, Lk n s S → dst n S s = d → (S : Int) ∈ T := by
    intro d
    induction d with
    | zero => intro S hS hd; rw [(dst_pos hn h2 hS.1 hs hS.2 h0).1 hd]; exact h.start
    | succ d ih =>
      intro S hS hd
      have hne : S ≠ s := fun e => by rw [e, dst_self hn h0] at hd; omega
      obtain ⟨p, q, hst, he⟩ := dst_step hn h2 hS.1 hs hS.2 h0 hne
      have := ih (Tic.mv1 S p q) (hS.step hn h2 hst) (by omega)
      obtain ⟨a, ha, hav⟩ := mem_getD this
      have := h.closed a ha ha q p (by rw [hav, Int.toNat_natCast]; exact hst.back)
      rw [hav, Int.toNat_natCast, mv1_back hst.2.2.1 hst.2.2.2.1] at this
      exact this
  intro d S hS hd
  obtain ⟨S', _, e, e2⟩ := h.mem _ (key d S hS hd)
  have : S = S' := by omega
  subst this
  exact e2
/-- the beginning -/
theorem Bf.first {n s : Nat} (hn : n < 13) (hs : s < 2 ^ n) (h0 : 0 < (tonesTo s n).length) : Bf n s ((List.replicate (2 ^ n) (-1)).set s 0) [(s : Int)] 0 0 := by
  have hl : s < (List.replicate (2 ^ n) (-1 : Int)).length := by rw [List.length_replicate]; exact hs
  refine ⟨by simp, fun v hv => ?_, fun S hS hm => ?_, List.mem_singleton.2 rfl, List.nodup_cons.2 ⟨List.not_mem_nil, List.nodup_nil⟩, fun a b hab hbl => by simp at hbl; omega, fun _ a ha => ?_, fun a ha => by omega, fun _ x j _ _ hlt => by omega⟩
  · rw [List.mem_singleton] at hv
    exact ⟨s, ⟨hs, rfl⟩, hv, by rw [getD_set hl, if_pos rfl, dst_self hn h0]; rfl⟩
  · have : S ≠ s := fun e => hm (by rw [e]; exact List.mem_singleton.2 rfl)
    rw [getD_set hl, if_neg this, List.getD_eq_getElem?_getD, List.getElem?_replicate, if_pos hS]; rfl
  · simp at ha; subst ha; omega
/-- there are no more sets met than there are -/
theorem nodup_le : ∀ (p : Nat) (T : List Int), T.Nodup → (∀ v ∈ T, ∃ S : Nat, S < p ∧ v = (S : Int)) → T.length ≤ p
  | 0, T, _, h => by
    cases T with
    | nil => exact Nat.le_refl _
    | cons v T => obtain ⟨S, h1, _⟩ := h v (by simp); omega
  | p + 1, T, hn, h => by
    have h1 := nodup_le p (T.erase (p : Int)) (hn.erase _) (fun v hv => by
      obtain ⟨S, hS, e⟩ := h v (List.mem_of_mem_erase hv)
      have : v ≠ (p : Int) := fun q => by rw [q] at hv; exact (List.Nodup.not_mem_erase hn) hv
      exact ⟨S, by omega, e⟩)
    have h2 := List.length_erase (a := (p : Int)) (l := T)
    split at h2 <;> omega
theorem Bf.len {n s : Nat} {O T : List Int} {i m : Nat} (h : Bf n s O T i m) : T.length ≤ 2 ^ n := nodup_le _ _ h.nodup (fun v hv => by
  obtain ⟨S, h1, e, _⟩ := h.mem v hv; exact ⟨S, h1.1, e⟩)
theorem Bf.room {n s : Nat} {O T : List Int} {i m Y : Nat} (h : Bf n s O T i m) (hY : Y < 2 ^ n) (hO : O.getD Y 0 < 0) : T.length < 2 ^ n := by
  have := nodup_le (2 ^ n) ((Y : Int) :: T) (List.nodup_cons.2 ⟨fun hm => by
    obtain ⟨S, _, e, e2⟩ := h.mem _ hm
    have : Y = S := by omega
    subst this; omega, h.nodup⟩) (fun v hv => by
      rcases List.mem_cons.1 hv with rfl | hv
      · exact ⟨Y, hY, rfl⟩
      · obtain ⟨S, h1, e, _⟩ := h.mem v hv; exact ⟨S, h1.1, e⟩)
  simp at this; omega
/-- the set with the tone x moved to y, as the model reckons it -/
theorem mv1_sum {S x y : Nat} (hx : S.testBit x = true) (hy : S.testBit y = false) : (Tic.mv1 S x y : Int) = (S : Int) - ((2 ^ x : Nat) : Int) + ((2 ^ y : Nat) : Int) := by
  have h1 : Tic.nd S (2 ^ x) ||| 2 ^ x = S := by
    refine Nat.eq_of_testBit_eq fun i => ?_
    rw [Nat.testBit_or, Tic.nd_bit, Nat.testBit_two_pow]
    by_cases e : x = i
    · subst e; simp [hx]
    · simp [e]
  have h2 := Tic.or_pow_add (a := Tic.nd S (2 ^ x)) (i := x) (by rw [Tic.nd_bit, Nat.testBit_two_pow]; simp)
  have h3 := Tic.or_pow_add (a := Tic.nd S (2 ^ x)) (i := y) (by rw [Tic.nd_bit, hy]; rfl)
  unfold Tic.mv1
  rw [h3]
  rw [h1] at h2
  omega
end Go.Proofs.YtjgkignnfkbeaaaTro

/-
  The contract of the model's fars.
-/
namespace Go.Proofs.YtjgkignnfkbeaaaTro
open Go.RowKit
set_option linter.unusedVariables false
set_option maxRecDepth 20000

/-- the first k of p numbers are -1, the others 0 -/
def filled (p k : Nat) : List Int := List.replicate k (-1) ++ List.replicate (p - k) 0
theorem filled_len {p k : Nat} (h : k ≤ p) : (filled p k).length = p := by simp [filled]; omega
theorem filled_set {p k : Nat} (h : k < p) : (filled p k).set k (-1) = filled p (k + 1) := by
  unfold filled
  rw [List.set_append_right _ _ (by simp), List.length_replicate, Nat.sub_self, show p - k = (p - (k + 1)) + 1 by omega, List.replicate_succ, List.set_cons_zero, List.replicate_succ', List.append_assoc]
  rfl
theorem Row.off {w w' : World} {B : Nat} {v : Value} {L : List Int} (h : Row w B v L) {g : Nat} (hg : w.grownBy w' (some g)) (hB : ∀ k, v.ownBlock = some k → k ≠ g) : Row w' B v L := by
  refine ⟨h.1.kept hg ?_, h.2⟩
  cases e : v.ownBlock with
  | none => exact .inl rfl
  | some k => right; intro e2; have := hB k e; injection e2 with e2; omega
/-- the tone that a move looks at -/
def mvTo (n x j : Nat) : Nat := if j = 0 then Tic.dn n x else Tic.up n x
theorem mvTo_emod {n x j : Nat} (hx : x < n) (hj : j < 2) : ((x : Int) + (2 * (j : Int) - 1)) % (n : Int) = (mvTo n x j : Int) := by
  have h0 : 0 ≤ ((x : Int) + (2 * (j : Int) - 1)) % (n : Int) := Int.emod_nonneg _ (by omega)
  have : (((x : Int) + (2 * (j : Int) - 1)) % (n : Int)).toNat = mvTo n x j := by
    unfold mvTo
    split
    · rename_i e; subst e
      rw [← Tic.dn_emod hx]; rfl
    · rw [← Tic.up_emod hx, show (2 * (j : Int) - 1) = 1 by omega]
  omega
theorem mvTo_lt {n x j : Nat} (hx : x < n) : mvTo n x j < n := by
  unfold mvTo; split
  · exact Tic.dn_lt hx
  · exact Tic.up_lt hx
/-- one of a row is written -/
theorem Row.write {w : World} {B g m cap : Nat} {L : List Int} (h : Row w B (.slice (some ⟨g, 0, none⟩) m cap) L) (hm : L.length = m) (j : Nat) (x : Int) :
    Row (w.setCell ⟨g, j, none⟩ (.int .i64 x)) B (.slice (some ⟨g, 0, none⟩) m cap) (L.set j x) ∧ w.grownBy (w.setCell ⟨g, j, none⟩ (.int .i64 x)) (some g) := by
  subst hm; exact h.set j x
set_option maxHeartbeats 2000000 in
theorem fars_any (n s : Int) (w : World) (hv : Tic.Valid n s) (h0 : s ≠ 0) :
    Calls Tro.prog 55 #[.int .i64 n, .int .i64 s] w fun e w' => ∃ v O, e = .returned v ∧ Row w' w.heap.size v O ∧ O.length = 2 ^ n.toNat ∧ (∀ S, Lk n.toNat s.toNat S → O.getD S 0 = (dst n.toNat S s.toNat : Int)) ∧ Below w.heap.size w w' := by
  have hlt := hv.lt
  obtain ⟨g1, g2, g3, g4⟩ := hv
  obtain ⟨N, rfl⟩ := Int.eq_ofNat_of_zero_le (show 0 ≤ n by omega)
  obtain ⟨S0, rfl⟩ := Int.eq_ofNat_of_zero_le g3
  rw [Int.toNat_natCast, Int.toNat_natCast]
  rw [Int.toNat_natCast] at g4
  have hp := Tic.pow_le_12 (n := (N : Int)) g2
  rw [Int.toNat_natCast] at hp
  have hpos : 0 < (tonesTo S0 N).length := len_pos (by omega) (by omega)
  have HF := Lib.hid (Bf.first (n := N) (s := S0) (by omega) (by omega) hpos)
  have HST := Lib.hid (fun (O T : List Int) (i x j : Nat) (h : Bf N S0 O T i (2 * x + j)) => h.stay)
  have HNW := Lib.hid (fun (O T : List Int) (i x j : Nat) (h : Bf N S0 O T i (2 * x + j)) => h.new (by omega) (by omega) (by omega) hpos)
  have HAL := Lib.hid (fun (O T : List Int) (m : Nat) (h : Bf N S0 O T T.length m) => h.all (by omega) (by omega) (by omega) hpos)
  have HLK := Lib.hid (fun (S p q : Nat) (h : Lk N S0 S) (hs : Stp N S p q) => h.step (by omega) (by omega) hs)
  generalize hg : 2 ^ N = p at hp g4
  have HP := Lib.hid hg
  have HS0 : Hid ((S0 : Int) < (p : Int)) := Lib.hid g4
  clear hg hlt
  have hSp : S0 < p := by omega
  go_enter Tro.func55, Tro.ntmps55
  go_wp2_with fail
  refine (power_any _ _ (by omega) (by omega)).mono ?_; rintro e w1 ⟨rfl, rfl⟩
  rw [Int.toNat_natCast, HP.out]
  go_wp2_with (at_make; refine wpList_make_zeros rfl _ _ rfl w.heap.size _ _ p rfl rfl ?c1 ?c2 ?c3 (Nat.le_refl _) ?_)
  case c1 => rfl
  case c2 => rfl
  case c3 => omega
  intro w1 hrow hb1
  generalize hgO : w.heap.size = gO at *
  have HGO := Lib.hid hgO
  have hz1 := hb1.size
  have HR0 : Hid (Row w1 gO (.slice (some ⟨gO, 0, none⟩) p p) (filled p 0)) := Lib.hid (by
    have : filled p 0 = zeros p := by simp [filled, zeros]
    rw [this]; exact hrow)
  have HB1 := Lib.hid hb1
  clear hrow hb1 hgO
  go_wp2
  go_loopw [6] (fun t6 wr => ∃ k : Nat, k ≤ p ∧ t6 = .int .i64 k ∧ Hid (Row wr gO (.slice (some ⟨gO, 0, none⟩) p p) (filled p k)) ∧ Hid (Below gO w wr)) (fun t6 _ => p - (intOf t6).toNat)
  case atStart => exact ⟨0, Nat.zero_le _, rfl, HR0, HB1⟩
  case round =>
    obtain ⟨k, hk, rfl, HR, HB⟩ := hrel
    by_cases hkp : k < p
    · have hsh := HR.out.shape
      obtain ⟨_, _, _, hcell, hfz⟩ := hsh
      have d2 := hcell k hkp
      have f2 := hfz k
      obtain ⟨hw1, hw2⟩ := HR.out.write (filled_len hk) k (-1)
      rw [filled_set hkp] at hw1
      have HW := Lib.hid hw1
      have HB2 := Lib.hid (HB.out.setCell (p := ⟨gO, k, none⟩) (Nat.le_refl gO) (.int .i64 (-1)))
      have i1 : (k : Int) < (p : Int) := by omega
      have i0 : (0 : Int) ≤ (k : Int) := by omega
      have k1 := IntWalk.i64_in ((k : Int) + 1) (by omega)
      clear hcell hfz hw1 hw2
      go_wp2
      go_roundw
      case rel => exact ⟨k + 1, by omega, by go_num, HW, HB2⟩
      case measure => simp [intOf]; omega
    · obtain rfl : k = p := by omega
      have hsh := HR.out.shape
      obtain ⟨_, _, _, hcell, hfz⟩ := hsh
      have d2 := hcell S0 hSp
      have f2 := hfz S0
      obtain ⟨hw1, hw2⟩ := HR.out.write (filled_len (Nat.le_refl _)) S0 0
      have HW : Hid (Row (wr.setCell ⟨gO, S0, none⟩ (.int .i64 0)) gO (.slice (some ⟨gO, 0, none⟩) k k) ((List.replicate (2 ^ N) (-1)).set S0 0)) := Lib.hid (by
        have e : filled k k = List.replicate (2 ^ N) (-1) := by unfold filled; rw [HP.out]; simp
        rw [← e]; exact hw1)
      have HB2 := Lib.hid (HB.out.setCell (p := ⟨gO, S0, none⟩) (Nat.le_refl gO) (.int .i64 0))
      have hzr : gO + 1 ≤ wr.heap.size := by have := block_lt_of_cell d2; exact this
      have s0 : (S0 : Int) < (k : Int) := HS0.out
      clear hcell hfz hw1 hw2
      go_upto_region 7 with fail
      have hz2 : (wr.setCell ⟨gO, S0, none⟩ (.int .i64 0)).heap.size = wr.heap.size := by simp
      generalize wr.setCell ⟨gO, S0, none⟩ (.int .i64 0) = W1 at *
      clear d2 f2
      have HTR : Hid (Row (W1.alloc (.cells #[.int .i64 (S0 : Int)] 3)) (gO + 1) (.slice (some ⟨W1.heap.size, 0, none⟩) 1 1) [(S0 : Int)]) := Lib.hid ⟨World.ownsRow_lit W1 #[.int .i64 (S0 : Int)] 1 (by omega) (by decide) rfl, by simp⟩
      have HOR := Lib.hid (HW.out.alloc (.cells #[.int .i64 (S0 : Int)] 3))
      have HB3 := Lib.hid (HB2.out.alloc (show gO ≤ W1.heap.size by omega) (.cells #[.int .i64 (S0 : Int)] 3))
      clear HW HB2 HR HB HB1 HR0
      go_upto_region 8 with fail
      generalize World.alloc _ _ = W2 at *
      rw [hz2] at HTR
      clear hz2 hzr s0 hkp hk
      generalize Value.slice (some ⟨wr.heap.size, 0, none⟩) 1 1 = v7 at *
      go_wp2
      go_loopw [7, 8, 9, 10, 11, 12, 13] (fun t7 t8 t9 t10 t11 t12 t13 wr => ∃ (i : Nat) (O T : List Int), i ≤ T.length ∧ t8 = .int .i64 i ∧ Hid (Bf N S0 O T i 0) ∧ Hid (Row wr gO (.slice (some ⟨gO, 0, none⟩) k k) O) ∧ Hid (Row wr (gO + 1) t7 T) ∧ Hid (Below gO w wr)) (fun _ t8 _ _ _ _ _ _ => k - (intOf t8).toNat)
      case atStart => exact ⟨0, _, _, Nat.zero_le _, rfl, HF, HOR, HTR, HB3⟩
      case round =>
        obtain ⟨i, O, T, hi, rfl, HBF, HO, HT, HBW⟩ := hrel
        clear HF HOR HTR HB3
        have hTl : T.length ≤ k := by have := HBF.out.len; rw [HP.out] at this; exact this
        have hT0 : 0 < T.length := List.length_pos_of_mem HBF.out.start
        obtain ⟨g7, c7, rfl, hg7, hg7l, hcell, _⟩ := HT.out.cases.resolve_left (fun q => by rw [q.2] at hT0; simp at hT0)
        by_cases hlt : i < T.length
        · obtain ⟨NOW, hNL, hNT, hNO⟩ := HBF.out.at hlt
          have HNL := Lib.hid hNL
          have hNk : NOW < k := by have := hNL.1; rw [HP.out] at this; exact this
          have c1 := hcell i hlt
          rw [hNT] at c1
          have i0 : (0 : Int) ≤ (i : Int) := by omega
          have i1 : (i : Int) < (T.length : Int) := by omega
          have k1 := IntWalk.i64_in ((i : Int) + 1) (by omega)
          have HTI := Lib.hid hNT
          have HI := Lib.hid hlt
          obtain ⟨vT, hvT⟩ : ∃ vT, vT = Value.slice (some ⟨g7, 0, none⟩) T.length c7 := ⟨_, rfl⟩
          have HBF0 : Hid (Bf N S0 O T i (2 * 0)) := HBF
          clear hcell hNL hNO hNT HBF
          go_upto_region 12 with fail
          rw [← hvT]
          rw [← hvT] at HT
          clear hvT c1 i1
          go_wp2
          go_loopw [7, 10, 11, 12, 13] (fun t7 t10 t11 t12 t13 wr => ∃ (x : Nat) (O T : List Int), x ≤ N ∧ t10 = .int .i64 x ∧ Hid (i < T.length) ∧ Hid (T.getD i 0 = (NOW : Int)) ∧ Hid (Bf N S0 O T i (2 * x)) ∧ Hid (Row wr gO (.slice (some ⟨gO, 0, none⟩) k k) O) ∧ Hid (Row wr (gO + 1) t7 T) ∧ Hid (Below gO w wr)) (fun _ t10 _ _ _ _ => N - (intOf t10).toNat)
          case atStart => exact ⟨0, O, T, Nat.zero_le _, rfl, HI, HTI, HBF0, HO, HT, HBW⟩
          case round =>
            clear HI HTI HBF0 HO HT HBW hTl
            obtain ⟨x, O, T, hx, rfl, HI, HTI, HBF, HO, HT, HBW⟩ := hrel
            by_cases hxN : x < N
            · have hx1 : (x : Int) < (N : Int) := by omega
              have k2 := IntWalk.i64_in ((x : Int) + 1) (by omega)
              have HBF0 : Hid (Bf N S0 O T i (2 * x + 0)) := HBF
              have HPX : Hid (2 ^ x < k) := Lib.hid (by rw [← HP.out]; exact Nat.pow_lt_pow_right (by decide) hxN)
              go_upto_region 15 with fail
              clear HBF
              go_wp2
              go_loopw [7, 11, 12, 13] (fun t7 t11 t12 t13 wr => ∃ (j : Nat) (O T : List Int), j ≤ 2 ∧ t11 = .int .i64 (2 * (j : Int) - 1) ∧ Hid (i < T.length) ∧ Hid (T.getD i 0 = (NOW : Int)) ∧ Hid (Bf N S0 O T i (2 * x + j)) ∧ Hid (Row wr gO (.slice (some ⟨gO, 0, none⟩) k k) O) ∧ Hid (Row wr (gO + 1) t7 T) ∧ Hid (Below gO w wr)) (fun _ t11 _ _ _ => 2 - ((intOf t11 + 1) / 2).toNat)
              case atStart => exact ⟨0, O, T, Nat.zero_le _, rfl, HI, HTI, HBF0, HO, HT, HBW⟩
              case round =>
                clear HI HTI HBF0 HO HT HBW
                obtain ⟨j, O, T, hj, rfl, HI, HTI, HBF, HO, HT, HBW⟩ := hrel
                by_cases hj2 : j < 2
                · have hd1 : 2 * (j : Int) - 1 ≤ 1 := by omega
                  have HSTAY : Hid ((NOW.testBit x = true → NOW.testBit (mvTo N x j) = false → (Tic.mv1 NOW x (mvTo N x j) : Int) ∈ T) → Bf N S0 O T i (2 * x + (j + 1))) := Lib.hid (by
                    have := HST.out O T i x j HBF.out hxN hj2 HI.out
                    rw [HTI.out, Int.toNat_natCast] at this
                    exact this)
                  have HNEW : Hid (NOW.testBit x = true → NOW.testBit (mvTo N x j) = false → O.getD (Tic.mv1 NOW x (mvTo N x j)) 0 < 0 → Bf N S0 (O.set (Tic.mv1 NOW x (mvTo N x j)) (O.getD NOW 0 + 1)) (T ++ [(Tic.mv1 NOW x (mvTo N x j) : Int)]) i (2 * x + (j + 1))) := Lib.hid (by
                    have := HNW.out O T i x j HBF.out hxN hj2 HI.out
                    rw [HTI.out, Int.toNat_natCast] at this
                    exact this)
                  have HSTP : Hid (NOW.testBit x = true → NOW.testBit (mvTo N x j) = false → Tic.mv1 NOW x (mvTo N x j) < k) := Lib.hid (fun hb hc => by
                    have := (HLK.out NOW x (mvTo N x j) HNL.out (stp_of (j := j) hxN hb hc)).1
                    rw [HP.out] at this; exact this)
                  have HROOM : Hid (∀ Y, Y < k → O.getD Y 0 < 0 → T.length < k) := Lib.hid (fun Y hY hO => by
                    have := HBF.out.room (Y := Y) (by rw [HP.out]; exact hY) hO
                    rw [HP.out] at this; exact this)
                  have HNO : Hid (O.getD NOW 0 = (dst N NOW S0 : Int)) := Lib.hid (by
                    obtain ⟨S, h1, h2, h3⟩ := HBF.out.at HI.out
                    have e := HTI.out
                    rw [h2] at e
                    obtain rfl : S = NOW := by omega
                    exact h3)
                  have HDB : Hid (dst N NOW S0 ≤ 144) := Lib.hid (by
                    have h1 := (prF_bd N (tonesTo NOW N) (tonesTo S0 N) (tonesTo NOW N).length).1
                    have h2 : N * N ≤ 12 * 12 := Nat.mul_le_mul (by omega) (by omega)
                    exact Nat.le_trans h1 h2)
                  have hyN : mvTo N x j < N := mvTo_lt hxN
                  have HRS : Hid (∀ w, Calls Tro.prog 78 #[.int .i64 ((x : Int) + (2 * (j : Int) - 1)), .int .i64 (N : Int)] w fun e w' => e = .returned (.int .i64 (mvTo N x j : Int)) ∧ w = w') := Lib.hid (fun w => by
                    rw [← mvTo_emod hxN hj2]
                    exact rest_any _ _ w (by omega) (by omega) (by omega) (by omega))
                  have HSUM : Hid (NOW.testBit x = true → NOW.testBit (mvTo N x j) = false → (NOW : Int) - ((2 ^ x : Nat) : Int) + ((2 ^ mvTo N x j : Nat) : Int) = (Tic.mv1 NOW x (mvTo N x j) : Int)) := Lib.hid (fun h1 h2 => (mv1_sum h1 h2).symm)
                  have HPY : Hid (2 ^ mvTo N x j < k) := Lib.hid (by rw [← HP.out]; exact Nat.pow_lt_pow_right (by decide) hyN)
                  generalize mvTo N x j = y at *
                  have HPW1 : Hid (∀ w, Calls Tro.prog 65 #[.int .i64 (x : Int)] w fun e w' => e = .returned (.int .i64 ((2 ^ x : Nat) : Int)) ∧ w = w') := Lib.hid (fun w => power_any (x : Int) w (by omega) (by omega))
                  have HPW2 : Hid (∀ w, Calls Tro.prog 65 #[.int .i64 (y : Int)] w fun e w' => e = .returned (.int .i64 ((2 ^ y : Nat) : Int)) ∧ w = w') := Lib.hid (fun w => power_any (y : Int) w (by omega) (by omega))
                  have hpx := HPX.out
                  have hpy := HPY.out
                  clear HPY
                  generalize 2 ^ x = px at *
                  generalize 2 ^ y = py at *
                  have k3 := IntWalk.i64_in ((NOW : Int) - (px : Int)) (by omega)
                  have k4 := IntWalk.i64_in ((NOW : Int) - (px : Int) + (py : Int)) (by omega)
                  have k5 := IntWalk.i64_in ((x : Int) + (2 * (j : Int) - 1)) (by omega)
                  have k6 := IntWalk.i64_in (2 * (j : Int) - 1 + 2) (by omega)
                  cases hbx : NOW.testBit x with
                  | false =>
                    have HB9 := Lib.hid (HSTAY.out (fun q => by rw [hbx] at q; cases q))
                    clear HSTAY HNEW HSTP HROOM HSUM
                    go_wp2_with fail
                    refine (HRS.out _).mono ?_; rintro e w1 ⟨rfl, rfl⟩
                    go_wp2_with fail
                    refine (HPW1.out _).mono ?_; rintro e w1 ⟨rfl, rfl⟩
                    go_wp2_with fail
                    refine (HPW2.out _).mono ?_; rintro e w1 ⟨rfl, rfl⟩
                    go_wp2_with fail
                    refine (bit_no _ _ NOW x _ rfl (by omega) rfl (by omega) hbx).mono ?_; rintro e w1 ⟨rfl, rfl⟩
                    go_wp2
                    go_roundw
                    case rel => exact ⟨j + 1, O, T, by omega, by go_num, HI, HTI, HB9, HO, HT, HBW⟩
                    case measure => simp [intOf]; omega
                  | true =>
                    cases hby : NOW.testBit y with
                    | true =>
                        have HB9 := Lib.hid (HSTAY.out (fun _ q => by rw [hby] at q; cases q))
                        clear HSTAY HNEW HSTP HROOM HSUM
                        go_wp2_with fail
                        refine (HRS.out _).mono ?_; rintro e w1 ⟨rfl, rfl⟩
                        go_wp2_with fail
                        refine (HPW1.out _).mono ?_; rintro e w1 ⟨rfl, rfl⟩
                        go_wp2_with fail
                        refine (HPW2.out _).mono ?_; rintro e w1 ⟨rfl, rfl⟩
                        go_wp2_with fail
                        refine (bit_yes _ _ NOW x _ rfl (by omega) rfl (by omega) hbx).mono ?_; rintro e w1 ⟨rfl, rfl⟩
                        go_wp2_with fail
                        refine (bit_yes _ _ NOW y _ rfl (by omega) rfl (by omega) hby).mono ?_; rintro e w1 ⟨rfl, rfl⟩
                        go_wp2
                        go_roundw
                        case rel => exact ⟨j + 1, O, T, by omega, by go_num, HI, HTI, HB9, HO, HT, HBW⟩
                        case measure => simp [intOf]; omega
                    | false =>
                        have hYk := HSTP.out hbx hby
                        have k7 := k4.trans (HSUM.out hbx hby)
                        have hYI := HSUM.out hbx hby
                        have HSTAY2 : Hid ((Tic.mv1 NOW x y : Int) ∈ T → Bf N S0 O T i (2 * x + (j + 1))) := Lib.hid (fun q => HSTAY.out (fun _ _ => q))
                        have HNEW2 := Lib.hid (HNEW.out hbx hby)
                        have HNEG : Hid (¬ (Tic.mv1 NOW x y : Int) ∈ T → O.getD (Tic.mv1 NOW x y) 0 = -1) := Lib.hid (fun q => HBF.out.neg _ (by rw [HP.out]; exact hYk) q)
                        clear HSTAY HNEW HSTP HSUM
                        generalize Tic.mv1 NOW x y = Y at *
                        obtain ⟨hOl, _, _, hcell, hfz⟩ := HO.out.shape
                        have cY := hcell Y hYk
                        have fY := hfz Y
                        have cN := hcell NOW hNk
                        rw [HNO.out] at cN HNEW2
                        have y0 : (0 : Int) ≤ (Y : Int) := by omega
                        have y1 : (Y : Int) < (k : Int) := by omega
                        have n0 : (0 : Int) ≤ (NOW : Int) := by omega
                        have n1 : (NOW : Int) < (k : Int) := by omega
                        have hdb := HDB.out
                        have HOL := Lib.hid hOl
                        clear hcell hfz HNO HDB hOl
                        generalize dst N NOW S0 = dN at *
                        have k8 := IntWalk.i64_in ((dN : Int) + 1) (by omega)
                        have HCY : Hid (O.getD Y 0 < 0 ∨ ¬ O.getD Y 0 < 0) := Lib.hid (Classical.em _)
                        rcases HCY.out with hneg | hneg
                        · have hTk := HROOM.out Y hYk hneg
                          have HB9 := Lib.hid (HNEW2.out hneg)
                          obtain ⟨hw1, hw2⟩ := HO.out.write HOL.out Y ((dN : Int) + 1)
                          have HW := Lib.hid hw1
                          have HTO : Hid (Row (wr.setCell ⟨gO, Y, none⟩ (.int .i64 ((dN : Int) + 1))) (gO + 1) u7 T) := Lib.hid (HT.out.off hw2 (fun q hq => by have := (HT.out.lt q hq).1; omega))
                          have HBS := Lib.hid (HBW.out.setCell (p := ⟨gO, Y, none⟩) (Nat.le_refl gO) (.int .i64 ((dN : Int) + 1)))
                          have hzr : gO + 1 ≤ wr.heap.size := by have := block_lt_of_cell cY; exact this
                          clear hw1 hw2 HNEW2 HSTAY2 HNEG HROOM HO HT HBW
                          generalize O.getD Y 0 = oY at *
                          go_wp2_with fail
                          refine (HRS.out _).mono ?_; rintro e w1 ⟨rfl, rfl⟩
                          go_wp2_with fail
                          refine (HPW1.out _).mono ?_; rintro e w1 ⟨rfl, rfl⟩
                          go_wp2_with fail
                          refine (HPW2.out _).mono ?_; rintro e w1 ⟨rfl, rfl⟩
                          go_wp2_with fail
                          refine (bit_yes _ _ NOW x _ rfl (by omega) rfl (by omega) hbx).mono ?_; rintro e w1 ⟨rfl, rfl⟩
                          go_wp2_with fail
                          refine (bit_no _ _ NOW y _ rfl (by omega) rfl (by omega) hby).mono ?_; rintro e w1 ⟨rfl, rfl⟩
                          go_upto_region 22 with fail
                          have hz3 : gO + 1 ≤ (wr.setCell ⟨gO, Y, none⟩ (.int .i64 ((dN : Int) + 1))).heap.size := by simpa using hzr
                          clear cY fY cN hzr
                          generalize wr.setCell ⟨gO, Y, none⟩ (.int .i64 ((dN : Int) + 1)) = W3 at *
                          have hT4 : T.length < 4096 := by omega
                          have hTi := HI.out
                          go_wp2_with (at_builtin; refine wpList_append_row rfl _ _ rfl (gO + 1) _ T rfl (HTO.out.alloc _) W3.heap.size 1 Y rfl ?c1 ?c2 ?c3 ?_)
                          case c1 => go_simp
                          case c2 => exact hT4
                          case c3 => simp; omega
                          intro v' w3 hrow hb1 hg1 hv1
                          have HR1 := Lib.hid hrow
                          have HO1 : Hid (Row w3 gO (.slice (some ⟨gO, 0, none⟩) k k) (O.set Y ((dN : Int) + 1))) := Lib.hid ((HW.out.alloc (.cells #[.int .i64 (Y : Int)] 3)).low hb1 (fun q hq => by simp [Value.ownBlock] at hq; omega))
                          have HB4 : Hid (Below gO w w3) := Lib.hid ((HBS.out.alloc (show gO ≤ W3.heap.size by omega) (.cells #[.int .i64 (Y : Int)] 3)).trans (hb1.mono (by omega)))
                          have HTI4 : Hid ((T ++ [(Y : Int)]).getD i 0 = (NOW : Int)) := Lib.hid (by rw [getD_app hTi]; exact HTI.out)
                          have HI4 : Hid (i < (T ++ [(Y : Int)]).length) := Lib.hid (by simp; omega)
                          clear hrow hb1 hg1 hv1 HW HTO HBS HTI HI
                          go_wp2
                          go_roundw
                          case rel => exact ⟨j + 1, _, _, by omega, by go_num, HI4, HTI4, HB9, HO1, HR1, HB4⟩
                          case measure => simp [intOf]; omega
                        · have HB9 := Lib.hid (HSTAY2.out (Classical.byContradiction fun q => hneg (by rw [HNEG.out q]; decide)))
                          clear HNEW2 HSTAY2 HNEG HROOM
                          generalize O.getD Y 0 = oY at *
                          go_wp2_with fail
                          refine (HRS.out _).mono ?_; rintro e w1 ⟨rfl, rfl⟩
                          go_wp2_with fail
                          refine (HPW1.out _).mono ?_; rintro e w1 ⟨rfl, rfl⟩
                          go_wp2_with fail
                          refine (HPW2.out _).mono ?_; rintro e w1 ⟨rfl, rfl⟩
                          go_wp2_with fail
                          refine (bit_yes _ _ NOW x _ rfl (by omega) rfl (by omega) hbx).mono ?_; rintro e w1 ⟨rfl, rfl⟩
                          go_wp2_with fail
                          refine (bit_no _ _ NOW y _ rfl (by omega) rfl (by omega) hby).mono ?_; rintro e w1 ⟨rfl, rfl⟩
                          go_wp2
                          go_roundw
                          case rel => exact ⟨j + 1, O, T, by omega, by go_num, HI, HTI, HB9, HO, HT, HBW⟩
                          case measure => simp [intOf]; omega
                · obtain rfl : j = 2 := by omega
                  have HBN : Hid (Bf N S0 O T i (2 * (x + 1))) := HBF
                  go_wp2
                  go_roundw
                  case rel => exact ⟨x + 1, O, T, by omega, by go_num, HI, HTI, HBN, HO, HT, HBW⟩
                  case measure => simp [intOf]; omega
            · obtain rfl : x = N := by omega
              have hTl := HBF.out.len
              rw [HP.out] at hTl
              have HBN := Lib.hid (HBF.out.next HI.out)
              have hI := HI.out
              go_wp2
              go_roundw
              case rel => exact ⟨i + 1, O, T, by omega, by go_num, HBN, HO, HT, HBW⟩
              case measure => simp [intOf]; omega
        · obtain rfl : i = T.length := by omega
          have hAL := fun S hS => HAL.out O T 0 HBF.out (dst N S S0) S hS rfl
          go_wp2
          go_ret
          exact ⟨_, O, rfl, by rw [HGO.out]; exact HO.out, by rw [HBF.out.olen]; exact HP.out, hAL, by rw [HGO.out]; exact HBW.out⟩
end Go.Proofs.YtjgkignnfkbeaaaTro

/-
  StepsTo of the model and of the program, where a sequential body stands for nearestTo, and the walk of FnExactStepsTo.
-/
namespace Go.Proofs.YtjgkignnfkbeaaaTro
open Go.RowKit
set_option linter.unusedVariables false
set_option maxRecDepth 20000

/-- a number -/
def Gives1 (a : Int) (w : World) (e : Ending) (w' : World) : Prop := e = .returned (.int .i64 a) ∧ Below w.heap.size w w'
/-- how many steps -/
def stP (n A B : Int) : Int := (dst n.toNat A.toNat B.toNat : Int)
theorem Voices.lens {n A B : Int} (h : Voices n A B) : (tonesTo A.toNat n.toNat).length = (tonesTo B.toNat n.toNat).length := by rw [← wt_len h.1, ← wt_len h.2.1]; exact h.2.2.2
theorem valid_lt {n A : Int} (h : Tic.Valid n A) : A.toNat < 2 ^ n.toNat := by
  obtain ⟨h1, h2, h3, h4⟩ := h
  omega
theorem Voices.pos {n A B : Int} (h : Voices n A B) : 0 < (tonesTo A.toNat n.toNat).length := len_pos (valid_lt h.1) (by have := h.1.2.2.1; have := h.2.2.1; omega)
theorem Voices.lk {n A B : Int} (h : Voices n A B) : Lk n.toNat A.toNat B.toNat := ⟨valid_lt h.2.1, h.lens.symm⟩
theorem Voices.ne0 {n A B : Int} (h : Voices n A B) : B ≠ 0 := fun e => by
  have h1 := h.lens
  have h2 := h.pos
  subst e
  have : ∀ k, (tonesTo 0 k).length = 0 := fun k => by
    induction k with
    | zero => rfl
    | succ k ih => rw [tonesTo_no (Nat.zero_testBit k)]; exact ih
  rw [show (0 : Int).toNat = 0 from rfl, this] at h1
  omega
theorem Voices.symm {n A B : Int} (h : Voices n A B) : Voices n B A := ⟨h.2.1, h.1, h.ne0, h.2.2.2.symm⟩
theorem iStepsTo_no (n A B : Int) (w : World) (h : ¬ Voices n A B) : Calls Tro.prog 26 #[.int .i64 n, .int .i64 A, .int .i64 B] w (Gives1 (-1) w) := by
  have HV : Hid (∀ w, Calls Tro.prog 41 #[.int .i64 n, .int .i64 A, .int .i64 B] w fun e w' => e = .returned (.bool false) ∧ Below w.heap.size w w') := Lib.hid (fun w => by have := validVoices_any n A B w; rw [vv_no h] at this; exact this)
  go_enter Tro.func26, Tro.ntmps26
  go_wp2_with fail
  refine (HV.out _).mono ?_; rintro e w1 ⟨rfl, hb1⟩
  go_wp2_with fail
  go_ret
  exact ⟨rfl, hb1⟩
theorem iStepsTo_yes (n A B : Int) (w : World) (h : Voices n A B) : Calls Tro.prog 26 #[.int .i64 n, .int .i64 A, .int .i64 B] w (Gives1 (stP n A B) w) := by
  have HV : Hid (∀ w, Calls Tro.prog 41 #[.int .i64 n, .int .i64 A, .int .i64 B] w fun e w' => e = .returned (.bool true) ∧ Below w.heap.size w w') := Lib.hid (fun w => by have := validVoices_any n A B w; rw [vv_yes h] at this; exact this)
  have HP : Hid (∀ w, Calls Tro.prog 42 #[.agg #[.int .i64 n, .int .i64 A], .agg #[.int .i64 n, .int .i64 B]] w fun e w' => ∃ p : Nat, e = .returned (.agg #[.int .i64 (p : Int), .int .i64 (stP n A B)]) ∧ Below w.heap.size w w') := Lib.hid (fun w => (stub_any n A B w h).mono (fun e w' ⟨h1, h2⟩ => ⟨_, h1, h2⟩))
  generalize stP n A B = d at *
  go_enter Tro.func26, Tro.ntmps26
  go_wp2_with fail
  refine (HV.out _).mono ?_; rintro e w1 ⟨rfl, hb1⟩
  have HB1 := Lib.hid hb1
  clear hb1
  go_wp2_with fail
  refine (HP.out _).mono ?_; rintro e w2 ⟨p, rfl, hb2⟩
  have HB2 := Lib.hid (HB1.out.trans (hb2.mono HB1.out.size))
  have hfl := far_of (p : Int) d
  clear hb2
  go_wp2
  go_ret
  exact ⟨rfl, HB2.out⟩
theorem sStepsTo_no (n A B : Int) (w : World) (h : ¬ Voices n A B) : Calls Tro.prog 27 #[.int .i64 n, .int .i64 A, .int .i64 B] w (Gives1 (-1) w) := by
  have HV : Hid (∀ w, Calls Tro.prog 44 #[.int .i64 n, .int .i64 A, .int .i64 B] w fun e w' => e = .returned (.bool false) ∧ w = w') := Lib.hid (fun w => by have := validPair_any n A B w; rw [vv_no h] at this; exact this)
  go_enter Tro.func27, Tro.ntmps27
  go_wp2_with fail
  refine (HV.out _).mono ?_; rintro e w1 ⟨rfl, rfl⟩
  go_wp2_with fail
  go_ret
  exact ⟨rfl, Below.refl _ _⟩
theorem sStepsTo_yes (n A B : Int) (w : World) (h : Voices n A B) : Calls Tro.prog 27 #[.int .i64 n, .int .i64 A, .int .i64 B] w (Gives1 (stP n A B) w) := by
  have HV : Hid (∀ w, Calls Tro.prog 44 #[.int .i64 n, .int .i64 A, .int .i64 B] w fun e w' => e = .returned (.bool true) ∧ w = w') := Lib.hid (fun w => by have := validPair_any n A B w; rw [vv_yes h] at this; exact this)
  have HF : Hid (∀ w, Calls Tro.prog 55 #[.int .i64 n, .int .i64 A] w fun e w' => ∃ v O, e = .returned v ∧ Row w' w.heap.size v O ∧ O.length = 2 ^ n.toNat ∧ O.getD B.toNat 0 = stP n A B ∧ Below w.heap.size w w') := Lib.hid (fun w => (fars_any n A w h.1 h.2.2.1).mono (fun e w' ⟨v, O, h1, h2, h3, h4, h5⟩ => ⟨v, O, h1, h2, h3, by
    rw [h4 _ h.lk]
    unfold stP
    rw [dst_symm (by have := h.1.2.1; omega) (by have := h.1.1; omega) h.lk.2 h.pos], h5⟩))
  have hBl := valid_lt h.2.1
  have hB0 := h.2.1.2.2.1
  obtain ⟨S, rfl⟩ := Int.eq_ofNat_of_zero_le hB0
  rw [Int.toNat_natCast] at *
  generalize stP n A (S : Int) = d at *
  generalize 2 ^ n.toNat = p at *
  clear h
  go_enter Tro.func27, Tro.ntmps27
  go_wp2_with fail
  refine (HV.out _).mono ?_; rintro e w1 ⟨rfl, rfl⟩
  go_wp2_with fail
  refine (HF.out _).mono ?_; rintro e w2 ⟨v, O, rfl, hr, hl, ho, hb⟩
  obtain ⟨g, c, rfl, hg, hgl, hcell, _⟩ := hr.cases.resolve_left (fun q => by rw [q.2] at hl; simp at hl; omega)
  have c0 := hcell S (by omega)
  rw [ho] at c0
  rw [hl]
  have s0 : (0 : Int) ≤ (S : Int) := by omega
  have s1 : (S : Int) < (p : Int) := by omega
  have HB := Lib.hid hb
  clear hcell hr hl ho hb
  go_wp2
  go_ret
  exact ⟨rfl, HB.out⟩
theorem FnExactStepsTo_core (a0 a1 a2 d : Int) (hs : ∀ w, Calls Tro.prog 27 #[.int .i64 a0, .int .i64 a1, .int .i64 a2] w (Gives1 d w)) (hi : ∀ w, Calls Tro.prog 26 #[.int .i64 a0, .int .i64 a1, .int .i64 a2] w (Gives1 d w)) (w : World) :
    Calls Tro.prog 9 #[.int .i64 a0, .int .i64 a1, .int .i64 a2] w fun e w' => e = .returned (.bool true) ∧ Below w.heap.size w w' := by
  have HS := Lib.hid hs
  have HI := Lib.hid hi
  clear hs hi
  go_enter Tro.func9, Tro.ntmps9
  go_wp2_with fail
  refine (HS.out _).mono ?_; rintro e w1 ⟨rfl, b1⟩
  have B1 := Lib.hid b1
  have hz := b1.size
  clear b1
  go_wp2_with fail
  refine (HI.out _).mono ?_; rintro e w2 ⟨rfl, b2⟩
  have B2 := Lib.hid (B1.out.trans (b2.mono hz))
  clear b2
  go_wp2_with fail
  go_ret
  exact ⟨rfl, B2.out⟩
theorem FnExactStepsTo_walk (a0 a1 a2 : Int) (w : World) :
    Calls Tro.prog 9 #[.int .i64 a0, .int .i64 a1, .int .i64 a2] w fun e w' => e = .returned (.bool true) ∧ Below w.heap.size w w' := by
  rcases Classical.em (Voices a0 a1 a2) with h | h
  · exact FnExactStepsTo_core _ _ _ _ (fun w => sStepsTo_yes _ _ _ w h) (fun w => iStepsTo_yes _ _ _ w h) w
  · exact FnExactStepsTo_core _ _ _ _ (fun w => sStepsTo_no _ _ _ w h) (fun w => iStepsTo_no _ _ _ w h) w
end Go.Proofs.YtjgkignnfkbeaaaTro

/-
  Contracts of the reader of drawn numbers: newReader, pick, one.
-/
namespace Go.Proofs.YtjgkignnfkbeaaaTro
open Go.RowKit
set_option linter.unusedVariables false

/-- a row of bytes that can be read -/
def Bytes (w : World) (x : Option Addr) (len : Nat) (zs : List Int) : Prop :=
  len = 0 ∨ ∃ g o, x = some ⟨g, o, none⟩ ∧ g < w.heap.size ∧ ∀ i, i < len → w.cell? ⟨g, o + i, none⟩ = some (.int .u8 (zs.getD i 0)) ∧ 0 ≤ zs.getD i 0 ∧ zs.getD i 0 ≤ 255

/-- the reader in block B has drawn p numbers -/
def Rd (w : World) (B p : Nat) : Prop := ∃ (x : Option Addr) (len cap : Nat) (zs : List Int), len ≤ 2000 ∧ w.cell? ⟨B, 0, none⟩ = some (.slice x len cap) ∧ w.cell? ⟨B, 1, none⟩ = some (.int .i64 p) ∧ w.frozen? ⟨B, 1, none⟩ = false ∧
  B < w.heap.size ∧ (len = 0 ∨ ∃ g o, x = some ⟨g, o, none⟩ ∧ g < B ∧ ∀ i, i < len → w.cell? ⟨g, o + i, none⟩ = some (.int .u8 (zs.getD i 0)) ∧ 0 ≤ zs.getD i 0 ∧ zs.getD i 0 ≤ 255)

/-- what a draw gives -/
def Picks (n : Int) (B p : Nat) (w : World) (e : Ending) (w' : World) : Prop :=
  ∃ r : Int, e = .returned (.int .i64 r) ∧ 0 ≤ r ∧ (1 ≤ n → r < n) ∧ (n < 1 → r = 0) ∧ Rd w' B (p + 1) ∧ w.grownBy w' (some B)

/-- the reader behind a draw -/
theorem Rd.step {w : World} {B p : Nat} (h : Rd w B p) : Rd (w.setCell ⟨B, 1, none⟩ (.int .i64 ((p : Int) + 1))) B (p + 1) ∧ w.grownBy (w.setCell ⟨B, 1, none⟩ (.int .i64 ((p : Int) + 1))) (some B) := by
  obtain ⟨x, len, cap, zs, hlen, c0, c1, f1, hB, hb⟩ := h
  refine ⟨⟨x, len, cap, zs, hlen, ?_, ?_, by simpa using f1, by simpa using hB, ?_⟩, ⟨rfl, rfl, rfl, by simp, fun k _ hk => heap_setCell_other w ⟨B, 1, none⟩ k _ (fun e => hk (by simp [e]))⟩⟩
  · rw [World.cell?_setCell_other _ _ _ _ (by simp)]; exact c0
  · exact World.cell?_setCell_same _ _ _ c1
  · rcases hb with hb | ⟨g, o, rfl, hg, hcell⟩
    · exact .inl hb
    · refine .inr ⟨g, o, rfl, hg, fun i hi => ?_⟩
      rw [World.cell?_setCell_other _ _ _ _ (by intro e; injection e with e1 e2 e3; omega)]; exact hcell i hi
theorem Rd.drew {w : World} {B p : Nat} (h : Rd w B p) : Rd w.drew B p := h
theorem grown_drew {w w' : World} {r : Option Nat} (h : w.grownBy w' r) : w.grownBy w'.drew r := ⟨h.os, h.tape, h.output, h.size, h.block⟩

theorem i64_xor_nat (a b : Nat) (ha : a < 4611686018427387904) (hb : b < 4611686018427387904) : bits .xor .i64 (a : Int) (b : Int) = ((a ^^^ b : Nat) : Int) := by
  have hx : a ^^^ b < 2 ^ 62 := Nat.xor_lt_two_pow (by omega) (by omega)
  show IntKind.i64.wrap ((BitVec.ofInt 64 (a : Int) ^^^ BitVec.ofInt 64 (b : Int)).toNat : Int) = _
  rw [BitVec.toNat_xor, ofInt_i64 a ha, ofInt_i64 b hb]
  exact IntWalk.i64_in _ (by omega)
theorem xor_bd {X : Int} (h0 : 0 ≤ X) (h1 : X ≤ 100000000) : 0 ≤ bits .xor .i64 X (X / 64) ∧ bits .xor .i64 X (X / 64) ≤ 1000000000 := by
  obtain ⟨N, rfl⟩ := Int.eq_ofNat_of_zero_le h0
  have e : (N : Int) / 64 = ((N / 64 : Nat) : Int) := by omega
  rw [e, i64_xor_nat N (N / 64) (by omega) (by omega)]
  have hx : N ^^^ (N / 64) < 2 ^ 27 := Nat.xor_lt_two_pow (by omega) (by omega)
  omega

set_option maxRecDepth 20000 in
set_option maxHeartbeats 1000000 in
theorem pick_any (n : Int) (B p : Nat) (w : World) (h : Rd w B p) (hp : p ≤ 10000) (hn : -1000 ≤ n) (hn2 : n ≤ 100000) :
    Calls Tro.prog 62 #[.pointer (some ⟨B, 0, none⟩), .int .i64 n] w (Picks n B p w) := by
  have HS := Lib.hid h.step
  obtain ⟨x, len, cap, zs, hlen, c0, c1, f1, hB, hb⟩ := h
  by_cases hz : n < 1
  · go_enter Tro.func62, Tro.ntmps62
    go_wp2
    go_ret
    exact ⟨0, rfl, Int.le_refl _, by omega, fun _ => rfl, HS.out.1, HS.out.2⟩
  · rcases hb with hb | ⟨g, o, rfl, hg, hcell⟩
    · subst hb
      go_enter Tro.func62, Tro.ntmps62
      go_wp2
      go_ret
      exact ⟨0, rfl, Int.le_refl _, by omega, fun _ => rfl, HS.out.1, HS.out.2⟩
    · by_cases hl0 : len = 0
      · subst hl0
        go_enter Tro.func62, Tro.ntmps62
        go_wp2
        go_ret
        exact ⟨0, rfl, Int.le_refl _, by omega, fun _ => rfl, HS.out.1, HS.out.2⟩
      · by_cases hpl : p < len
        · obtain ⟨h1, h2, h3⟩ := hcell p hpl
          generalize zs.getD p 0 = z at h1 h2 h3
          clear hcell
          go_enter Tro.func62, Tro.ntmps62
          go_wp2
          go_ret
          refine ⟨z % n, rfl, Int.emod_nonneg _ (by omega), fun _ => Int.emod_lt_of_pos _ (by omega), fun h => by omega, HS.out.1, HS.out.2⟩
        · obtain ⟨h1, h2, h3⟩ := hcell (p % len) (Nat.mod_lt _ (by omega))
          obtain ⟨h4, h5, h6⟩ := hcell ((p * 7 + 3) % len) (Nat.mod_lt _ (by omega))
          generalize zs.getD (p % len) 0 = z at h1 h2 h3
          generalize zs.getD ((p * 7 + 3) % len) 0 = y at h4 h5 h6
          clear hcell
          have i1 := Int.emod_nonneg (p : Int) (b := (len : Int)) (by omega)
          have i2 := Int.emod_lt_of_pos (p : Int) (b := (len : Int)) (by omega)
          have i3 := Int.emod_nonneg ((p : Int) * 7 + 3) (b := (len : Int)) (by omega)
          have i4 := Int.emod_lt_of_pos ((p : Int) * 7 + 3) (b := (len : Int)) (by omega)
          obtain ⟨i5, i6⟩ := Tic.div_bd p len
          go_enter Tro.func62, Tro.ntmps62
          go_wp2
          go_region
          have x0 : 0 ≤ z * 131 + y * 1117 + (p : Int) * 29 + (p : Int) / (len : Int) * 53 := by omega
          have x1 : z * 131 + y * 1117 + (p : Int) * 29 + (p : Int) / (len : Int) * 53 ≤ 100000000 := by omega
          clear i1 i2 i3 i4 i5 i6
          generalize z * 131 + y * 1117 + (p : Int) * 29 + (p : Int) / (len : Int) * 53 = X at x0 x1
          obtain ⟨y0, y1⟩ := xor_bd x0 x1
          go_wp2
          go_ret
          exact ⟨bits .xor .i64 X (X / 64) % n, rfl, Int.emod_nonneg _ (by omega), fun _ => Int.emod_lt_of_pos _ (by omega), fun h => by omega, HS.out.1, grown_drew HS.out.2⟩

/-- the reader was made; nothing that was there is written -/
def Made (w : World) (e : Ending) (w' : World) : Prop := e = .returned (.pointer (some ⟨w.heap.size, 0, none⟩)) ∧ Rd w' w.heap.size 0 ∧ Below w.heap.size w w' ∧ w.heap.size < w'.heap.size

theorem rd_new {w : World} {x : Option Addr} {len cap : Nat} {zs : List Int} {t : TypeId} (hl : len ≤ 2000) (hb : Bytes w x len zs) : Rd (w.alloc (.cells #[.slice x len cap, .int .i64 0] t)) w.heap.size 0 := by
  refine ⟨x, len, cap, zs, hl, ?_, ?_, ?_, by simp, ?_⟩
  · go_simp
  · go_simp
  · go_simp
  · rcases hb with hb | ⟨g, o, rfl, hg, hc⟩
    · exact .inl hb
    · refine .inr ⟨g, o, rfl, hg, fun i hi => ?_⟩
      obtain ⟨h1, h2, h3⟩ := hc i hi
      exact ⟨((Below.refl w.heap.size w).alloc (Nat.le_refl _) _ |>.cell (p := ⟨g, o + i, none⟩) hg).trans h1, h2, h3⟩

theorem newReader_any (x : Option Addr) (len cap : Nat) (zs : List Int) (w : World) (hb : Bytes w x len zs) (hlc : len ≤ cap) (hc : cap ≤ maxLen) :
    Calls Tro.prog 40 #[.slice x len cap] w (Made w) := by
  unfold maxLen at hc
  by_cases hl : len ≤ 2000
  · have HR := fun t => rd_new (t := t) (cap := cap) hl hb
    have HR := Lib.hid HR
    go_enter Tro.func40, Tro.ntmps40
    go_wp2
    go_ret
    exact ⟨rfl, HR.out _, (Below.refl _ _).alloc (Nat.le_refl _) _, by simp⟩
  · have hb2 : Bytes w x 2000 zs := by
      rcases hb with hb | ⟨g, o, rfl, hg, hc⟩
      · omega
      · exact .inr ⟨g, o, rfl, hg, fun i hi => hc i (by omega)⟩
    have HR := fun t => rd_new (t := t) (cap := cap) (Nat.le_refl 2000) hb2
    have HR := Lib.hid HR
    rcases hb with hb | ⟨g, o, rfl, hg, hc⟩
    · omega
    · clear hc
      go_enter Tro.func40, Tro.ntmps40
      go_wp2
      go_ret
      exact ⟨rfl, HR.out _, (Below.refl _ _).alloc (Nat.le_refl _) _, by simp⟩

/-- one of the numbers L is drawn -/
def Ones (L : List Int) (B p : Nat) (w : World) (e : Ending) (w' : World) : Prop := ∃ y, y ∈ L ∧ e = .returned (.int .i64 y) ∧ Rd w' B (p + 1) ∧ w.grownBy w' (some B)

theorem one_any (v : Value) (BL : Nat) (L : List Int) (B p : Nat) (w : World) (h : Rd w B p) (hp : p ≤ 10000) (hr : Row w BL v L) (hv : v.ownBlock ≠ some B) (hne : L ≠ []) (hl4 : L.length ≤ 4096) :
    Calls Tro.prog 80 #[.pointer (some ⟨B, 0, none⟩), v] w (Ones L B p w) := by
  have hl2 := hr.2
  have hl0 : 0 < L.length := List.length_pos_iff.2 hne
  have HK : Hid (∀ w', w.grownBy w' (some B) → Row w' BL v L) := fun w' hg => ⟨hr.1.kept hg (.inr hv), hr.2⟩
  rcases hr.cases with ⟨_, e⟩ | ⟨g, c, rfl, _, hg, hc, _⟩
  · exact absurd e hne
  generalize hn : L.length = n at hl2 hl0 hc hl4
  have HN := Lib.hid hn
  clear hn hc hv hne hr
  go_enter Tro.func80, Tro.ntmps80
  go_wp2_with fail
  refine (pick_any _ _ _ _ h hp (by omega) (by omega)).mono ?_; rintro e w1 ⟨r, rfl, h0, h1, _, hrd, hgr⟩
  have h2 := h1 (by omega)
  obtain ⟨R, rfl⟩ := Int.eq_ofNat_of_zero_le h0
  have hRn : R < n := by omega
  have hc1 : w1.cell? ⟨g, R, none⟩ = some (.int .i64 (L.getD R 0)) := by
    rcases (HK.out w1 hgr).cases with ⟨e, _⟩ | ⟨g', c', e, _, _, hc, _⟩
    · cases e
    · simp only [Value.slice.injEq, Option.some.injEq, Addr.mk.injEq, and_true, true_and] at e
      obtain ⟨rfl, _, rfl⟩ := e
      exact hc R (by rw [HN.out]; exact hRn)
  have hmem : L.getD R 0 ∈ L := by
    rw [List.getD_eq_getElem?_getD, List.getElem?_eq_getElem (by rw [HN.out]; exact hRn)]
    exact List.getElem_mem _
  have HM := Lib.hid hmem
  have HRD := Lib.hid hrd
  have HG := Lib.hid hgr
  clear hmem hrd hgr h1
  generalize L.getD R 0 = y at hc1 HM
  go_wp2
  go_ret
  exact ⟨y, HM.out, rfl, HRD.out, HG.out⟩

end Go.Proofs.YtjgkignnfkbeaaaTro

/-
  Contracts of the drawn arguments: circles, sets, shifts.
-/
namespace Go.Proofs.YtjgkignnfkbeaaaTro
open Go.RowKit
set_option linter.unusedVariables false

theorem grown_trans {a b c : World} {r : Option Nat} (h : a.grownBy b r) (k : b.grownBy c r) : a.grownBy c r :=
  ⟨k.os.trans h.os, k.tape.trans h.tape, k.output.trans h.output, Nat.le_trans h.size k.size, fun i hi hr => (k.block i (Nat.lt_of_lt_of_le hi h.size) hr).trans (h.block i hi hr)⟩
theorem grown_alloc (w : World) (o : Obj) (r : Option Nat) : w.grownBy (w.alloc o) r := World.grownBy_alloc w o r
theorem grown_below {w w' : World} {r : Option Nat} (hb : Below w.heap.size w w') : w.grownBy w' r := ⟨hb.os, hb.tape, hb.output, hb.size, fun k hk _ => hb.block k hk⟩
theorem Rd.kept {w w' : World} {B p : Nat} (h : Rd w B p) (hb : Below w.heap.size w w') : Rd w' B p := by
  obtain ⟨x, len, cap, zs, hlen, c0, c1, f1, hB, hb2⟩ := h
  refine ⟨x, len, cap, zs, hlen, (hb.cell (p := ⟨B, 0, none⟩) hB).trans c0, (hb.cell (p := ⟨B, 1, none⟩) hB).trans c1, (hb.frozen (p := ⟨B, 1, none⟩) hB).trans f1, Nat.lt_of_lt_of_le hB hb.size, ?_⟩
  rcases hb2 with hb2 | ⟨g, o, e, hg, hc⟩
  · exact .inl hb2
  · exact .inr ⟨g, o, e, hg, fun i hi => ⟨(hb.cell (p := ⟨g, o + i, none⟩) (Nat.lt_trans hg hB)).trans (hc i hi).1, (hc i hi).2⟩⟩
theorem Rd.alloc {w : World} {B p : Nat} (h : Rd w B p) (o : Obj) : Rd (w.alloc o) B p := h.kept ((Below.refl _ _).alloc (Nat.le_refl _) _)
theorem Rd.lt {w : World} {B p : Nat} (h : Rd w B p) : B < w.heap.size := by obtain ⟨_, _, _, _, _, _, _, _, hB, _⟩ := h; exact hB

/-- a number from lo to hi is drawn, by at most c draws -/
def Dr (lo hi : Int) (c B p : Nat) (w : World) (e : Ending) (w' : World) : Prop :=
  ∃ (y : Int) (p' : Nat), e = .returned (.int .i64 y) ∧ lo ≤ y ∧ y ≤ hi ∧ p' ≤ p + c ∧ Rd w' B p' ∧ w.grownBy w' (some B)

theorem row_lit (w : World) (L : List Int) (hl : L.length ≤ 4096) : Row (w.alloc (.cells (L.map (Value.int .i64)).toArray 3)) w.heap.size (.slice (some ⟨w.heap.size, 0, none⟩) L.length L.length) L := by
  refine ⟨?_, by omega⟩
  have := World.ownsRow_lit (base := w.heap.size) (e := 3) (size := 1) w (L.map (Value.int .i64)).toArray L.length (Nat.le_refl _) (by unfold maxLen; omega) (by simp)
  simpa using this

/-- one of the numbers of a list just written out -/
theorem one_lit (L : List Int) (cs : Array Value) (n : Nat) (lo hi : Int) (B p : Nat) (w : World) (hcs : cs = (L.map (Value.int .i64)).toArray) (hn : n = L.length) (h : Rd w B p) (hp : p ≤ 10000) (hl : L.length ≤ 4096) (hne : L ≠ [])
    (hlo : ∀ y ∈ L, lo ≤ y ∧ y ≤ hi) :
    Calls Tro.prog 80 #[.pointer (some ⟨B, 0, none⟩), .slice (some ⟨w.heap.size, 0, none⟩) n n] (w.alloc (.cells cs 3)) (Dr lo hi 1 B p w) := by
  subst hcs hn
  refine (one_any _ _ L B p _ (h.alloc _) hp (row_lit w L hl) ?_ hne hl).mono ?_
  · intro e
    have := h.lt
    simp [Value.ownBlock] at e
    omega
  · rintro e w' ⟨y, hy, rfl, hr, hg⟩
    exact ⟨y, p + 1, rfl, (hlo y hy).1, (hlo y hy).2, by omega, hr, grown_trans (grown_alloc _ _ _) hg⟩

theorem circle_any (B p : Nat) (w : World) (h : Rd w B p) (hp : p ≤ 9000) :
    Calls Tro.prog 72 #[.pointer (some ⟨B, 0, none⟩)] w (Dr (-1) 13 2 B p w) := by
  go_enter Tro.func72, Tro.ntmps72
  go_wp2_with fail
  refine (pick_any _ _ _ _ h (by omega) (by omega) (by omega)).mono ?_; rintro e w1 ⟨r, rfl, h0, h1, _, hrd, hgr⟩
  have HRD := Lib.hid hrd
  have HG := Lib.hid hgr
  clear hrd hgr h1
  by_cases hr : r = 0
  · subst hr
    go_wp2_with fail
    refine (one_lit [2, 13, 0, -1] _ _ (-1) 13 _ _ _ rfl rfl HRD.out (by omega) (by decide) (by decide) (by decide)).mono ?_; rintro e w2 ⟨y, p', rfl, y0, y1, hp', hrd, hgr⟩
    go_wp2_with fail
    go_ret
    exact ⟨y, p', rfl, y0, y1, by omega, hrd, grown_trans HG.out hgr⟩
  · go_wp2_with fail
    refine (one_lit [12, 7, 8, 12, 5, 6, 10, 9, 11, 4, 3] _ _ (-1) 13 _ _ _ rfl rfl HRD.out (by omega) (by decide) (by decide) (by decide)).mono ?_; rintro e w2 ⟨y, p', rfl, y0, y1, hp', hrd, hgr⟩
    go_wp2_with fail
    go_ret
    exact ⟨y, p', rfl, y0, y1, by omega, hrd, grown_trans HG.out hgr⟩

theorem spread_any (n k m : Int) (w : World) (h1 : 1 ≤ n) (h2 : n ≤ 12) (h3 : 1 ≤ k) (h4 : k ≤ 12) (h5 : 0 ≤ m) (h6 : m ≤ 12) :
    Calls Tro.prog 81 #[.int .i64 n, .int .i64 k, .int .i64 m] w fun e w' => ∃ y : Int, e = .returned (.int .i64 y) ∧ 0 ≤ y ∧ y ≤ 50000 ∧ w = w' := by
  obtain ⟨N, rfl⟩ := Int.eq_ofNat_of_zero_le (show 0 ≤ n by omega)
  obtain ⟨K, rfl⟩ := Int.eq_ofNat_of_zero_le (show 0 ≤ k by omega)
  obtain ⟨M, rfl⟩ := Int.eq_ofNat_of_zero_le h5
  have HP : Hid (∃ Q : Ending → World → Prop, Q = fun e w' => ∃ y : Int, e = .returned (.int .i64 y) ∧ 0 ≤ y ∧ y ≤ 50000 ∧ w = w') := ⟨_, rfl⟩
  obtain ⟨Q, hQ⟩ := HP.out
  rw [← hQ]
  have HQ := Lib.hid hQ
  clear hQ HP
  go_enter Tro.func81, Tro.ntmps81
  go_wp2
  go_loop [7, 8] (fun t7 t8 => ∃ i y : Nat, i ≤ K ∧ y ≤ i * 4096 ∧ t8 = .int .i64 i ∧ t7 = .int .i64 y) (fun _ t8 => K - (intOf t8).toNat)
  case atStart => exact ⟨0, 0, by omega, by omega, rfl, rfl⟩
  case round =>
    obtain ⟨i, y, hi, hy, rfl, rfl⟩ := hrel
    by_cases hlt : i < K
    · have a1 : i * N ≤ 144 := by have := Nat.mul_le_mul (show i ≤ 12 by omega) (show N ≤ 12 by omega); omega
      have a2 : (0 : Int) ≤ (i : Int) * (N : Int) := by rw [← Int.natCast_mul]; omega
      have a3 : (i : Int) * (N : Int) ≤ 144 := by rw [← Int.natCast_mul]; omega
      have a4 : 0 ≤ ((i : Int) * (N : Int) + (M : Int)) / (K : Int) := Int.ediv_nonneg (by omega) (by omega)
      have a5 : ((i : Int) * (N : Int) + (M : Int)) / (K : Int) ≤ 200 := by
        have := Int.ediv_le_self (K : Int) (show 0 ≤ (i : Int) * (N : Int) + (M : Int) by omega); omega
      have a6 := Int.emod_nonneg (((i : Int) * (N : Int) + (M : Int)) / (K : Int)) (b := (N : Int)) (by omega)
      have a7 := Int.emod_lt_of_pos (((i : Int) * (N : Int) + (M : Int)) / (K : Int)) (b := (N : Int)) (by omega)
      have hp : 2 ^ (((i : Int) * (N : Int) + (M : Int)) / (K : Int) % (N : Int)).toNat ≤ 4096 := Tic.pow_le_12 (by omega)
      go_wp2_with fail
      refine (power_any _ _ (by omega) (by omega)).mono ?_; rintro e w1 ⟨rfl, rfl⟩
      generalize 2 ^ (((i : Int) * (N : Int) + (M : Int)) / (K : Int) % (N : Int)).toNat = P at hp
      clear a1 a2 a3 a4 a5 a6 a7
      go_wp2
      go_round
      case rel => exact ⟨i + 1, y + P, by omega, by omega, by go_num, by go_num⟩
      case measure => simp [intOf]; omega
    · have : i = K := by omega
      subst this
      go_wp2
      rw [HQ.out]
      exact ⟨y, rfl, by omega, by omega, rfl⟩

theorem power_ex (n : Int) (w : World) (h0 : 0 ≤ n) (h1 : n ≤ 12) :
    Calls Tro.prog 65 #[.int .i64 n] w fun e w' => ∃ P : Nat, e = .returned (.int .i64 P) ∧ 1 ≤ P ∧ P ≤ 4096 ∧ w = w' :=
  (power_any n w h0 (by omega)).mono fun e w' ⟨h2, h3⟩ => ⟨_, h2, Nat.one_le_two_pow, Tic.pow_le_12 h1, h3⟩
theorem and_bd {x y : Int} (h0 : 0 ≤ x) (h1 : x ≤ 100000) (h2 : 0 ≤ y) (h3 : y ≤ 100000) : 0 ≤ bits .and .i64 x y ∧ bits .and .i64 x y ≤ x := by
  obtain ⟨a, rfl⟩ := Int.eq_ofNat_of_zero_le h0
  obtain ⟨b, rfl⟩ := Int.eq_ofNat_of_zero_le h2
  rw [i64_and_nat a b (by omega) (by omega)]
  have := Nat.and_le_left (n := a) (m := b)
  omega
/-- a draw of a number, as the walks use it -/
def Pk (n : Int) (B p : Nat) (w : World) (e : Ending) (w' : World) : Prop := ∃ r : Int, e = .returned (.int .i64 r) ∧ 0 ≤ r ∧ r < n ∧ Hid (Rd w' B (p + 1)) ∧ Hid (w.grownBy w' (some B))
theorem pick_pos (n : Int) (B p : Nat) (w : World) (h : Rd w B p) (hp : p ≤ 10000) (hn : 1 ≤ n) (hn2 : n ≤ 100000) :
    Calls Tro.prog 62 #[.pointer (some ⟨B, 0, none⟩), .int .i64 n] w (Pk n B p w) :=
  (pick_any n B p w h hp (by omega) hn2).mono fun e w' ⟨r, h1, h2, h3, _, h5, h6⟩ => ⟨r, h1, h2, h3 hn, h5, h6⟩

set_option maxRecDepth 20000 in
set_option maxHeartbeats 2000000 in
theorem setOf_any (n : Int) (B p : Nat) (w : World) (h : Rd w B p) (hp : p ≤ 8000) (hn : -1000 ≤ n) (hn2 : n ≤ 1000) :
    Calls Tro.prog 61 #[.pointer (some ⟨B, 0, none⟩), .int .i64 n] w (Dr (-1) 1000000 8 B p w) := by
  have H := Lib.hid h
  clear h
  rcases (show n < 0 ∨ (0 ≤ n ∧ n ≤ 2) ∨ (2 < n ∧ n ≤ 12) ∨ 12 < n by omega) with c | ⟨c, c2⟩ | ⟨c, c2⟩ | c
  all_goals
    go_enter Tro.func61, Tro.ntmps61
    go_wp2_with fail
    refine (pick_pos _ _ _ _ H.out (by omega) (by omega) (by omega)).mono ?_; rintro e w1 ⟨r0, rfl, h0, h1, H1, G1⟩
    by_cases hr0 : r0 = 0
    · subst hr0
      go_wp2_with fail
      refine (power_ex _ _ (by omega) (by omega)).mono ?_; rintro e w2 ⟨P, rfl, p1, p2, rfl⟩
      go_wp2_with fail
      refine (one_lit [-1, (P : Int), 0] _ _ (-1) 1000000 _ _ _ rfl rfl H1.out (by omega) (by simp) (by simp) ?_).mono ?_
      · intro y hy; simp at hy; omega
      rintro e w2 ⟨y, p', rfl, y0, y1, hp', hrd, hgr⟩
      go_wp2_with fail
      go_ret
      exact ⟨y, p', rfl, y0, y1, by omega, hrd, grown_trans G1.out hgr⟩
    · go_wp2_with fail
      refine (pick_pos _ _ _ _ H1.out (by omega) (by omega) (by omega)).mono ?_; rintro e w2 ⟨r1, rfl, h2, h3, H2, G2⟩
      replace G2 := Lib.hid (grown_trans G1.out G2.out)
      clear H1 G1
      go_wp2_with fail
      refine (pick_pos _ _ _ _ H2.out (by omega) (by omega) (by omega)).mono ?_; rintro e w3 ⟨r2, rfl, h4, h5, H3, G3⟩
      replace G3 := Lib.hid (grown_trans G2.out G3.out)
      clear H2 G2
      go_wp2_with fail
      refine (power_ex _ _ (by omega) (by omega)).mono ?_; rintro e w4 ⟨P, rfl, p1, p2, rfl⟩
      have x0 := Int.emod_nonneg (r1 + 256 * r2) (b := (P : Int)) (by omega)
      have x1 := Int.emod_lt_of_pos (r1 + 256 * r2) (b := (P : Int)) (by omega)
      go_wp2_with fail
      refine (pick_pos _ _ _ _ H3.out (by omega) (by omega) (by omega)).mono ?_; rintro e w5 ⟨r3, rfl, h6, h7, H4, G4⟩
      replace G4 := Lib.hid (grown_trans G3.out G4.out)
      clear H3 G3
      generalize (r1 + 256 * r2) % (P : Int) = x at x0 x1
      rcases (show r3 = 0 ∨ r3 = 1 ∨ (r3 ≠ 0 ∧ r3 ≠ 1) by omega) with c3 | c3 | ⟨c3, c4⟩
      · subst c3
        go_wp2_with fail
        refine (pick_pos _ _ _ _ H4.out (by omega) (by omega) (by omega)).mono ?_; rintro e w6 ⟨r4, rfl, h8, h9, H5, G5⟩
        replace G5 := Lib.hid (grown_trans G4.out G5.out)
        clear H4 G4
        go_wp2_with fail
        refine (pick_pos _ _ _ _ H5.out (by omega) (by omega) (by omega)).mono ?_; rintro e w7 ⟨r5, rfl, h10, h11, H6, G6⟩
        replace G6 := Lib.hid (grown_trans G5.out G6.out)
        clear H5 G5
        obtain ⟨z0, z1⟩ := and_bd (x := x) (y := r4 + 256 * r5) x0 (by omega) (by omega) (by omega)
        go_wp2
        go_ret
        exact ⟨_, _, rfl, by omega, by omega, by omega, H6.out, G6.out⟩
      · subst c3
        first
          | (exfalso; omega)
          | (go_wp2_with fail
             go_ret
             exact ⟨x, _, rfl, by omega, by omega, by omega, H4.out, G4.out⟩)
          | (go_wp2_with fail
             refine (pick_pos _ _ _ _ H4.out (by omega) (by omega) (by omega)).mono ?_; rintro e w6 ⟨r4, rfl, h8, h9, H5, G5⟩
             replace G5 := Lib.hid (grown_trans G4.out G5.out)
             clear H4 G4
             go_wp2_with fail
             refine (pick_pos _ _ _ _ H5.out (by omega) (by omega) (by omega)).mono ?_; rintro e w7 ⟨r5, rfl, h10, h11, H6, G6⟩
             replace G6 := Lib.hid (grown_trans G5.out G6.out)
             clear H5 G5
             go_wp2_with fail
             refine (spread_any _ _ _ _ (by omega) (by omega) (by omega) (by omega) (by omega) (by omega)).mono ?_; rintro e w8 ⟨y, rfl, y0, y1, rfl⟩
             go_wp2_with fail
             go_ret
             exact ⟨y, _, rfl, by omega, by omega, by omega, H6.out, G6.out⟩)
      · go_wp2_with fail
        go_ret
        exact ⟨x, _, rfl, by omega, by omega, by omega, H4.out, G4.out⟩

/-- a circle and a set of its tones are drawn -/
def DrSet (c B p : Nat) (w : World) (e : Ending) (w' : World) : Prop :=
  ∃ (n s : Int) (p' : Nat), e = .returned (.tuple #[.int .i64 n, .int .i64 s]) ∧ -1 ≤ n ∧ n ≤ 13 ∧ -1 ≤ s ∧ s ≤ 1000000 ∧ p' ≤ p + c ∧ Rd w' B p' ∧ w.grownBy w' (some B)
theorem aSet_any (B p : Nat) (w : World) (h : Rd w B p) (hp : p ≤ 7000) :
    Calls Tro.prog 50 #[.pointer (some ⟨B, 0, none⟩)] w (DrSet 10 B p w) := by
  go_enter Tro.func50, Tro.ntmps50
  go_wp2_with fail
  refine (circle_any _ _ _ h (by omega)).mono ?_; rintro e w1 ⟨n, p1, rfl, n0, n1, hp1, hr1, hg1⟩
  have H1 := Lib.hid hr1
  have G1 := Lib.hid hg1
  clear hr1 hg1
  go_wp2_with fail
  refine (setOf_any _ _ _ _ H1.out (by omega) (by omega) (by omega)).mono ?_; rintro e w2 ⟨s, p2, rfl, s0, s1, hp2, hr2, hg2⟩
  have H2 := Lib.hid hr2
  have G2 := Lib.hid (grown_trans G1.out hg2)
  clear hr2 hg2
  go_wp2_with fail
  go_ret2
  exact ⟨n, s, p2, rfl, n0, n1, by omega, s1, by omega, H2.out, G2.out⟩


/-- the arguments of a function of a circle and a set -/
def Two (w : World) (e : Ending) (w' : World) : Prop := ∃ n s : Int, e = .returned (.tuple #[.int .i64 n, .int .i64 s]) ∧ -1 ≤ n ∧ n ≤ 13 ∧ -1 ≤ s ∧ s ≤ 1000000 ∧ Below w.heap.size w w'
/-- the arguments of a function of a circle, a set and a number -/
def Three (w : World) (e : Ending) (w' : World) : Prop := ∃ n s t : Int, e = .returned (.tuple #[.int .i64 n, .int .i64 s, .int .i64 t]) ∧ -1 ≤ n ∧ n ≤ 13 ∧ -1 ≤ s ∧ s ≤ 1000000 ∧ -60 ≤ t ∧ t ≤ 60 ∧ Below w.heap.size w w'
theorem below_grown {w w1 w2 : World} (h : Below w.heap.size w w1) (hg : w1.grownBy w2 (some w.heap.size)) : Below w.heap.size w w2 :=
  h.grown hg h.size (fun k hk => by injection hk with hk; omega)

end Go.Proofs.YtjgkignnfkbeaaaTro

/-
  Contracts of the drawers of arguments of a circle and a set, and of a shift beside them.
-/
namespace Go.Proofs.YtjgkignnfkbeaaaTro
open Go.RowKit
set_option linter.unusedVariables false

/-- a code that came in, byte by byte -/
def Code (w : World) (x : Option Addr) (len cap : Nat) : Prop := ∃ zs, Bytes w x len zs ∧ len ≤ cap ∧ cap ≤ maxLen
theorem code_nil (w : World) : Code w none 0 0 := ⟨[], .inl rfl, Nat.le_refl _, Nat.zero_le _⟩
theorem code_row {w : World} {x : Addr} {len cap : Nat} {z : List Int} (hl : len ≤ cap) (hm : cap ≤ maxLen) (hz : z.length = cap) (hcell : ∀ i, i < z.length → w.cell? (x.add i) = some (.int .u8 (z.getD i 0))) (hwz : ∀ n ∈ z, (Lit.int .u8 n).wf = true) : Code w (some x) len cap := by
  refine ⟨z, ?_, hl, hm⟩
  by_cases h0 : len = 0
  · exact .inl h0
  · obtain ⟨b, off, spot⟩ := x
    have hc := hcell 0 (by omega)
    have hspot : spot = none := by simpa [Addr.add] using World.cell?_spot hc
    subst hspot
    have hb : b < w.heap.size := by simpa [Addr.add] using World.block_lt_of_cell? w _ hc
    refine .inr ⟨b, off, rfl, hb, fun i hi => ⟨(show (⟨b, off + i, none⟩ : Addr) = (⟨b, off, none⟩ : Addr).add i by unfold Addr.add; split <;> simp_all) ▸ hcell i (by omega), ?_⟩⟩
    have hmem : z.getD i 0 ∈ z := by
      rw [List.getD_eq_getElem?_getD, List.getElem?_eq_getElem (by omega)]
      exact List.getElem_mem _
    have hw := hwz _ hmem
    exact bounds_u8 hw

theorem drawNearOf (x : Option Addr) (len cap : Nat) (w : World) (h : Code w x len cap) : Calls Tro.prog 19 #[.slice x len cap] w (Two w) := by
  obtain ⟨zs, h1, h2, h3⟩ := h
  go_enter Tro.func19, Tro.ntmps19
  go_wp2_with fail
  refine (newReader_any _ _ _ _ _ h1 h2 h3).mono ?_; rintro e w1 ⟨rfl, hrd, hb, _⟩
  have HB := Lib.hid hb
  clear hb
  go_wp2_with fail
  refine (aSet_any _ _ _ hrd (by omega)).mono ?_; rintro e w2 ⟨n, s, p', rfl, n0, n1, s0, s1, _, _, hg⟩
  go_wp2_with fail
  go_ret2
  exact ⟨n, s, rfl, n0, n1, s0, s1, below_grown HB.out hg⟩
theorem drawSmoothOf (x : Option Addr) (len cap : Nat) (w : World) (h : Code w x len cap) : Calls Tro.prog 31 #[.slice x len cap] w (Two w) := by
  obtain ⟨zs, h1, h2, h3⟩ := h
  go_enter Tro.func31, Tro.ntmps31
  go_wp2_with fail
  refine (newReader_any _ _ _ _ _ h1 h2 h3).mono ?_; rintro e w1 ⟨rfl, hrd, hb, _⟩
  have HB := Lib.hid hb
  clear hb
  go_wp2_with fail
  refine (aSet_any _ _ _ hrd (by omega)).mono ?_; rintro e w2 ⟨n, s, p', rfl, n0, n1, s0, s1, _, _, hg⟩
  go_wp2_with fail
  go_ret2
  exact ⟨n, s, rfl, n0, n1, s0, s1, below_grown HB.out hg⟩

end Go.Proofs.YtjgkignnfkbeaaaTro

/-
  Contracts of GapsOf, of the program and of the model.
-/
namespace Go.Proofs.YtjgkignnfkbeaaaTro
open Go.RowKit
set_option linter.unusedVariables false

theorem Row.put {w : World} {B g m cap : Nat} {C C' : Nat → Nat} (h : Row w B (.slice (some ⟨g, 0, none⟩) m cap) (Tic.cts m C)) {i : Nat} (hi : i < m) (hC : ∀ d, C' d = C d + if d = i then 1 else 0) :
    Row (w.setCell ⟨g, i, none⟩ (.int .i64 ((C i : Int) + 1))) B (.slice (some ⟨g, 0, none⟩) m cap) (Tic.cts m C') := by
  have := (Row.set (by rw [Tic.cts_length]; exact h) i ((C i : Int) + 1)).1
  rw [Tic.cts_length, Tic.cts_set C C' hi hC] at this
  exact this

theorem wpList_make_ints {ops : Array Oper} {rest : List Oper} {o : Oper} {a : Act} {Q : Exit → Act → World → Prop} {w : World} (hg : o.guard = none) (l c : Operand) (hop : o.op = Op.makeSlice 25 l c)
    (B : Nat) (X Y : Int) (m : Nat) (hl : a.eval l = .int .i64 X) (hc : a.eval c = .int .i64 Y) (hX : X = (m : Int)) (hY : Y = (m : Int)) (hm : m ≤ 4096) (hB : B ≤ w.heap.size)
    (hK : ∀ w', Row w' B (.slice (some ⟨w.heap.size, 0, none⟩) m m) (Tic.cts m fun _ => 0) → Below w.heap.size w w' → wpList Tro.prog ops Q rest (a.put o.dst (.slice (some ⟨w.heap.size, 0, none⟩) m m)) w') :
    wpList Tro.prog ops Q (o :: rest) a w := by
  obtain ⟨i0, hi, hz0, hz1, hz2⟩ := info_parts info_int
  refine wpList_make_full w hg l c 25 hop B 3 i0 (.int .i64 0) 1 Tro.underlying25 hi hz0 hz1 .i64 .i64 X Y m hl hc hX hY (by rw [hz2]; omega) (by unfold maxLen; omega) hB ?_
  intro w' hown hgr
  refine hK w' ⟨?_, by rw [Tic.cts_length]; omega⟩ ((Below.refl _ _).grown hgr (Nat.le_refl _) (fun k hk => by cases hk))
  rw [Tic.cts_length, Tic.cts_zero, List.map_replicate]
  have : (madeCells (Value.int .i64 0).cells (m * 1)).toList = List.replicate m (Value.int .i64 0) := by
    rw [Nat.mul_one]; exact toList_madeCells_one _ _
  rw [this] at hown
  exact hown


theorem gI_same (n S a : Nat) : ∀ b, a ≤ b → b ≤ n → (tonesTo S a).length = (tonesTo S b).length → ∀ d, Tic.gI n S b 0 d = Tic.gI n S a 0 d
  | 0, h, _, _, d => by rw [Nat.le_zero.1 h]
  | b + 1, h, hb2, e, d => by
    by_cases e2 : a = b + 1
    · rw [e2]
    · have hm := tonesTo_mono S a b (by omega)
      cases hb : S.testBit b with
      | false =>
        rw [tonesTo_no hb] at e
        rw [Tic.gI_none n S b d (by omega) hb]
        exact gI_same n S a b (by omega) (by omega) e d
      | true => rw [tonesTo_yes hb] at e; simp at e; omega
theorem gI_same2 (n S y a : Nat) : ∀ b, a ≤ b → (tonesTo S a).length = (tonesTo S b).length → ∀ d, Tic.gI n S y b d = Tic.gI n S y a d
  | 0, h, _, d => by rw [Nat.le_zero.1 h]
  | b + 1, h, e, d => by
    by_cases e2 : a = b + 1
    · rw [e2]
    · have hm := tonesTo_mono S a b (by omega)
      cases hb : S.testBit b with
      | false =>
        rw [tonesTo_no hb] at e
        rw [Tic.gI_skip n S y b d hb]
        exact gI_same2 n S y a b (by omega) e d
      | true => rw [tonesTo_yes hb] at e; simp at e; omega
theorem gI_eq {n S a b : Nat} (ha : a ≤ n) (hb : b ≤ n) (e : (tonesTo S a).length = (tonesTo S b).length) (d : Nat) : Tic.gI n S b 0 d = Tic.gI n S a 0 d := by
  rcases Nat.le_total a b with h | h
  · exact gI_same n S a b h hb e d
  · exact (gI_same n S b a h ha e.symm d).symm
theorem gI_eq2 {n S y a b : Nat} (e : (tonesTo S a).length = (tonesTo S b).length) (d : Nat) : Tic.gI n S y b d = Tic.gI n S y a d := by
  rcases Nat.le_total a b with h | h
  · exact gI_same2 n S y a b h e d
  · exact (gI_same2 n S y b a h e.symm d).symm


end Go.Proofs.YtjgkignnfkbeaaaTro

/-
  Contracts of the functions that compare two lists of numbers.
-/
namespace Go.Proofs.YtjgkignnfkbeaaaTro
open Go.RowKit
set_option linter.unusedVariables false

theorem first_diff : ∀ (L M : List Int), L.length = M.length → L ≠ M → ∃ m, m < L.length ∧ (∀ j, j < m → L.getD j 0 = M.getD j 0) ∧ L.getD m 0 ≠ M.getD m 0
  | [], [], _, h => absurd rfl h
  | [], y :: M, h, _ => by simp at h
  | x :: L, [], h, _ => by simp at h
  | x :: L, y :: M, h, hne => by
    by_cases e : x = y
    · subst e
      obtain ⟨m, h1, h2, h3⟩ := first_diff L M (by simpa using h) (fun e => hne (by rw [e]))
      refine ⟨m + 1, by simpa using h1, ?_, by simpa using h3⟩
      intro j hj
      cases j with
      | zero => rfl
      | succ j => simpa using h2 j (by omega)
    · exact ⟨0, by simp, fun j hj => by omega, by simpa using e⟩

set_option maxHeartbeats 400000 in
theorem equalInts_yes (v1 v2 : Value) (B1 B2 : Nat) (L : List Int) (w : World) (h1 : Row w B1 v1 L) (h2 : Row w B2 v2 L) :
    Calls Tro.prog 15 #[v1, v2] w fun e w' => e = .returned (.bool true) ∧ Below w.heap.size w w' := by
  by_cases hL : L = []
  · subst hL
    rcases h1.cases with ⟨rfl, _⟩ | ⟨g1, c1, rfl, _⟩ <;> rcases h2.cases with ⟨rfl, _⟩ | ⟨g2, c2, rfl, _⟩
    all_goals
      go_enter Tro.func15, Tro.ntmps15
      go_wp2
      refine wp_loop_rounds 1 ?_
      rw [rounds_succ]
      go_wp2
      go_ret
      exact ⟨rfl, Below.refl _ _⟩
  · have hl : 0 < L.length := List.length_pos_iff.2 hL
    have hl2 := h1.2
    rcases h1.cases with ⟨_, e⟩ | ⟨g1, c1, rfl, _, hg1, hc1, _⟩
    · exact absurd e hL
    rcases h2.cases with ⟨_, e⟩ | ⟨g2, c2, rfl, _, hg2, hc2, _⟩
    · exact absurd e hL
    generalize hn : L.length = n at hl hl2 hc1 hc2
    have HC1 := Lib.hid hc1
    have HC2 := Lib.hid hc2
    clear hn hc1 hc2 h1 h2 hL
    go_enter Tro.func15, Tro.ntmps15
    go_wp2
    go_loopw [5] (fun t5 wr => ∃ k : Nat, k ≤ n ∧ t5 = .int .i64 k ∧ Below w.heap.size w wr) (fun t5 _ => n - (intOf t5).toNat)
    case atStart => exact ⟨0, Nat.zero_le _, rfl, Below.refl _ _⟩
    case round =>
      obtain ⟨k, hk, rfl, hbel⟩ := hrel
      by_cases hlt2 : k < n
      · have d1 := (hbel.cell (p := ⟨g1, k, none⟩) hg1).trans (HC1.out k hlt2)
        have d2 := (hbel.cell (p := ⟨g2, k, none⟩) hg2).trans (HC2.out k hlt2)
        have hi0 : (0 : Int) ≤ (k : Int) := by omega
        have hi1 : (k : Int) < (n : Int) := by omega
        go_wp2
        go_region
        all_goals
          go_wp2
          go_roundw
          case rel => exact ⟨k + 1, by omega, by go_num, hbel.drew⟩
          case measure => simp [intOf]; omega
      · have : k = n := by omega
        subst this
        go_wp2
        go_ret
        exact ⟨rfl, hbel⟩
set_option maxHeartbeats 400000 in
theorem equalInts_no (v1 v2 : Value) (B1 B2 : Nat) (L M : List Int) (w : World) (h1 : Row w B1 v1 L) (h2 : Row w B2 v2 M) (hlen : L.length = M.length) (hne : L ≠ M) :
    Calls Tro.prog 15 #[v1, v2] w fun e w' => e = .returned (.bool false) ∧ Below w.heap.size w w' := by
  obtain ⟨m, hm, hbef, hat⟩ := first_diff L M hlen hne
  have hL : L ≠ [] := fun e => by rw [e] at hm; simp at hm
  have hM : M ≠ [] := fun e => by rw [e] at hlen; exact hL (List.eq_nil_of_length_eq_zero hlen)
  have hl2 := h1.2
  rcases h1.cases with ⟨_, e⟩ | ⟨g1, c1, rfl, _, hg1, hc1, _⟩
  · exact absurd e hL
  rcases h2.cases with ⟨_, e⟩ | ⟨g2, c2, rfl, _, hg2, hc2, _⟩
  · exact absurd e hM
  rw [← hlen] at hc2 ⊢
  · generalize hn : L.length = n at hm hl2 hc1 hc2
    have HC1 := Lib.hid hc1
    have HC2 := Lib.hid hc2
    have HBEF := Lib.hid hbef
    have HAT := Lib.hid hat
    clear hn hc1 hc2 h1 h2 hL hM hlen hne hbef hat
    go_enter Tro.func15, Tro.ntmps15
    go_wp2
    go_loopw [5] (fun t5 wr => ∃ k : Nat, k ≤ m ∧ t5 = .int .i64 k ∧ Below w.heap.size w wr) (fun t5 _ => n - (intOf t5).toNat)
    case atStart => exact ⟨0, Nat.zero_le _, rfl, Below.refl _ _⟩
    case round =>
      obtain ⟨k, hk, rfl, hbel⟩ := hrel
      have d1 := (hbel.cell (p := ⟨g1, k, none⟩) hg1).trans (HC1.out k (by omega))
      have d2 := (hbel.cell (p := ⟨g2, k, none⟩) hg2).trans (HC2.out k (by omega))
      have hi0 : (0 : Int) ≤ (k : Int) := by omega
      have hi1 : (k : Int) < (n : Int) := by omega
      by_cases hlt2 : k < m
      · rw [← HBEF.out k hlt2] at d2
        go_wp2
        go_region
        all_goals
          go_wp2
          go_roundw
          case rel => exact ⟨k + 1, by omega, by go_num, hbel.drew⟩
          case measure => simp [intOf]; omega
      · have : k = m := by omega
        subst this
        have hx : (L.getD k 0 != M.getD k 0) = true := by rw [bne_iff_ne]; exact HAT.out
        generalize L.getD k 0 = x at d1 hx
        generalize M.getD k 0 = y at d2 hx
        go_wp2
        go_region
        all_goals
          go_wp2
          go_ret
          exact ⟨rfl, hbel.drew⟩
theorem equalInts_lens (v1 v2 : Value) (B1 B2 : Nat) (L M : List Int) (w : World) (h1 : Row w B1 v1 L) (h2 : Row w B2 v2 M) (hne : L.length ≠ M.length) :
    Calls Tro.prog 15 #[v1, v2] w fun e w' => e = .returned (.bool false) ∧ Below w.heap.size w w' := by
  have e1 : ∃ a c, v1 = .slice a L.length c := by
    rcases h1.cases with ⟨rfl, rfl⟩ | ⟨g1, c1, rfl, _⟩
    · exact ⟨_, _, rfl⟩
    · exact ⟨_, _, rfl⟩
  have e2 : ∃ a c, v2 = .slice a M.length c := by
    rcases h2.cases with ⟨rfl, rfl⟩ | ⟨g1, c1, rfl, _⟩
    · exact ⟨_, _, rfl⟩
    · exact ⟨_, _, rfl⟩
  obtain ⟨a1, c1, rfl⟩ := e1
  obtain ⟨a2, c2, rfl⟩ := e2
  have hx : ((L.length : Int) != (M.length : Int)) = true := by rw [bne_iff_ne]; omega
  generalize L.length = l at hx
  generalize M.length = m at hx
  clear h1 h2 hne
  go_enter Tro.func15, Tro.ntmps15
  go_wp2
  go_ret
  exact ⟨rfl, Below.refl _ _⟩

end Go.Proofs.YtjgkignnfkbeaaaTro

/-
  Contracts of the laws' own helpers on numbers.
-/
namespace Go.Proofs.YtjgkignnfkbeaaaTro
open Go.RowKit
set_option linter.unusedVariables false

theorem lpower_any (n : Int) (w : World) (h0 : 0 ≤ n) (h1 : n ≤ 61) :
    Calls Tro.prog 49 #[.int .i64 n] w fun e w' => e = .returned (.int .i64 ((2 ^ n.toNat : Nat) : Int)) ∧ w = w' := by
  obtain ⟨N, rfl⟩ := Int.eq_ofNat_of_zero_le h0
  rw [Int.toNat_natCast]
  have HN := Lib.hid (Tic.pow_le_62 (k := N) (by omega))
  go_enter Tro.func49, Tro.ntmps49
  go_wp2
  go_loop [0, 3] (fun t0 t3 => ∃ k P : Nat, k ≤ N ∧ t0 = .int .i64 k ∧ t3 = .int .i64 P ∧ Hid (P * 2 ^ k = 2 ^ N)) (fun t0 _ => (intOf t0).toNat)
  case atStart => exact ⟨N, 1, Nat.le_refl _, rfl, rfl, Nat.one_mul _⟩
  case round =>
    obtain ⟨k, P, hk, rfl, rfl, hP⟩ := hrel
    by_cases hlt : 0 < k
    · have hb : P ≤ 2305843009213693952 := by
        have h2 : 2 ≤ 2 ^ k := by
          have := Nat.pow_le_pow_right (n := 2) (by omega) hlt
          simpa using this
        have h3 := hP.out
        have h4 := HN.out
        have h5 : P * 2 ≤ P * 2 ^ k := Nat.mul_le_mul_left _ h2
        omega
      go_wp2
      go_round
      case rel =>
        refine ⟨k - 1, 2 * P, by omega, ?_, ?_, ?_⟩
        · have : ((k : Int) - 1) = ((k - 1 : Nat) : Int) := by omega
          rw [this]
        · have : (2 * (P : Int)) = ((2 * P : Nat) : Int) := by omega
          rw [this]
        · have h3 := hP.out
          show 2 * P * 2 ^ (k - 1) = 2 ^ N
          rw [← h3]
          obtain ⟨j, rfl⟩ : ∃ j, k = j + 1 := ⟨k - 1, by omega⟩
          simp only [Nat.add_sub_cancel, Nat.pow_succ]
          rw [Nat.mul_comm 2 P, Nat.mul_assoc, Nat.mul_comm 2]
      case measure => simp [intOf]; omega
    · have : k = 0 := by omega
      subst this
      go_wp2
      go_ret
      have h3 := hP.out
      exact ⟨ret_int (congrArg Int.ofNat (by rw [← h3, Nat.pow_zero, Nat.mul_one])), rfl⟩
theorem lweight_any (x : Int) (w : World) (h0 : 0 ≤ x) (hx : x < 4096) :
    Calls Tro.prog 35 #[.int .i64 x] w fun e w' => e = .returned (.int .i64 (Tic.wt 12 x.toNat : Int)) ∧ w = w' := by
  obtain ⟨s, rfl⟩ := Int.eq_ofNat_of_zero_le h0
  rw [Int.toNat_natCast]
  have hle := Tic.wt_le 12 s
  go_enter Tro.func35, Tro.ntmps35
  go_wp2
  go_loop [0, 3] (fun t0 t3 => ∃ f r c : Nat, f ≤ 12 ∧ c ≤ 12 ∧ r ≤ 4095 ∧ r < 2 ^ f ∧ t0 = .int .i64 r ∧ t3 = .int .i64 c ∧ Hid (c + Tic.wt f r = Tic.wt 12 s)) (fun t0 _ => (intOf t0).toNat)
  case atStart => exact ⟨12, s, 0, by omega, by omega, by omega, by omega, rfl, rfl, Nat.zero_add _⟩
  case round =>
    obtain ⟨f, r, c, hf, hc, hr', hr, rfl, rfl, hP⟩ := hrel
    by_cases hlt : 0 < r
    · obtain ⟨g, rfl⟩ : ∃ g, f = g + 1 := ⟨f - 1, by
        cases f with
        | zero => simp at hr; omega
        | succ f => omega⟩
      have h3 : c + (r % 2 + Tic.wt g (r / 2)) = Tic.wt 12 s := hP.out
      have hm : c + r % 2 ≤ 12 := by omega
      have H3 := Lib.hid h3
      clear h3
      rw [Nat.pow_succ] at hr
      go_wp2
      go_round
      case rel => exact ⟨g, r / 2, c + r % 2, by omega, by omega, by omega, by omega, by go_num, by go_num, by have := H3.out; show c + r % 2 + Tic.wt g (r / 2) = Tic.wt 12 s; omega⟩
      case measure => simp [intOf]; omega
    · have : r = 0 := by omega
      subst this
      go_wp2
      go_ret
      have h3 := hP.out
      rw [Tic.wt_zero] at h3
      exact ⟨ret_int (by omega), rfl⟩
theorem lapart_any (n y : Int) (w : World) (h1 : 3 ≤ n) (h2 : n ≤ 12) (h3 : 0 ≤ y) (h4 : y < n) :
    Calls Tro.prog 17 #[.int .i64 n, .int .i64 0, .int .i64 y] w fun e w' => e = .returned (.int .i64 (min y (n - y))) ∧ w = w' := by
  have hm : (y - 0 + n) % n = y := by rw [Int.sub_zero, Int.add_emod_right, Int.emod_eq_of_lt h3 h4]
  have hm2 : (y + n) % n = y := by rw [Int.add_emod_right, Int.emod_eq_of_lt h3 h4]
  rcases (show y ≤ n - y ∨ n - y < y by omega) with c | c
  all_goals
    go_enter Tro.func17, Tro.ntmps17
    go_wp2
    go_ret
    exact ⟨ret_int (by omega), rfl⟩

end Go.Proofs.YtjgkignnfkbeaaaTro

/-
  The walk of FnSmoothOf, where a sequential body stands for nearestTo.
-/
namespace Go.Proofs.YtjgkignnfkbeaaaTro
open Go.RowKit
set_option linter.unusedVariables false
set_option maxRecDepth 20000

/-- the least place of several -/
theorem smF_least {D : Nat → Nat} {b : Nat} (h : D 1 < b) : ∀ j, 1 ≤ (smF D b (j + 1)).1 ∧ (smF D b (j + 1)).1 ≤ j + 1 ∧ (smF D b (j + 1)).2 = D (smF D b (j + 1)).1 ∧ ∀ u, 1 ≤ u → u ≤ j + 1 → (smF D b (j + 1)).2 ≤ D u ∧ (D u = (smF D b (j + 1)).2 → (smF D b (j + 1)).1 ≤ u)
  | 0 => by
    rw [smF_yes (j := 0) h]
    exact ⟨Nat.le_refl _, Nat.le_refl _, rfl, fun u h1 h2 => by
      obtain rfl : u = 1 := by omega
      exact ⟨Nat.le_refl _, fun _ => Nat.le_refl _⟩⟩
  | j + 1 => by
    obtain ⟨a1, a2, a3, a4⟩ := smF_least h j
    by_cases q : D (j + 2) < (smF D b (j + 1)).2
    · rw [smF_yes (j := j + 1) q]
      refine ⟨by simp, by simp, rfl, fun u h1 h2 => ?_⟩
      by_cases e : u = j + 2
      · subst e; exact ⟨Nat.le_refl _, fun _ => Nat.le_refl _⟩
      · have h5 := (a4 u h1 (by omega)).1
        have h6 : D (j + 2) < D u := by omega
        exact ⟨Nat.le_of_lt h6, fun q2 => absurd q2 (Nat.ne_of_gt h6)⟩
    · rw [smF_no (j := j + 1) q]
      refine ⟨a1, by omega, a3, fun u h1 h2 => ?_⟩
      by_cases e : u = j + 2
      · subst e; exact ⟨by omega, fun _ => by omega⟩
      · exact a4 u h1 (by omega)
/-- the first shift goes no further than there are tones -/
theorem smD_wt {N : Nat} {s : Int} (h : Tic.Valid (N : Int) s) (h0 : s ≠ 0) : smD (N : Int) s 1 ≤ Tic.wt 12 s.toNat := by
  have hV := voices_shf h h0 1
  have h3 := h.1
  have h12 := h.2.1
  have hl := hV.lens
  have hp := hV.pos
  have hBl := valid_lt hV.2.1
  have hAl := valid_lt h
  rw [wt_len h]
  rw [Int.toNat_natCast] at *
  unfold smD stubP
  rw [Int.toNat_natCast, Int.toNat_natCast]
  rw [Int.toNat_natCast] at hl hBl
  show dst N s.toNat _ ≤ _
  have he := en_tones s.toNat N
  have hb : En N (Tic.shf N 1 s.toNat) (tonesTo s.toNat N).length (fun i => Tic.up N (tn s.toNat N i)) := by
    refine ⟨fun i hi => Tic.up_lt (he.lt i hi), fun i hi => ?_, fun p hp hb => ?_, fun i j hi hj e => ?_⟩
    · exact (Tic.img_testBit _ _ _ _).2 ⟨_, he.lt i hi, he.bit i hi, Tic.mvd_up (he.lt i hi)⟩
    · obtain ⟨x, x1, x2, x3⟩ := (Tic.img_testBit _ _ _ _).1 hb
      obtain ⟨i, hi, e⟩ := he.on x x1 x2
      exact ⟨i, hi, by show Tic.up N _ = p; rw [e, ← Tic.mvd_up x1]; exact x3⟩
    · refine he.inj i j hi hj ?_
      have e' : Tic.up N (tn s.toNat N i) = Tic.up N (tn s.toNat N j) := e
      have a1 := he.lt i hi
      have a2 := he.lt j hj
      unfold Tic.up at e'
      split at e' <;> split at e' <;> omega
  have hle : ∀ k, k ≤ (tonesTo s.toNat N).length → ways N (tn s.toNat N) (fun i => Tic.up N (tn s.toNat N i)) k ≤ k := by
    intro k
    induction k with
    | zero => intro _; exact Nat.le_refl _
    | succ k ih =>
      intro hk
      have a1 := he.lt k (by omega)
      have a2 := (apt_up N (by omega) _ a1 _ (Tic.up_lt a1)).2
      have a3 := apt_self N (by omega) _ (Tic.up_lt a1)
      have := ih (by omega)
      unfold ways at this ⊢
      unfold smv
      show _ + Tic.apt N (tn s.toNat N k) (Tic.up N (tn s.toNat N k)) ≤ _
      omega
  have := dst_ways (n := N) (B := Tic.shf N 1 s.toNat) (by omega) (by omega) hBl (y := fun i => Tic.up N (tn s.toNat N i)) (by rw [← hl]; exact hb) (by omega) (tonesTo s.toNat N).length s.toNat (tn s.toNat N) hAl hl (by rw [← hl]; exact he) (by rw [← hl]; exact hle _ (Nat.le_refl _))
  exact this
theorem FnSmoothOf_no (x : Option Addr) (len cap : Nat) (w : World) (hl : 1048576 < len) :
    Calls Tro.prog 7 #[.slice x len cap] w fun e w' => e = .returned (.bool true) ∧ Below w.heap.size w w' := by
  go_enter Tro.func7, Tro.ntmps7
  go_wp2_with fail
  go_ret
  exact ⟨rfl, Below.refl _ _⟩
set_option maxHeartbeats 1600000 in
theorem FnSmoothOf_walk (x : Option Addr) (len cap : Nat) (w : World) (h : Code w x len cap) :
    Calls Tro.prog 7 #[.slice x len cap] w fun e w' => e = .returned (.bool true) ∧ Below w.heap.size w w' := by
  by_cases hl : 1048576 < len
  · exact FnSmoothOf_no x len cap w hl
  · go_enter Tro.func7, Tro.ntmps7
    go_wp2_with fail
    refine (drawSmoothOf _ _ _ _ h).mono ?_; rintro e w1 ⟨n, s, rfl, n0, n1, s0, s1, hb⟩
    have HB := Lib.hid hb
    clear hb h hl
    have hz := HB.out.size
    rcases Classical.em (Tic.Valid n s ∧ s ≠ 0) with hv | hv
    · obtain ⟨hv, hs0⟩ := hv
      have g1 := hv.1
      have g2 := hv.2.1
      have HI := Lib.hid (fun w => iSmoothOf_yes n s w hv hs0)
      have HS := Lib.hid (fun w => sSmoothOf_yes n s w hv hs0)
      obtain ⟨N, rfl⟩ := Int.eq_ofNat_of_zero_le (show 0 ≤ n by omega)
      have hlt1 := smD_lt hv hs0 (by omega)
      have hwt := smD_wt hv hs0
      have HFS : Hid (∀ (u : Nat) w, u < N → Calls Tro.prog 34 #[.int .i64 (N : Int), .int .i64 s, .int .i64 (u : Int)] w fun e w' => e = .returned (.int .i64 (Tic.shf N (u : Int) s.toNat : Int)) ∧ Below w.heap.size w w') := Lib.hid (fun u w hu => by
        have := iShiftSet_yes (N : Int) s (u : Int) w hv ⟨by omega, by omega⟩
        rw [Int.toNat_natCast] at this; exact this)
      have HFF : Hid (∀ (u : Nat) w, Calls Tro.prog 13 #[.int .i64 (N : Int), .int .i64 s, .int .i64 (Tic.shf N (u : Int) s.toNat : Int)] w fun e w' => ∃ v, e = .returned (.tuple #[.int .i64 (smD (N : Int) s u : Int), v]) ∧ Below w.heap.size w w') := Lib.hid (fun u w => by
        have hV := voices_shf hv hs0 (u : Int)
        rw [Int.toNat_natCast] at hV
        refine (iFarOf_yes (N : Int) s _ w hV (stub_lt hV)).mono (fun e w' ⟨v, h1, _, h3⟩ => ⟨v, ?_, h3⟩)
        rw [h1]
        unfold smD
        rw [Int.toNat_natCast])
      have HW := Lib.hid (fun w => lweight_any s w (by have := hv.2.2.1; omega) (by have := hv.lt; omega))
      have hle := smF_least hlt1 (N - 2)
      rw [show N - 2 + 1 = N - 1 by omega] at hle
      unfold smP at HI HS
      rw [Int.toNat_natCast] at HI HS
      have HLE := Lib.hid hle
      clear hle
      generalize smF (smD (N : Int) s) (N * N) (N - 1) = R at *
      obtain ⟨at', best⟩ := R
      obtain ⟨a1, a2, a3, a4⟩ := HLE.out
      simp only at a1 a2 a3 a4 HI HS
      have hbw : best ≤ Tic.wt 12 s.toNat := Nat.le_trans (a4 1 (Nat.le_refl _) (by omega)).1 hwt
      have HA4 := Lib.hid a4
      have HA3 := Lib.hid a3
      generalize smD (N : Int) s = D at *
      generalize Tic.wt 12 s.toNat = wt at *
      clear HLE a3 a4 hwt hlt1 n0 n1 s0 s1 hv
      have hp2 : ¬ (at' : Int) < 0 := by omega
      go_wp2_with fail
      refine (HI.out _).mono ?_; rintro e w2 ⟨rfl, hb2⟩
      have HB2 := Lib.hid (HB.out.trans (hb2.mono hz))
      have hz2 := HB2.out.size
      clear hb2
      go_wp2_with fail
      refine (HS.out _).mono ?_; rintro e w3 ⟨rfl, hb3⟩
      have HB3 := Lib.hid (HB2.out.trans (hb3.mono hz2))
      have hz3 := HB3.out.size
      clear hb3 HI HS
      go_wp2
      go_loopw [9, 10, 11] (fun t9 t10 t11 wr => ∃ u : Nat, 1 ≤ u ∧ u ≤ N ∧ t9 = .int .i64 (u : Int) ∧ Hid (Below w.heap.size w wr)) (fun t9 _ _ _ => N - (intOf t9).toNat)
      case atStart => exact ⟨1, Nat.le_refl _, by omega, rfl, HB3⟩
      case round =>
        obtain ⟨u, hu1, hu2, rfl, HBU⟩ := hrel
        have hzr := HBU.out.size
        by_cases hlt : u < N
        · have hun : (u : Int) < (N : Int) := by omega
          have k1 := IntWalk.i64_in ((u : Int) + 1) (by omega)
          obtain ⟨q1, q2⟩ := HA4.out u hu1 (by omega)
          have HS1 := Lib.hid (fun w => HFS.out u w hlt)
          have HF1 := Lib.hid (fun w => HFF.out u w)
          generalize Tic.shf N (u : Int) s.toNat = S at *
          generalize D u = du at *
          have c1 : ¬ (du : Int) < (best : Int) := by omega
          have HC2 : Hid (du = best ∨ du ≠ best) := Lib.hid (Classical.em _)
          go_wp2_with fail
          refine (HS1.out _).mono ?_; rintro e w4 ⟨rfl, hb4⟩
          have HB4 := Lib.hid (HBU.out.trans (hb4.mono hzr))
          have hz4 := HB4.out.size
          clear hb4
          go_wp2_with fail
          refine (HF1.out _).mono ?_; rintro e w5 ⟨v5, rfl, hb5⟩
          have HB5 := Lib.hid (HB4.out.trans (hb5.mono hz4))
          clear hb5
          rcases HC2.out with e2 | e2
          · have q3 := q2 e2
            subst e2
            have c3 : ¬ (u : Int) < (at' : Int) := by omega
            go_wp2
            go_roundw
            case rel => exact ⟨u + 1, by omega, by omega, by go_num, HB5⟩
            case measure => simp [intOf]; omega
          · have c3 : ((du : Int) == (best : Int)) = false := beq_eq_false_iff_ne.2 (fun q => e2 (by omega))
            have c4 : ¬ (du : Int) = (best : Int) := fun q => e2 (by omega)
            go_wp2
            go_roundw
            case rel => exact ⟨u + 1, by omega, by omega, by go_num, HB5⟩
            case measure => simp [intOf]; omega
        · obtain rfl : u = N := by omega
          have HS1 := Lib.hid (fun w => HFS.out at' w (by omega))
          have HF1 := Lib.hid (fun w => HFF.out at' w)
          rw [← HA3.out] at HF1
          generalize Tic.shf u (at' : Int) s.toNat = S at *
          have c1 : (best : Int) ≤ (wt : Int) := by omega
          go_wp2_with fail
          refine (HS1.out _).mono ?_; rintro e w4 ⟨rfl, hb4⟩
          have HB4 := Lib.hid (HBU.out.trans (hb4.mono hzr))
          have hz4 := HB4.out.size
          clear hb4
          go_wp2_with fail
          refine (HF1.out _).mono ?_; rintro e w5 ⟨v5, rfl, hb5⟩
          have HB5 := Lib.hid (HB4.out.trans (hb5.mono hz4))
          clear hb5
          go_wp2_with fail
          refine (HW.out _).mono ?_; rintro e w6 ⟨rfl, rfl⟩
          go_wp2_with fail
          go_ret
          exact ⟨rfl, HB5.out⟩
    · have HI := Lib.hid (fun w => iSmoothOf_no n s w hv)
      have HS := Lib.hid (fun w => sSmoothOf_no n s w hv)
      clear n0 n1 s0 s1 hv
      go_wp2_with fail
      refine (HI.out _).mono ?_; rintro e w2 ⟨rfl, hb2⟩
      have HB2 := Lib.hid (HB.out.trans (hb2.mono hz))
      have hz2 := HB2.out.size
      clear hb2
      go_wp2_with fail
      refine (HS.out _).mono ?_; rintro e w3 ⟨rfl, hb3⟩
      have HB3 := Lib.hid (HB2.out.trans (hb3.mono hz2))
      clear hb3
      go_wp2_with fail
      go_ret
      exact ⟨rfl, HB3.out⟩
end Go.Proofs.YtjgkignnfkbeaaaTro
