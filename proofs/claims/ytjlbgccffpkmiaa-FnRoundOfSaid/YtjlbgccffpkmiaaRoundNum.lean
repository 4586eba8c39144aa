/-
  Plain mathematics of rounds of steps: steps act as turns and shifts of the circle, so twelve rounds lead back.
-/
import Derived.Test.YtjlbgccffpkmiaaTriNum
namespace Go.Proofs.Ytjlbgccffpkmiaa.Tic
set_option linter.unusedVariables false

/-- d up for a triad that is not low, d down for a low one, and the other shape if q is 1 -/
def act (d q : Nat) (t : Int) : Int := if t % 2 = 0 then 2 * ((t / 2 + d) % 12) + (if q = 0 then 0 else 1) else 2 * ((t / 2 - d) % 12) + (if q = 0 then 1 else 0)
def upC (c : Nat) : Nat := if c = 76 then 4 else if c = 80 then 0 else 9
def nxt (x : Nat × Nat) (c : Nat) : Nat × Nat := (if x.2 = 0 then (x.1 + upC c) % 12 else (x.1 + 12 - upC c) % 12, 1 - x.2)
theorem act_L : ∀ d : Fin 12, ∀ q : Fin 2, ∀ t : Fin 24, stp (act d q t) 76 = act (nxt (d, q) 76).1 (nxt (d, q) 76).2 t := by decide +kernel
theorem act_P : ∀ d : Fin 12, ∀ q : Fin 2, ∀ t : Fin 24, stp (act d q t) 80 = act (nxt (d, q) 80).1 (nxt (d, q) 80).2 t := by decide +kernel
theorem act_R : ∀ d : Fin 12, ∀ q : Fin 2, ∀ t : Fin 24, stp (act d q t) 82 = act (nxt (d, q) 82).1 (nxt (d, q) 82).2 t := by decide +kernel
def itr (f : Int → Int) : Nat → Int → Int
  | 0, t => t
  | k + 1, t => f (itr f k t)
theorem act_12 : ∀ d : Fin 12, ∀ q : Fin 2, ∀ t : Fin 24, itr (act d q) 12 t = t := by decide +kernel
theorem nxt_lt {x : Nat × Nat} (c : Nat) (h : x.1 < 12 ∧ x.2 < 2) : (nxt x c).1 < 12 ∧ (nxt x c).2 < 2 := by
  unfold nxt
  refine ⟨?_, by show 1 - x.2 < 2; omega⟩
  show (if x.2 = 0 then (x.1 + upC c) % 12 else (x.1 + 12 - upC c) % 12) < 12
  split <;> omega
theorem act_stp {x : Nat × Nat} {t : Int} {c : Nat} (h : x.1 < 12 ∧ x.2 < 2) (ht : Tri t) (hc : Ltr c) : stp (act x.1 x.2 t) c = act (nxt x c).1 (nxt x c).2 t := by
  obtain ⟨d, q⟩ := x
  obtain ⟨n, hn, rfl⟩ := tri_nat ht
  rcases hc with rfl | rfl | rfl
  · exact act_L ⟨d, h.1⟩ ⟨q, h.2⟩ ⟨n, hn⟩
  · exact act_P ⟨d, h.1⟩ ⟨q, h.2⟩ ⟨n, hn⟩
  · exact act_R ⟨d, h.1⟩ ⟨q, h.2⟩ ⟨n, hn⟩
/-- what the first k steps of a word do -/
def whole (s : ByteArray) : Nat → Nat × Nat
  | 0 => (0, 0)
  | k + 1 => nxt (whole s k) (bt s k)
theorem whole_lt (s : ByteArray) : ∀ k, (whole s k).1 < 12 ∧ (whole s k).2 < 2
  | 0 => ⟨Nat.succ_pos 11, Nat.succ_pos 1⟩
  | k + 1 => nxt_lt _ (whole_lt s k)
theorem act_0 : ∀ t : Fin 24, act 0 0 t = t := by decide
theorem wlk_act {s : ByteArray} (hs : ∀ k, k < s.size → Ltr (bt s k)) {t : Int} (ht : Tri t) : ∀ k, k ≤ s.size → wlk t s k = act (whole s k).1 (whole s k).2 t
  | 0, _ => by
    obtain ⟨n, hn, rfl⟩ := tri_nat ht
    exact (act_0 ⟨n, hn⟩).symm
  | k + 1, hk => by
    show stp (wlk t s k) (bt s k) = act (nxt (whole s k) (bt s k)).1 (nxt (whole s k) (bt s k)).2 t
    rw [wlk_act hs ht k (by omega)]
    exact act_stp (whole_lt s k) ht (hs k (by omega))

/-- the triad behind m steps of a word that is gone again and again -/
def posn (t : Int) (s : ByteArray) : Nat → Int
  | 0 => t
  | m + 1 => stp (posn t s m) (bt s (m % s.size))
theorem posn_tri {t : Int} (s : ByteArray) (h : Tri t) : ∀ k, Tri (posn t s k)
  | 0 => h
  | k + 1 => stp_tri _ _
theorem posn_add {t : Int} {s : ByteArray} (r : Nat) : ∀ k, k ≤ s.size → posn t s (r * s.size + k) = wlk (posn t s (r * s.size)) s k
  | 0, _ => rfl
  | k + 1, hk => by
    show stp (posn t s (r * s.size + k)) (bt s ((r * s.size + k) % s.size)) = stp (wlk (posn t s (r * s.size)) s k) (bt s k)
    rw [posn_add r k (by omega), Nat.add_comm (r * s.size) k, Nat.add_mul_mod_self_right, Nat.mod_eq_of_lt (by omega)]
theorem posn_step {t : Int} {s : ByteArray} {m r k : Nat} (hm : m = r * s.size) (hk : k < s.size) : posn t s (m + k + 1) = stp (posn t s (m + k)) (bt s k) := by
  subst hm
  show stp (posn t s (r * s.size + k)) (bt s ((r * s.size + k) % s.size)) = _
  rw [Nat.add_comm (r * s.size) k, Nat.add_mul_mod_self_right, Nat.mod_eq_of_lt hk]
theorem posn_itr {s : ByteArray} (hs : ∀ k, k < s.size → Ltr (bt s k)) {t : Int} (ht : Tri t) : ∀ r, posn t s (r * s.size) = itr (act (whole s s.size).1 (whole s s.size).2) r t
  | 0 => by rw [Nat.zero_mul]; rfl
  | r + 1 => by
    rw [Nat.succ_mul, posn_add r s.size (Nat.le_refl _), wlk_act hs (posn_tri s ht _) s.size (Nat.le_refl _), posn_itr hs ht r]
    rfl
theorem posn_12 {s : ByteArray} (hs : ∀ k, k < s.size → Ltr (bt s k)) {t : Int} (ht : Tri t) : posn t s (12 * s.size) = t := by
  rw [posn_itr hs ht 12]
  obtain ⟨n, hn, rfl⟩ := tri_nat ht
  exact act_12 ⟨_, (whole_lt s s.size).1⟩ ⟨_, (whole_lt s s.size).2⟩ ⟨n, hn⟩
/-- the least round that leads back -/
theorem least {P : Nat → Prop} (hP : ∀ n, Decidable (P n)) : ∀ n, 1 ≤ n → P n → ∃ r, 1 ≤ r ∧ r ≤ n ∧ P r ∧ ∀ j, 1 ≤ j → j < r → ¬ P j
  | 0, h, _ => absurd h (by omega)
  | n + 1, _, hn => by
    by_cases h : ∃ j, 1 ≤ j ∧ j ≤ n ∧ P j
    · obtain ⟨j, h1, h2, h3⟩ := h
      have : ∀ m, m ≤ n → 1 ≤ m → P m → ∃ r, 1 ≤ r ∧ r ≤ m ∧ P r ∧ ∀ j, 1 ≤ j → j < r → ¬ P j := by
        intro m
        induction m using Nat.strongRecOn with
        | _ m ih =>
          intro hm h1 hPm
          by_cases h : ∃ j, 1 ≤ j ∧ j < m ∧ P j
          · obtain ⟨j, j1, j2, j3⟩ := h
            obtain ⟨r, r1, r2, r3, r4⟩ := ih j j2 (by omega) j1 j3
            exact ⟨r, r1, by omega, r3, r4⟩
          · exact ⟨m, h1, Nat.le_refl _, hPm, fun j j1 j2 j3 => h ⟨j, j1, j2, j3⟩⟩
      obtain ⟨r, r1, r2, r3, r4⟩ := this j h2 h1 h3
      exact ⟨r, r1, by omega, r3, r4⟩
    · exact ⟨n + 1, by omega, Nat.le_refl _, hn, fun j j1 j2 j3 => h ⟨j, j1, by omega, j3⟩⟩
/-- R rounds lead back, and no fewer -/
def Back (t : Int) (s : ByteArray) (R : Nat) : Prop := 1 ≤ R ∧ R ≤ 12 ∧ posn t s (R * s.size) = t ∧ ∀ j, 1 ≤ j → j < R → posn t s (j * s.size) ≠ t
theorem back_ex {s : ByteArray} (hs : ∀ k, k < s.size → Ltr (bt s k)) {t : Int} (ht : Tri t) : ∃ R, Back t s R :=
  least (P := fun r => posn t s (r * s.size) = t) (fun _ => inferInstance) 12 (by omega) (posn_12 hs ht)
theorem back_next {t : Int} {s : ByteArray} {R r : Nat} (h : Back t s R) (hr : r < R) : (posn t s ((r + 1) * s.size) = t ∧ r + 1 = R) ∨ (posn t s ((r + 1) * s.size) ≠ t ∧ r + 1 < R) := by
  by_cases e : r + 1 = R
  · exact .inl ⟨by rw [e]; exact h.2.2.1, e⟩
  · exact .inr ⟨h.2.2.2 (r + 1) (by omega) (by omega), by omega⟩
/-- the triads behind 0 to m - 1 steps -/
def rnd (t : Int) (s : ByteArray) : Nat → List Int
  | 0 => []
  | m + 1 => rnd t s m ++ [posn t s m]
theorem rnd_length (t : Int) (s : ByteArray) : ∀ m, (rnd t s m).length = m
  | 0 => rfl
  | m + 1 => by unfold rnd; rw [List.length_append, rnd_length t s m]; rfl
theorem rnd_getD (t : Int) (s : ByteArray) : ∀ m i, i < m → (rnd t s m).getD i 0 = posn t s i
  | 0, i, h => by omega
  | m + 1, i, h => by
    unfold rnd
    by_cases e : i < m
    · rw [List.getD_eq_getElem?_getD, List.getElem?_append_left (by rw [rnd_length]; exact e), ← List.getD_eq_getElem?_getD]
      exact rnd_getD t s m i e
    · have : i = m := by omega
      subst this
      rw [List.getD_eq_getElem?_getD, List.getElem?_append_right (by rw [rnd_length]; exact Nat.le_refl _), rnd_length, Nat.sub_self]
      rfl
def wrd2 (a b : UInt8) : ByteArray := ⟨#[a, b]⟩
theorem two_PL : ∀ t : Fin 24, (posn t.val (wrd2 80 76) 2 ≠ t.val ∧ posn t.val (wrd2 80 76) 4 ≠ t.val ∧ posn t.val (wrd2 80 76) 6 = t.val) ∧ (posn t.val (wrd2 76 80) 2 ≠ t.val ∧ posn t.val (wrd2 76 80) 4 ≠ t.val ∧ posn t.val (wrd2 76 80) 6 = t.val) := by decide +kernel
theorem two_PR : ∀ t : Fin 24, (posn t.val (wrd2 80 82) 2 ≠ t.val ∧ posn t.val (wrd2 80 82) 4 ≠ t.val ∧ posn t.val (wrd2 80 82) 6 ≠ t.val ∧ posn t.val (wrd2 80 82) 8 = t.val) ∧ (posn t.val (wrd2 82 80) 2 ≠ t.val ∧ posn t.val (wrd2 82 80) 4 ≠ t.val ∧ posn t.val (wrd2 82 80) 6 ≠ t.val ∧ posn t.val (wrd2 82 80) 8 = t.val) := by decide +kernel
theorem two_LR : ∀ t : Fin 24, ∀ k : Fin 12, k.val ≠ 0 → posn t.val (wrd2 76 82) (k.val * 2) ≠ t.val ∧ posn t.val (wrd2 82 76) (k.val * 2) ≠ t.val := by decide +kernel
theorem back_len {t : Int} {s : ByteArray} {R q : Nat} (h : Back t s R) (hq : 1 ≤ q) (e : posn t s (q * s.size) = t) (hn : ∀ j, 1 ≤ j → j < q → posn t s (j * s.size) ≠ t) : R = q := by
  rcases Nat.lt_trichotomy R q with c | c | c
  · exact absurd h.2.2.1 (hn R h.1 c)
  · exact c
  · exact absurd e (h.2.2.2 q hq c)
theorem back_PL {t : Int} {R : Nat} (ht : Tri t) : (Back t (wrd2 80 76) R → R * 2 = 6) ∧ (Back t (wrd2 76 80) R → R * 2 = 6) := by
  obtain ⟨n, hn, rfl⟩ := tri_nat ht
  obtain ⟨⟨a, b, c⟩, ⟨d, e, f⟩⟩ := two_PL ⟨n, hn⟩
  refine ⟨fun h => ?_, fun h => ?_⟩
  · rw [back_len h (q := 3) (by omega) c (fun j j1 j2 => by obtain rfl | rfl : j = 1 ∨ j = 2 := by omega
                                                            · exact a
                                                            · exact b)]
  · rw [back_len h (q := 3) (by omega) f (fun j j1 j2 => by obtain rfl | rfl : j = 1 ∨ j = 2 := by omega
                                                            · exact d
                                                            · exact e)]
theorem back_PR {t : Int} {R : Nat} (ht : Tri t) : (Back t (wrd2 80 82) R → R * 2 = 8) ∧ (Back t (wrd2 82 80) R → R * 2 = 8) := by
  obtain ⟨n, hn, rfl⟩ := tri_nat ht
  obtain ⟨⟨a, b, b2, c⟩, ⟨d, e, e2, f⟩⟩ := two_PR ⟨n, hn⟩
  refine ⟨fun h => ?_, fun h => ?_⟩
  · rw [back_len h (q := 4) (by omega) c (fun j j1 j2 => by obtain rfl | rfl | rfl : j = 1 ∨ j = 2 ∨ j = 3 := by omega
                                                            · exact a
                                                            · exact b
                                                            · exact b2)]
  · rw [back_len h (q := 4) (by omega) f (fun j j1 j2 => by obtain rfl | rfl | rfl : j = 1 ∨ j = 2 ∨ j = 3 := by omega
                                                            · exact d
                                                            · exact e
                                                            · exact e2)]
theorem back_LR {t : Int} {R : Nat} (ht : Tri t) : (Back t (wrd2 76 82) R → R * 2 = 24) ∧ (Back t (wrd2 82 76) R → R * 2 = 24) := by
  obtain ⟨n, hn, rfl⟩ := tri_nat ht
  refine ⟨fun h => ?_, fun h => ?_⟩
  · by_cases c : R < 12
    · exact absurd h.2.2.1 (two_LR ⟨n, hn⟩ ⟨R, c⟩ (by have := h.1; show R ≠ 0; omega)).1
    · have := h.2.1; omega
  · by_cases c : R < 12
    · exact absurd h.2.2.1 (two_LR ⟨n, hn⟩ ⟨R, c⟩ (by have := h.1; show R ≠ 0; omega)).2
    · have := h.2.1; omega
end Go.Proofs.Ytjlbgccffpkmiaa.Tic
