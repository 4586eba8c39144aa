/-
  Plain mathematics of sets of tones as numbers: images of sets, shifts and turns, the rest round a circle. No program in sight.
-/
import Derived.WalkKit
import Derived.Test.YtjgkignnfkbeaaaTroBase
import Derived.WalkSpells
import Derived.Lib.Hide
import Derived.Below
import Derived.StillTailTactics
import Derived.Deep.QuietTactic
import Derived.BigQuiet
import Derived.Laws.OwnMore
import Derived.WalkSmall
import Derived.Maps.AppendAt
import Derived.Deep.RegionHeld3
import Derived.Laws.BitsAllLaws
import Derived.Deep.Cut
namespace Go.Proofs.YtjgkignnfkbeaaaTro.Tic

theorem or_pow_add {a i : Nat} (h : a.testBit i = false) : a ||| 2 ^ i = a + 2 ^ i := by
  have hq : a = 2 ^ (i + 1) * (a / 2 ^ (i + 1)) + a % 2 ^ (i + 1) := (Nat.div_add_mod a _).symm
  have hr : a % 2 ^ (i + 1) < 2 ^ i := by
    rw [Nat.testBit_eq_decide_div_mod_eq] at h
    have h2 : a / 2 ^ i % 2 = 0 := by have := of_decide_eq_false h; omega
    rw [Nat.pow_succ, Nat.mod_mul, h2]
    have := Nat.mod_lt a (Nat.two_pow_pos i)
    omega
  generalize a / 2 ^ (i + 1) = q at *
  generalize a % 2 ^ (i + 1) = r at *
  subst hq
  have e1 : 2 ^ (i + 1) * q + r = 2 ^ (i + 1) * q ||| r := Nat.two_pow_add_eq_or_of_lt (by rw [Nat.pow_succ]; omega) q
  have e2 : 2 ^ i * 1 + r = 2 ^ i * 1 ||| r := Nat.two_pow_add_eq_or_of_lt hr 1
  have e3 : 2 ^ (i + 1) * q + (2 ^ i * 1 + r) = 2 ^ (i + 1) * q ||| (2 ^ i * 1 + r) := Nat.two_pow_add_eq_or_of_lt (by rw [Nat.pow_succ]; omega) q
  rw [e1, Nat.or_assoc, Nat.or_comm r, ← Nat.mul_one (2 ^ i), ← e2, ← e3, ← e1]
  omega

/-- the image of the first k bits of s under f -/
def img (f : Nat → Nat) (s : Nat) : Nat → Nat
  | 0 => 0
  | k + 1 => if s.testBit k then img f s k ||| 2 ^ f k else img f s k

theorem img_no (f : Nat → Nat) {s k : Nat} (h : s.testBit k = false) : img f s (k + 1) = img f s k := by unfold img; rw [if_neg (by simp [h])]; cases k <;> rfl
theorem img_yes (f : Nat → Nat) {s k : Nat} (h : s.testBit k = true) : img f s (k + 1) = img f s k ||| 2 ^ f k := by conv => lhs; unfold img; rw [if_pos h]

theorem img_testBit (f : Nat → Nat) (s y : Nat) : ∀ k, (img f s k).testBit y = true ↔ ∃ x, x < k ∧ s.testBit x = true ∧ f x = y
  | 0 => by simp [img]
  | k + 1 => by
    have ih := img_testBit f s y k
    unfold img
    by_cases h : s.testBit k = true
    · rw [if_pos h, Nat.testBit_or, Nat.testBit_two_pow]
      simp only [Bool.or_eq_true, decide_eq_true_eq, ih]
      constructor
      · rintro (⟨x, hx, hs, hf⟩ | hf)
        · exact ⟨x, by omega, hs, hf⟩
        · exact ⟨k, by omega, h, hf⟩
      · rintro ⟨x, hx, hs, hf⟩
        by_cases e : x = k
        · subst e; exact Or.inr hf
        · exact Or.inl ⟨x, by omega, hs, hf⟩
    · rw [if_neg h, ih]
      constructor
      · rintro ⟨x, hx, hs, hf⟩; exact ⟨x, by omega, hs, hf⟩
      · rintro ⟨x, hx, hs, hf⟩
        by_cases e : x = k
        · subst e; exact absurd hs h
        · exact ⟨x, by omega, hs, hf⟩

theorem img_lt (f : Nat → Nat) (s n k : Nat) (hf : ∀ x, x < k → f x < n) : img f s k < 2 ^ n := by
  apply Nat.lt_pow_two_of_testBit
  intro i hi
  cases h : (img f s k).testBit i with
  | false => rfl
  | true =>
    obtain ⟨x, hx, _, e⟩ := (img_testBit f s i k).1 h
    have := hf x hx
    omega

def sumImg (f : Nat → Nat) (s : Nat) : Nat → Nat
  | 0 => 0
  | k + 1 => if s.testBit k then sumImg f s k + 2 ^ f k else sumImg f s k

theorem sumImg_eq (f : Nat → Nat) (s n : Nat) (inj : ∀ x y, x < n → y < n → f x = f y → x = y) : ∀ k, k ≤ n → sumImg f s k = img f s k
  | 0, _ => rfl
  | k + 1, hk => by
    have ih := sumImg_eq f s n inj k (by omega)
    unfold sumImg img
    by_cases h : s.testBit k = true
    · rw [if_pos h, if_pos h, ih, or_pow_add]
      cases e : (img f s k).testBit (f k) with
      | false => rfl
      | true =>
        obtain ⟨x, hx, _, e⟩ := (img_testBit f s _ k).1 e
        have := inj x k (by omega) (by omega) e
        omega
    · rw [if_neg h, if_neg h, ih]

/-- the tone way * x + t round the circle -/
def mvd (n : Nat) (way t : Int) (x : Nat) : Nat := ((t + way * x) % (n : Int)).toNat

theorem mvd_lt {n : Nat} (h : 0 < n) (way t : Int) (x : Nat) : mvd n way t x < n := by
  unfold mvd
  have h1 := Int.emod_nonneg (t + way * x) (b := (n : Int)) (by omega)
  have h2 := Int.emod_lt_of_pos (t + way * x) (b := (n : Int)) (by omega)
  omega
/-- t + x round a circle of n -/
def rot (n : Nat) (t : Int) (x : Nat) : Nat := ((t + x) % (n : Int)).toNat
/-- t - x round a circle of n -/
def trn (n : Nat) (t : Int) (x : Nat) : Nat := ((t - x) % (n : Int)).toNat

theorem rot_lt {n : Nat} (h : 0 < n) (t : Int) (x : Nat) : rot n t x < n := by
  unfold rot
  have h1 := Int.emod_nonneg (t + x) (b := (n : Int)) (by omega)
  have h2 := Int.emod_lt_of_pos (t + x) (b := (n : Int)) (by omega)
  omega
theorem trn_lt {n : Nat} (h : 0 < n) (t : Int) (x : Nat) : trn n t x < n := by
  unfold trn
  have h1 := Int.emod_nonneg (t - x) (b := (n : Int)) (by omega)
  have h2 := Int.emod_lt_of_pos (t - x) (b := (n : Int)) (by omega)
  omega
theorem emod_eq_of {n : Nat} (h : 0 < n) {a b : Int} (e : (a % (n : Int)).toNat = (b % (n : Int)).toNat) : a % (n : Int) = b % (n : Int) := by
  have h1 := Int.emod_nonneg a (b := (n : Int)) (by omega)
  have h2 := Int.emod_nonneg b (b := (n : Int)) (by omega)
  omega
theorem sub_of_emod {n : Nat} {a b : Int} (e : a % (n : Int) = b % (n : Int)) (h : 0 < n) (h1 : a - b < n) (h2 : b - a < n) : a = b := by
  have d1 := Int.mul_ediv_add_emod a n
  have d2 := Int.mul_ediv_add_emod b n
  have hm : (n : Int) * (a / n) - n * (b / n) = (n : Int) * (a / n - b / n) := by rw [Int.mul_sub]
  have : a / (n : Int) - b / n = 0 := by
    rcases Int.lt_trichotomy (a / (n : Int) - b / n) 0 with g | g | g
    · have : (n : Int) * (a / n - b / n) ≤ n * (-1) := Int.mul_le_mul_of_nonneg_left (by omega) (by omega)
      omega
    · exact g
    · have : (n : Int) * 1 ≤ n * (a / n - b / n) := Int.mul_le_mul_of_nonneg_left (by omega) (by omega)
      omega
  rw [this] at hm
  omega
theorem rot_inj {n : Nat} (h : 0 < n) (t : Int) : ∀ x y, x < n → y < n → rot n t x = rot n t y → x = y := by
  intro x y hx hy e
  have := sub_of_emod (emod_eq_of h e) h (by omega) (by omega)
  omega
theorem trn_inj {n : Nat} (h : 0 < n) (t : Int) : ∀ x y, x < n → y < n → trn n t x = trn n t y → x = y := by
  intro x y hx hy e
  have := sub_of_emod (emod_eq_of h e) h (by omega) (by omega)
  omega
/-- Go's (x%n + n) % n -/
theorem mvd_inj {n : Nat} (h : 0 < n) (way t : Int) (hw : way = 1 ∨ way = -1) : ∀ x y, x < n → y < n → mvd n way t x = mvd n way t y → x = y := by
  intro x y hx hy e
  have := sub_of_emod (emod_eq_of h e) h (by rcases hw with rfl | rfl <;> omega) (by rcases hw with rfl | rfl <;> omega)
  rcases hw with rfl | rfl <;> omega
theorem sumImg_no (f : Nat → Nat) {s k : Nat} (h : s.testBit k = false) : sumImg f s (k + 1) = sumImg f s k := by conv => lhs; unfold sumImg; rw [if_neg (by simp [h])]
theorem sumImg_yes (f : Nat → Nat) {s k : Nat} (h : s.testBit k = true) : sumImg f s (k + 1) = sumImg f s k + 2 ^ f k := by conv => lhs; unfold sumImg; rw [if_pos h]
theorem sum_mvd_lt {n : Nat} (h : 0 < n) (h2 : n ≤ 12) (way t : Int) (hw : way = 1 ∨ way = -1) (s : Nat) {k : Nat} (hk : k ≤ n) : sumImg (mvd n way t) s k < 4096 := by
  rw [sumImg_eq _ s n (mvd_inj h way t hw) k hk]
  have h1 := img_lt (mvd n way t) s n k (fun x _ => mvd_lt h _ _ x)
  have h3 : 2 ^ n ≤ 2 ^ 12 := Nat.pow_le_pow_right (by omega) h2
  omega
/-- the set shifted by t -/
def shf (n : Nat) (t : Int) (s : Nat) : Nat := img (mvd n 1 t) s n
/-- the set turned by t -/
def tur (n : Nat) (t : Int) (s : Nat) : Nat := img (mvd n (-1) t) s n
theorem shf_lt {n : Nat} (h : 0 < n) (t : Int) (s : Nat) : shf n t s < 2 ^ n := img_lt _ _ _ _ (fun x _ => mvd_lt h _ _ x)
theorem tur_lt {n : Nat} (h : 0 < n) (t : Int) (s : Nat) : tur n t s < 2 ^ n := img_lt _ _ _ _ (fun x _ => mvd_lt h _ _ x)
theorem sum_shf {n : Nat} (h : 0 < n) (t : Int) (s : Nat) : sumImg (mvd n 1 t) s n = shf n t s := sumImg_eq _ s n (mvd_inj h 1 t (.inl rfl)) n (Nat.le_refl _)
theorem sum_tur {n : Nat} (h : 0 < n) (t : Int) (s : Nat) : sumImg (mvd n (-1) t) s n = tur n t s := sumImg_eq _ s n (mvd_inj h (-1) t (.inr rfl)) n (Nat.le_refl _)
theorem go_round_mod {n : Nat} (h : 0 < n) (a : Int) : (a.tmod (n : Int) + n).tmod n = a % (n : Int) := by
  have hn : (0 : Int) < n := by omega
  have l1 := Int.lt_tmod_of_pos a hn
  rw [Int.tmod_eq_emod_of_nonneg (by omega), Int.add_emod_right]
  have e : a.tmod n = a - n * (a.tdiv n) := Int.tmod_def a n
  rw [e, Int.sub_emod, Int.mul_emod_right]
  simp

theorem go_round_emod {n a : Int} : (a.tmod n + n) % n = a % n := by
  rw [Int.add_emod_right, Int.tmod_def, Int.sub_emod, Int.mul_emod_right]
  simp

/-- the number of bits of s, at most f of them -/
def wt : Nat → Nat → Nat
  | 0, _ => 0
  | f + 1, s => s % 2 + wt f (s / 2)
theorem wt_zero : ∀ f, wt f 0 = 0
  | 0 => rfl
  | f + 1 => by unfold wt; rw [wt_zero f]
theorem wt_le : ∀ f s, wt f s ≤ f
  | 0, _ => Nat.le_refl _
  | f + 1, s => by unfold wt; have := wt_le f (s / 2); omega

/-- a bit as a number -/
def bitI (s j : Nat) : Int := if s.testBit j then 1 else 0
theorem bitI_eq (s j : Nat) : bitI s j = (((s / 2 ^ j % 2 : Nat)) : Int) := by
  unfold bitI
  rw [Nat.testBit_eq_decide_div_mod_eq]
  have := Nat.mod_lt (s / 2 ^ j) (y := 2) (by omega)
  by_cases h : s / 2 ^ j % 2 = 1
  · simp [h]
  · have h0 : s / 2 ^ j % 2 = 0 := by omega
    simp [h0]
theorem bitI_true {s j : Nat} (h : s.testBit j = true) : bitI s j = 1 := by simp [bitI, h]
theorem bitI_false {s j : Nat} (h : s.testBit j = false) : bitI s j = 0 := by simp [bitI, h]
theorem div_bd (s p : Nat) : 0 ≤ (s : Int) / (p : Int) ∧ (s : Int) / (p : Int) ≤ s := by
  rw [← Int.natCast_ediv]
  exact ⟨Int.natCast_nonneg _, Int.ofNat_le.2 (Nat.div_le_self s p)⟩

/-- a set of tones of a circle of n -/
def Valid (n s : Int) : Prop := 3 ≤ n ∧ n ≤ 12 ∧ 0 ≤ s ∧ s < ((2 ^ n.toNat : Nat) : Int)
/-- a shift -/
def Turn (t : Int) : Prop := -50 ≤ t ∧ t ≤ 50
theorem pow_le_12 {n : Int} (h : n ≤ 12) : 2 ^ n.toNat ≤ 4096 := by
  have : 2 ^ n.toNat ≤ 2 ^ 12 := Nat.pow_le_pow_right (by omega) (by omega)
  simpa using this
theorem Valid.lt {n s : Int} (h : Valid n s) : s < 4096 := by
  have := pow_le_12 h.2.1
  have := h.2.2.2
  omega

theorem shf_lt12 {n s : Int} (h : Valid n s) (t : Int) : shf n.toNat t s.toNat < 4096 := by
  have h1 := shf_lt (n := n.toNat) (by have := h.1; omega) t s.toNat
  have h2 := pow_le_12 h.2.1
  omega
theorem tur_lt12 {n s : Int} (h : Valid n s) (t : Int) : tur n.toNat t s.toNat < 4096 := by
  have h1 := tur_lt (n := n.toNat) (by have := h.1; omega) t s.toNat
  have h2 := pow_le_12 h.2.1
  omega
theorem Valid.cast {n s : Int} (h : Valid n s) : s = (s.toNat : Int) := (Int.toNat_of_nonneg h.2.2.1).symm
theorem Valid.nat {n s : Int} (h : Valid n s) : s.toNat < 4096 := by have := h.lt; omega

theorem pow_split (n k : Nat) (h : k ≤ n) : 2 ^ (n - k) * 2 ^ k = 2 ^ n := by
  rw [← Nat.pow_add]; congr 1; omega
theorem pow_le_62 {k : Nat} (h : k ≤ 62) : 2 ^ k ≤ 4611686018427387904 := by
  have : 2 ^ k ≤ 2 ^ 62 := Nat.pow_le_pow_right (by omega) h
  simpa using this

end Go.Proofs.YtjgkignnfkbeaaaTro.Tic

/-
  Contracts of the small functions on numbers: powers of 2, bits, weights, rests, ranges, valid circles and shifts.
-/
namespace Go.Proofs.YtjgkignnfkbeaaaTro
open Go.RowKit
set_option linter.unusedVariables false

theorem ret_int {k : IntKind} {a b : Int} (h : a = b) : Ending.returned (.int k a) = .returned (.int k b) := by rw [h]
theorem ret_bool {a b : Bool} (h : a = b) : Ending.returned (.bool a) = .returned (.bool b) := by rw [h]

theorem power_any (n : Int) (w : World) (h0 : 0 ≤ n) (h1 : n ≤ 61) :
    Calls Tro.prog 65 #[.int .i64 n] w fun e w' => e = .returned (.int .i64 ((2 ^ n.toNat : Nat) : Int)) ∧ w = w' := by
  obtain ⟨N, rfl⟩ := Int.eq_ofNat_of_zero_le h0
  rw [Int.toNat_natCast]
  have HN := Lib.hid (Tic.pow_le_62 (k := N) (by omega))
  go_enter Tro.func65, Tro.ntmps65
  go_wp2
  go_loop [0, 3] (fun t0 t3 => ∃ k P : Nat, k ≤ N ∧ t0 = .int .i64 k ∧ t3 = .int .i64 P ∧ Hid (P * 2 ^ k = 2 ^ N)) (fun t0 _ => (intOf t0).toNat)
  case atStart => exact ⟨N, 1, Nat.le_refl _, rfl, rfl, Nat.one_mul _⟩
  case round =>
    obtain ⟨k, P, hk, rfl, rfl, hP⟩ := hrel
    by_cases hlt : 0 < k
    · have hb : P ≤ 2305843009213693952 := by
        have h2 : 2 ≤ 2 ^ k := by
          have := Nat.pow_le_pow_right (n := 2) (by omega) hlt
          simpa using this
        have h3 := hP.out
        have h4 := HN.out
        have h5 : P * 2 ≤ P * 2 ^ k := Nat.mul_le_mul_left _ h2
        omega
      go_wp2
      go_round
      case rel =>
        refine ⟨k - 1, 2 * P, by omega, ?_, ?_, ?_⟩
        · have : ((k : Int) - 1) = ((k - 1 : Nat) : Int) := by omega
          rw [this]
        · have : (2 * (P : Int)) = ((2 * P : Nat) : Int) := by omega
          rw [this]
        · have h3 := hP.out
          show 2 * P * 2 ^ (k - 1) = 2 ^ N
          rw [← h3]
          obtain ⟨j, rfl⟩ : ∃ j, k = j + 1 := ⟨k - 1, by omega⟩
          simp only [Nat.add_sub_cancel, Nat.pow_succ]
          rw [Nat.mul_comm 2 P, Nat.mul_assoc, Nat.mul_comm 2]
      case measure => simp [intOf]; omega
    · have : k = 0 := by omega
      subst this
      go_wp2
      go_ret
      have h3 := hP.out
      exact ⟨ret_int (congrArg Int.ofNat (by rw [← h3, Nat.pow_zero, Nat.mul_one])), rfl⟩

theorem bit_any (x j : Int) (w : World) (h0 : 0 ≤ x) (hx : x ≤ 1000000) (h1 : 0 ≤ j) (h2 : j ≤ 61) :
    Calls Tro.prog 70 #[.int .i64 x, .int .i64 j] w fun e w' => e = .returned (.int .i64 (Tic.bitI x.toNat j.toNat)) ∧ w = w' := by
  obtain ⟨s, rfl⟩ := Int.eq_ofNat_of_zero_le h0
  have hp : 1 ≤ 2 ^ j.toNat := Nat.one_le_two_pow
  have hpl := Tic.pow_le_62 (k := j.toNat) (by omega)
  have HB := Lib.hid (Tic.bitI_eq s j.toNat)
  generalize hg : 2 ^ j.toNat = p at hp hpl
  have HG := Lib.hid hg
  clear hg
  obtain ⟨hq0, hq1⟩ := Tic.div_bd s p
  go_enter Tro.func70, Tro.ntmps70
  go_wp2_with (go_at_call 65; refine (power_any _ _ h1 h2).mono ?_; rintro e w' ⟨rfl, rfl⟩; rw [HG.out])
  go_ret
  refine ⟨ret_int ?_, rfl⟩
  rw [Int.toNat_natCast, HB.out, HG.out]
  rfl

theorem bit_yes (x j : Int) (S k : Nat) (w : World) (hx : x = S) (hS : S < 4096) (hj : j = k) (hk : k ≤ 12) (h : S.testBit k = true) :
    Calls Tro.prog 70 #[.int .i64 x, .int .i64 j] w fun e w' => e = .returned (.int .i64 1) ∧ w = w' := by
  subst hx hj
  exact (bit_any S k w (by omega) (by omega) (by omega) (by omega)).mono fun e w' ⟨h1, h2⟩ => ⟨h1.trans (ret_int (Tic.bitI_true h)), h2⟩
theorem bit_no (x j : Int) (S k : Nat) (w : World) (hx : x = S) (hS : S < 4096) (hj : j = k) (hk : k ≤ 12) (h : S.testBit k = false) :
    Calls Tro.prog 70 #[.int .i64 x, .int .i64 j] w fun e w' => e = .returned (.int .i64 0) ∧ w = w' := by
  subst hx hj
  exact (bit_any S k w (by omega) (by omega) (by omega) (by omega)).mono fun e w' ⟨h1, h2⟩ => ⟨h1.trans (ret_int (Tic.bitI_false h)), h2⟩

theorem weight_any (x : Int) (w : World) (h0 : 0 ≤ x) (hx : x < 4096) :
    Calls Tro.prog 64 #[.int .i64 x] w fun e w' => e = .returned (.int .i64 (Tic.wt 12 x.toNat : Int)) ∧ w = w' := by
  obtain ⟨s, rfl⟩ := Int.eq_ofNat_of_zero_le h0
  rw [Int.toNat_natCast]
  have hle := Tic.wt_le 12 s
  go_enter Tro.func64, Tro.ntmps64
  go_wp2
  go_loop [0, 3] (fun t0 t3 => ∃ f r c : Nat, f ≤ 12 ∧ c ≤ 12 ∧ r ≤ 4095 ∧ r < 2 ^ f ∧ t0 = .int .i64 r ∧ t3 = .int .i64 c ∧ Hid (c + Tic.wt f r = Tic.wt 12 s)) (fun t0 _ => (intOf t0).toNat)
  case atStart => exact ⟨12, s, 0, by omega, by omega, by omega, by omega, rfl, rfl, Nat.zero_add _⟩
  case round =>
    obtain ⟨f, r, c, hf, hc, hr', hr, rfl, rfl, hP⟩ := hrel
    by_cases hlt : 0 < r
    · obtain ⟨g, rfl⟩ : ∃ g, f = g + 1 := ⟨f - 1, by
        cases f with
        | zero => simp at hr; omega
        | succ f => omega⟩
      have h3 : c + (r % 2 + Tic.wt g (r / 2)) = Tic.wt 12 s := hP.out
      have hm : c + r % 2 ≤ 12 := by omega
      have H3 := Lib.hid h3
      clear h3
      rw [Nat.pow_succ] at hr
      go_wp2
      go_round
      case rel => exact ⟨g, r / 2, c + r % 2, by omega, by omega, by omega, by omega, by go_num, by go_num, by have := H3.out; show c + r % 2 + Tic.wt g (r / 2) = Tic.wt 12 s; omega⟩
      case measure => simp [intOf]; omega
    · have : r = 0 := by omega
      subst this
      go_wp2
      go_ret
      have h3 := hP.out
      rw [Tic.wt_zero] at h3
      exact ⟨ret_int (by omega), rfl⟩

theorem rest_any (x n : Int) (w : World) (h0 : -1000 ≤ x) (hx : x ≤ 1000) (h1 : 1 ≤ n) (h2 : n ≤ 1000) :
    Calls Tro.prog 78 #[.int .i64 x, .int .i64 n] w fun e w' => e = .returned (.int .i64 (x % n)) ∧ w = w' := by
  have H := Lib.hid (Tic.go_round_emod (a := x) (n := n))
  have l1 := Int.lt_tmod_of_pos x (show 0 < n by omega)
  have l2 := Int.tmod_lt_of_pos x (show 0 < n by omega)
  go_enter Tro.func78, Tro.ntmps78
  go_wp2
  go_ret
  exact ⟨ret_int H.out, rfl⟩

theorem roundCircle_any (n x : Int) (w : World) (h0 : -1000 ≤ x) (hx : x ≤ 1000) (h1 : 1 ≤ n) (h2 : n ≤ 1000) :
    Calls Tro.prog 73 #[.int .i64 n, .int .i64 x] w fun e w' => e = .returned (.int .i64 (x % n)) ∧ w = w' := by
  have H := Lib.hid (Tic.go_round_emod (a := x) (n := n))
  have l1 := Int.lt_tmod_of_pos x (show 0 < n by omega)
  have l2 := Int.tmod_lt_of_pos x (show 0 < n by omega)
  go_enter Tro.func73, Tro.ntmps73
  go_wp2
  go_ret
  exact ⟨ret_int H.out, rfl⟩

theorem inRange_yes (n a b : Int) (w : World) (h1 : a ≤ n) (h2 : n ≤ b) :
    Calls Tro.prog 77 #[.int .i64 n, .int .i64 a, .int .i64 b] w fun e w' => e = .returned (.bool true) ∧ w = w' := by
  go_enter Tro.func77, Tro.ntmps77
  go_wp2
  go_ret
  exact ⟨rfl, rfl⟩
theorem inRange_no (n a b : Int) (w : World) (h : n < a ∨ b < n) :
    Calls Tro.prog 77 #[.int .i64 n, .int .i64 a, .int .i64 b] w fun e w' => e = .returned (.bool false) ∧ w = w' := by
  by_cases h1 : n < a
  · go_enter Tro.func77, Tro.ntmps77
    go_wp2
    go_ret
    exact ⟨rfl, rfl⟩
  · have h2 : b < n := by omega
    clear h
    go_enter Tro.func77, Tro.ntmps77
    go_wp2
    go_ret
    exact ⟨ret_bool (decide_eq_false (by omega)), rfl⟩

theorem validSet_yes (n s : Int) (w : World) (h : Tic.Valid n s) :
    Calls Tro.prog 52 #[.int .i64 n, .int .i64 s] w fun e w' => e = .returned (.bool true) ∧ w = w' := by
  obtain ⟨h1, h2, h3, h4⟩ := h
  have hp := Tic.pow_le_12 h2
  have hp1 : 1 ≤ 2 ^ n.toNat := Nat.one_le_two_pow
  generalize hg : 2 ^ n.toNat = p at h4 hp hp1
  have HG := Lib.hid hg
  clear hg
  go_enter Tro.func52, Tro.ntmps52
  go_wp2_with fail
  refine (inRange_yes _ _ _ _ h1 h2).mono ?_; rintro e w' ⟨rfl, rfl⟩
  go_wp2_with fail
  refine (power_any _ _ (by omega) (by omega)).mono ?_; rintro e w' ⟨rfl, rfl⟩; rw [HG.out]
  go_wp2_with fail
  refine (inRange_yes _ _ _ _ h3 (by omega)).mono ?_; rintro e w' ⟨rfl, rfl⟩
  go_wp2_with fail
  go_ret
  exact ⟨rfl, rfl⟩
theorem validSet_no (n s : Int) (w : World) (h : ¬ Tic.Valid n s) :
    Calls Tro.prog 52 #[.int .i64 n, .int .i64 s] w fun e w' => e = .returned (.bool false) ∧ w = w' := by
  by_cases h1 : n < 3 ∨ 12 < n
  · go_enter Tro.func52, Tro.ntmps52
    go_wp2_with fail
    refine (inRange_no _ _ _ _ h1).mono ?_; rintro e w' ⟨rfl, rfl⟩
    go_wp2_with fail
    go_ret
    exact ⟨rfl, rfl⟩
  · have h2 : 3 ≤ n ∧ n ≤ 12 := by omega
    obtain ⟨h2, h3⟩ := h2
    have hp := Tic.pow_le_12 h3
    have hp1 : 1 ≤ 2 ^ n.toNat := Nat.one_le_two_pow
    have h4 : s < 0 ∨ ((2 ^ n.toNat : Nat) : Int) ≤ s := by
      unfold Tic.Valid at h
      omega
    clear h h1
    generalize hg : 2 ^ n.toNat = p at h4 hp hp1
    have HG := Lib.hid hg
    have H4 := Lib.hid h4
    clear hg h4
    go_enter Tro.func52, Tro.ntmps52
    go_wp2_with fail
    refine (inRange_yes _ _ _ _ h2 h3).mono ?_; rintro e w' ⟨rfl, rfl⟩
    go_wp2_with fail
    refine (power_any _ _ (by omega) (by omega)).mono ?_; rintro e w' ⟨rfl, rfl⟩; rw [HG.out]
    go_wp2_with fail
    refine (inRange_no _ _ _ _ (by have := H4.out; omega)).mono ?_; rintro e w' ⟨rfl, rfl⟩
    go_wp2_with fail
    go_ret
    exact ⟨rfl, rfl⟩

theorem circle_yes (n : Int) (w : World) (h1 : 3 ≤ n) (h2 : n ≤ 12) :
    Calls Tro.prog 54 #[.int .i64 n] w fun e w' => e = .returned (.bool true) ∧ w = w' := by
  go_enter Tro.func54, Tro.ntmps54
  go_wp2
  go_ret
  exact ⟨rfl, rfl⟩
theorem circle_no (n : Int) (w : World) (h : n < 3 ∨ 12 < n) :
    Calls Tro.prog 54 #[.int .i64 n] w fun e w' => e = .returned (.bool false) ∧ w = w' := by
  by_cases h1 : n < 3
  · clear h
    go_enter Tro.func54, Tro.ntmps54
    go_wp2
    go_ret
    exact ⟨rfl, rfl⟩
  · have h2 : 12 < n := by omega
    clear h
    go_enter Tro.func54, Tro.ntmps54
    go_wp2
    go_ret
    exact ⟨ret_bool (decide_eq_false (by omega)), rfl⟩
theorem shiftOk_yes (t : Int) (w : World) (h : Tic.Turn t) :
    Calls Tro.prog 60 #[.int .i64 t] w fun e w' => e = .returned (.bool true) ∧ w = w' := by
  obtain ⟨h1, h2⟩ := h
  go_enter Tro.func60, Tro.ntmps60
  go_wp2
  go_ret
  exact ⟨rfl, rfl⟩
theorem shiftOk_no (t : Int) (w : World) (h : ¬ Tic.Turn t) :
    Calls Tro.prog 60 #[.int .i64 t] w fun e w' => e = .returned (.bool false) ∧ w = w' := by
  have h : t < -50 ∨ 50 < t := by unfold Tic.Turn at h; omega
  by_cases h1 : t < -50
  · clear h
    go_enter Tro.func60, Tro.ntmps60
    go_wp2
    go_ret
    exact ⟨rfl, rfl⟩
  · have h2 : 50 < t := by omega
    clear h
    go_enter Tro.func60, Tro.ntmps60
    go_wp2
    go_ret
    exact ⟨ret_bool (decide_eq_false (by omega)), rfl⟩

theorem wrap_nat {P : Nat} (h : P ≤ 4611686018427387904) : wrap64 (P : Int) = P := IntWalk.wrap64_in _ (by omega)
theorem wrap_pow {k : Nat} (h : k ≤ 61) : wrap64 ((2 : Int) ^ k) = ((2 ^ k : Nat) : Int) := by
  have e : (2 : Int) ^ k = ((2 ^ k : Nat) : Int) := by rw [Int.natCast_pow]; rfl
  rw [e]
  exact wrap_nat (Tic.pow_le_62 (by omega))

theorem ofInt_i64 (a : Nat) (ha : a < 4611686018427387904) : (BitVec.ofInt 64 (a : Int)).toNat = a := by
  rw [BitVec.ofInt_natCast, BitVec.toNat_ofNat]; exact Nat.mod_eq_of_lt (by omega)
theorem i64_and_nat (a b : Nat) (ha : a < 4611686018427387904) (hb : b < 4611686018427387904) : bits .and .i64 (a : Int) (b : Int) = ((a &&& b : Nat) : Int) := by
  have hx : a &&& b < 2 ^ 62 := Nat.and_lt_two_pow _ (by omega)
  show IntKind.i64.wrap ((BitVec.ofInt 64 (a : Int) &&& BitVec.ofInt 64 (b : Int)).toNat : Int) = _
  rw [BitVec.toNat_and, ofInt_i64 a ha, ofInt_i64 b hb]
  exact IntWalk.i64_in _ (by omega)
theorem i64_or_nat (a b : Nat) (ha : a < 4611686018427387904) (hb : b < 4611686018427387904) : bits .or .i64 (a : Int) (b : Int) = ((a ||| b : Nat) : Int) := by
  have hx : a ||| b < 2 ^ 62 := Nat.or_lt_two_pow (by omega) (by omega)
  show IntKind.i64.wrap ((BitVec.ofInt 64 (a : Int) ||| BitVec.ofInt 64 (b : Int)).toNat : Int) = _
  rw [BitVec.toNat_or, ofInt_i64 a ha, ofInt_i64 b hb]
  exact IntWalk.i64_in _ (by omega)
/-- s >> x & 1 == 1 -/
theorem has_bits (s x : Nat) (hs : s < 4096) : (bits .and .i64 ((s : Int) / (2 : Int) ^ x) 1 == 1) = s.testBit x := by
  have e : (2 : Int) ^ x = ((2 ^ x : Nat) : Int) := by rw [Int.natCast_pow]; rfl
  have hd : s / 2 ^ x < 4611686018427387904 := by have := Nat.div_le_self s (2 ^ x); omega
  rw [e, ← Int.natCast_ediv]
  have := i64_and_nat (s / 2 ^ x) 1 hd (by omega)
  rw [show ((1 : Nat) : Int) = 1 from rfl] at this
  rw [this, Nat.and_one_is_mod, Nat.testBit_eq_decide_div_mod_eq]
  have := Nat.mod_lt (s / 2 ^ x) (y := 2) (by omega)
  by_cases h : s / 2 ^ x % 2 = 1
  · simp [h]
  · have h0 : s / 2 ^ x % 2 = 0 := by omega
    simp [h0]

theorem implValid_yes (n s : Int) (w : World) (h : Tic.Valid n s) :
    Calls Tro.prog 22 #[.int .i64 n, .int .i64 s] w fun e w' => e = .returned (.bool true) ∧ w = w' := by
  have h4 := Lib.hid h.2.2.2
  obtain ⟨h1, h2, h3, _⟩ := h
  have HW := Lib.hid (wrap_pow (k := n.toNat) (by omega))
  go_enter Tro.func22, Tro.ntmps22
  go_wp2_with fail
  refine (circle_yes _ _ h1 h2).mono ?_; rintro e w' ⟨rfl, rfl⟩
  go_wp2_with fail
  go_ret
  exact ⟨ret_bool (by rw [HW.out]; exact decide_eq_true h4.out), rfl⟩
theorem implValid_no (n s : Int) (w : World) (h : ¬ Tic.Valid n s) :
    Calls Tro.prog 22 #[.int .i64 n, .int .i64 s] w fun e w' => e = .returned (.bool false) ∧ w = w' := by
  by_cases h1 : n < 3 ∨ 12 < n
  · go_enter Tro.func22, Tro.ntmps22
    go_wp2_with fail
    refine (circle_no _ _ h1).mono ?_; rintro e w' ⟨rfl, rfl⟩
    go_wp2_with fail
    go_ret
    exact ⟨rfl, rfl⟩
  · have h2 : 3 ≤ n ∧ n ≤ 12 := by omega
    obtain ⟨h2, h3⟩ := h2
    have h4 : s < 0 ∨ ((2 ^ n.toNat : Nat) : Int) ≤ s := by
      unfold Tic.Valid at h
      omega
    clear h h1
    have HW := Lib.hid (wrap_pow (k := n.toNat) (by omega))
    by_cases h5 : s < 0
    · clear h4
      go_enter Tro.func22, Tro.ntmps22
      go_wp2_with fail
      refine (circle_yes _ _ h2 h3).mono ?_; rintro e w' ⟨rfl, rfl⟩
      go_wp2_with fail
      go_ret
      exact ⟨rfl, rfl⟩
    · have h6 : ((2 ^ n.toNat : Nat) : Int) ≤ s := by omega
      have H6 := Lib.hid h6
      clear h4 h6
      go_enter Tro.func22, Tro.ntmps22
      go_wp2_with fail
      refine (circle_yes _ _ h2 h3).mono ?_; rintro e w' ⟨rfl, rfl⟩
      go_wp2_with fail
      go_ret
      exact ⟨ret_bool (by rw [HW.out]; exact decide_eq_false (by have := H6.out; omega)), rfl⟩


end Go.Proofs.YtjgkignnfkbeaaaTro

/-
  Contracts of shifts and turns of sets: the program's own methods and the model's loops; both are the image of a set under a map of tones.
-/
namespace Go.Proofs.YtjgkignnfkbeaaaTro
open Go.RowKit
set_option linter.unusedVariables false

theorem bcell {W w1 : World} (hb : Below W.heap.size W w1) : (∀ b o, b < W.heap.size → w1.cell? ⟨b, o, none⟩ = W.cell? ⟨b, o, none⟩) ∧ (∀ b o, b < W.heap.size → w1.frozen? ⟨b, o, none⟩ = W.frozen? ⟨b, o, none⟩) :=
  ⟨fun b o h => hb.cell (p := ⟨b, o, none⟩) h, fun b o h => hb.frozen (p := ⟨b, o, none⟩) h⟩

theorem has_any (n s x : Int) (w : World) (h0 : 0 ≤ s) (hs : s < 4096) (hx : 0 ≤ x) (hx2 : x ≤ 12) :
    Calls Tro.prog 71 #[.agg #[.int .i64 n, .int .i64 s], .int .i64 x] w fun e w' => e = .returned (.bool (s.toNat.testBit x.toNat)) ∧ Below w.heap.size w w' := by
  obtain ⟨S, rfl⟩ := Int.eq_ofNat_of_zero_le h0
  have HB := Lib.hid (has_bits S x.toNat (by omega))
  go_enter Tro.func71, Tro.ntmps71
  go_wp2
  go_ret
  exact ⟨ret_bool HB.out, (Below.refl _ _).alloc (Nat.le_refl _) _⟩

theorem has_yes (n s : Int) (S k : Nat) (w : World) (hs : s = S) (hS : S < 4096) (hk : k ≤ 12) (h : S.testBit k = true) :
    Calls Tro.prog 71 #[.agg #[.int .i64 n, .int .i64 s], .int .i64 k] w fun e w' => e = .returned (.bool true) ∧ Below w.heap.size w w' := by
  subst hs
  exact (has_any n S k w (by omega) (by omega) (by omega) (by omega)).mono fun e w' ⟨h1, h2⟩ => ⟨h1.trans (ret_bool h), h2⟩
theorem has_no (n s : Int) (S k : Nat) (w : World) (hs : s = S) (hS : S < 4096) (hk : k ≤ 12) (h : S.testBit k = false) :
    Calls Tro.prog 71 #[.agg #[.int .i64 n, .int .i64 s], .int .i64 k] w fun e w' => e = .returned (.bool false) ∧ Below w.heap.size w w' := by
  subst hs
  exact (has_any n S k w (by omega) (by omega) (by omega) (by omega)).mono fun e w' ⟨h1, h2⟩ => ⟨h1.trans (ret_bool h), h2⟩

theorem way_bd {way : Int} {k : Nat} (h1 : -1 ≤ way) (h2 : way ≤ 1) (hk : k ≤ 12) : -12 ≤ way * k := by
  rcases (show way = -1 ∨ way = 0 ∨ way = 1 by omega) with rfl | rfl | rfl <;> omega
theorem way_bd2 {way : Int} {k : Nat} (h1 : -1 ≤ way) (h2 : way ≤ 1) (hk : k ≤ 12) : way * k ≤ 12 := by
  rcases (show way = -1 ∨ way = 0 ∨ way = 1 by omega) with rfl | rfl | rfl <;> omega
theorem or_pow {S k : Nat} (hS : S < 4096) (hk : k ≤ 12) : bits .or .i64 (S : Int) (wrap64 ((2 : Int) ^ k)) = ((S ||| 2 ^ k : Nat) : Int) := by
  rw [wrap_pow (by omega)]
  have : 2 ^ k ≤ 2 ^ 12 := Nat.pow_le_pow_right (by omega) hk
  exact i64_or_nat _ _ (by omega) (by omega)
theorem still_of {P : Program} {f : Nat} {args : Array Value} {w : World} {v : Value} (h : Calls P f args w fun e w' => e = .returned v ∧ w = w') : Calls P f args w fun e w' => e = .returned v ∧ w' = w :=
  h.mono fun _ _ ⟨a, b⟩ => ⟨a, b.symm⟩

/-- a world in which a new pair of cells is written -/
theorem pair_back {w : World} {b : Nat} {x y u v : Value} (r0 : w.cell? ⟨b, 0, none⟩ = some u) (r1 : w.cell? ⟨b, 1, none⟩ = some v) :
    ((w.setCell ⟨b, 0, none⟩ x).setCell ⟨b, 1, none⟩ y).cell? ⟨b, 0, none⟩ = some x ∧ ((w.setCell ⟨b, 0, none⟩ x).setCell ⟨b, 1, none⟩ y).cell? ⟨b, 1, none⟩ = some y := by
  constructor
  · rw [World.cell?_setCell_other _ _ _ _ (by simp)]; exact World.cell?_setCell_same _ _ _ r0
  · refine World.cell?_setCell_same _ _ _ (u := v) ?_
    rw [World.cell?_setCell_other _ _ _ _ (by simp)]; exact r1
theorem emod_bd (x n : Int) (h : 1 ≤ n) : 0 ≤ x % n ∧ x % n < n := ⟨Int.emod_nonneg x (by omega), Int.emod_lt_of_pos x (by omega)⟩
set_option maxRecDepth 20000 in
theorem with_any (n s x : Int) (w : World) (g1 : 1 ≤ n) (g2 : n ≤ 12) (g3 : 0 ≤ s) (g4 : s < 4096) (h1 : -1000 ≤ x) (h2 : x ≤ 1000) :
    Calls Tro.prog 75 #[.agg #[.int .i64 n, .int .i64 s], .int .i64 x] w fun e w' => e = .returned (.agg #[.int .i64 n, .int .i64 ((s.toNat ||| 2 ^ (x % n).toNat : Nat) : Int)]) ∧ Below w.heap.size w w' := by
  obtain ⟨S, rfl⟩ := Int.eq_ofNat_of_zero_le g3
  rw [Int.toNat_natCast]
  obtain ⟨m1, m2⟩ := emod_bd x n g1
  have HW := Lib.hid (or_pow (S := S) (k := (x % n).toNat) (by omega) (by omega))
  go_enter Tro.func75, Tro.ntmps75
  go_wp2
  have c0 : ((w.alloc (.cells #[.int .i64 n, .int .i64 S] 47)).alloc (.cells #[.int .i64 0, .int .i64 0] 47)).cell? ⟨w.heap.size, 0, none⟩ = some (.int .i64 n) := by go_simp
  have c1 : ((w.alloc (.cells #[.int .i64 n, .int .i64 S] 47)).alloc (.cells #[.int .i64 0, .int .i64 0] 47)).cell? ⟨w.heap.size, 1, none⟩ = some (.int .i64 S) := by go_simp
  have c2 : ((w.alloc (.cells #[.int .i64 n, .int .i64 S] 47)).alloc (.cells #[.int .i64 0, .int .i64 0] 47)).frozen? ⟨w.heap.size, 1, none⟩ = false := by go_simp
  have r0 : ((w.alloc (.cells #[.int .i64 n, .int .i64 S] 47)).alloc (.cells #[.int .i64 0, .int .i64 0] 47)).cell? ⟨w.heap.size + 1, 0, none⟩ = some (.int .i64 0) := by go_simp
  have r1 : ((w.alloc (.cells #[.int .i64 n, .int .i64 S] 47)).alloc (.cells #[.int .i64 0, .int .i64 0] 47)).cell? ⟨w.heap.size + 1, 1, none⟩ = some (.int .i64 0) := by go_simp
  have q0 : ((w.alloc (.cells #[.int .i64 n, .int .i64 S] 47)).alloc (.cells #[.int .i64 0, .int .i64 0] 47)).frozen? ⟨w.heap.size + 1, 0, none⟩ = false := by go_simp
  have q1 : ((w.alloc (.cells #[.int .i64 n, .int .i64 S] 47)).alloc (.cells #[.int .i64 0, .int .i64 0] 47)).frozen? ⟨w.heap.size + 1, 1, none⟩ = false := by go_simp
  have hbel : Below w.heap.size w ((w.alloc (.cells #[.int .i64 n, .int .i64 S] 47)).alloc (.cells #[.int .i64 0, .int .i64 0] 47)) := ((Below.refl _ _).alloc (Nat.le_refl _) _).alloc (by simp) _
  generalize (w.alloc (.cells #[.int .i64 n, .int .i64 S] 47)).alloc (.cells #[.int .i64 0, .int .i64 0] 47) = W at c0 c1 c2 r0 r1 q0 q1 hbel ⊢
  refine wp_region_still_tail 9 (by kernel_rfl) (by kernel_rfl) ?_
  simp only [List.take_succ_cons, List.take_zero, List.drop_succ_cons, List.drop_zero]
  still_step
  still_step
  still_step
  still_step
  still_step
  still_call (still_of (roundCircle_any _ _ _ (by omega) (by omega) (by omega) (by omega)))
  still_step
  still_step
  still_step
  refine wpStill_nil ?_
  change wpList _ _ _ _ _ W.drew
  go_wp2
  rw [HW.out]
  obtain ⟨e1, e2⟩ := pair_back (w := W.setCell ⟨w.heap.size, 1, none⟩ (.int .i64 ((S ||| 2 ^ (x % n).toNat : Nat) : Int))) (x := .int .i64 n) (y := .int .i64 ((S ||| 2 ^ (x % n).toNat : Nat) : Int)) ((World.cell?_setCell_other _ _ _ _ (by simp)).trans r0) ((World.cell?_setCell_other _ _ _ _ (by simp)).trans r1)
  refine bodyPost_ret (v := .agg #[.int .i64 n, .int .i64 ((S ||| 2 ^ (x % n).toNat : Nat) : Int)]) (by simp [results, Tro.results75, go_sem, e1, e2]) rfl ⟨rfl, ?_⟩
  exact (((hbel.setCell (by simp) _).setCell (by simp) _).setCell (by simp) _).drew
set_option maxRecDepth 20000 in
theorem moved_any (n s way t : Int) (w : World) (hv : Tic.Valid n s) (h1 : -1 ≤ way) (h2 : way ≤ 1) (h3 : -50 ≤ t) (h4 : t ≤ 50) :
    Calls Tro.prog 79 #[.agg #[.int .i64 n, .int .i64 s], .int .i64 way, .int .i64 t] w fun e w' => e = .returned (.agg #[.int .i64 n, .int .i64 (Tic.img (Tic.mvd n.toNat way t) s.toNat n.toNat : Int)]) ∧ Below w.heap.size w w' := by
  have hlt := hv.lt
  obtain ⟨g1, g2, g3, _⟩ := hv
  obtain ⟨N, rfl⟩ := Int.eq_ofNat_of_zero_le (show 0 ≤ n by omega)
  obtain ⟨S, rfl⟩ := Int.eq_ofNat_of_zero_le g3
  rw [Int.toNat_natCast, Int.toNat_natCast]
  go_enter Tro.func79, Tro.ntmps79
  go_wp2
  go_loopw [8, 14] (fun t8 t14 wr => ∃ k : Nat, k ≤ N ∧ t14 = .int .i64 k ∧
      wr.cell? ⟨w.heap.size, 0, none⟩ = some (.int .i64 N) ∧ wr.cell? ⟨w.heap.size, 1, none⟩ = some (.int .i64 S) ∧
      wr.cell? ⟨w.heap.size + 1, 0, none⟩ = some (.int .i64 0) ∧ wr.cell? ⟨w.heap.size + 1, 1, none⟩ = some (.int .i64 0) ∧
      wr.frozen? ⟨w.heap.size + 1, 0, none⟩ = false ∧ wr.frozen? ⟨w.heap.size + 1, 1, none⟩ = false ∧
      wr.cell? ⟨w.heap.size + 1 + 1, 0, none⟩ = some (.int .i64 N) ∧ wr.cell? ⟨w.heap.size + 1 + 1, 1, none⟩ = some (.int .i64 (Tic.img (Tic.mvd N way t) S k : Int)) ∧
      wr.frozen? ⟨w.heap.size + 1 + 1, 1, none⟩ = false ∧ wr.frozen? ⟨w.heap.size + 1 + 1, 0, none⟩ = false ∧
      w.heap.size + 1 + 1 < wr.heap.size ∧ Below w.heap.size w wr) (fun _ t14 _ => N - (intOf t14).toNat)
  case atStart =>
    refine ⟨0, Nat.zero_le _, rfl, ?_, ?_, ?_, ?_, ?_, ?_, ?_, ?_, ?_, ?_, ?_, ?_⟩
    all_goals first | exact (((Below.refl _ _).alloc (Nat.le_refl _) _).alloc (by simp) _).alloc (by simp; omega) _ | go_simp
    rfl
  case round =>
    obtain ⟨k, hk, rfl, a0, a1, r0, r1, q0, q1, b0, b1, p1, p2, hz, hbel⟩ := hrel
    by_cases hlt2 : k < N
    · cases hbit : S.testBit k with
      | false =>
        have HB := Lib.hid hbit
        clear hbit
        go_wp2_with fail
        refine (has_no _ _ S k _ rfl (by omega) (by omega) HB.out).mono ?_; rintro e w1 ⟨rfl, hb1⟩
        obtain ⟨hc, hf⟩ := bcell hb1
        have hz1 := hb1.size
        go_wp2
        go_roundw
        case rel =>
          refine ⟨k + 1, by omega, by go_num, ?_, ?_, ?_, ?_, ?_, ?_, ?_, ?_, ?_, ?_, ?_, ?_⟩
          all_goals first | (rw [hc _ _ (by omega)]; assumption) | (rw [hf _ _ (by omega)]; assumption) | omega | exact hbel.trans (hb1.mono (by omega)) | (rw [hc _ _ (by omega), Tic.img_no _ HB.out]; assumption)
        case measure => simp [intOf]; omega
      | true =>
        have HB := Lib.hid hbit
        clear hbit
        go_wp2_with fail
        refine (has_yes _ _ S k _ rfl (by omega) (by omega) HB.out).mono ?_; rintro e w1 ⟨rfl, hb1⟩
        obtain ⟨hc, hf⟩ := bcell hb1
        have hz1 := hb1.size
        go_wp2_with fail
        have d0 : w1.cell? ⟨w.heap.size, 0, none⟩ = some (.int .i64 N) := by rw [hc _ _ (by omega)]; exact a0
        have d1 : w1.cell? ⟨w.heap.size, 1, none⟩ = some (.int .i64 S) := by rw [hc _ _ (by omega)]; exact a1
        have e0 : w1.cell? ⟨w.heap.size + 1, 0, none⟩ = some (.int .i64 0) := by rw [hc _ _ (by omega)]; exact r0
        have e1 : w1.cell? ⟨w.heap.size + 1, 1, none⟩ = some (.int .i64 0) := by rw [hc _ _ (by omega)]; exact r1
        have g0 : w1.frozen? ⟨w.heap.size + 1, 0, none⟩ = false := by rw [hf _ _ (by omega)]; exact q0
        have g1 : w1.frozen? ⟨w.heap.size + 1, 1, none⟩ = false := by rw [hf _ _ (by omega)]; exact q1
        have l0 : w1.cell? ⟨w.heap.size + 1 + 1, 0, none⟩ = some (.int .i64 N) := by rw [hc _ _ (by omega)]; exact b0
        have l1 : w1.cell? ⟨w.heap.size + 1 + 1, 1, none⟩ = some (.int .i64 (Tic.img (Tic.mvd N way t) S k : Int)) := by rw [hc _ _ (by omega)]; exact b1
        have l2 : w1.frozen? ⟨w.heap.size + 1 + 1, 1, none⟩ = false := by rw [hf _ _ (by omega)]; exact p1
        have l3 : w1.frozen? ⟨w.heap.size + 1 + 1, 0, none⟩ = false := by rw [hf _ _ (by omega)]; exact p2
        have hbel1 : Below w.heap.size w w1 := hbel.trans (hb1.mono (by omega))
        have hz2 : w.heap.size + 1 + 1 < w1.heap.size := by omega
        clear hc hf hz1 hb1 a0 a1 r0 r1 q0 q1 b0 b1 p1 p2 hz hbel
        have hw1 := way_bd (k := k) h1 h2 (by omega)
        have hw2 := way_bd2 (k := k) h1 h2 (by omega)
        have hs1 := IntWalk.wrap64_in (way * k) (by omega)
        have hs2 := IntWalk.wrap64_in (t + way * k) (by omega)
        have hi1 : Tic.img (Tic.mvd N way t) S k < 4096 := by have := Tic.img_lt (Tic.mvd N way t) S 12 k (fun x _ => by have := Tic.mvd_lt (n := N) (by omega) way t x; omega); omega
        rw [hs1, hs2]
        clear hs1 hs2
        refine (with_any _ _ _ _ (by omega) (by omega) (by omega) (by omega) (by omega) (by omega)).mono ?_; rintro e w2 ⟨rfl, hb2⟩
        rw [Int.toNat_natCast, show Tic.img (Tic.mvd N way t) S k ||| 2 ^ ((t + way * k) % (N : Int)).toNat = Tic.img (Tic.mvd N way t) S (k + 1) from (Tic.img_yes _ HB.out).symm]
        obtain ⟨hc2, hf2⟩ := bcell hb2
        have s0 := (hc2 _ 0 (by omega)).trans d0
        have s1 := (hc2 _ 1 (by omega)).trans d1
        have t0 := (hc2 _ 0 (by omega)).trans e0
        have t1 := (hc2 _ 1 (by omega)).trans e1
        have u0 := (hf2 _ 0 (by omega)).trans g0
        have u1 := (hf2 _ 1 (by omega)).trans g1
        have v0 := (hc2 _ 0 (by omega)).trans l0
        have v1 := (hc2 _ 1 (by omega)).trans l1
        have v2 := (hf2 _ 1 (by omega)).trans l2
        have v3 := (hf2 _ 0 (by omega)).trans l3
        have hz3 := hb2.size
        have hbel2 := hbel1.trans (hb2.mono (by omega))
        clear hc2 hf2 d0 d1 e0 e1 g0 g1 l0 l1 l2 l3 hb2 hbel1
        go_wp2
        obtain ⟨y0, y1⟩ := pair_back (x := .int .i64 N) (y := .int .i64 (Tic.img (Tic.mvd N way t) S (k + 1) : Int)) v0 v1
        go_roundw
        case rel =>
          refine ⟨k + 1, by omega, by go_num, ?_, ?_, ?_, ?_, ?_, ?_, y0, y1, ?_, ?_, ?_, ?_⟩
          all_goals try simp only [World.frozen?_setCell]
          all_goals first | assumption | (rw [World.cell?_setCell_other _ _ _ _ (by simp), World.cell?_setCell_other _ _ _ _ (by simp)]; assumption) | exact (hbel2.setCell (by simp; omega) _).setCell (by simp; omega) _ | (simp; omega)
        case measure => simp [intOf]; omega
    · have : k = N := by omega
      subst this
      go_wp2
      refine bodyPost_ret (v := .agg #[.int .i64 k, .int .i64 (Tic.img (Tic.mvd k way t) S k : Int)]) ?_ rfl ⟨rfl, ?_⟩
      · have e1 := World.cell?_setCell_same wr ⟨w.heap.size + 1, 0, none⟩ (.int .i64 k) r0
        have e2 : ((wr.setCell ⟨w.heap.size + 1, 0, none⟩ (.int .i64 k)).setCell ⟨w.heap.size + 1, 1, none⟩ (.int .i64 (Tic.img (Tic.mvd k way t) S k : Int))).cell? ⟨w.heap.size + 1, 0, none⟩ = some (.int .i64 k) := by
          rw [World.cell?_setCell_other _ _ _ _ (by simp)]; exact e1
        have e3 : ((wr.setCell ⟨w.heap.size + 1, 0, none⟩ (.int .i64 k)).setCell ⟨w.heap.size + 1, 1, none⟩ (.int .i64 (Tic.img (Tic.mvd k way t) S k : Int))).cell? ⟨w.heap.size + 1, 1, none⟩ = some (.int .i64 (Tic.img (Tic.mvd k way t) S k : Int)) := by
          refine World.cell?_setCell_same _ _ _ (u := .int .i64 0) ?_
          rw [World.cell?_setCell_other _ _ _ _ (by simp)]; exact r1
        simp [results, Tro.results79, go_sem, e2, e3]
      · exact (hbel.setCell (by simp) _).setCell (by simp) _
theorem tones_of (a b : Int) (w : World) : (Instr.field 47 (.agg #[.int .i64 a, .int .i64 b]) 1).run Tro.prog w = .ok (.int .i64 b) w := by kernel_rfl
theorem mshift_any (n s t : Int) (w : World) (hv : Tic.Valid n s) (ht : Tic.Turn t) :
    Calls Tro.prog 57 #[.agg #[.int .i64 n, .int .i64 s], .int .i64 t] w fun e w' => e = .returned (.agg #[.int .i64 n, .int .i64 (Tic.img (Tic.mvd n.toNat 1 t) s.toNat n.toNat : Int)]) ∧ Below w.heap.size w w' := by
  go_enter Tro.func57, Tro.ntmps57
  go_wp2_with fail
  refine (moved_any _ _ _ _ _ hv (by omega) (by omega) ht.1 ht.2).mono ?_; rintro e w1 ⟨rfl, hb⟩
  obtain ⟨hc, hf⟩ := bcell hb
  have r0 : w1.cell? ⟨w.heap.size + 1, 0, none⟩ = some (.int .i64 0) := by rw [hc _ _ (by simp)]; go_simp
  have r1 : w1.cell? ⟨w.heap.size + 1, 1, none⟩ = some (.int .i64 0) := by rw [hc _ _ (by simp)]; go_simp
  have q0 : w1.frozen? ⟨w.heap.size + 1, 0, none⟩ = false := by rw [hf _ _ (by simp)]; go_simp
  have q1 : w1.frozen? ⟨w.heap.size + 1, 1, none⟩ = false := by rw [hf _ _ (by simp)]; go_simp
  clear hc hf
  go_wp2_with fail
  obtain ⟨e1, e2⟩ := pair_back (x := .int .i64 n) (y := .int .i64 (Tic.img (Tic.mvd n.toNat 1 t) s.toNat n.toNat : Int)) r0 r1
  refine bodyPost_ret (v := .agg #[.int .i64 n, .int .i64 (Tic.img (Tic.mvd n.toNat 1 t) s.toNat n.toNat : Int)]) (by simp [results, Tro.results57, go_sem, e1, e2]) rfl ⟨rfl, ?_⟩
  exact (((((Below.refl _ _).alloc (Nat.le_refl _) _).alloc (by simp) _).trans (hb.mono (by simp; omega))).setCell (by simp) _).setCell (by simp) _

end Go.Proofs.YtjgkignnfkbeaaaTro

/-
  Slices of whole numbers that a call made: their rows, kept and written; the contracts of the laws' helpers eqIntS, markIntS, heldIntS.
-/
namespace Go.Proofs.YtjgkignnfkbeaaaTro
open Go.RowKit
set_option linter.unusedVariables false

/-- the slice v, made from block B on, holds the numbers L -/
def Row (w : World) (B : Nat) (v : Value) (L : List Int) : Prop := w.ownsRow B 3 1 v L.length (L.map (Value.int .i64)) ∧ L.length ≤ 1048576

theorem Row.kept {w w' : World} {B : Nat} {v : Value} {L : List Int} (h : Row w B v L) (hb : Below w.heap.size w w') : Row w' B v L :=
  ⟨h.1.kept (row := none) ⟨hb.os, hb.tape, hb.output, hb.size, fun k hk _ => hb.block k hk⟩ (by cases v.ownBlock <;> simp), h.2⟩
theorem Row.mono {w : World} {B B' : Nat} {v : Value} {L : List Int} (h : Row w B v L) (hB : B' ≤ B) : Row w B' v L := by
  obtain ⟨⟨h1, h2⟩, h3⟩ := h
  refine ⟨⟨h1, ?_⟩, h3⟩
  rcases h2 with h2 | ⟨g, cap, cur, e, hg, r⟩
  · exact .inl h2
  · exact .inr ⟨g, cap, cur, e, by omega, r⟩
theorem Row.cases {w : World} {B : Nat} {v : Value} {L : List Int} (h : Row w B v L) : (v = .slice none 0 0 ∧ L = []) ∨
    ∃ g cap, v = .slice (some ⟨g, 0, none⟩) L.length cap ∧ B ≤ g ∧ g < w.heap.size ∧ (∀ i, i < L.length → w.cell? ⟨g, i, none⟩ = some (.int .i64 (L.getD i 0))) ∧ (∀ i, w.frozen? ⟨g, i, none⟩ = false) := by
  obtain ⟨h1, h3⟩ := h
  have h1' := h1
  rcases h1.2 with ⟨e, hn⟩ | ⟨g, cap, cur, e, hg, hh, r⟩
  · exact .inl ⟨e, List.eq_nil_of_length_eq_zero hn⟩
  · subst e
    refine .inr ⟨g, cap, rfl, hg, (Array.getElem?_eq_some_iff.1 hh).1, fun i hi => ?_, fun i => h1.frozenAt i⟩
    rw [h1.cellAt i (by omega), List.getElem?_map, List.getElem?_eq_getElem hi]
    simp [List.getD_eq_getElem?_getD, List.getElem?_eq_getElem hi]
theorem Row.set {w : World} {B g cap : Nat} {L : List Int} (h : Row w B (.slice (some ⟨g, 0, none⟩) L.length cap) L) (j : Nat) (x : Int) :
    Row (w.setCell ⟨g, j, none⟩ (.int .i64 x)) B (.slice (some ⟨g, 0, none⟩) L.length cap) (L.set j x) ∧ w.grownBy (w.setCell ⟨g, j, none⟩ (.int .i64 x)) (some g) := by
  obtain ⟨h1, h2⟩ := h.1.stored j (.int .i64 x)
  refine ⟨⟨?_, by simpa using h.2⟩, h2⟩
  rw [List.map_set, List.length_set]
  exact h1
theorem Row.far {w w' : World} {B : Nat} {v : Value} {L : List Int} (h : Row w B v L) {g : Nat} (hg : w.grownBy w' (some g)) (hB : ∀ k, v.ownBlock = some k → k < g) : Row w' B v L := by
  refine ⟨h.1.kept hg ?_, h.2⟩
  cases e : v.ownBlock with
  | none => exact .inl rfl
  | some k => right; intro e2; have := hB k e; injection e2 with e2; omega

set_option maxHeartbeats 400000 in
theorem eqIntS_same (v1 v2 : Value) (B1 B2 : Nat) (L : List Int) (w : World) (h1 : Row w B1 v1 L) (h2 : Row w B2 v2 L) :
    Calls Tro.prog 36 #[v1, v2] w fun e w' => e = .returned (.bool true) ∧ Below w.heap.size w w' := by
  by_cases hL : L = []
  · subst hL
    rcases h1.cases with ⟨rfl, _⟩ | ⟨g1, c1, rfl, _⟩ <;> rcases h2.cases with ⟨rfl, _⟩ | ⟨g2, c2, rfl, _⟩
    all_goals
      go_enter Tro.func36, Tro.ntmps36
      go_wp2
      refine wp_loop_rounds 1 ?_
      rw [rounds_succ]
      go_wp2
      go_ret
      exact ⟨rfl, Below.refl _ _⟩
  · have hl : 0 < L.length := List.length_pos_iff.2 hL
    have hl2 := h1.2
    rcases h1.cases with ⟨_, e⟩ | ⟨g1, c1, rfl, _, hg1, hc1, _⟩
    · exact absurd e hL
    rcases h2.cases with ⟨_, e⟩ | ⟨g2, c2, rfl, _, hg2, hc2, _⟩
    · exact absurd e hL
    generalize hn : L.length = n at hl hl2 hc1 hc2
    have HC1 := Lib.hid hc1
    have HC2 := Lib.hid hc2
    clear hn hc1 hc2 h1 h2 hL
    go_enter Tro.func36, Tro.ntmps36
    go_wp2
    go_loopw [5] (fun t5 wr => ∃ k : Nat, k ≤ n ∧ t5 = .int .i64 k ∧ Below w.heap.size w wr) (fun t5 _ => n - (intOf t5).toNat)
    case atStart => exact ⟨0, Nat.zero_le _, rfl, Below.refl _ _⟩
    case round =>
      obtain ⟨k, hk, rfl, hbel⟩ := hrel
      by_cases hlt2 : k < n
      · have d1 := (hbel.cell (p := ⟨g1, k, none⟩) hg1).trans (HC1.out k hlt2)
        have d2 := (hbel.cell (p := ⟨g2, k, none⟩) hg2).trans (HC2.out k hlt2)
        have hi0 : (0 : Int) ≤ (k : Int) := by omega
        have hi1 : (k : Int) < (n : Int) := by omega
        go_wp2
        go_region
        all_goals
          go_wp2
          go_roundw
          case rel => exact ⟨k + 1, by omega, by go_num, hbel.drew⟩
          case measure => simp [intOf]; omega
      · have : k = n := by omega
        subst this
        go_wp2
        go_ret
        exact ⟨rfl, hbel⟩

theorem Row.low {w w' : World} {B B0 : Nat} {v : Value} {L : List Int} (h : Row w B0 v L) (hb : Below B w w') (hlt : ∀ k, v.ownBlock = some k → k < B) : Row w' B0 v L := by
  obtain ⟨⟨h1, h2⟩, h3⟩ := h
  refine ⟨⟨h1, ?_⟩, h3⟩
  rcases h2 with h2 | ⟨g, cap, cur, e, hg, hh, r⟩
  · exact .inl h2
  · subst e
    exact .inr ⟨g, cap, cur, rfl, hg, (hb.block g (hlt g rfl)).trans hh, r⟩
theorem Row.lt {w : World} {B : Nat} {v : Value} {L : List Int} (h : Row w B v L) : ∀ k, v.ownBlock = some k → B ≤ k ∧ k < w.heap.size := h.1.lt

/-- the first i numbers are q, q + 1, and so on -/
def markTo (q : Int) (L : List Int) : Nat → List Int
  | 0 => L
  | i + 1 => (markTo q L i).set i (q + i)
theorem markTo_length (q : Int) (L : List Int) : ∀ i, (markTo q L i).length = L.length
  | 0 => rfl
  | i + 1 => by unfold markTo; rw [List.length_set, markTo_length q L i]
theorem markTo_getD (q : Int) (L : List Int) : ∀ i, i ≤ L.length → ∀ j, j < i → (markTo q L i).getD j 0 = q + j
  | 0, _, j, h => by omega
  | i + 1, hi, j, h => by
    unfold markTo
    have hl := markTo_length q L i
    rw [List.getD_eq_getElem?_getD, List.getElem?_set]
    by_cases e : i = j
    · subst e; rw [if_pos rfl, if_pos (by omega)]; rfl
    · rw [if_neg e, ← List.getD_eq_getElem?_getD]; exact markTo_getD q L i (by omega) j (by omega)

def Marked (q : Int) (M : List Int) : Prop := ∀ j, j < M.length → M.getD j 0 = q + j
theorem marked_all (q : Int) (L : List Int) : Marked q (markTo q L L.length) := fun j hj => markTo_getD q L L.length (Nat.le_refl _) j (by rw [markTo_length] at hj; exact hj)

def Marks (B : Nat) (v : Value) (L : List Int) (q : Int) (w : World) (e : Ending) (w' : World) : Prop :=
  e = .returned (.int .i64 (q + L.length)) ∧ Row w' B v (markTo q L L.length) ∧ Below B w w'

theorem markIntS_any (v : Value) (B : Nat) (L : List Int) (q : Int) (w : World) (h1 : Row w B v L) (hB : B ≤ w.heap.size) (hq0 : 0 ≤ q) (hq1 : q ≤ 1000000) :
    Calls Tro.prog 37 #[v, .int .i64 q] w (Marks B v L q w) := by
  have hl2 := h1.2
  rcases h1.cases with ⟨rfl, rfl⟩ | ⟨g1, c1, rfl, hBg, hg1, hc1, hf1⟩
  · go_enter Tro.func37, Tro.ntmps37
    go_wp2
    refine wp_loop_rounds 1 ?_
    rw [rounds_succ]
    go_wp2
    go_ret
    exact ⟨ret_int (by simp), h1, Below.refl _ _⟩
  · generalize hn : L.length = n at hl2 hc1 h1
    have HN := Lib.hid hn
    have HR : Hid (Row w B (.slice (some ⟨g1, 0, none⟩) n c1) L) := h1
    clear hn hc1 hf1 h1
    go_enter Tro.func37, Tro.ntmps37
    go_wp2
    go_loopw [1, 5] (fun t1 t5 wr => ∃ k : Nat, k ≤ n ∧ t5 = .int .i64 k ∧ t1 = .int .i64 (q + k) ∧ Hid (Row wr B (.slice (some ⟨g1, 0, none⟩) n c1) (markTo q L k)) ∧ Below B w wr) (fun _ t5 _ => n - (intOf t5).toNat)
    case atStart => exact ⟨0, Nat.zero_le _, rfl, by simp, HR, Below.refl _ _⟩
    case round =>
      obtain ⟨k, hk, rfl, rfl, HR2, hbel⟩ := hrel
      have hr : Row wr B (.slice (some ⟨g1, 0, none⟩) (markTo q L k).length c1) (markTo q L k) := by rw [markTo_length, HN.out]; exact HR2.out
      by_cases hlt2 : k < n
      · obtain ⟨d1, f1⟩ : (∃ u, wr.cell? ⟨g1, k, none⟩ = some u) ∧ wr.frozen? ⟨g1, k, none⟩ = false := by
          rcases hr.cases with ⟨e, _⟩ | ⟨g, c, e, _, _, hc, hf⟩
          · cases e
          · simp only [Value.slice.injEq, Option.some.injEq, Addr.mk.injEq, and_true, true_and] at e
            obtain ⟨rfl, rfl⟩ := e
            exact ⟨⟨_, hc k (by rw [markTo_length, HN.out]; exact hlt2)⟩, hf k⟩
        obtain ⟨u, d1⟩ := d1
        have hset := hr.set k (q + k)
        have HS : Hid (Row (wr.setCell ⟨g1, k, none⟩ (.int .i64 (q + k))) B (.slice (some ⟨g1, 0, none⟩) n c1) (markTo q L (k + 1))) := by
          have := hset.1
          rw [markTo_length, HN.out] at this
          exact this
        clear hr hset HR2
        go_wp2
        all_goals
          go_roundw
          case rel => exact ⟨k + 1, by omega, by go_num, by go_num, HS, hbel.setCell hBg _⟩
          case measure => simp [intOf]; omega
      · have : k = n := by omega
        subst this
        clear hr
        go_wp2
        go_ret
        refine ⟨ret_int (by rw [HN.out]), ?_, hbel⟩
        rw [HN.out]; exact HR2.out

theorem heldIntS_any (v : Value) (B : Nat) (M : List Int) (q : Int) (w : World) (h1 : Row w B v M) (hm : Marked q M) (hq0 : 0 ≤ q) (hq1 : q ≤ 1000000) :
    Calls Tro.prog 38 #[v, .int .i64 q] w fun e w' => e = .returned (.int .i64 (q + M.length)) ∧ w = w' := by
  have hl2 := h1.2
  rcases h1.cases with ⟨rfl, rfl⟩ | ⟨g1, c1, rfl, hBg, hg1, hc1, hf1⟩
  · go_enter Tro.func38, Tro.ntmps38
    go_wp2
    refine wp_loop_rounds 1 ?_
    rw [rounds_succ]
    go_wp2
    go_ret
    exact ⟨ret_int (by simp), rfl⟩
  · generalize hn : M.length = n at hl2 hc1
    have HC : Hid (∀ j, j < n → w.cell? ⟨g1, j, none⟩ = some (.int .i64 (q + j))) := fun j hj => by rw [hc1 j hj, hm j (by omega)]
    clear hn hc1 hf1 h1 hm
    go_enter Tro.func38, Tro.ntmps38
    go_wp2
    go_loop [1, 5] (fun t1 t5 => ∃ k : Nat, k ≤ n ∧ t5 = .int .i64 k ∧ t1 = .int .i64 (q + k)) (fun _ t5 => n - (intOf t5).toNat)
    case atStart => exact ⟨0, Nat.zero_le _, rfl, by simp⟩
    case round =>
      obtain ⟨k, hk, rfl, rfl⟩ := hrel
      by_cases hlt2 : k < n
      · have d1 := HC.out k hlt2
        go_wp2
        go_round
        case rel => exact ⟨k + 1, by omega, by go_num, by go_num⟩
        case measure => simp [intOf]; omega
      · have : k = n := by omega
        subst this
        go_wp2
        go_ret
        exact ⟨rfl, rfl⟩
theorem held_marked (v : Value) (B : Nat) (L : List Int) (q : Int) (w : World) (h1 : Row w B v (markTo q L L.length)) (hq0 : 0 ≤ q) (hq1 : q ≤ 1000000) :
    Calls Tro.prog 38 #[v, .int .i64 q] w fun e w' => e = .returned (.int .i64 (q + L.length)) ∧ w = w' :=
  (heldIntS_any v B _ q w h1 (marked_all q L) hq0 hq1).mono fun e w' ⟨h1, h2⟩ => ⟨h1.trans (ret_int (by rw [markTo_length])), h2⟩
end Go.Proofs.YtjgkignnfkbeaaaTro

/-
  Contracts of TonesOf, of the program and of the model.
-/
namespace Go.Proofs.YtjgkignnfkbeaaaTro
open Go.RowKit
set_option linter.unusedVariables false

theorem info_int : (Tro.prog.info? 3).map (fun i => (i.zero, i.size, i.bytes)) = some (some (.int .i64 0), 1, 8) := by kernel_rfl

/-- the tones of s below k, ascending -/
def tonesTo (s : Nat) : Nat → List Int
  | 0 => []
  | k + 1 => if s.testBit k then tonesTo s k ++ [(k : Int)] else tonesTo s k
theorem tonesTo_le (s : Nat) : ∀ k, (tonesTo s k).length ≤ k
  | 0 => Nat.le_refl _
  | k + 1 => by unfold tonesTo; have := tonesTo_le s k; split <;> simp <;> omega
theorem tonesTo_yes {s k : Nat} (h : s.testBit k = true) : tonesTo s (k + 1) = tonesTo s k ++ [(k : Int)] := by conv => lhs; unfold tonesTo; rw [if_pos h]
theorem tonesTo_no {s k : Nat} (h : s.testBit k = false) : tonesTo s (k + 1) = tonesTo s k := by conv => lhs; unfold tonesTo; rw [if_neg (by simp [h])]

/-- a fresh slice of the numbers L; nothing that was there is written -/
def Gives (L : List Int) (w : World) (e : Ending) (w' : World) : Prop := ∃ v, e = .returned v ∧ Row w' w.heap.size v L ∧ Below w.heap.size w w'

theorem Row.alloc {w : World} {B : Nat} {v : Value} {L : List Int} (h : Row w B v L) (o : Obj) : Row (w.alloc o) B v L := ⟨h.1.alloc o, h.2⟩

theorem Row.mono2 {w : World} {B B' : Nat} {v : Value} {L : List Int} (h : Row w B v L) (hB : ∀ b, v.ownBlock = some b → B' ≤ b) : Row w B' v L := by
  obtain ⟨⟨h1, h2⟩, h3⟩ := h
  refine ⟨⟨h1, ?_⟩, h3⟩
  rcases h2 with h2 | ⟨g, cap, cur, e, hg, r⟩
  · exact .inl h2
  · exact .inr ⟨g, cap, cur, e, hB g (by rw [e]; rfl), r⟩

theorem wpList_append_int {ops : Array Oper} {rest : List Oper} {o : Oper} {a : Act} {Q : Exit → Act → World → Prop} {w : World} (hgd : o.guard = none) (s x : Operand)
    (ho : o.op = .call { callee := .builtin .append, args := #[s, x], argTypes := #[25, 25] })
    (B : Nat) (v : Value) (L : List Int) (hs : a.eval s = v) (hrow : Row w B v L) (g c : Nat) (y : Int) (hx : a.eval x = .slice (some ⟨g, 0, none⟩) 1 c)
    (hc : w.cell? ⟨g, 0, none⟩ = some (.int .i64 y)) (hlen : L.length < 4096) (hB : B ≤ w.heap.size)
    (h : ∀ v' w', Row w' B v' (L ++ [y]) → Below B w w' → wpList Tro.prog ops Q rest (a.put o.dst v') w') : wpList Tro.prog ops Q (o :: rest) a w := by
  obtain ⟨i0, hi, hz0, hz1, hz2⟩ := info_parts info_int
  refine wpList_append_own w hgd s x 25 ho B 3 i0 (.int .i64 0) 1 8 Tro.underlying25 hi hz0 hz1 hz2 rfl (by decide) v L.length _ hs hrow.1 ⟨g, 0, none⟩ 1 c [.int .i64 y] hx rfl ?_ ?_ ?_ ?_ hB ?_
  · intro j u hj
    match j, hj with
    | 0, hj => simp at hj; subst hj; simpa [Addr.add] using hc
  · intro u hu; simp at hu; subst hu; rfl
  · unfold maxLen; omega
  · omega
  · intro v' w' hown hg _
    refine h v' w' ⟨?_, by simp; omega⟩ ((Below.refl B w).grown hg hB fun k hk => (hrow.lt k hk).1)
    rw [List.map_append, List.length_append]
    exact hown

/-- .. telling also which block is written: the row's own, or a new one -/
theorem wpList_append_row {ops : Array Oper} {rest : List Oper} {o : Oper} {a : Act} {Q : Exit → Act → World → Prop} {w : World} (hgd : o.guard = none) (s x : Operand)
    (ho : o.op = .call { callee := .builtin .append, args := #[s, x], argTypes := #[25, 25] })
    (B : Nat) (v : Value) (L : List Int) (hs : a.eval s = v) (hrow : Row w B v L) (g c : Nat) (y : Int) (hx : a.eval x = .slice (some ⟨g, 0, none⟩) 1 c)
    (hc : w.cell? ⟨g, 0, none⟩ = some (.int .i64 y)) (hlen : L.length < 4096) (hB : B ≤ w.heap.size)
    (h : ∀ v' w', Row w' B v' (L ++ [y]) → Below B w w' → w.grownBy w' v.ownBlock → (v'.ownBlock = v.ownBlock ∨ v'.ownBlock = some w.heap.size) → wpList Tro.prog ops Q rest (a.put o.dst v') w') : wpList Tro.prog ops Q (o :: rest) a w := by
  obtain ⟨i0, hi, hz0, hz1, hz2⟩ := info_parts info_int
  refine wpList_append_own_at w hgd s x 25 ho B 3 i0 (.int .i64 0) 1 8 Tro.underlying25 hi hz0 hz1 hz2 rfl (by decide) v L.length _ hs hrow.1 ⟨g, 0, none⟩ 1 c [.int .i64 y] hx rfl ?_ ?_ ?_ ?_ hB ?_
  · intro j u hj
    match j, hj with
    | 0, hj => simp at hj; subst hj; simpa [Addr.add] using hc
  · intro u hu; simp at hu; subst hu; rfl
  · unfold maxLen; omega
  · omega
  · intro v' w' hown hg _ hv
    refine h v' w' ⟨?_, by simp; omega⟩ ((Below.refl B w).grown hg hB fun k hk => (hrow.lt k hk).1) hg hv
    rw [List.map_append, List.length_append]
    exact hown

set_option maxHeartbeats 400000 in
theorem stones_any (n s : Int) (w : World) (hv : Tic.Valid n s) :
    Calls Tro.prog 46 #[.int .i64 n, .int .i64 s] w (Gives (tonesTo s.toNat n.toNat) w) := by
  have hlt := hv.lt
  obtain ⟨g1, g2, g3, _⟩ := hv
  obtain ⟨N, rfl⟩ := Int.eq_ofNat_of_zero_le (show 0 ≤ n by omega)
  obtain ⟨S, rfl⟩ := Int.eq_ofNat_of_zero_le g3
  rw [Int.toNat_natCast, Int.toNat_natCast]
  go_enter Tro.func46, Tro.ntmps46
  go_wp2
  go_loopw [5, 6] (fun t5 t6 wr => ∃ k : Nat, k ≤ N ∧ t6 = .int .i64 k ∧ Hid (Row wr w.heap.size t5 (tonesTo S k)) ∧ Below w.heap.size w wr) (fun _ t6 _ => N - (intOf t6).toNat)
  case atStart => exact ⟨0, Nat.zero_le _, rfl, ⟨World.ownsRow_made w #[] 0 (Nat.le_refl _) (by decide) rfl, Nat.zero_le _⟩, (Below.refl _ _).alloc (Nat.le_refl _) _⟩
  case round =>
    obtain ⟨k, hk, rfl, HR, hbel⟩ := hrel
    have hl := tonesTo_le S k
    have hs := hbel.size
    by_cases hlt2 : k < N
    · cases hbit : S.testBit k with
      | false =>
        have HB := Lib.hid hbit
        clear hbit
        go_wp2_with fail
        refine (bit_no _ _ S k _ rfl (by omega) rfl (by omega) HB.out).mono ?_; rintro e w1 ⟨rfl, rfl⟩
        go_wp2
        go_roundw
        case rel => exact ⟨k + 1, by omega, by go_num, by rw [tonesTo_no HB.out]; exact HR, hbel⟩
        case measure => simp [intOf]; omega
      | true =>
        have HB := Lib.hid hbit
        clear hbit
        go_wp2_with fail
        refine (bit_yes _ _ S k _ rfl (by omega) rfl (by omega) HB.out).mono ?_; rintro e w1 ⟨rfl, rfl⟩
        go_wp2_with (at_builtin; refine wpList_append_int rfl _ _ rfl w.heap.size _ (tonesTo S k) rfl (HR.out.alloc _) wr.heap.size 1 k rfl ?c1 ?c2 ?c3 ?_)
        case c1 => go_simp
        case c2 => omega
        case c3 => simp; omega
        intro v' w1 hrow hb1
        have HR1 := Lib.hid hrow
        clear hrow
        go_wp2
        go_roundw
        case rel => exact ⟨k + 1, by omega, by go_num, by rw [tonesTo_yes HB.out]; exact HR1, (hbel.alloc hs _).trans hb1⟩
        case measure => simp [intOf]; omega
    · have : k = N := by omega
      subst this
      go_wp2
      go_ret
      exact ⟨_, rfl, HR, hbel⟩


theorem Row.nil (w : World) (B : Nat) : Row w B (.slice none 0 0) [] := ⟨World.ownsRow_nil _ _ _ _, Nat.zero_le _⟩

set_option maxHeartbeats 400000 in
theorem list_any (n s : Int) (w : World) (hv : Tic.Valid n s) :
    Calls Tro.prog 47 #[.agg #[.int .i64 n, .int .i64 s]] w (Gives (tonesTo s.toNat n.toNat) w) := by
  have hlt := hv.lt
  obtain ⟨g1, g2, g3, _⟩ := hv
  obtain ⟨N, rfl⟩ := Int.eq_ofNat_of_zero_le (show 0 ≤ n by omega)
  obtain ⟨S, rfl⟩ := Int.eq_ofNat_of_zero_le g3
  rw [Int.toNat_natCast, Int.toNat_natCast]
  go_enter Tro.func47, Tro.ntmps47
  go_wp2
  go_loopw [3, 4, 7] (fun t3 t4 t7 wr => ∃ k : Nat, k ≤ N ∧ t7 = .int .i64 k ∧ Hid (Row wr w.heap.size t3 (tonesTo S k)) ∧
    wr.cell? ⟨w.heap.size, 0, none⟩ = some (.int .i64 N) ∧ wr.cell? ⟨w.heap.size, 1, none⟩ = some (.int .i64 S) ∧ w.heap.size < wr.heap.size ∧ Hid (∀ b, t3.ownBlock = some b → w.heap.size < b) ∧ Below w.heap.size w wr) (fun _ _ t7 _ => N - (intOf t7).toNat)
  case atStart =>
    refine ⟨0, Nat.zero_le _, rfl, Row.nil _ _, ?_, ?_, ?_, ?_, (Below.refl _ _).alloc (Nat.le_refl _) _⟩
    · go_simp
    · go_simp
    · simp
    · intro b hb; cases hb
  case round =>
    obtain ⟨k, hk, rfl, HR, a0, a1, hz, HO, hbel⟩ := hrel
    have hl := tonesTo_le S k
    by_cases hlt2 : k < N
    · cases hbit : S.testBit k with
      | false =>
        have HB := Lib.hid hbit
        clear hbit
        go_wp2_with fail
        refine (has_no _ _ S k _ rfl (by omega) (by omega) HB.out).mono ?_; rintro e w1 ⟨rfl, hb1⟩
        have d0 := (hb1.cell (p := ⟨w.heap.size, 0, none⟩) hz).trans a0
        have d1 := (hb1.cell (p := ⟨w.heap.size, 1, none⟩) hz).trans a1
        have HR1 := Lib.hid (HR.out.kept hb1)
        have hz1 := hb1.size
        have hbel1 := hbel.trans (hb1.mono (by omega))
        clear a0 a1 hb1
        go_wp2
        go_roundw
        case rel => exact ⟨k + 1, by omega, by go_num, by rw [tonesTo_no HB.out]; exact HR1, d0, d1, by omega, HO, hbel1⟩
        case measure => simp [intOf]; omega
      | true =>
        have HB := Lib.hid hbit
        clear hbit
        go_wp2_with fail
        refine (has_yes _ _ S k _ rfl (by omega) (by omega) HB.out).mono ?_; rintro e w1 ⟨rfl, hb1⟩
        have d0 := (hb1.cell (p := ⟨w.heap.size, 0, none⟩) hz).trans a0
        have d1 := (hb1.cell (p := ⟨w.heap.size, 1, none⟩) hz).trans a1
        have HR1 := Lib.hid ((HR.out.kept hb1).mono2 (B' := w.heap.size + 1) HO.out)
        have hz1 := hb1.size
        have hbel1 := hbel.trans (hb1.mono (by omega))
        clear a0 a1 hb1
        go_wp2_with (at_builtin; refine wpList_append_int rfl _ _ rfl (w.heap.size + 1) _ (tonesTo S k) rfl (HR1.out.alloc _) w1.heap.size 1 k rfl ?c1 ?c2 ?c3 ?_)
        case c1 => go_simp
        case c2 => omega
        case c3 => simp; omega
        intro v' w2 hrow hb1
        have hs1 := hbel1.size
        have HO2 : Hid (∀ b, v'.ownBlock = some b → w.heap.size < b) := fun b hb => (hrow.lt b hb).1
        have HR2 := Lib.hid (hrow.mono (B' := w.heap.size) (by omega))
        clear hrow
        have hz2 := hb1.size
        simp at hz2
        have hbX : Below (w.heap.size + 1) w1 w2 := ((Below.refl (w.heap.size + 1) w1).alloc (by omega) _).trans hb1
        have x0 := (hbX.cell (p := ⟨w.heap.size, 0, none⟩) (by simp)).trans d0
        have x1 := (hbX.cell (p := ⟨w.heap.size, 1, none⟩) (by simp)).trans d1
        have hbel2 : Below w.heap.size w w2 := hbel1.trans (hbX.mono (by omega))
        clear d0 d1 hb1 hbX
        go_wp2
        go_roundw
        case rel => exact ⟨k + 1, by omega, by go_num, by rw [tonesTo_yes HB.out]; exact HR2, x0, x1, by omega, HO2, hbel2⟩
        case measure => simp [intOf]; omega
    · have : k = N := by omega
      subst this
      go_wp2
      go_ret
      exact ⟨_, rfl, HR, hbel⟩


theorem iTonesOf_yes (n s : Int) (w : World) (hv : Tic.Valid n s) :
    Calls Tro.prog 16 #[.int .i64 n, .int .i64 s] w (Gives (tonesTo s.toNat n.toNat) w) := by
  go_enter Tro.func16, Tro.ntmps16
  go_wp2_with fail
  refine (implValid_yes _ _ _ hv).mono ?_; rintro e w1 ⟨rfl, rfl⟩
  go_wp2_with fail
  refine (list_any _ _ _ hv).mono ?_; rintro e w1 ⟨v, rfl, hr, hb⟩
  go_wp2_with fail
  go_ret
  exact ⟨v, rfl, hr, hb⟩
theorem iTonesOf_no (n s : Int) (w : World) (hv : ¬ Tic.Valid n s) :
    Calls Tro.prog 16 #[.int .i64 n, .int .i64 s] w (Gives [] w) := by
  go_enter Tro.func16, Tro.ntmps16
  go_wp2_with fail
  refine (implValid_no _ _ _ hv).mono ?_; rintro e w1 ⟨rfl, rfl⟩
  go_wp2_with fail
  go_ret
  exact ⟨_, rfl, Row.nil _ _, Below.refl _ _⟩

theorem set_far {w : World} {a b : Addr} {v : Value} (h : a.block ≠ b.block) : (w.setCell a v).cell? b = w.cell? b := World.cell?_setCell_other _ _ _ _ (fun e => h (by rw [e]))
theorem Row.shape {w : World} {B g n cap : Nat} {L : List Int} (h : Row w B (.slice (some ⟨g, 0, none⟩) n cap) L) : L.length = n ∧ B ≤ g ∧ g < w.heap.size ∧ (∀ i, i < n → w.cell? ⟨g, i, none⟩ = some (.int .i64 (L.getD i 0))) ∧ (∀ i, w.frozen? ⟨g, i, none⟩ = false) := by
  rcases h.cases with ⟨e, _⟩ | ⟨g', c', e, hB, hg, hc, hf⟩
  · cases e
  · simp only [Value.slice.injEq, Option.some.injEq, Addr.mk.injEq, and_true] at e
    obtain ⟨rfl, rfl, rfl⟩ := e
    exact ⟨rfl, hB, hg, hc, hf⟩
theorem Row.capge {w : World} {B g n cap : Nat} {L : List Int} (h : Row w B (.slice (some ⟨g, 0, none⟩) n cap) L) : n ≤ cap ∧ cap ≤ maxLen := by
  rcases h.1.2 with ⟨e, _⟩ | ⟨g', c', cur, e, _, _, h1, h2, _⟩
  · cases e
  · simp only [Value.slice.injEq, Option.some.injEq, Addr.mk.injEq, and_true] at e
    obtain ⟨rfl, rfl, rfl⟩ := e
    exact ⟨h1, h2⟩
theorem tonesTo_at (S : Nat) : ∀ N i, i < (tonesTo S N).length → ∃ y, y < N ∧ S.testBit y = true ∧ (tonesTo S N).getD i 0 = (y : Int) ∧ (tonesTo S y).length = i
  | 0, i, h => by simp [tonesTo] at h
  | N + 1, i, h => by
    cases hb : S.testBit N with
    | false =>
      rw [tonesTo_no hb] at h ⊢
      obtain ⟨y, h1, h2⟩ := tonesTo_at S N i h
      exact ⟨y, by omega, h2⟩
    | true =>
      rw [tonesTo_yes hb] at h ⊢
      by_cases hi : i < (tonesTo S N).length
      · obtain ⟨y, h1, h2, h3, h4⟩ := tonesTo_at S N i hi
        refine ⟨y, by omega, h2, ?_, h4⟩
        rw [List.getD_eq_getElem?_getD, List.getElem?_append_left hi, ← List.getD_eq_getElem?_getD]
        exact h3
      · have : i = (tonesTo S N).length := by simp at h; omega
        subst this
        exact ⟨N, by omega, hb, by simp [List.getD_eq_getElem?_getD], rfl⟩
theorem tonesTo_mono (S a : Nat) : ∀ b, a ≤ b → (tonesTo S a).length ≤ (tonesTo S b).length
  | 0, h => by rw [Nat.le_zero.1 h]; exact Nat.le_refl _
  | b + 1, h => by
    by_cases e : a = b + 1
    · rw [e]; exact Nat.le_refl _
    · have := tonesTo_mono S a b (by omega)
      cases hb : S.testBit b with
      | false => rw [tonesTo_no hb]; exact this
      | true => rw [tonesTo_yes hb]; simp; omega
theorem tonesTo_next {S y : Nat} (h : S.testBit y = true) : (tonesTo S (y + 1)).length = (tonesTo S y).length + 1 := by rw [tonesTo_yes h]; simp

end Go.Proofs.YtjgkignnfkbeaaaTro

/-
  Lists of whole numbers that came in, and their copies.
-/
namespace Go.Proofs.YtjgkignnfkbeaaaTro
open Go.RowKit
set_option linter.unusedVariables false

/-- what came in as a list of numbers -/
def Came (w : World) (v : Value) (L : List Int) : Prop := ∃ p m, v = .slice p L.length m ∧ L.length ≤ m ∧ m ≤ maxLen ∧
  (L.length = 0 ∨ ∃ b o, p = some ⟨b, o, none⟩ ∧ b < w.heap.size ∧ ∀ i, i < L.length → w.cell? ⟨b, o + i, none⟩ = some (.int .i64 (L.getD i 0)))
theorem Came.kept {w w' : World} {v : Value} {L : List Int} (h : Came w v L) (hb : Below w.heap.size w w') : Came w' v L := by
  obtain ⟨p, m, e, h1, h2, h3⟩ := h
  refine ⟨p, m, e, h1, h2, ?_⟩
  rcases h3 with h3 | ⟨b, o, e2, h4, h5⟩
  · exact .inl h3
  · exact .inr ⟨b, o, e2, Nat.lt_of_lt_of_le h4 hb.size, fun i hi => (hb.cell (p := ⟨b, o + i, none⟩) h4).trans (h5 i hi)⟩
theorem came_nil (w : World) : Came w (.slice none 0 0) [] := ⟨none, 0, rfl, Nat.le_refl _, Nat.zero_le _, .inl rfl⟩
theorem came_row {w : World} {x : Addr} {len cap : Nat} {z : List Int} (hl : len ≤ cap) (hm : cap ≤ maxLen) (hz : z.length = cap) (hcell : ∀ i, i < z.length → w.cell? (x.add i) = some (.int .i64 (z.getD i 0))) : Came w (.slice (some x) len cap) (z.take len) := by
  have hlen : (z.take len).length = len := by rw [List.length_take]; omega
  refine ⟨some x, cap, by rw [hlen], by omega, hm, ?_⟩
  by_cases h0 : len = 0
  · exact .inl (by omega)
  · obtain ⟨b, off, spot⟩ := x
    have hc := hcell 0 (by omega)
    have hspot : spot = none := by simpa [Addr.add] using World.cell?_spot hc
    subst hspot
    have hb : b < w.heap.size := by simpa [Addr.add] using World.block_lt_of_cell? w _ hc
    refine .inr ⟨b, off, rfl, hb, fun i hi => ?_⟩
    have h1 := (show (⟨b, off + i, none⟩ : Addr) = (⟨b, off, none⟩ : Addr).add i by unfold Addr.add; split <;> simp_all) ▸ hcell i (by omega)
    rw [h1]
    rw [List.getD_eq_getElem?_getD, List.getD_eq_getElem?_getD, List.getElem?_take_of_lt (by omega)]

/-- numbers as a list of n -/
def zeros (n : Nat) : List Int := List.replicate n 0
/-- a list whose first k are those of L, and the others 0 -/
def part (L : List Int) (k : Nat) : List Int := L.take k ++ zeros (L.length - k)
theorem part_length (L : List Int) {k : Nat} (h : k ≤ L.length) : (part L k).length = L.length := by simp [part, zeros]; omega
theorem part_all (L : List Int) : part L L.length = L := by simp [part, zeros]
theorem part_set {L : List Int} {k : Nat} (h : k < L.length) : (part L k).set k (L.getD k 0) = part L (k + 1) := by
  have hk : (L.take k).length = k := by rw [List.length_take]; omega
  unfold part zeros
  rw [List.set_append_right _ _ (by omega), hk, Nat.sub_self]
  rw [show L.length - k = (L.length - (k + 1)) + 1 by omega, List.replicate_succ, List.set_cons_zero]
  rw [List.take_succ_eq_append_getElem h, List.append_assoc]
  simp [List.getD_eq_getElem?_getD, List.getElem?_eq_getElem h]

theorem wpList_make_zeros {ops : Array Oper} {rest : List Oper} {o : Oper} {a : Act} {Q : Exit → Act → World → Prop} {w : World} (hg : o.guard = none) (l c : Operand) (hop : o.op = Op.makeSlice 25 l c)
    (B : Nat) (X Y : Int) (m : Nat) (hl : a.eval l = .int .i64 X) (hc : a.eval c = .int .i64 Y) (hX : X = (m : Int)) (hY : Y = (m : Int)) (hm : m ≤ 1048576) (hB : B ≤ w.heap.size)
    (hK : ∀ w', Row w' B (.slice (some ⟨w.heap.size, 0, none⟩) m m) (zeros m) → Below w.heap.size w w' → wpList Tro.prog ops Q rest (a.put o.dst (.slice (some ⟨w.heap.size, 0, none⟩) m m)) w') :
    wpList Tro.prog ops Q (o :: rest) a w := by
  obtain ⟨i0, hi, hz0, hz1, hz2⟩ := info_parts info_int
  refine wpList_make_full w hg l c 25 hop B 3 i0 (.int .i64 0) 1 Tro.underlying25 hi hz0 hz1 .i64 .i64 X Y m hl hc hX hY (by rw [hz2]; omega) (by unfold maxLen; omega) hB ?_
  intro w' hown hgr
  refine hK w' ⟨?_, by simp [zeros]; exact hm⟩ ((Below.refl _ _).grown hgr (Nat.le_refl _) (fun k hk => by cases hk))
  rw [show (zeros m).length = m by simp [zeros], show (zeros m).map (Value.int .i64) = List.replicate m (Value.int .i64 0) by simp [zeros]]
  have : (madeCells (Value.int .i64 0).cells (m * 1)).toList = List.replicate m (Value.int .i64 0) := by
    rw [Nat.mul_one]; exact toList_madeCells_one _ _
  rw [this] at hown
  exact hown

theorem grownBy_set {w v : World} {g : Nat} (h : w.grownBy v (some g)) (j : Nat) (u : Value) : w.grownBy (v.setCell ⟨g, j, none⟩ u) (some g) :=
  ⟨h.os, h.tape, h.output, by simpa using h.size, fun k hk hne => (Below.heap_setCell v ⟨g, j, none⟩ u k (fun e => hne (by rw [e]))).trans (h.block k hk hne)⟩
theorem Row.besides {w w' : World} {B : Nat} {v : Value} {L : List Int} (h : Row w B v L) {row : Option Nat} (hg : w.grownBy w' row) (hB : ∀ k, v.ownBlock = some k → row ≠ some k) : Row w' B v L := by
  refine ⟨h.1.kept hg ?_, h.2⟩
  cases e : v.ownBlock with
  | none => exact .inl rfl
  | some k => right; intro e2; exact hB k e e2.symm
/-- markIntS writes no other block -/
theorem markIntS_only (v : Value) (B : Nat) (L : List Int) (q : Int) (w : World) (h1 : Row w B v L) (hq0 : 0 ≤ q) (hq1 : q ≤ 1000000) :
    Calls Tro.prog 37 #[v, .int .i64 q] w fun e w' => e = .returned (.int .i64 (q + L.length)) ∧ w.grownBy w' v.ownBlock := by
  have hl2 := h1.2
  rcases h1.cases with ⟨rfl, rfl⟩ | ⟨g1, c1, rfl, hBg, hg1, hc1, hf1⟩
  · go_enter Tro.func37, Tro.ntmps37
    go_wp2
    refine wp_loop_rounds 1 ?_
    rw [rounds_succ]
    go_wp2
    go_ret
    exact ⟨ret_int (by simp), ⟨rfl, rfl, rfl, Nat.le_refl _, fun _ _ _ => rfl⟩⟩
  · generalize hn : L.length = n at hl2 hc1 h1
    have HN := Lib.hid hn
    have HR : Hid (Row w B (.slice (some ⟨g1, 0, none⟩) n c1) L) := h1
    clear hn hc1 hf1 h1
    go_enter Tro.func37, Tro.ntmps37
    go_wp2
    go_loopw [1, 5] (fun t1 t5 wr => ∃ k : Nat, k ≤ n ∧ t5 = .int .i64 k ∧ t1 = .int .i64 (q + k) ∧ Hid (Row wr B (.slice (some ⟨g1, 0, none⟩) n c1) (markTo q L k)) ∧ Hid (w.grownBy wr (some g1))) (fun _ t5 _ => n - (intOf t5).toNat)
    case atStart => exact ⟨0, Nat.zero_le _, rfl, by simp, HR, Lib.hid ⟨rfl, rfl, rfl, Nat.le_refl _, fun _ _ _ => rfl⟩⟩
    case round =>
      obtain ⟨k, hk, rfl, rfl, HR2, hbel⟩ := hrel
      have hr : Row wr B (.slice (some ⟨g1, 0, none⟩) (markTo q L k).length c1) (markTo q L k) := by rw [markTo_length, HN.out]; exact HR2.out
      by_cases hlt2 : k < n
      · obtain ⟨d1, f1⟩ : (∃ u, wr.cell? ⟨g1, k, none⟩ = some u) ∧ wr.frozen? ⟨g1, k, none⟩ = false := by
          rcases hr.cases with ⟨e, _⟩ | ⟨g, c, e, _, _, hc, hf⟩
          · cases e
          · simp only [Value.slice.injEq, Option.some.injEq, Addr.mk.injEq, and_true, true_and] at e
            obtain ⟨rfl, rfl⟩ := e
            exact ⟨⟨_, hc k (by rw [markTo_length, HN.out]; exact hlt2)⟩, hf k⟩
        obtain ⟨u, d1⟩ := d1
        have hset := hr.set k (q + k)
        have HS : Hid (Row (wr.setCell ⟨g1, k, none⟩ (.int .i64 (q + k))) B (.slice (some ⟨g1, 0, none⟩) n c1) (markTo q L (k + 1))) := by
          have := hset.1
          rw [markTo_length, HN.out] at this
          exact this
        have HG := Lib.hid (grownBy_set hbel.out k (.int .i64 (q + k)))
        clear hr hset HR2 hbel
        go_wp2
        all_goals
          go_roundw
          case rel => exact ⟨k + 1, by omega, by go_num, by go_num, HS, HG⟩
          case measure => simp [intOf]; omega
      · have : k = n := by omega
        subst this
        clear hr
        go_wp2
        go_ret
        exact ⟨rfl, hbel.out⟩
end Go.Proofs.YtjgkignnfkbeaaaTro

/-
  Cells written into a row's block, and rows told by their block.
-/
namespace Go.Proofs.YtjgkignnfkbeaaaTro
open Go.RowKit
set_option linter.unusedVariables false

/-- an array in which some values are written from o on -/
def putA (cur : Array Value) : Nat → List Value → Array Value
  | _, [] => cur
  | o, v :: r => putA (cur.setIfInBounds o v) (o + 1) r
theorem putA_size : ∀ (vs : List Value) (cur : Array Value) (o : Nat), (putA cur o vs).size = cur.size
  | [], _, _ => rfl
  | v :: r, cur, o => by unfold putA; rw [putA_size r]; simp
theorem putA_at : ∀ (vs : List Value) (cur : Array Value) (o j : Nat), o + vs.length ≤ cur.size → (putA cur o vs)[j]? = if o ≤ j ∧ j < o + vs.length then vs[j - o]? else cur[j]?
  | [], cur, o, j, _ => by
    rw [if_neg (by simp only [List.length_nil]; omega)]; rfl
  | v :: r, cur, o, j, h => by
    have hl : o + r.length + 1 ≤ cur.size := by simpa [Nat.add_assoc] using h
    unfold putA
    rw [putA_at r _ (o + 1) j (by simp; omega)]
    simp only [List.length_cons]
    by_cases h1 : o + 1 ≤ j ∧ j < o + 1 + r.length
    · rw [if_pos h1, if_pos (by omega), show j - o = (j - (o + 1)) + 1 by omega]
      simp
    · rw [if_neg h1, Array.getElem?_setIfInBounds]
      by_cases h2 : o = j
      · subst h2
        rw [if_pos rfl, if_pos (by omega), if_pos (by omega)]
        simp
      · rw [if_neg h2, if_neg (by omega)]
theorem heap_setCells (b : Nat) (t : TypeId) : ∀ (vs : List Value) (o : Nat) (cur : Array Value) (w : World), w.heap[b]? = some (.cells cur t (0, 0)) → (w.setCells b o vs).heap[b]? = some (.cells (putA cur o vs) t (0, 0))
  | [], _, _, _, h => h
  | v :: r, o, cur, w, h => by
    unfold World.setCells putA
    exact heap_setCells b t r (o + 1) _ _ (heap_setCell_same w b o cur t v h)
theorem below_put {B b : Nat} (hb : B ≤ b) : ∀ (vs : List Value) (o : Nat) {a w : World}, Below B a w → Below B a (w.setCells b o vs)
  | [], _, _, _, h => h
  | v :: r, o, _, _, h => below_put hb r (o + 1) (h.setCell hb _)

theorem one_int (x : Int) : (Value.int .i64 x).oneCell' = true := rfl
theorem ones_list (L : List Int) : ∀ v ∈ L.map (Value.int .i64), v.oneCell' = true := by
  intro v hv
  obtain ⟨x, _, rfl⟩ := List.mem_map.1 hv
  rfl

/-- a row out of its block -/
theorem Row.of {w : World} {B g cap : Nat} {cur : Array Value} {L : List Int} (hB : B ≤ g) (hh : w.heap[g]? = some (.cells cur 3 (0, 0))) (hc : L.length ≤ cap) (hm : cap ≤ maxLen) (hs : cur.size = cap) (hl : L.length ≤ 4096)
    (ht : ∀ j, j < L.length → cur[j]? = (L.map (Value.int .i64))[j]?) : Row w B (.slice (some ⟨g, 0, none⟩) L.length cap) L := by
  refine ⟨⟨by simp, .inr ⟨g, cap, cur, rfl, hB, hh, hc, hm, by omega, ?_⟩⟩, by omega⟩
  apply List.ext_getElem?
  intro j
  rw [List.getElem?_take]
  by_cases hj : j < L.length
  · rw [if_pos (by omega), ← ht j hj]; simp
  · rw [if_neg (by omega), List.getElem?_eq_none (by simp; omega)]
theorem Row.block {w : World} {B g n cap : Nat} {L : List Int} (h : Row w B (.slice (some ⟨g, 0, none⟩) n cap) L) : n = L.length ∧ B ≤ g ∧ g < w.heap.size ∧ n ≤ cap ∧ cap ≤ maxLen ∧
    ∃ cur, w.heap[g]? = some (.cells cur 3 (0, 0)) ∧ cur.size = cap ∧ ∀ j, j < L.length → cur[j]? = (L.map (Value.int .i64))[j]? := by
  rcases h.1.2 with ⟨e, _⟩ | ⟨g', cap', cur, e, hg, hh, h1, h2, h3, h4⟩
  · cases e
  · simp only [Value.slice.injEq, Option.some.injEq, Addr.mk.injEq, and_true] at e
    obtain ⟨rfl, rfl, rfl⟩ := e
    refine ⟨rfl, hg, (Array.getElem?_eq_some_iff.1 hh).1, h1, h2, cur, hh, by omega, fun j hj => ?_⟩
    rw [← h4, List.getElem?_take, if_pos (by omega)]
    simp
end Go.Proofs.YtjgkignnfkbeaaaTro

/-
  Two lists put behind each other: the program's joined, of slices that may begin inside their row.
-/
namespace Go.Proofs.YtjgkignnfkbeaaaTro
open Go.RowKit
set_option linter.unusedVariables false

theorem copy_none {w : World} (ty : TypeId) (d a : Option Addr) (dl dc c : Nat) :
    (Builtin.copy_ #[25, 25] ty #[.slice d dl dc, .slice a 0 c]).run Tro.prog w = .ok (goInt 0) w := by
  obtain ⟨i0, hi, hz0, hz1, hz2⟩ := info_parts info_int
  cases d <;> cases a <;> simp [Builtin.copy_, run_underlying Tro.underlying25, sizeOf, typeInfo, hi, Builtin.lenOf, Builtin.firstCells, storeCells, goInt, loadCells, loadCellsFrom]

theorem copy_came {w : World} {vx : Value} {M : List Int} (h : Came w vx M) (ty : TypeId) (g o dl dc : Nat) (cur : Array Value) (hg : w.heap[g]? = some (.cells cur 3 (0, 0))) (hdl : M.length ≤ dl) (hc : o + M.length ≤ cur.size) :
    (Builtin.copy_ #[25, 25] ty #[.slice (some ⟨g, o, none⟩) dl dc, vx]).run Tro.prog w = .ok (goInt M.length) (w.setCells g o (M.map (Value.int .i64))) := by
  have hsz : (Tro.prog.info? 3).map (·.size) = some 1 := by
    obtain ⟨i0, hi, hz0, hz1, hz2⟩ := info_parts info_int
    rw [hi]; simp [hz1]
  obtain ⟨p, m, rfl, _, _, h3⟩ := h
  rcases h3 with h0 | ⟨b, o', rfl, _, hcx⟩
  · obtain rfl := List.eq_nil_of_length_eq_zero h0
    have := copy_none (w := w) ty (some ⟨g, o, none⟩) p dl dc m
    simpa [World.setCells, goInt] using this
  · have hlen : (M.map (Value.int .i64)).length = M.length := by simp
    have key : (Builtin.copy_ #[25, 25] ty #[.slice (some ⟨g, o, none⟩) dl dc, .slice (some ⟨b, o', none⟩) M.length m]).run Tro.prog w = .ok (goInt (M.map (Value.int .i64)).length) (w.setCells g o (M.map (Value.int .i64))) := by
     refine run_copy_cells w _ _ ty 3 g o dl dc ⟨b, o', none⟩ M.length m (M.map (Value.int .i64)) Tro.underlying25 hsz ?_ ?_ ?_ ?_ (ones_list M)
     · rw [hlen]; simp only [Nat.min_def]; split <;> omega
     · intro j v hj
       have hj2 : j < M.length := by have := (List.getElem?_eq_some_iff.1 hj).1; simpa using this
       rw [show (⟨b, o', none⟩ : Addr).add j = ⟨b, o' + j, none⟩ by unfold Addr.add; split <;> simp_all, hcx j hj2]
       rw [List.getElem?_map, List.getElem?_eq_getElem hj2] at hj
       rw [List.getD_eq_getElem?_getD, List.getElem?_eq_getElem hj2]
       simpa using hj
     · intro j hj
       rw [hlen] at hj
       rw [cell_of_row w g (o + j) cur 3 (0, 0) hg, Array.getElem?_eq_getElem (by omega)]; rfl
     · intro j hj
       exact frozen_of_row w g (o + j) cur 3 hg
    rw [hlen] at key
    exact key
theorem Came.lens {w : World} {v : Value} {L : List Int} (h : Came w v L) : ∃ a c, v = .slice a L.length c := by
  obtain ⟨p, m, e, _⟩ := h
  exact ⟨p, m, e⟩
set_option maxHeartbeats 1000000 in
set_option maxRecDepth 20000 in
theorem joined_came (v1 v2 : Value) (L M : List Int) (w : World) (h1 : Came w v1 L) (h2 : Came w v2 M) (hl : L.length + M.length ≤ 4096) :
    Calls Tro.prog 68 #[v1, v2] w (Gives (L ++ M) w) := by
  obtain ⟨a1, c1, rfl⟩ := h1.lens
  obtain ⟨a2, c2, rfl⟩ := h2.lens
  have H1 := Lib.hid h1
  have H2 := Lib.hid h2
  clear h1 h2
  have hs1 := IntWalk.i64_in ((L.length : Int) + (M.length : Int)) (by omega)
  go_enter Tro.func68, Tro.ntmps68
  go_wp2_with (at_make; refine wpList_make_zeros rfl _ _ rfl w.heap.size _ _ (L.length + M.length) rfl rfl ?c1 ?c2 ?c3 (Nat.le_refl _) ?_)
  case c1 => omega
  case c2 => omega
  case c3 => omega
  intro w1 hrow hb1
  obtain ⟨-, -, hg2, -, -, cur, hh, hcs, hat⟩ := hrow.block
  have hcp1 := fun ty : TypeId => copy_came (H1.out.kept hb1) ty w.heap.size 0 (L.length + M.length) (L.length + M.length) cur hh (by omega) (by omega)
  obtain ⟨W2, hW2⟩ : ∃ W2, W2 = w1.setCells w.heap.size 0 (L.map (Value.int .i64)) := ⟨_, rfl⟩
  have hb2 : Below w.heap.size w W2 := by rw [hW2]; exact below_put (Nat.le_refl _) _ _ hb1
  have hh2 : W2.heap[w.heap.size]? = some (.cells (putA cur 0 (L.map (Value.int .i64))) 3 (0, 0)) := by rw [hW2]; exact heap_setCells _ _ _ _ _ _ hh
  rw [← hW2] at hcp1
  have hcp2 := fun ty : TypeId => copy_came (H2.out.kept hb2) ty w.heap.size L.length M.length M.length _ hh2 (by omega) (by rw [putA_size]; omega)
  have HW2 := Lib.hid hW2
  have HR : Hid (Row (W2.setCells w.heap.size L.length (M.map (Value.int .i64))) w.heap.size (.slice (some ⟨w.heap.size, 0, none⟩) (L.length + M.length) (L.length + M.length)) (L ++ M)) := Lib.hid (by
    have := Row.of (L := L ++ M) (cap := L.length + M.length) (Nat.le_refl _) (heap_setCells _ _ (M.map (Value.int .i64)) L.length _ _ hh2) (by simp) (by unfold maxLen; omega) (by rw [putA_size, putA_size]; exact hcs) (by simp; omega) (fun j hj => by
      rw [List.length_append] at hj
      rw [putA_at _ _ _ _ (by rw [putA_size]; simp; omega), putA_at _ _ _ _ (by simp; omega), List.map_append]
      by_cases hj1 : j < L.length
      · rw [if_neg (by simp; omega), if_pos (by simp; omega), List.getElem?_append_left (by simpa using hj1)]; rfl
      · rw [if_pos (by simp; omega), List.getElem?_append_right (by simp; omega)]; simp)
    rwa [List.length_append] at this)
  have HB : Hid (Below w.heap.size w (W2.setCells w.heap.size L.length (M.map (Value.int .i64)))) := Lib.hid (below_put (Nat.le_refl _) _ _ hb2)
  clear hs1 hrow hW2 hat hcs hh hh2 hb1 hb2
  have hlm : (L.length : Int) ≤ (L.length : Int) + (M.length : Int) := by omega
  by_cases hM : M = []
  · subst hM
    have hcn := fun (ty : TypeId) (d : Option Addr) (dl dc : Nat) (W : World) => copy_none (w := W) ty d a2 dl dc c2
    clear hcp2
    simp only [List.length_nil, Nat.add_zero, List.append_nil] at hcp1 HR ⊢
    have HR2 : Row W2 w.heap.size (.slice (some ⟨w.heap.size, 0, none⟩) L.length L.length) L := HR.out
    have HB2 : Below w.heap.size w W2 := HB.out
    go_wp2
    go_ret
    exact ⟨_, rfl, by rw [List.append_nil]; exact HR2, HB2⟩
  · have hM1 : ¬ M.length = 0 := fun e => hM (List.eq_nil_of_length_eq_zero e)
    clear hM
    go_wp2
    go_ret
    exact ⟨_, rfl, HR.out, HB.out⟩

end Go.Proofs.YtjgkignnfkbeaaaTro

/-
  How far two tones are apart.
-/
namespace Go.Proofs.YtjgkignnfkbeaaaTro
open Go.RowKit
set_option linter.unusedVariables false

/-- how far two tones are apart, the shorter way round -/
def Tic.apt (n x y : Nat) : Nat := min ((y + n - x) % n) (n - (y + n - x) % n)
theorem Tic.apt_lt {n x y : Nat} (h : x < y) (hy : y < n) : Tic.apt n x y = min (y - x) (n - (y - x)) := by
  unfold Tic.apt
  rw [show y + n - x = (y - x) + n by omega, Nat.add_mod_right, Nat.mod_eq_of_lt (by omega)]
theorem apart_any (N x y : Nat) (w : World) (h1 : 1 ≤ N) (h2 : N ≤ 12) (hx : x < N) (hy : y < N) :
    Calls Tro.prog 89 #[.int .i64 N, .int .i64 x, .int .i64 y] w fun e w' => e = .returned (.int .i64 (Tic.apt N x y : Int)) ∧ w = w' := by
  have he : ((y : Int) - (x : Int)) % (N : Int) = (((y + N - x) % N : Nat) : Int) := by
    rw [Int.natCast_emod, show ((y + N - x : Nat) : Int) = ((y : Int) - x) + N by omega, Int.add_emod_right]
  have hlt : (y + N - x) % N < N := Nat.mod_lt _ (by omega)
  have HD : Hid (Tic.apt N x y = min ((y + N - x) % N) (N - (y + N - x) % N)) := rfl
  generalize (y + N - x) % N = u at *
  have HE := Lib.hid he
  clear he
  go_enter Tro.func89, Tro.ntmps89
  go_wp2_with fail
  refine (roundCircle_any _ _ _ (by omega) (by omega) (by omega) (by omega)).mono ?_; rintro e w1 ⟨rfl, rfl⟩
  rw [HE.out]
  go_wp2
  all_goals
    go_ret
    exact ⟨ret_int (by rw [HD.out]; omega), rfl⟩
theorem sapart_any (N x y : Nat) (w : World) (h1 : 1 ≤ N) (h2 : N ≤ 12) (hx : x < N) (hy : y < N) :
    Calls Tro.prog 69 #[.int .i64 N, .int .i64 x, .int .i64 y] w fun e w' => e = .returned (.int .i64 (Tic.apt N x y : Int)) ∧ w = w' := by
  have he : ((y : Int) - (x : Int)) % (N : Int) = (((y + N - x) % N : Nat) : Int) := by
    rw [Int.natCast_emod, show ((y + N - x : Nat) : Int) = ((y : Int) - x) + N by omega, Int.add_emod_right]
  have hlt : (y + N - x) % N < N := Nat.mod_lt _ (by omega)
  have HD : Hid (Tic.apt N x y = min ((y + N - x) % N) (N - (y + N - x) % N)) := rfl
  generalize (y + N - x) % N = u at *
  have HE := Lib.hid he
  clear he
  go_enter Tro.func69, Tro.ntmps69
  go_wp2_with fail
  refine (rest_any _ _ _ (by omega) (by omega) (by omega) (by omega)).mono ?_; rintro e w1 ⟨rfl, rfl⟩
  rw [HE.out]
  go_wp2
  all_goals
    go_ret
    exact ⟨ret_int (by rw [HD.out]; omega), rfl⟩
theorem Tic.apt_le {n x y : Nat} (hn : 1 ≤ n) : 2 * Tic.apt n x y ≤ n := by
  unfold Tic.apt
  have := Nat.mod_lt (y + n - x) (y := n) (by omega)
  omega
end Go.Proofs.YtjgkignnfkbeaaaTro

/-
  Memory that grows from call to call.
-/
namespace Go.Proofs.YtjgkignnfkbeaaaTro
open Go.RowKit
set_option linter.unusedVariables false

theorem grow1 {a b d : World} (h : Below a.heap.size a b) (k : Below b.drew.heap.size b.drew d) : Below a.heap.size a d := h.drew.trans (k.mono h.size)
theorem grow0 {a b d : World} (h : Below a.heap.size a b) (k : Below b.heap.size b d) : Below a.heap.size a d := h.trans (k.mono h.size)
theorem below_dn {w w' : World} {B : Nat} (h : Below B w w') (q : Nat) : Below B w (w'.drewN q) := ⟨h.os, h.tape, h.output, h.size, fun k hk => h.block k hk⟩
end Go.Proofs.YtjgkignnfkbeaaaTro

/-
  Contracts of the program's listFrom, far, nearest.
-/
namespace Go.Proofs.YtjgkignnfkbeaaaTro
open Go.RowKit
set_option linter.unusedVariables false
set_option maxRecDepth 20000

/-- a list, from a place on, and then what is ahead of it -/
def rotL (M : List Int) (j : Nat) : List Int := M.drop j ++ M.take j
theorem rotL_len (M : List Int) {j : Nat} (h : j ≤ M.length) : (rotL M j).length = M.length := by simp [rotL]; omega
theorem rotL_at (M : List Int) {i j : Nat} (hj : j < M.length) (hi : i < M.length) : (rotL M j).getD i 0 = M.getD ((i + j) % M.length) 0 := by
  unfold rotL
  rw [List.getD_eq_getElem?_getD, List.getD_eq_getElem?_getD]
  congr 1
  by_cases h : i < M.length - j
  · rw [List.getElem?_append_left (by simp; omega), List.getElem?_drop, Nat.mod_eq_of_lt (by omega), Nat.add_comm]
  · rw [List.getElem?_append_right (by simp; omega), List.length_drop]
    have e : (i + j) % M.length = i + j - M.length := by rw [Nat.mod_eq_sub_mod (by omega), Nat.mod_eq_of_lt (by omega)]
    rw [e, List.getElem?_take_of_lt (by omega)]
    congr 1; omega
theorem Row.lenz {w : World} {B : Nat} {v : Value} {L : List Int} (h : Row w B v L) : ∃ a c, v = .slice a L.length c := by
  rcases h.cases with ⟨e, e2⟩ | ⟨g, cap, e, _⟩
  · exact ⟨none, 0, by rw [e, e2]; rfl⟩
  · exact ⟨_, _, e⟩
/-- tones of a circle of n -/
def Ton (n : Nat) (L : List Int) : Prop := ∀ i, i < L.length → ∃ x : Nat, x < n ∧ L.getD i 0 = (x : Int)
theorem ton_tones (s n : Nat) : Ton n (tonesTo s n) := fun i hi => by
  obtain ⟨y, h1, _, h2, _⟩ := tonesTo_at s n i hi
  exact ⟨y, h1, h2⟩
theorem ton_rot {n : Nat} {M : List Int} (h : Ton n M) {j : Nat} (hj : j < M.length) : Ton n (rotL M j) := fun i hi => by
  rw [rotL_len M (by omega)] at hi
  rw [rotL_at M hj hi]
  exact h _ (Nat.mod_lt _ (by omega))
/-- how far the first i tones are from some goals -/
def farTo (n : Nat) (L M : List Int) : Nat → Nat
  | 0 => 0
  | i + 1 => farTo n L M i + Tic.apt n (L.getD i 0).toNat (M.getD i 0).toNat
theorem farTo_le {n : Nat} (hn : 1 ≤ n) (L M : List Int) : ∀ i, 2 * farTo n L M i ≤ i * n
  | 0 => by simp [farTo]
  | i + 1 => by
    have h1 := farTo_le hn L M i
    have h2 := Tic.apt_le (n := n) (x := (L.getD i 0).toNat) (y := (M.getD i 0).toNat) hn
    unfold farTo
    rw [Nat.add_mul, Nat.one_mul]; omega
set_option maxHeartbeats 400000 in
theorem listFrom_any (n s : Int) (i : Nat) (w : World) (hv : Tic.Valid n s) (hi : i < (tonesTo s.toNat n.toNat).length) :
    Calls Tro.prog 43 #[.agg #[.int .i64 n, .int .i64 s], .int .i64 (i : Int)] w (Gives (rotL (tonesTo s.toNat n.toNat) i) w) := by
  have hl := tonesTo_le s.toNat n.toNat
  have hn12 : n.toNat ≤ 12 := by have := hv.2.1; omega
  have HL := Lib.hid (fun w => list_any n s w hv)
  generalize tonesTo s.toNat n.toNat = M at *
  have hbx := (Below.refl w.heap.size w).alloc (Nat.le_refl _) (.cells #[.int .i64 n, .int .i64 s] 47)
  have hs1 : (w.alloc (.cells #[.int .i64 n, .int .i64 s] 47)).heap.size = w.heap.size + 1 := by simp
  go_enter Tro.func43, Tro.ntmps43
  go_wp2_with fail
  refine (HL.out _).mono ?_; rintro e w1 ⟨v, rfl, hr, hb⟩
  have HB := Lib.hid (hbx.trans (hb.mono (by omega)))
  have hz := HB.out.size
  rcases hr.cases with ⟨rfl, rfl⟩ | ⟨g, cap, rfl, _, hg, hc, _⟩
  · simp at hi
  have hcap := hr.capge
  generalize hm : M.length = m at *
  have hci : ¬ cap = i := by omega
  have hi1 : (i : Int) ≤ (m : Int) := by omega
  have hi2 : (m : Int) ≤ (cap : Int) := by omega
  have hi3 : (i : Int) ≤ (cap : Int) := by omega
  have hi4 : i ≤ m := by omega
  have hi5 : i ≤ cap := by omega
  have H1 : Hid (∀ W, Below w1.heap.size w1 W → Came W (.slice (some ⟨g, i, none⟩) (m - i) (cap - i)) (M.drop i)) := Lib.hid (fun W hW => by
    refine ⟨some ⟨g, i, none⟩, cap - i, by rw [List.length_drop, hm], by rw [List.length_drop, hm]; omega, by have := hcap.2; omega, .inr ⟨g, i, rfl, by have := hW.size; omega, fun j hj => ?_⟩⟩
    rw [List.length_drop, hm] at hj
    refine (hW.cell (p := ⟨g, i + j, none⟩) hg).trans ((hc (i + j) (by omega)).trans ?_)
    rw [List.getD_eq_getElem?_getD, List.getD_eq_getElem?_getD, List.getElem?_drop])
  have H2 : Hid (∀ W, Below w1.heap.size w1 W → Came W (.slice (some ⟨g, 0, none⟩) i cap) (M.take i)) := Lib.hid (fun W hW => by
    refine ⟨some ⟨g, 0, none⟩, cap, by rw [List.length_take, hm, Nat.min_eq_left hi4], by rw [List.length_take, hm, Nat.min_eq_left hi4]; omega, hcap.2, .inr ⟨g, 0, rfl, by have := hW.size; omega, fun j hj => ?_⟩⟩
    rw [List.length_take, hm] at hj
    rw [Nat.zero_add]
    refine (hW.cell (p := ⟨g, j, none⟩) hg).trans ((hc j (by omega)).trans ?_)
    rw [List.getD_eq_getElem?_getD, List.getD_eq_getElem?_getD, List.getElem?_take_of_lt (by omega)])
  have HJ := Lib.hid (fun W hW => joined_came _ _ _ _ W (H1.out W hW) (H2.out W hW) (by rw [List.length_drop, List.length_take]; omega))
  have hk0 : Below w1.heap.size w1 w1 := Below.refl _ _
  clear hr hb hbx hc H1 H2 HL
  go_wp2_with fail
  go_region_held3 (fun _ => True) (trivial)
    (first | (go_at_call 68; refine (HJ.out _ (by first | exact hk0 | exact hk0.drew)).mono ?_; rintro e w2 ⟨u, rfl, hu, hb2⟩) | fail)
  have HU := Lib.hid (hu.mono (show w.heap.size ≤ _ from hz))
  have HB2 := Lib.hid (HB.out.trans ((hk0.drew.trans hb2).mono hz))
  clear hu hb2 hk0
  go_wp2
  go_ret
  exact ⟨_, rfl, HU.out, HB2.out⟩
set_option maxHeartbeats 800000 in
theorem far_any (n s : Int) (v : Value) (B : Nat) (M : List Int) (w : World) (hv : Tic.Valid n s) (hr : Row w B v M) (hlen : M.length = (tonesTo s.toNat n.toNat).length) (hM : Ton n.toNat M) :
    Calls Tro.prog 84 #[.agg #[.int .i64 n, .int .i64 s], v] w fun e w' => e = .returned (.int .i64 (farTo n.toNat (tonesTo s.toNat n.toNat) M M.length : Int)) ∧ Below w.heap.size w w' := by
  have hl := tonesTo_le s.toNat n.toNat
  have g1 := hv.1
  have g2 := hv.2.1
  have HL := Lib.hid (fun w => list_any n s w hv)
  have hT := ton_tones s.toNat n.toNat
  generalize tonesTo s.toNat n.toNat = L at *
  obtain ⟨N, rfl⟩ := Int.eq_ofNat_of_zero_le (show 0 ≤ n by omega)
  rw [Int.toNat_natCast] at *
  have HF := Lib.hid (farTo_le (n := N) (by omega) L M)
  have HST : Hid (∀ i, farTo N L M (i + 1) = farTo N L M i + Tic.apt N (L.getD i 0).toNat (M.getD i 0).toNat) := Lib.hid (fun i => rfl)
  have HT := Lib.hid hT
  have HTM := Lib.hid hM
  have hbx := (Below.refl w.heap.size w).alloc (Nat.le_refl _) (.cells #[.int .i64 (N : Int), .int .i64 s] 47)
  have hs1 : (w.alloc (.cells #[.int .i64 (N : Int), .int .i64 s] 47)).heap.size = w.heap.size + 1 := by simp
  have hx0 : (w.alloc (.cells #[.int .i64 (N : Int), .int .i64 s] 47)).cell? ⟨w.heap.size, 0, none⟩ = some (.int .i64 (N : Int)) := by rw [World.cell?_alloc_at _ _ _ _ rfl]; rfl
  have hf0 : farTo N L M 0 = 0 := rfl
  obtain ⟨m, hm⟩ : ∃ m, m = M.length := ⟨_, rfl⟩
  rw [← hm] at hlen ⊢
  have HM := Lib.hid hm
  clear hT hM
  go_enter Tro.func84, Tro.ntmps84
  go_wp2_with fail
  refine (HL.out _).mono ?_; rintro e w1 ⟨u, rfl, hu, hb⟩
  have hx := (hb.cell (p := ⟨w.heap.size, 0, none⟩) (by show w.heap.size < _; omega)).trans hx0
  have HB := Lib.hid (hbx.trans (hb.mono (by omega)))
  have hz := HB.out.size
  have hzx : w.heap.size < w1.heap.size := by have := hb.size; omega
  have hr1 := hr.kept (hbx.trans (hb.mono (by omega)))
  have hl2 := hr1.2
  have HR : Hid (0 < m → ∃ g c, v = .slice (some ⟨g, 0, none⟩) m c ∧ g < w1.heap.size ∧ ∀ i, i < m → w1.cell? ⟨g, i, none⟩ = some (.int .i64 (M.getD i 0))) := Lib.hid (fun h0 => by
    rcases hr1.cases with ⟨_, e⟩ | ⟨g, c, e, _, h2, h3, _⟩
    · rw [e] at hm; simp at hm; omega
    · exact ⟨g, c, by rw [e, ← hm], h2, fun i hi => h3 i (by omega)⟩)
  obtain ⟨p, cp, rfl⟩ := hu.lenz
  have HU : Hid (0 < m → ∃ g, p = some ⟨g, 0, none⟩ ∧ g < w1.heap.size ∧ ∀ i, i < m → w1.cell? ⟨g, i, none⟩ = some (.int .i64 (L.getD i 0))) := Lib.hid (fun h0 => by
    rcases hu.cases with ⟨_, e⟩ | ⟨g, c, e, _, h2, h3, _⟩
    · rw [e] at hlen; simp at hlen; omega
    · simp only [Value.slice.injEq, true_and] at e
      exact ⟨g, e.1, h2, fun i hi => h3 i (by omega)⟩)
  rw [← hlen]
  clear hr hr1 hu hb hbx hm hx0
  go_wp2
  go_loopw [5, 11] (fun t5 t11 wr => ∃ i : Nat, i ≤ m ∧ t11 = .int .i64 i ∧ t5 = .int .i64 (farTo N L M i : Int) ∧ Hid (Below w1.heap.size w1 wr)) (fun _ t11 _ => m - (intOf t11).toNat)
  case atStart => exact ⟨0, Nat.zero_le _, rfl, by rw [hf0]; rfl, Below.refl _ _⟩
  case round =>
    obtain ⟨i, hi, rfl, rfl, HBI⟩ := hrel
    by_cases hlt : i < m
    · obtain ⟨g, c, rfl, hg, hc⟩ := HR.out (by omega)
      obtain ⟨gu, rfl, hgu, hcu⟩ := HU.out (by omega)
      obtain ⟨x, hx1, ex⟩ := HT.out i (by omega)
      obtain ⟨y, hy1, ey⟩ := HTM.out i (by rw [← HM.out]; exact hlt)
      have c0 := (HBI.out.cell (p := ⟨g, i, none⟩) hg).trans (hc i hlt)
      have c1 := (HBI.out.cell (p := ⟨gu, i, none⟩) hgu).trans (hcu i hlt)
      have c2 := (HBI.out.cell (p := ⟨w.heap.size, 0, none⟩) hzx).trans hx
      have hst := HST.out i
      have hfl := HF.out i
      rw [ex, ey, Int.toNat_natCast, Int.toNat_natCast] at hst
      rw [ey] at c0
      rw [ex] at c1
      have hap := Tic.apt_le (n := N) (x := x) (y := y) (by omega)
      have HA := Lib.hid (fun w => apart_any N x y w (by omega) (by omega) hx1 hy1)
      have hin : i * N ≤ 1048576 * 12 := Nat.mul_le_mul (by omega) (by omega)
      have hfb : farTo N L M i ≤ 12582912 := by omega
      have HSTE := Lib.hid hst
      clear hc hcu ex ey hst hfl hin
      generalize farTo N L M i = f at *
      generalize Tic.apt N x y = q at *
      have i1 : (i : Int) < (m : Int) := by omega
      have i0 : (0 : Int) ≤ (i : Int) := by omega
      have hq1 := IntWalk.i64_in ((f : Int) + (q : Int)) (by omega)
      go_wp2_with fail
      go_quiet ((go_at_call 89; exact Calls.quiet_of_same (still_of (HA.out _))))
      have HB2 : Hid (Below w1.heap.size w1 (wr.drewN nq)) := Lib.hid (below_dn HBI.out nq)
      go_wp2
      go_roundw
      case rel => exact ⟨i + 1, by omega, by go_num, by rw [HSTE.out]; exact congrArg (Value.int .i64) (by omega), HB2⟩
      case measure => simp [intOf]; omega
    · obtain rfl : i = m := by omega
      go_wp2
      go_ret
      exact ⟨rfl, HB.out.trans (HBI.out.mono hz)⟩
end Go.Proofs.YtjgkignnfkbeaaaTro

/-
  Contracts of ShiftSet, TurnSet and OthersOf, of the program and of the model.
-/
namespace Go.Proofs.YtjgkignnfkbeaaaTro
open Go.RowKit

theorem sshift_any (n s t : Int) (w : World) (hv : Tic.Valid n s) (ht : Tic.Turn t) :
    Calls Tro.prog 59 #[.int .i64 n, .int .i64 s, .int .i64 t] w fun e w' => e = .returned (.int .i64 (Tic.shf n.toNat t s.toNat : Int)) ∧ w = w' := by
  have hlt := hv.lt
  obtain ⟨g1, g2, g3, _⟩ := hv
  obtain ⟨h3, h4⟩ := ht
  obtain ⟨N, rfl⟩ := Int.eq_ofNat_of_zero_le (show 0 ≤ n by omega)
  obtain ⟨S, rfl⟩ := Int.eq_ofNat_of_zero_le g3
  rw [Int.toNat_natCast, Int.toNat_natCast]
  have HF := Lib.hid (Tic.sum_shf (n := N) (by omega) t S)
  go_enter Tro.func59, Tro.ntmps59
  go_wp2
  go_loop [7, 8] (fun t7 t8 => ∃ k : Nat, k ≤ N ∧ t8 = .int .i64 k ∧ t7 = .int .i64 (Tic.sumImg (Tic.mvd N 1 t) S k : Int)) (fun _ t8 => N - (intOf t8).toNat)
  case atStart => exact ⟨0, Nat.zero_le _, rfl, rfl⟩
  case round =>
    obtain ⟨k, hk, rfl, rfl⟩ := hrel
    have hb := Tic.sum_mvd_lt (n := N) (by omega) (by omega) 1 t (.inl rfl) S hk
    by_cases hlt2 : k < N
    · cases hbit : S.testBit k with
      | false =>
        have HB := Lib.hid hbit
        clear hbit
        go_wp2_with fail
        refine (bit_no _ _ S k _ rfl (by omega) rfl (by omega) HB.out).mono ?_; rintro e w1 ⟨rfl, rfl⟩
        go_wp2
        go_round
        case rel => exact ⟨k + 1, by omega, by go_num, by rw [Tic.sumImg_no _ HB.out]⟩
        case measure => simp [intOf]; omega
      | true =>
        have HB := Lib.hid hbit
        clear hbit
        have hm1 := Int.emod_nonneg (k + t) (b := (N : Int)) (by omega)
        have hm2 := Int.emod_lt_of_pos (k + t) (b := (N : Int)) (by omega)
        have hp : 2 ^ ((k + t) % (N : Int)).toNat ≤ 4096 := Tic.pow_le_12 (by omega)
        go_wp2_with fail
        refine (bit_yes _ _ S k _ rfl (by omega) rfl (by omega) HB.out).mono ?_; rintro e w1 ⟨rfl, rfl⟩
        go_wp2_with fail
        refine (rest_any _ _ _ (by omega) (by omega) (by omega) (by omega)).mono ?_; rintro e w1 ⟨rfl, rfl⟩
        go_wp2_with fail
        refine (power_any _ _ (by omega) (by omega)).mono ?_; rintro e w1 ⟨rfl, rfl⟩
        generalize hg : 2 ^ ((k + t) % (N : Int)).toNat = p at hp
        have HG := Lib.hid hg
        clear hg
        go_wp2
        go_round
        case rel =>
          refine ⟨k + 1, by omega, by go_num, ?_⟩
          rw [Tic.sumImg_yes _ HB.out, ← HG.out]
          rw [show Tic.mvd N 1 t k = ((k + t) % (N : Int)).toNat by unfold Tic.mvd; rw [Int.one_mul, Int.add_comm]]
          rfl
        case measure => simp [intOf]; omega
    · have : k = N := by omega
      subst this
      go_wp2
      go_ret
      exact ⟨ret_int (by rw [HF.out]), rfl⟩

theorem sturn_any (n s t : Int) (w : World) (hv : Tic.Valid n s) (ht : Tic.Turn t) :
    Calls Tro.prog 63 #[.int .i64 n, .int .i64 s, .int .i64 t] w fun e w' => e = .returned (.int .i64 (Tic.tur n.toNat t s.toNat : Int)) ∧ w = w' := by
  have hlt := hv.lt
  obtain ⟨g1, g2, g3, _⟩ := hv
  obtain ⟨h3, h4⟩ := ht
  obtain ⟨N, rfl⟩ := Int.eq_ofNat_of_zero_le (show 0 ≤ n by omega)
  obtain ⟨S, rfl⟩ := Int.eq_ofNat_of_zero_le g3
  rw [Int.toNat_natCast, Int.toNat_natCast]
  have HF := Lib.hid (Tic.sum_tur (n := N) (by omega) t S)
  go_enter Tro.func63, Tro.ntmps63
  go_wp2
  go_loop [7, 8] (fun t7 t8 => ∃ k : Nat, k ≤ N ∧ t8 = .int .i64 k ∧ t7 = .int .i64 (Tic.sumImg (Tic.mvd N (-1) t) S k : Int)) (fun _ t8 => N - (intOf t8).toNat)
  case atStart => exact ⟨0, Nat.zero_le _, rfl, rfl⟩
  case round =>
    obtain ⟨k, hk, rfl, rfl⟩ := hrel
    have hb := Tic.sum_mvd_lt (n := N) (by omega) (by omega) (-1) t (.inr rfl) S hk
    by_cases hlt2 : k < N
    · cases hbit : S.testBit k with
      | false =>
        have HB := Lib.hid hbit
        clear hbit
        go_wp2_with fail
        refine (bit_no _ _ S k _ rfl (by omega) rfl (by omega) HB.out).mono ?_; rintro e w1 ⟨rfl, rfl⟩
        go_wp2
        go_round
        case rel => exact ⟨k + 1, by omega, by go_num, by rw [Tic.sumImg_no _ HB.out]⟩
        case measure => simp [intOf]; omega
      | true =>
        have HB := Lib.hid hbit
        clear hbit
        have hm1 := Int.emod_nonneg (t - k) (b := (N : Int)) (by omega)
        have hm2 := Int.emod_lt_of_pos (t - k) (b := (N : Int)) (by omega)
        have hp : 2 ^ ((t - k) % (N : Int)).toNat ≤ 4096 := Tic.pow_le_12 (by omega)
        go_wp2_with fail
        refine (bit_yes _ _ S k _ rfl (by omega) rfl (by omega) HB.out).mono ?_; rintro e w1 ⟨rfl, rfl⟩
        go_wp2_with fail
        refine (rest_any _ _ _ (by omega) (by omega) (by omega) (by omega)).mono ?_; rintro e w1 ⟨rfl, rfl⟩
        go_wp2_with fail
        refine (power_any _ _ (by omega) (by omega)).mono ?_; rintro e w1 ⟨rfl, rfl⟩
        generalize hg : 2 ^ ((t - k) % (N : Int)).toNat = p at hp
        have HG := Lib.hid hg
        clear hg
        go_wp2
        go_round
        case rel =>
          refine ⟨k + 1, by omega, by go_num, ?_⟩
          rw [Tic.sumImg_yes _ HB.out, ← HG.out]
          rw [show Tic.mvd N (-1) t k = ((t - k) % (N : Int)).toNat by unfold Tic.mvd; rw [Int.neg_one_mul, Int.sub_eq_add_neg]]
          rfl
        case measure => simp [intOf]; omega
    · have : k = N := by omega
      subst this
      go_wp2
      go_ret
      exact ⟨ret_int (by rw [HF.out]), rfl⟩

theorem iShiftSet_yes (n s t : Int) (w : World) (hv : Tic.Valid n s) (ht : Tic.Turn t) :
    Calls Tro.prog 34 #[.int .i64 n, .int .i64 s, .int .i64 t] w fun e w' => e = .returned (.int .i64 (Tic.shf n.toNat t s.toNat : Int)) ∧ Below w.heap.size w w' := by
  have hfd := tones_of
  go_enter Tro.func34, Tro.ntmps34
  go_wp2_with fail
  refine (implValid_yes _ _ _ hv).mono ?_; rintro e w1 ⟨rfl, rfl⟩
  go_wp2_with fail
  refine (shiftOk_yes _ _ ht).mono ?_; rintro e w1 ⟨rfl, rfl⟩
  go_wp2_with fail
  refine (mshift_any _ _ _ _ hv ht).mono ?_; rintro e w1 ⟨rfl, hb⟩
  go_wp2_with fail
  go_ret
  exact ⟨rfl, hb⟩
theorem iShiftSet_no (n s t : Int) (w : World) (h : ¬ (Tic.Valid n s ∧ Tic.Turn t)) :
    Calls Tro.prog 34 #[.int .i64 n, .int .i64 s, .int .i64 t] w fun e w' => e = .returned (.int .i64 (-1)) ∧ w = w' := by
  by_cases hv : Tic.Valid n s
  · have ht : ¬ Tic.Turn t := fun ht => h ⟨hv, ht⟩
    clear h
    go_enter Tro.func34, Tro.ntmps34
    go_wp2_with fail
    refine (implValid_yes _ _ _ hv).mono ?_; rintro e w1 ⟨rfl, rfl⟩
    go_wp2_with fail
    refine (shiftOk_no _ _ ht).mono ?_; rintro e w1 ⟨rfl, rfl⟩
    go_wp2_with fail
    go_ret
    exact ⟨rfl, rfl⟩
  · clear h
    go_enter Tro.func34, Tro.ntmps34
    go_wp2_with fail
    refine (implValid_no _ _ _ hv).mono ?_; rintro e w1 ⟨rfl, rfl⟩
    go_wp2_with fail
    go_ret
    exact ⟨rfl, rfl⟩

end Go.Proofs.YtjgkignnfkbeaaaTro

/-
  The library's count of bits in six steps, for numbers below 4096. No program in sight.
-/
namespace Go.Proofs.YtjgkignnfkbeaaaTro
open Go.RowKit

/-! The six steps of the count -/
def o1 (x : Int) : Int := IntKind.u64.wrap (bits .and .u64 (x / 2) 6148914691236517205 + bits .and .u64 x 6148914691236517205)
def o2 (x : Int) : Int := IntKind.u64.wrap (bits .and .u64 (x / 4) 3689348814741910323 + bits .and .u64 x 3689348814741910323)
def o3 (x : Int) : Int := bits .and .u64 (IntKind.u64.wrap (x / 16 + x)) 1085102592571150095
def o4 (x : Int) : Int := IntKind.u64.wrap (x + x / 256)
def o5 (x : Int) : Int := IntKind.u64.wrap (x + x / 65536)
def o6 (x : Int) : Int := IntKind.u64.wrap (x + x / 4294967296)
def oAll (x : Int) : Int := bits .and .i64 (wrap64 (o6 (o5 (o4 (o3 (o2 (o1 x))))))) 127
theorem ones_dec : ∀ a : Fin 64, ∀ b : Fin 64, oAll ((64 * a.val + b.val : Nat) : Int) = (Tic.wt 12 (64 * a.val + b.val) : Int) := by decide +kernel
theorem ones_all {X : Nat} (h : X < 4096) : oAll (X : Int) = (Tic.wt 12 X : Int) := by
  have := ones_dec ⟨X / 64, by omega⟩ ⟨X % 64, by omega⟩
  rw [show 64 * (X / 64) + X % 64 = X by omega] at this
  exact this

theorem ones_long {X : Nat} (h : X < 4096) : bits .and .i64 (wrap64 (o6 (o5 (o4 (o3 (o2 (o1 (X : Int)))))))) 127 = (Tic.wt 12 X : Int) := ones_all h

end Go.Proofs.YtjgkignnfkbeaaaTro

/-
  Contracts of the library's count of bits, for numbers below 4096, and of the methods others, common and count.
-/
namespace Go.Proofs.YtjgkignnfkbeaaaTro
open Go.RowKit
set_option linter.unusedVariables false

set_option maxRecDepth 20000 in
theorem ones64_any (x : Int) (X : Nat) (w : World) (hx : x = X) (hX : X < 4096) :
    Calls Tro.prog 88 #[.int .u64 x] w fun e w' => e = .returned (.int .i64 (Tic.wt 12 X : Int)) ∧ w = w' := by
  subst hx
  have HO := Lib.hid (ones_long hX)
  go_enter Tro.func88, Tro.ntmps88
  go_wp2
  go_ret
  refine ⟨ret_int ?_, rfl⟩
  have h := HO.out
  unfold o6 o5 o4 o3 o2 o1 at h
  exact h
theorem ones_any (x : Int) (X : Nat) (w : World) (hx : x = X) (hX : X < 4096) :
    Calls Tro.prog 82 #[.int .u64 x] w fun e w' => e = .returned (.int .i64 (Tic.wt 12 X : Int)) ∧ w = w' := by
  subst hx
  go_enter Tro.func82, Tro.ntmps82
  go_wp2_with fail
  refine (ones64_any _ X _ rfl hX).mono ?_; rintro e w1 ⟨rfl, rfl⟩
  go_wp2_with fail
  go_ret
  exact ⟨rfl, rfl⟩

theorem others_num {n s : Int} (hv : Tic.Valid n s) : wrap64 (wrap64 (wrap64 ((2 : Int) ^ n.toNat) - 1) - s) = ((2 ^ n.toNat : Nat) : Int) - 1 - s := by
  obtain ⟨g1, g2, g3, g4⟩ := hv
  have hp := Tic.pow_le_12 g2
  have hp1 : 1 ≤ 2 ^ n.toNat := Nat.one_le_two_pow
  rw [wrap_pow (by omega)]
  generalize 2 ^ n.toNat = p at g4 hp hp1
  rw [IntWalk.wrap64_in ((p : Int) - 1) (by omega)]
  exact IntWalk.wrap64_in _ (by omega)


theorem u64_small {P : Nat} (h : P < 4096) : IntKind.u64.wrap (P : Int) = P := by rw [IntKind.wrap_u64]; omega
theorem count_any (n s : Int) (S : Nat) (w : World) (h1 : s = S) (h3 : S < 4096) :
    Calls Tro.prog 66 #[.agg #[.int .i64 n, .int .i64 s]] w fun e w' => e = .returned (.int .i64 (Tic.wt 12 S : Int)) ∧ Below w.heap.size w w' := by
  subst h1
  go_enter Tro.func66, Tro.ntmps66
  go_wp2_with fail
  refine (ones_any _ S _ rfl h3).mono ?_; rintro e w1 ⟨rfl, rfl⟩
  go_wp2_with fail
  go_ret
  exact ⟨rfl, (Below.refl _ _).alloc (Nat.le_refl _) _⟩


end Go.Proofs.YtjgkignnfkbeaaaTro

/-
  The contract of the program's validVoices.
-/
namespace Go.Proofs.YtjgkignnfkbeaaaTro
open Go.RowKit
set_option linter.unusedVariables false
set_option maxRecDepth 20000

theorem tones_half (s : Nat) : ∀ k, (tonesTo s (k + 1)).length = s % 2 + (tonesTo (s / 2) k).length
  | 0 => by
    cases h : s.testBit 0 with
    | true =>
      rw [tonesTo_yes h]
      have := Nat.testBit_zero s ▸ h
      simp [tonesTo] at this ⊢; omega
    | false =>
      rw [tonesTo_no h]
      have := Nat.testBit_zero s ▸ h
      simp [tonesTo] at this ⊢; omega
  | k + 1 => by
    have ih := tones_half s k
    have e : s.testBit (k + 1) = (s / 2).testBit k := Nat.testBit_succ ..
    cases h : s.testBit (k + 1) with
    | true => rw [tonesTo_yes h, tonesTo_yes (e.symm.trans h)]; simp; omega
    | false => rw [tonesTo_no h, tonesTo_no (e.symm.trans h)]; exact ih
theorem wt_tones : ∀ f s, Tic.wt f s = (tonesTo s f).length
  | 0, s => rfl
  | f + 1, s => by rw [tones_half, ← wt_tones f (s / 2)]; rfl
theorem tones_past {s n : Nat} (hs : s < 2 ^ n) : ∀ d, tonesTo s (n + d) = tonesTo s n
  | 0 => rfl
  | d + 1 => by
    have h : s.testBit (n + d) = false := Nat.testBit_lt_two_pow (Nat.lt_of_lt_of_le hs (Nat.pow_le_pow_right (by decide) (by omega)))
    rw [← Nat.add_assoc, tonesTo_no h]
    exact tones_past hs d
theorem wt_len {n B : Int} (hB : Tic.Valid n B) : Tic.wt 12 B.toNat = (tonesTo B.toNat n.toNat).length := by
  obtain ⟨h1, h2, h3, h4⟩ := hB
  rw [wt_tones, ← tones_past (s := B.toNat) (n := n.toNat) (by omega) (12 - n.toNat), show n.toNat + (12 - n.toNat) = 12 by omega]
/-- voices may go from A to B -/
def Voices (n A B : Int) : Prop := Tic.Valid n A ∧ Tic.Valid n B ∧ A ≠ 0 ∧ Tic.wt 12 A.toNat = Tic.wt 12 B.toNat
instance (n A B : Int) : Decidable (Voices n A B) := by unfold Voices Tic.Valid; exact inferInstance
def vv (n A B : Int) : Bool := decide (Voices n A B)
theorem vv_yes {n A B : Int} (h : Voices n A B) : vv n A B = true := decide_eq_true h
theorem vv_no {n A B : Int} (h : ¬ Voices n A B) : vv n A B = false := decide_eq_false h
theorem of_vv {n A B : Int} (h : vv n A B = true) : Voices n A B := of_decide_eq_true h
set_option maxHeartbeats 400000 in
theorem validVoices_any (n A B : Int) (w : World) : Calls Tro.prog 41 #[.int .i64 n, .int .i64 A, .int .i64 B] w fun e w' => e = .returned (.bool (vv n A B)) ∧ Below w.heap.size w w' := by
  rcases Classical.em (Tic.Valid n A) with hA | hA
  · rcases Classical.em (Tic.Valid n B) with hB | hB
    · by_cases h0 : A = 0
      · rw [vv_no (fun h => h.2.2.1 h0)]
        subst h0
        go_enter Tro.func41, Tro.ntmps41
        go_wp2_with fail
        refine (implValid_yes _ _ _ hA).mono ?_; rintro e w1 ⟨rfl, rfl⟩
        go_wp2_with fail
        refine (implValid_yes _ _ _ hB).mono ?_; rintro e w1 ⟨rfl, rfl⟩
        go_wp2_with fail
        go_ret
        exact ⟨rfl, Below.refl _ _⟩
      · have hAl := hA.lt
        have hBl := hB.lt
        have a0 := hA.2.2.1
        have b0 := hB.2.2.1
        have hne : (A == 0) = false := beq_eq_false_iff_ne.2 h0
        have HV : Hid (vv n A B = (((Tic.wt 12 A.toNat : Nat) : Int) == ((Tic.wt 12 B.toNat : Nat) : Int))) := Lib.hid (by
          by_cases hw : Tic.wt 12 A.toNat = Tic.wt 12 B.toNat
          · rw [vv_yes ⟨hA, hB, h0, hw⟩, hw]; simp
          · rw [vv_no (fun h => hw h.2.2.2)]; symm; exact beq_eq_false_iff_ne.2 (fun e => hw (by omega)))
        go_enter Tro.func41, Tro.ntmps41
        go_wp2_with fail
        refine (implValid_yes _ _ _ hA).mono ?_; rintro e w1 ⟨rfl, rfl⟩
        go_wp2_with fail
        refine (implValid_yes _ _ _ hB).mono ?_; rintro e w1 ⟨rfl, rfl⟩
        go_wp2_with fail
        refine (count_any n A A.toNat _ (by omega) (by omega)).mono ?_; rintro e w1 ⟨rfl, hb1⟩
        go_wp2_with fail
        refine (count_any n B B.toNat _ (by omega) (by omega)).mono ?_; rintro e w2 ⟨rfl, hb2⟩
        have HB := Lib.hid (hb1.trans (hb2.mono hb1.size))
        clear hb1 hb2
        generalize Tic.wt 12 A.toNat = p at *
        generalize Tic.wt 12 B.toNat = q at *
        go_wp2_with fail
        go_ret
        exact ⟨ret_bool HV.out.symm, HB.out⟩
    · rw [vv_no (fun h => hB h.2.1)]
      go_enter Tro.func41, Tro.ntmps41
      go_wp2_with fail
      refine (implValid_yes _ _ _ hA).mono ?_; rintro e w1 ⟨rfl, rfl⟩
      go_wp2_with fail
      refine (implValid_no _ _ _ hB).mono ?_; rintro e w1 ⟨rfl, rfl⟩
      go_wp2_with fail
      go_ret
      exact ⟨rfl, Below.refl _ _⟩
  · rw [vv_no (fun h => hA h.1)]
    go_enter Tro.func41, Tro.ntmps41
    go_wp2_with fail
    refine (implValid_no _ _ _ hA).mono ?_; rintro e w1 ⟨rfl, rfl⟩
    go_wp2_with fail
    go_ret
    exact ⟨rfl, Below.refl _ _⟩
end Go.Proofs.YtjgkignnfkbeaaaTro

/-
  The contract of the model's pairing.
-/
namespace Go.Proofs.YtjgkignnfkbeaaaTro
open Go.RowKit
set_option linter.unusedVariables false
set_option maxRecDepth 20000

/-- the least sum of the first j turns, and the first turn that has it -/
def prF (n : Nat) (L M : List Int) : Nat → Nat × Nat
  | 0 => (n * n, 0)
  | j + 1 => if farTo n L (rotL M j) L.length < (prF n L M j).1 then (farTo n L (rotL M j) L.length, j) else prF n L M j
theorem prF_yes {n : Nat} {L M : List Int} {j : Nat} (h : farTo n L (rotL M j) L.length < (prF n L M j).1) : prF n L M (j + 1) = (farTo n L (rotL M j) L.length, j) := by show (if _ then _ else _) = _; rw [if_pos h]
theorem prF_no {n : Nat} {L M : List Int} {j : Nat} (h : ¬ farTo n L (rotL M j) L.length < (prF n L M j).1) : prF n L M (j + 1) = prF n L M j := by show (if _ then _ else _) = _; rw [if_neg h]
theorem prF_bd (n : Nat) (L M : List Int) : ∀ j, (prF n L M j).1 ≤ n * n ∧ (prF n L M j).2 ≤ j
  | 0 => ⟨Nat.le_refl _, Nat.le_refl _⟩
  | j + 1 => by
    obtain ⟨h1, h2⟩ := prF_bd n L M j
    by_cases h : farTo n L (rotL M j) L.length < (prF n L M j).1
    · rw [prF_yes h]; exact ⟨by omega, by simp⟩
    · rw [prF_no h]; exact ⟨h1, by omega⟩
set_option maxHeartbeats 1000000 in
theorem pairing_any (n A B : Int) (w : World) (hA : Tic.Valid n A) (hB : Tic.Valid n B) (hl : (tonesTo A.toNat n.toNat).length = (tonesTo B.toNat n.toNat).length) :
    Calls Tro.prog 45 #[.int .i64 n, .int .i64 A, .int .i64 B] w fun e w' => e = .returned (.tuple #[.int .i64 ((prF n.toNat (tonesTo A.toNat n.toNat) (tonesTo B.toNat n.toNat) (tonesTo A.toNat n.toNat).length).1 : Int), .int .i64 ((prF n.toNat (tonesTo A.toNat n.toNat) (tonesTo B.toNat n.toNat) (tonesTo A.toNat n.toNat).length).2 : Int)]) ∧ Below w.heap.size w w' := by
  have hle := tonesTo_le A.toNat n.toNat
  have g1 := hA.1
  have g2 := hA.2.1
  have HSA := Lib.hid (fun w => stones_any n A w hA)
  have HSB := Lib.hid (fun w => stones_any n B w hB)
  have hTA := ton_tones A.toNat n.toNat
  have hTB := ton_tones B.toNat n.toNat
  generalize tonesTo A.toNat n.toNat = L at *
  generalize tonesTo B.toNat n.toNat = M at *
  obtain ⟨N, rfl⟩ := Int.eq_ofNat_of_zero_le (show 0 ≤ n by omega)
  rw [Int.toNat_natCast] at *
  obtain ⟨m, hm⟩ : ∃ m, m = L.length := ⟨_, rfl⟩
  rw [← hm] at hl hle ⊢
  have HM := Lib.hid hm
  have HL := Lib.hid hl
  have HTA := Lib.hid hTA
  have HTB := Lib.hid hTB
  have HBD := Lib.hid (prF_bd N L M)
  have HY : Hid (∀ j, farTo N L (rotL M j) m < (prF N L M j).1 → prF N L M (j + 1) = (farTo N L (rotL M j) m, j)) := Lib.hid (fun j h => by rw [hm] at h ⊢; exact prF_yes h)
  have HN : Hid (∀ j, ¬ farTo N L (rotL M j) m < (prF N L M j).1 → prF N L M (j + 1) = prF N L M j) := Lib.hid (fun j h => by rw [hm] at h; exact prF_no h)
  have hp0 : prF N L M 0 = (N * N, 0) := rfl
  have hnn : N * N ≤ 12 * 12 := Nat.mul_le_mul (by omega) (by omega)
  have enn : (N : Int) * (N : Int) = ((N * N : Nat) : Int) := (Int.natCast_mul _ _).symm
  have HFL := Lib.hid (fun j => farTo_le (n := N) (by omega) L (rotL M j))
  obtain ⟨NN, hNN⟩ : ∃ NN, NN = N * N := ⟨_, rfl⟩
  rw [← hNN] at hp0 hnn enn HBD
  have ENN := Lib.hid enn
  have knn := IntWalk.i64_in (NN : Int) (by omega)
  have KNN := Lib.hid knn
  clear hTA hTB hA hB hl hm enn knn hNN
  go_enter Tro.func45, Tro.ntmps45
  go_wp2_with fail
  refine (HSA.out _).mono ?_; rintro e w1 ⟨va, rfl, ha, hb1⟩
  go_wp2_with fail
  refine (HSB.out _).mono ?_; rintro e w2 ⟨vb, rfl, hbr, hb2⟩
  have hz1 := hb1.size
  have hz2 := hb2.size
  have HB := Lib.hid (hb1.trans (hb2.mono hz1))
  have ha2 := ha.kept hb2
  obtain ⟨pa, ca, rfl⟩ := ha2.lenz
  obtain ⟨pb, cb, rfl⟩ := hbr.lenz
  have HA : Hid (0 < m → ∃ g, pa = some ⟨g, 0, none⟩ ∧ g < w2.heap.size ∧ ∀ i, i < m → w2.cell? ⟨g, i, none⟩ = some (.int .i64 (L.getD i 0))) := Lib.hid (fun h0 => by
    rcases ha2.cases with ⟨_, e⟩ | ⟨g, c, e, _, h2, h3, _⟩
    · have := HM.out; rw [e] at this; simp at this; omega
    · simp only [Value.slice.injEq, true_and] at e
      exact ⟨g, e.1, h2, fun i hi => h3 i (by have := HM.out; omega)⟩)
  have HBR : Hid (0 < m → ∃ g, pb = some ⟨g, 0, none⟩ ∧ g < w2.heap.size ∧ ∀ i, i < m → w2.cell? ⟨g, i, none⟩ = some (.int .i64 (M.getD i 0))) := Lib.hid (fun h0 => by
    rcases hbr.cases with ⟨_, e⟩ | ⟨g, c, e, _, h2, h3, _⟩
    · have := HL.out; rw [e] at this; simp at this; omega
    · simp only [Value.slice.injEq, true_and] at e
      exact ⟨g, e.1, h2, fun i hi => h3 i (by have := HL.out; omega)⟩)
  rw [← HM.out, ← HL.out]
  clear ha hbr ha2 hb1 hb2 HSA HSB
  have enn := ENN.out
  have knn := KNN.out
  go_wp2
  clear enn knn
  go_loopw [10, 11, 12] (fun t10 t11 t12 wr => ∃ j : Nat, j ≤ m ∧ t12 = .int .i64 j ∧ t10 = .int .i64 ((prF N L M j).1 : Int) ∧ t11 = .int .i64 ((prF N L M j).2 : Int) ∧ Hid (Below w2.heap.size w2 wr)) (fun _ _ t12 _ => m - (intOf t12).toNat)
  case atStart => exact ⟨0, Nat.zero_le _, rfl, by rw [hp0], by rw [hp0]; rfl, Below.refl _ _⟩
  case round =>
    obtain ⟨j, hj, rfl, rfl, rfl, HBJ⟩ := hrel
    by_cases hlt : j < m
    · obtain ⟨bd1, bd2⟩ := HBD.out j
      have hy := HY.out j
      have hn := HN.out j
      have HFJ := Lib.hid (HFL.out j)
      have HST : Hid (∀ i, farTo N L (rotL M j) (i + 1) = farTo N L (rotL M j) i + Tic.apt N (L.getD i 0).toNat ((rotL M j).getD i 0).toNat) := Lib.hid (fun i => rfl)
      have hf0 : farTo N L (rotL M j) 0 = 0 := rfl
      have HAT : Hid (∀ i, i < m → (rotL M j).getD i 0 = M.getD ((i + j) % m) 0) := Lib.hid (fun i hi => by rw [HL.out] at hlt hi ⊢; exact rotL_at M hlt hi)
      generalize farTo N L (rotL M j) = fj at *
      generalize hpj : prF N L M j = st at *
      have HPJ := Lib.hid hpj
      have HYJ := Lib.hid hy
      have HNJ := Lib.hid hn
      obtain ⟨best, at'⟩ := st
      simp only at bd1 bd2 hy hn HYJ HNJ ⊢
      clear hpj hy hn
      go_wp2_with fail
      go_loopw [13, 14] (fun t13 t14 wr => ∃ i : Nat, i ≤ m ∧ t14 = .int .i64 i ∧ t13 = .int .i64 (fj i : Int) ∧ Hid (Below w2.heap.size w2 wr)) (fun _ t14 _ => m - (intOf t14).toNat)
      case atStart => exact ⟨0, Nat.zero_le _, rfl, by rw [hf0]; rfl, HBJ⟩
      case round =>
        obtain ⟨i, hi, rfl, rfl, HBI⟩ := hrel
        by_cases hlti : i < m
        · obtain ⟨ga, rfl, hga, hca⟩ := HA.out (by omega)
          obtain ⟨gb, rfl, hgb, hcb⟩ := HBR.out (by omega)
          obtain ⟨x, hx1, ex⟩ := HTA.out i (by rw [← HM.out]; exact hlti)
          have hr : (i + j) % m < m := Nat.mod_lt _ (by omega)
          obtain ⟨y, hy1, ey⟩ := HTB.out ((i + j) % m) (by rw [← HL.out]; exact hr)
          have c0 := (HBI.out.cell (p := ⟨ga, i, none⟩) hga).trans (hca i hlti)
          have c1 := (HBI.out.cell (p := ⟨gb, (i + j) % m, none⟩) hgb).trans (hcb _ hr)
          have hst := HST.out i
          have hfl := HFJ.out i
          rw [HAT.out i hlti, ex, ey, Int.toNat_natCast, Int.toNat_natCast] at hst
          rw [ex] at c0
          rw [ey] at c1
          have htm : ((i : Int) + (j : Int)).tmod (m : Int) = (((i + j) % m : Nat) : Int) := by
            rw [Int.tmod_eq_emod_of_nonneg (by omega), ← Int.natCast_add, ← Int.natCast_emod]
          have hap := Tic.apt_le (n := N) (x := x) (y := y) (by omega)
          have HAP := Lib.hid (fun w => sapart_any N x y w (by omega) (by omega) hx1 hy1)
          have hin : i * N ≤ 12 * 12 := Nat.mul_le_mul (by omega) (by omega)
          have hfb : fj i ≤ 144 := by omega
          have HSTE := Lib.hid hst
          clear hca hcb ex ey hst hfl hin
          generalize fj i = f at *
          generalize Tic.apt N x y = q at *
          generalize (i + j) % m = r at *
          have i0 : (0 : Int) ≤ (i : Int) := by omega
          have i1 : (i : Int) < (m : Int) := by omega
          have r0 : (0 : Int) ≤ (r : Int) := by omega
          have r1 : (r : Int) < (m : Int) := by omega
          have k1 := IntWalk.i64_in ((f : Int) + (q : Int)) (by omega)
          have k2 := IntWalk.i64_in ((i : Int) + (j : Int)) (by omega)
          have k3 := IntWalk.i64_in (r : Int) (by omega)
          have hm0 : ((m : Int) == 0) = false := beq_eq_false_iff_ne.2 (by omega)
          have hm1 : ¬ (m : Int) = 0 := by omega
          have hm2 : ¬ m = 0 := by omega
          go_wp2_with fail
          go_quiet ((go_at_call 69; exact Calls.quiet_of_same (still_of (HAP.out _))))
          have HB2 : Hid (Below w2.heap.size w2 (wr.drewN nq)) := Lib.hid (below_dn HBI.out nq)
          go_wp2
          go_roundw
          case rel => exact ⟨i + 1, by omega, by go_num, by rw [HSTE.out]; exact congrArg (Value.int .i64) (by omega), HB2⟩
          case measure => simp [intOf]; omega
        · obtain rfl : i = m := by omega
          generalize fj i = s at *
          by_cases hs : s < best
          · have HE := Lib.hid (HYJ.out hs)
            go_wp2
            go_roundw
            case rel => exact ⟨j + 1, by omega, by go_num, by rw [HE.out], by rw [HE.out], HBI⟩
            case measure => simp [intOf]; omega
          · have HE := Lib.hid (HNJ.out hs)
            go_wp2
            go_roundw
            case rel => exact ⟨j + 1, by omega, by go_num, by rw [HE.out], by rw [HE.out], HBI⟩
            case measure => simp [intOf]; omega
    · obtain rfl : j = m := by omega
      go_wp2
      go_ret2
      exact ⟨rfl, HB.out.trans (HBJ.out.mono (by omega))⟩
end Go.Proofs.YtjgkignnfkbeaaaTro

/-
  The contract of the sequential body.
-/
namespace Go.Proofs.YtjgkignnfkbeaaaTro
open Go.RowKit
set_option linter.unusedVariables false
set_option maxRecDepth 20000

theorem size_of (a b : Int) (w : World) : (Instr.field 47 (.agg #[.int .i64 a, .int .i64 b]) 0).run Tro.prog w = .ok (.int .i64 a) w := by kernel_rfl
/-- what the sequential body gives -/
def stubP (n A B : Int) : Nat × Nat := prF n.toNat (tonesTo A.toNat n.toNat) (tonesTo B.toNat n.toNat) (tonesTo A.toNat n.toNat).length
set_option maxHeartbeats 400000 in
theorem stub_any (n A B : Int) (w : World) (h : Voices n A B) : Calls Tro.prog 42 #[.agg #[.int .i64 n, .int .i64 A], .agg #[.int .i64 n, .int .i64 B]] w fun e w' => e = .returned (.agg #[.int .i64 ((stubP n A B).2 : Int), .int .i64 ((stubP n A B).1 : Int)]) ∧ Below w.heap.size w w' := by
  have hl : (tonesTo A.toNat n.toNat).length = (tonesTo B.toNat n.toNat).length := by rw [← wt_len h.1, ← wt_len h.2.1]; exact h.2.2.2
  have HP := Lib.hid (fun w => pairing_any n A B w h.1 h.2.1 hl)
  have HV : Hid (∀ w, Calls Tro.prog 41 #[.int .i64 n, .int .i64 A, .int .i64 B] w fun e w' => e = .returned (.bool true) ∧ Below w.heap.size w w') := Lib.hid (fun w => by have := validVoices_any n A B w; rw [vv_yes h] at this; exact this)
  have hn1 := h.1.1
  have hn2 := h.1.2.1
  unfold stubP
  generalize prF n.toNat (tonesTo A.toNat n.toNat) (tonesTo B.toNat n.toNat) (tonesTo A.toNat n.toNat).length = st at *
  obtain ⟨best, at'⟩ := st
  go_enter Tro.func42, Tro.ntmps42
  have s1 := size_of n A
  have s2 := tones_of n A
  have s3 := tones_of n B
  have s4 := size_of n B
  have hba := (Below.refl w.heap.size w).alloc (Nat.le_refl _) (.cells #[.int .i64 n, .int .i64 A] 47)
  have hbb := hba.alloc hba.size (.cells #[.int .i64 n, .int .i64 B] 47)
  go_wp2_with fail
  refine (HV.out _).mono ?_; rintro e w1 ⟨rfl, hb1⟩
  have HB := Lib.hid (hbb.trans (hb1.mono hbb.size))
  have hz := HB.out.size
  clear hb1 hba hbb
  go_wp2_with fail
  refine (HP.out _).mono ?_; rintro e w2 ⟨rfl, hb2⟩
  have HB2 := Lib.hid (HB.out.trans (hb2.mono hz))
  clear hb2
  go_wp2
  go_ret
  exact ⟨rfl, HB2.out⟩
end Go.Proofs.YtjgkignnfkbeaaaTro

/-
  Lists of numbers: two ascending lists with the same members are one; a list without doubles, sorted, is the ascending list of its members.
-/
namespace Go.Proofs.YtjgkignnfkbeaaaTro

/-- two ascending lists with the same members are one -/
theorem asc_ext : ∀ (L M : List Int), L.Pairwise (· < ·) → M.Pairwise (· < ·) → (∀ y, y ∈ L ↔ y ∈ M) → L = M
  | [], [], _, _, _ => rfl
  | [], b :: M, _, _, h => by have := (h b).2 (by simp); cases this
  | a :: L, [], _, _, h => by have := (h a).1 (by simp); cases this
  | a :: L, b :: M, hL, hM, h => by
    obtain ⟨l1, l2⟩ := List.pairwise_cons.1 hL
    obtain ⟨m1, m2⟩ := List.pairwise_cons.1 hM
    have e : a = b := by
      rcases List.mem_cons.1 ((h a).1 (by simp)) with h1 | h1
      · exact h1
      · rcases List.mem_cons.1 ((h b).2 (by simp)) with h2 | h2
        · exact h2.symm
        · have := m1 _ h1
          have := l1 _ h2
          omega
    subst e
    congr 1
    refine asc_ext L M l2 m2 fun y => ?_
    have hy := h y
    simp only [List.mem_cons] at hy
    constructor
    · intro q
      rcases hy.1 (.inr q) with r | r
      · subst r; have := l1 _ q; omega
      · exact r
    · intro q
      rcases hy.2 (.inr q) with r | r
      · subst r; have := m1 _ q; omega
      · exact r
theorem asc_of_sorted {L : List Int} (hs : L.Pairwise fun x y => decide (x ≤ y) = true) (hn : L.Nodup) : L.Pairwise (· < ·) := by
  refine List.Pairwise.imp₂ (fun a b h1 h2 => ?_) hs hn
  have h1' := of_decide_eq_true h1
  omega
/-- a list without doubles, sorted, is the ascending list of its members -/
theorem sort_eq {L M : List Int} (hn : L.Nodup) (hM : M.Pairwise (· < ·)) (h : ∀ y, y ∈ L ↔ y ∈ M) : (L.mergeSort fun x y => decide (x ≤ y)) = M := by
  refine asc_ext _ _ (asc_of_sorted ?_ ?_) hM ?_
  · exact List.pairwise_mergeSort (fun a b c h1 h2 => by simp at *; omega) (fun a b => by simp; omega) L
  · exact (List.mergeSort_perm L _).nodup_iff.2 hn
  · intro y; rw [(List.mergeSort_perm L _).mem_iff]; exact h y

end Go.Proofs.YtjgkignnfkbeaaaTro

/-
  Plain mathematics of near sets: one tone a step away; the program's list, sorted, is the model's.
-/
namespace Go.Proofs.YtjgkignnfkbeaaaTro.Tic

/-- the bits of a that are not in b -/
def nd (a b : Nat) : Nat := a ^^^ (a &&& b)
theorem nd_bit (a b i : Nat) : (nd a b).testBit i = (a.testBit i && !b.testBit i) := by
  unfold nd
  rw [Nat.testBit_xor, Nat.testBit_and]
  cases a.testBit i <;> cases b.testBit i <;> rfl
theorem nd_le (a b : Nat) : nd a b ≤ a := by
  refine Nat.le_of_testBit ?_
  intro i hi
  rw [nd_bit] at hi
  revert hi
  cases a.testBit i <;> simp
theorem nd_lt {a b n : Nat} (h : a < n) : nd a b < n := Nat.lt_of_le_of_lt (nd_le a b) h

def up (n x : Nat) : Nat := if x + 1 = n then 0 else x + 1
def dn (n x : Nat) : Nat := if x = 0 then n - 1 else x - 1
theorem up_lt {n x : Nat} (h : x < n) : up n x < n := by unfold up; split <;> omega
theorem dn_lt {n x : Nat} (h : x < n) : dn n x < n := by unfold dn; split <;> omega
theorem up_emod {n x : Nat} (h : x < n) : (((x : Int) + 1) % (n : Int)).toNat = up n x := by
  unfold up
  split
  · rename_i e
    have : (x : Int) + 1 = n := by omega
    rw [this, Int.emod_self]; rfl
  · rw [Int.emod_eq_of_lt (by omega) (by omega)]; omega
theorem dn_emod {n x : Nat} (h : x < n) : (((x : Int) - 1) % (n : Int)).toNat = dn n x := by
  unfold dn
  split
  · rename_i e
    subst e
    have : ((0 : Nat) : Int) - 1 = ((n : Int) - 1) + n * (-1) := by omega
    rw [this, Int.add_mul_emod_self_left, Int.emod_eq_of_lt (by omega) (by omega)]; omega
  · rw [Int.emod_eq_of_lt (by omega) (by omega)]; omega
theorem up_dn {n x y : Nat} (hx : x < n) (hy : y < n) : x = up n y ↔ y = dn n x := by
  unfold up dn
  constructor <;> intro h <;> split at h <;> split <;> omega
theorem up_ne_dn {n x : Nat} (h3 : 3 ≤ n) (_ : x < n) : up n x ≠ dn n x := by
  unfold up dn
  split <;> split <;> omega
theorem mvd_up {n x : Nat} (h : x < n) : mvd n 1 1 x = up n x := by
  unfold mvd
  rw [← up_emod h]
  congr 2
  omega

theorem wt_nought : ∀ f v, v < 2 ^ f → wt f v = 0 → v = 0
  | 0, v, h, _ => by simp at h; omega
  | f + 1, v, h, e => by
    unfold wt at e
    have := wt_nought f (v / 2) (by rw [Nat.pow_succ] at h; omega) (by omega)
    omega
theorem wt_one : ∀ f v, v < 2 ^ f → wt f v = 1 → ∃ i, i < f ∧ v = 2 ^ i
  | 0, v, h, e => by simp [wt] at e
  | f + 1, v, h, e => by
    unfold wt at e
    rw [Nat.pow_succ] at h
    rcases (show v % 2 = 1 ∨ v % 2 = 0 by omega) with h1 | h1
    · have := wt_nought f (v / 2) (by omega) (by omega)
      exact ⟨0, by omega, by rw [Nat.pow_zero]; omega⟩
    · obtain ⟨i, hi, e2⟩ := wt_one f (v / 2) (by omega) (by omega)
      exact ⟨i + 1, by omega, by rw [Nat.pow_succ]; omega⟩
theorem wt_pow : ∀ i, i < 12 → wt 12 (2 ^ i) = 1 := by decide +kernel
theorem pow_inj2 {i j : Nat} (h : 2 ^ i = 2 ^ j) : i = j := by
  have : (2 ^ i).testBit j = true := by rw [h, Nat.testBit_two_pow]; simp
  rw [Nat.testBit_two_pow] at this
  exact of_decide_eq_true this
theorem shf_pow {n x : Nat} (h : x < n) : shf n 1 (2 ^ x) = 2 ^ up n x := by
  refine Nat.eq_of_testBit_eq fun i => ?_
  have := img_testBit (mvd n 1 1) (2 ^ x) i n
  rw [Nat.testBit_two_pow]
  cases hc : (shf n 1 (2 ^ x)).testBit i with
  | true =>
    obtain ⟨x', h1, h2, h3⟩ := this.1 hc
    rw [Nat.testBit_two_pow] at h2
    have h4 := of_decide_eq_true h2
    subst h4
    rw [mvd_up h] at h3
    simp [h3]
  | false =>
    by_cases e : up n x = i
    · have h5 : (shf n 1 (2 ^ x)).testBit i = true := this.2 ⟨x, h, by rw [Nat.testBit_two_pow]; simp, by rw [mvd_up h]; exact e⟩
      rw [h5] at hc; cases hc
    · simp [e]

/-- S with the tone x moved to y -/
def mv1 (S x y : Nat) : Nat := nd S (2 ^ x) ||| 2 ^ y
theorem mv1_bit (S x y i : Nat) : (mv1 S x y).testBit i = ((S.testBit i && !decide (x = i)) || decide (y = i)) := by
  unfold mv1
  rw [Nat.testBit_or, nd_bit, Nat.testBit_two_pow, Nat.testBit_two_pow]
theorem mv1_out {S x y : Nat} (hx : S.testBit x = true) (hy : S.testBit y = false) : nd S (mv1 S x y) = 2 ^ x := by
  refine Nat.eq_of_testBit_eq fun i => ?_
  rw [nd_bit, mv1_bit, Nat.testBit_two_pow]
  by_cases e1 : x = i
  · subst e1
    have : y ≠ x := by rintro rfl; rw [hx] at hy; cases hy
    simp [hx, this]
  · by_cases e2 : y = i
    · subst e2; simp [hy, e1]
    · simp [e1, e2]
theorem mv1_in {S x y : Nat} (_ : S.testBit x = true) (hy : S.testBit y = false) : nd (mv1 S x y) S = 2 ^ y := by
  refine Nat.eq_of_testBit_eq fun i => ?_
  rw [nd_bit, mv1_bit, Nat.testBit_two_pow]
  by_cases e2 : y = i
  · subst e2; simp [hy]
  · cases S.testBit i <;> simp [e2]
theorem mv1_of {S m x y : Nat} (h1 : nd S m = 2 ^ x) (h2 : nd m S = 2 ^ y) : S.testBit x = true ∧ S.testBit y = false ∧ m.testBit y = true ∧ m = mv1 S x y := by
  have b1 : ∀ i, (S.testBit i && !m.testBit i) = decide (x = i) := fun i => by rw [← nd_bit, h1, Nat.testBit_two_pow]
  have b2 : ∀ i, (m.testBit i && !S.testBit i) = decide (y = i) := fun i => by rw [← nd_bit, h2, Nat.testBit_two_pow]
  have hx := b1 x
  have hy := b2 y
  simp at hx hy
  refine ⟨hx.1, hy.2, hy.1, Nat.eq_of_testBit_eq fun i => ?_⟩
  rw [mv1_bit]
  have c1 := b1 i
  have c2 := b2 i
  by_cases e1 : x = i <;> by_cases e2 : y = i <;> simp [e1, e2] at c1 c2 ⊢
  · rw [c1.1] at c2; simp at c2
  · exact c1.2
  · exact c2.1
  · revert c1 c2
    cases S.testBit i <;> cases m.testBit i <;> simp
theorem mv1_lt {S x y n : Nat} (hS : S < 2 ^ n) (hy : y < n) : mv1 S x y < 2 ^ n :=
  Nat.or_lt_two_pow (nd_lt hS) (Nat.pow_lt_pow_right (by omega) hy)

/-- the model's test -/
def isNear (n S m : Nat) : Bool := decide (wt 12 (nd S m) = 1 ∧ wt 12 (nd m S) = 1 ∧ (shf n 1 (nd S m) = nd m S ∨ shf n 1 (nd m S) = nd S m))
theorem isNear_iff {n S m : Nat} (h12 : n ≤ 12) (hS : S < 2 ^ n) (hm : m < 2 ^ n) :
    isNear n S m = true ↔ ∃ x y, x < n ∧ y < n ∧ S.testBit x = true ∧ S.testBit y = false ∧ (y = up n x ∨ y = dn n x) ∧ m = mv1 S x y := by
  have h2 : 2 ^ n ≤ 2 ^ 12 := Nat.pow_le_pow_right (by omega) h12
  constructor
  · intro h
    obtain ⟨h3, h4, h5⟩ := of_decide_eq_true h
    obtain ⟨x, _, e1⟩ := wt_one 12 _ (Nat.lt_of_lt_of_le (nd_lt hS) h2) h3
    obtain ⟨y, _, e2⟩ := wt_one 12 _ (Nat.lt_of_lt_of_le (nd_lt hm) h2) h4
    obtain ⟨hx, hy, hmy, e⟩ := mv1_of e1 e2
    have hxn : x < n := by
      have := Nat.ge_two_pow_of_testBit hx
      exact (Nat.pow_lt_pow_iff_right (by omega : 1 < 2)).1 (Nat.lt_of_le_of_lt this hS)
    have hyn : y < n := by
      have := Nat.ge_two_pow_of_testBit hmy
      exact (Nat.pow_lt_pow_iff_right (by omega : 1 < 2)).1 (Nat.lt_of_le_of_lt this hm)
    refine ⟨x, y, hxn, hyn, hx, hy, ?_, e⟩
    rw [e1, e2, shf_pow hxn, shf_pow hyn] at h5
    rcases h5 with h5 | h5
    · exact .inl (pow_inj2 h5).symm
    · exact .inr ((up_dn hxn hyn).1 (pow_inj2 h5).symm)
  · rintro ⟨x, y, hxn, hyn, hx, hy, h5, rfl⟩
    unfold isNear
    rw [mv1_out hx hy, mv1_in hx hy, wt_pow x (by omega), wt_pow y (by omega), shf_pow hxn, shf_pow hyn]
    refine decide_eq_true ⟨rfl, rfl, ?_⟩
    rcases h5 with rfl | h5
    · exact .inl rfl
    · exact .inr (by rw [← (up_dn hxn hyn).2 h5])

/-- the near sets below m, ascending -/
def nearTo (n S : Nat) : Nat → List Int
  | 0 => []
  | m + 1 => if isNear n S m then nearTo n S m ++ [(m : Int)] else nearTo n S m
theorem nearTo_le (n S : Nat) : ∀ m, (nearTo n S m).length ≤ m
  | 0 => Nat.le_refl _
  | m + 1 => by unfold nearTo; have := nearTo_le n S m; split <;> simp <;> omega
theorem nearTo_yes {n S m : Nat} (h : isNear n S m = true) : nearTo n S (m + 1) = nearTo n S m ++ [(m : Int)] := by conv => lhs; unfold nearTo; rw [if_pos h]
theorem nearTo_no {n S m : Nat} (h : isNear n S m = false) : nearTo n S (m + 1) = nearTo n S m := by conv => lhs; unfold nearTo; rw [if_neg (by simp [h])]
theorem nearTo_mem (n S : Nat) (v : Int) : ∀ k, (v ∈ nearTo n S k ↔ ∃ m : Nat, m < k ∧ isNear n S m = true ∧ v = (m : Int))
  | 0 => by simp [nearTo]
  | k + 1 => by
    have ih := nearTo_mem n S v k
    cases h : isNear n S k
    · rw [nearTo_no h, ih]
      constructor
      · rintro ⟨m, h1, h2, h3⟩; exact ⟨m, by omega, h2, h3⟩
      · rintro ⟨m, h1, h2, h3⟩
        by_cases e : m = k
        · subst e; rw [h] at h2; cases h2
        · exact ⟨m, by omega, h2, h3⟩
    · rw [nearTo_yes h, List.mem_append, ih]
      constructor
      · rintro (⟨m, h1, h2, h3⟩ | h1)
        · exact ⟨m, by omega, h2, h3⟩
        · exact ⟨k, by omega, h, by simpa using h1⟩
      · rintro ⟨m, h1, h2, h3⟩
        by_cases e : m = k
        · subst e; exact .inr (by simp [h3])
        · exact .inl ⟨m, by omega, h2, h3⟩
theorem nearTo_asc (n S : Nat) : ∀ k, (nearTo n S k).Pairwise (· < ·)
  | 0 => List.Pairwise.nil
  | k + 1 => by
    have ih := nearTo_asc n S k
    cases h : isNear n S k
    · rw [nearTo_no h]; exact ih
    · rw [nearTo_yes h, List.pairwise_append]
      refine ⟨ih, List.pairwise_singleton _ _, fun a ha b hb => ?_⟩
      obtain ⟨m, h1, _, rfl⟩ := (nearTo_mem n S a k).1 ha
      simp at hb
      omega

/-- what the program adds for the tone x: the one below, then the one above -/
def near1 (n S x : Nat) : List Int :=
  (if S.testBit (dn n x) then [] else [(mv1 S x (dn n x) : Int)]) ++ (if S.testBit (up n x) then [] else [(mv1 S x (up n x) : Int)])
theorem near1_le (n S x : Nat) : (near1 n S x).length ≤ 2 := by
  unfold near1; split <;> split <;> simp
/-- .. for the tones below k -/
def nearL (n S : Nat) : Nat → List Int
  | 0 => []
  | k + 1 => if S.testBit k then nearL n S k ++ near1 n S k else nearL n S k
theorem nearL_le (n S : Nat) : ∀ k, (nearL n S k).length ≤ 2 * k
  | 0 => Nat.le_refl _
  | k + 1 => by unfold nearL; have := nearL_le n S k; have := near1_le n S k; split <;> simp <;> omega
theorem near1_mem {n S x : Nat} {v : Int} : v ∈ near1 n S x ↔ ∃ y, S.testBit y = false ∧ (y = up n x ∨ y = dn n x) ∧ v = (mv1 S x y : Int) := by
  unfold near1
  rw [List.mem_append]
  constructor
  · rintro (h | h) <;> split at h <;> simp at h
    · rename_i e; exact ⟨dn n x, by simpa using e, .inr rfl, h⟩
    · rename_i e; exact ⟨up n x, by simpa using e, .inl rfl, h⟩
  · rintro ⟨y, h1, rfl | rfl, rfl⟩
    · right; simp [h1]
    · left; simp [h1]
theorem nearL_mem (n S : Nat) (v : Int) : ∀ k, (v ∈ nearL n S k ↔ ∃ x y : Nat, x < k ∧ S.testBit x = true ∧ S.testBit y = false ∧ (y = up n x ∨ y = dn n x) ∧ v = (mv1 S x y : Int))
  | 0 => by simp [nearL]
  | k + 1 => by
    have ih := nearL_mem n S v k
    unfold nearL
    split
    · rename_i hb
      rw [List.mem_append, ih, near1_mem]
      constructor
      · rintro (⟨x, y, h1, h2⟩ | ⟨y, h1⟩)
        · exact ⟨x, y, by omega, h2⟩
        · exact ⟨k, y, by omega, hb, h1⟩
      · rintro ⟨x, y, h1, h2, h3⟩
        by_cases e : x = k
        · subst e; exact .inr ⟨y, h3⟩
        · exact .inl ⟨x, y, by omega, h2, h3⟩
    · rename_i hb
      rw [ih]
      constructor
      · rintro ⟨x, y, h1, h2⟩; exact ⟨x, y, by omega, h2⟩
      · rintro ⟨x, y, h1, h2, h3⟩
        by_cases e : x = k
        · subst e; exact absurd h2 hb
        · exact ⟨x, y, by omega, h2, h3⟩
theorem mv1_inj {S x y x' y' : Nat} (hx : S.testBit x = true) (hy : S.testBit y = false) (hx' : S.testBit x' = true) (hy' : S.testBit y' = false) (e : mv1 S x y = mv1 S x' y') : x = x' ∧ y = y' := by
  have h1 := mv1_out hx hy
  have h2 := mv1_in hx hy
  rw [e] at h1 h2
  rw [mv1_out hx' hy'] at h1
  rw [mv1_in hx' hy'] at h2
  exact ⟨(pow_inj2 h1).symm, (pow_inj2 h2).symm⟩
theorem nearL_nodup {n S : Nat} (h3 : 3 ≤ n) : ∀ k, k ≤ n → (nearL n S k).Nodup
  | 0, _ => List.nodup_nil
  | k + 1, hk => by
    have ih := nearL_nodup (S := S) h3 k (by omega)
    unfold nearL
    split
    · rename_i hb
      rw [List.nodup_append]
      refine ⟨ih, ?_, ?_⟩
      · unfold near1
        split <;> split <;> simp
        rename_i e1 e2
        intro e
        exact up_ne_dn h3 (by omega) (mv1_inj hb (by simpa using e1) hb (by simpa using e2) (Int.ofNat.inj e)).2.symm
      · intro a ha b hb2 e
        subst e
        obtain ⟨x, y, h1, h2, h3, _, rfl⟩ := (nearL_mem n S a k).1 ha
        obtain ⟨y', h4, _, e⟩ := near1_mem.1 hb2
        have := (mv1_inj h2 h3 hb h4 (Int.ofNat.inj e)).1
        omega
    · exact ih
theorem near_sorted {n S : Nat} (h3 : 3 ≤ n) (h12 : n ≤ 12) (hS : S < 2 ^ n) : ((nearL n S n).mergeSort fun x y => decide (x ≤ y)) = nearTo n S (2 ^ n) := by
  refine sort_eq (nearL_nodup h3 n (Nat.le_refl _)) (nearTo_asc _ _ _) fun v => ?_
  rw [nearL_mem, nearTo_mem]
  constructor
  · rintro ⟨x, y, hx, h1, h2, h4, rfl⟩
    have hy : y < n := by
      rcases h4 with rfl | rfl
      · exact up_lt hx
      · exact dn_lt hx
    exact ⟨_, mv1_lt hS hy, (isNear_iff h12 hS (mv1_lt hS hy)).2 ⟨x, y, hx, hy, h1, h2, h4, rfl⟩, rfl⟩
  · rintro ⟨m, hm, h, rfl⟩
    obtain ⟨x, y, hx, hy, h1, h2, h4, rfl⟩ := (isNear_iff h12 hS hm).1 h
    exact ⟨x, y, hx, h1, h2, h4, rfl⟩

end Go.Proofs.YtjgkignnfkbeaaaTro.Tic

/-
  Plain mathematics of voices: the least way of all pairings is that of a turn; a step of one tone changes it by at most 1; some step makes it less.
-/
namespace Go.Proofs.YtjgkignnfkbeaaaTro
set_option linter.unusedVariables false

/-- the sum of the first k numbers -/
def smv (f : Nat → Nat) : Nat → Nat
  | 0 => 0
  | k + 1 => smv f k + f k
theorem smv_congr {f g : Nat → Nat} : ∀ k, (∀ i, i < k → f i = g i) → smv f k = smv g k
  | 0, _ => rfl
  | k + 1, h => by
    unfold smv
    rw [smv_congr k (fun i hi => h i (by omega)), h k (by omega)]
theorem smv_upd {f g : Nat → Nat} {l : Nat} : ∀ k, l < k → (∀ i, i < k → i ≠ l → f i = g i) → smv f k + g l = smv g k + f l
  | 0, hl, _ => by omega
  | k + 1, hl, h => by
    unfold smv
    by_cases e : l = k
    · subst e
      rw [smv_congr (f := f) (g := g) l (fun i hi => h i (by omega) (by omega))]; omega
    · have := smv_upd k (by omega) (fun i hi hn => h i (by omega) hn)
      rw [h k (by omega) (fun q => e q.symm)]; omega
theorem smv_le1 {f g : Nat → Nat} {l k : Nat} (hl : l < k) (h : ∀ i, i < k → i ≠ l → f i = g i) (h1 : f l ≤ g l + 1) : smv f k ≤ smv g k + 1 := by
  have := smv_upd (f := f) (g := g) k hl h
  omega
theorem smv_head (f : Nat → Nat) : ∀ k, smv f (k + 1) = f 0 + smv (fun i => f (i + 1)) k
  | 0 => by simp [smv]
  | k + 1 => by
    rw [smv, smv_head f k]
    show _ = f 0 + (smv (fun i => f (i + 1)) k + f (k + 1))
    omega
theorem smv_rot1 (f : Nat → Nat) : ∀ k, smv (fun i => f ((i + 1) % k)) k = smv f k
  | 0 => rfl
  | k + 1 => by
    rw [smv_head f k]
    show smv (fun i => f ((i + 1) % (k + 1))) k + f ((k + 1) % (k + 1)) = _
    rw [Nat.mod_self, smv_congr (g := fun i => f (i + 1)) k (fun i hi => by show f _ = f _; rw [Nat.mod_eq_of_lt (by omega)]), Nat.add_comm]
theorem smv_rot (f : Nat → Nat) (k : Nat) : ∀ j, smv (fun i => f ((i + j) % k)) k = smv f k
  | 0 => smv_congr k (fun i hi => by show f _ = _; rw [Nat.add_zero, Nat.mod_eq_of_lt hi])
  | j + 1 => by
    rw [← smv_rot f k j, ← smv_rot1 (fun i => f ((i + j) % k)) k]
    refine smv_congr k (fun i hi => ?_)
    show f _ = f _
    congr 1
    rw [Nat.mod_add_mod, Nat.add_assoc, Nat.add_comm 1 j]
theorem smv_zero {f : Nat → Nat} : ∀ k, (∀ i, i < k → f i = 0) → smv f k = 0
  | 0, _ => rfl
  | k + 1, h => by unfold smv; rw [smv_zero k (fun i hi => h i (by omega)), h k (by omega)]

theorem apt_self : ∀ n, n < 13 → ∀ x, x < n → Tic.apt n x x = 0 := by decide +kernel
theorem apt_symm : ∀ n, n < 13 → ∀ x, x < n → ∀ y, y < n → Tic.apt n x y = Tic.apt n y x := by decide +kernel
theorem apt_eq : ∀ n, n < 13 → ∀ x, x < n → ∀ y, y < n → Tic.apt n x y = 0 → x = y := by decide +kernel
theorem apt_up : ∀ n, n < 13 → ∀ x, x < n → ∀ y, y < n → Tic.apt n (Tic.up n x) y ≤ Tic.apt n x y + 1 ∧ Tic.apt n x y ≤ Tic.apt n (Tic.up n x) y + 1 := by decide +kernel
theorem apt_dn : ∀ n, n < 13 → ∀ x, x < n → ∀ y, y < n → Tic.apt n (Tic.dn n x) y ≤ Tic.apt n x y + 1 ∧ Tic.apt n x y ≤ Tic.apt n (Tic.dn n x) y + 1 := by decide +kernel
theorem apt_step : ∀ n, n < 13 → ∀ x, x < n → ∀ y, y < n → x ≠ y → Tic.apt n (Tic.up n x) y + 1 = Tic.apt n x y ∨ Tic.apt n (Tic.dn n x) y + 1 = Tic.apt n x y := by decide +kernel

/-- x tells the tones of A, k of them, each once -/
structure En (n A k : Nat) (x : Nat → Nat) : Prop where
  lt : ∀ i, i < k → x i < n
  bit : ∀ i, i < k → A.testBit (x i) = true
  on : ∀ p, p < n → A.testBit p = true → ∃ i, i < k ∧ x i = p
  inj : ∀ i j, i < k → j < k → x i = x j → i = j
/-- a step of one tone -/
def Stp (n A p q : Nat) : Prop := p < n ∧ q < n ∧ A.testBit p = true ∧ A.testBit q = false ∧ (q = Tic.up n p ∨ q = Tic.dn n p)
/-- how far voices go by a pairing -/
def ways (n : Nat) (x y : Nat → Nat) (k : Nat) : Nat := smv (fun i => Tic.apt n (x i) (y i)) k
theorem dsc {n A B k : Nat} {y : Nat → Nat} (hn : n < 13) (hy : En n B k y) : ∀ (d : Nat) (x : Nat → Nat) (l : Nat), En n A k x → l < k → Tic.apt n (x l) (y l) = d → A.testBit (y l) = false →
    ∃ p q x', Stp n A p q ∧ En n (Tic.mv1 A p q) k x' ∧ ways n x' y k + 1 ≤ ways n x y k
  | 0, x, l, hx, hl, hd, hb => by
    have e := apt_eq n hn _ (hx.lt l hl) _ (hy.lt l hl) hd
    have := hx.bit l hl
    rw [e, hb] at this; cases this
  | d + 1, x, l, hx, hl, hd, hb => by
    have hxl := hx.lt l hl
    have hyl := hy.lt l hl
    have hne : x l ≠ y l := fun e => by have := hx.bit l hl; rw [e, hb] at this; cases this
    obtain ⟨q, hq, hqn, hqd, hqa⟩ : ∃ q, (q = Tic.up n (x l) ∨ q = Tic.dn n (x l)) ∧ q < n ∧ Tic.apt n q (y l) = d ∧ (∀ z, z < n → Tic.apt n (x l) z ≤ Tic.apt n q z + 1) := by
      rcases apt_step n hn _ hxl _ hyl hne with h | h
      · exact ⟨_, .inl rfl, Tic.up_lt hxl, by omega, fun z hz => (apt_up n hn _ hxl z hz).2⟩
      · exact ⟨_, .inr rfl, Tic.dn_lt hxl, by omega, fun z hz => (apt_dn n hn _ hxl z hz).2⟩
    have hqx : q ≠ x l := fun e => by rw [e, hd] at hqd; omega
    cases hA : A.testBit q with
    | false =>
      refine ⟨x l, q, fun i => if i = l then q else x i, ⟨hxl, hqn, hx.bit l hl, hA, hq⟩, ⟨fun i hi => ?_, fun i hi => ?_, fun p hp hpb => ?_, fun i j hi hj e => ?_⟩, ?_⟩
      · by_cases e : i = l
        · simp only [e, if_true]; exact hqn
        · simp only [e, if_false]; exact hx.lt i hi
      · by_cases e : i = l
        · simp only [e, if_true]; rw [Tic.mv1_bit]; simp
        · simp only [e, if_false]; rw [Tic.mv1_bit, hx.bit i hi]
          have : x l ≠ x i := fun q => e (hx.inj i l hi hl q.symm)
          simp [this]
      · rw [Tic.mv1_bit] at hpb
        by_cases e : q = p
        · exact ⟨l, hl, by simp [e]⟩
        · simp [e] at hpb
          obtain ⟨i, hi, hip⟩ := hx.on p hp hpb.1
          refine ⟨i, hi, ?_⟩
          have : i ≠ l := fun q => hpb.2 (by rw [← q]; exact hip)
          simp [this, hip]
      · have hq0 : ∀ i, i < k → x i ≠ q := fun i hi q' => by have := hx.bit i hi; rw [q', hA] at this; cases this
        by_cases e1 : i = l <;> by_cases e2 : j = l
        · omega
        · simp only [e1, e2, if_true, if_false] at e; exact absurd e.symm (hq0 j hj)
        · simp only [e1, e2, if_true, if_false] at e; exact absurd e (hq0 i hi)
        · simp only [e1, e2, if_false] at e; exact hx.inj i j hi hj e
      · have := smv_upd (f := fun i => Tic.apt n (if i = l then q else x i) (y i)) (g := fun i => Tic.apt n (x i) (y i)) (l := l) k hl (fun i hi hn => by simp [hn])
        simp only [if_true] at this
        show smv (fun i => Tic.apt n (if i = l then q else x i) (y i)) k + 1 ≤ smv (fun i => Tic.apt n (x i) (y i)) k
        omega
    | true =>
      obtain ⟨m, hm, hmq⟩ := hx.on q hqn hA
      have hml : m ≠ l := fun e => hqx (by rw [← e]; exact hmq.symm)
      have hEn : En n A k (fun i => if i = l then q else if i = m then x l else x i) := by
        refine ⟨fun i hi => ?_, fun i hi => ?_, fun p hp hpb => ?_, fun i j hi hj e => ?_⟩
        · by_cases e : i = l
          · simp only [e, if_true]; exact hqn
          · by_cases e2 : i = m
            · simp only [e, e2, hml, if_true, if_false]; exact hxl
            · simp only [e, e2, if_false]; exact hx.lt i hi
        · by_cases e : i = l
          · simp only [e, if_true]; exact hA
          · by_cases e2 : i = m
            · simp only [e, e2, hml, if_true, if_false]; exact hx.bit l hl
            · simp only [e, e2, if_false]; exact hx.bit i hi
        · obtain ⟨i, hi, hip⟩ := hx.on p hp hpb
          by_cases e : i = l
          · exact ⟨m, hm, by simp only [hml, if_true, if_false]; rw [← e]; exact hip⟩
          · by_cases e2 : i = m
            · exact ⟨l, hl, by simp only [if_true]; rw [← hmq, ← e2]; exact hip⟩
            · exact ⟨i, hi, by simp only [e, e2, if_false]; exact hip⟩
        · have hI := hx.inj
          by_cases i1 : i = l <;> by_cases j1 : j = l
          · omega
          · by_cases j2 : j = m
            · simp only [i1, j1, j2, hml, if_true, if_false] at e; exact absurd e hqx
            · simp only [i1, j1, j2, if_true, if_false] at e
              exact absurd (hI m j hm hj (hmq.trans e)) (fun q => j2 q.symm)
          · by_cases i2 : i = m
            · simp only [i1, j1, i2, hml, if_true, if_false] at e; exact absurd e.symm hqx
            · simp only [i1, j1, i2, if_true, if_false] at e
              exact absurd (hI i m hi hm (e.trans hmq.symm)) i2
          · by_cases i2 : i = m <;> by_cases j2 : j = m
            · omega
            · simp only [i1, j1, i2, j2, hml, if_true, if_false] at e
              exact absurd (hI l j hl hj e) (fun q => j1 q.symm)
            · simp only [i1, j1, i2, j2, hml, if_true, if_false] at e
              exact absurd (hI i l hi hl e) i1
            · simp only [i1, j1, i2, j2, if_false] at e; exact hI i j hi hj e
      obtain ⟨p, q', x', h1, h2, h3⟩ := dsc hn hy d _ l hEn hl (by simp only [if_true]; exact hqd) hb
      refine ⟨p, q', x', h1, h2, ?_⟩
      have u1 := smv_upd (f := fun i => Tic.apt n (if i = l then q else x i) (y i)) (g := fun i => Tic.apt n (x i) (y i)) (l := l) k hl (fun i hi hn => by simp [hn])
      have u2 := smv_upd (f := fun i => Tic.apt n (if i = l then q else if i = m then x l else x i) (y i)) (g := fun i => Tic.apt n (if i = l then q else x i) (y i)) (l := m) k hm (fun i hi hn => by simp [hn])
      simp only [if_true, hml, if_false] at u1 u2
      rw [hmq] at u2
      have := hqa (y m) (hy.lt m hm)
      replace h3 : ways n x' y k + 1 ≤ smv (fun i => Tic.apt n (if i = l then q else if i = m then x l else x i) (y i)) k := h3
      show ways n x' y k + 1 ≤ smv (fun i => Tic.apt n (x i) (y i)) k
      omega
theorem mem_tonesN (S : Nat) (y : Int) : ∀ k, y ∈ tonesTo S k ↔ ∃ x, x < k ∧ S.testBit x = true ∧ y = ((x : Nat) : Int)
  | 0 => by simp [tonesTo]
  | k + 1 => by
    have ih := mem_tonesN S y k
    cases h : S.testBit k
    · rw [tonesTo_no h, ih]
      constructor
      · rintro ⟨m, h1, h2, h3⟩; exact ⟨m, by omega, h2, h3⟩
      · rintro ⟨m, h1, h2, h3⟩
        by_cases e : m = k
        · subst e; rw [h] at h2; cases h2
        · exact ⟨m, by omega, h2, h3⟩
    · rw [tonesTo_yes h, List.mem_append, ih]
      constructor
      · rintro (⟨m, h1, h2, h3⟩ | h1)
        · exact ⟨m, by omega, h2, h3⟩
        · exact ⟨k, by omega, h, by simpa using h1⟩
      · rintro ⟨m, h1, h2, h3⟩
        by_cases e : m = k
        · subst e; exact .inr (by simp [h3])
        · exact .inl ⟨m, by omega, h2, h3⟩
theorem asc_tonesN (S : Nat) : ∀ k, (tonesTo S k).Pairwise (· < ·)
  | 0 => List.Pairwise.nil
  | k + 1 => by
    have ih := asc_tonesN S k
    cases h : S.testBit k
    · rw [tonesTo_no h]; exact ih
    · rw [tonesTo_yes h, List.pairwise_append]
      refine ⟨ih, List.pairwise_singleton _ _, fun a ha b hb => ?_⟩
      obtain ⟨m, h1, _, rfl⟩ := (mem_tonesN S a k).1 ha
      simp at hb
      omega
/-- the tones of A, by place -/
def tn (A n : Nat) (i : Nat) : Nat := ((tonesTo A n).getD i 0).toNat
theorem en_tones (A n : Nat) : En n A (tonesTo A n).length (tn A n) := by
  refine ⟨fun i hi => ?_, fun i hi => ?_, fun p hp hb => ?_, fun i j hi hj e => ?_⟩
  · obtain ⟨y, h1, h2, h3, h4⟩ := tonesTo_at A n i hi
    unfold tn; rw [h3]; exact h1
  · obtain ⟨y, h1, h2, h3, h4⟩ := tonesTo_at A n i hi
    unfold tn; rw [h3]; exact h2
  · have hm := (mem_tonesN A (p : Int) n).2 ⟨p, hp, hb, rfl⟩
    obtain ⟨i, hi, e⟩ := List.getElem_of_mem hm
    refine ⟨i, hi, ?_⟩
    unfold tn
    rw [List.getD_eq_getElem?_getD, List.getElem?_eq_getElem hi, e]; rfl
  · obtain ⟨y, h1, h2, h3, h4⟩ := tonesTo_at A n i hi
    obtain ⟨y', h1', h2', h3', h4'⟩ := tonesTo_at A n j hj
    unfold tn at e
    rw [h3, h3'] at e
    have : y = y' := by simpa using e
    subst this
    rw [← h4, ← h4']
theorem en_rot {n B k : Nat} {y : Nat → Nat} (h : En n B k y) (j : Nat) : En n B k (fun i => y ((i + j) % k)) := by
  rcases Nat.eq_zero_or_pos k with rfl | hk
  · exact ⟨fun i hi => absurd hi (by omega), fun i hi => absurd hi (by omega), fun p hp hb => by obtain ⟨i, hi, _⟩ := h.on p hp hb; omega, fun i j hi => absurd hi (by omega)⟩
  · refine ⟨fun i hi => h.lt _ (Nat.mod_lt _ hk), fun i hi => h.bit _ (Nat.mod_lt _ hk), fun p hp hb => ?_, fun a b ha hb e => ?_⟩
    · obtain ⟨i, hi, e⟩ := h.on p hp hb
      refine ⟨(i + (k - j % k)) % k, Nat.mod_lt _ hk, ?_⟩
      have hj : j % k < k := Nat.mod_lt _ hk
      have : ((i + (k - j % k)) % k + j) % k = i := by
        rw [Nat.mod_add_mod, ← Nat.add_mod_mod (i + (k - j % k)) j, show i + (k - j % k) + j % k = i + k by omega, Nat.add_mod_right, Nat.mod_eq_of_lt hi]
      rw [this]; exact e
    · have := h.inj _ _ (Nat.mod_lt _ hk) (Nat.mod_lt _ hk) e
      have h1 : (a + j) % k = (b + j) % k := this
      have h2 : ∀ c, c < k → ((c + j) % k + (k - j % k)) % k = c := fun c hc => by
        have hj : j % k < k := Nat.mod_lt _ hk
        rw [Nat.mod_add_mod, show c + j + (k - j % k) = c + (k - j % k) + j by omega, ← Nat.add_mod_mod (c + (k - j % k)) j, show c + (k - j % k) + j % k = c + k by omega, Nat.add_mod_right, Nat.mod_eq_of_lt hc]
      rw [← h2 a ha, ← h2 b hb, h1]
/-- how far voices go by a turn -/
def rc (n A B : Nat) (j : Nat) : Nat := ways n (tn A n) (fun i => tn B n ((i + j) % (tonesTo A n).length)) (tonesTo A n).length
theorem rc_mod (n A B j : Nat) : rc n A B (j % (tonesTo A n).length) = rc n A B j := by
  unfold rc ways
  refine smv_congr _ fun i hi => ?_
  show Tic.apt _ _ (tn B n _) = Tic.apt _ _ (tn B n _)
  rw [Nat.add_mod_mod]
theorem far_smv (n : Nat) (L M : List Int) : ∀ k, farTo n L M k = smv (fun i => Tic.apt n (L.getD i 0).toNat (M.getD i 0).toNat) k
  | 0 => rfl
  | k + 1 => by unfold farTo smv; rw [far_smv n L M k]
theorem far_rc {n A B j : Nat} (hl : (tonesTo A n).length = (tonesTo B n).length) (hj : j < (tonesTo A n).length) : farTo n (tonesTo A n) (rotL (tonesTo B n) j) (tonesTo A n).length = rc n A B j := by
  rw [far_smv]
  unfold rc ways
  refine smv_congr _ fun i hi => ?_
  show Tic.apt _ _ _ = Tic.apt _ (tn A n i) (tn B n _)
  unfold tn
  rw [rotL_at _ (by omega) (by omega), hl]
/-- how far voices go at least -/
def dst (n A B : Nat) : Nat := (prF n (tonesTo A n) (tonesTo B n) (tonesTo A n).length).1
theorem prF_least {n : Nat} {L M : List Int} : ∀ j i, i < j → (prF n L M j).1 ≤ farTo n L (rotL M i) L.length
  | j + 1, i, h => by
    by_cases q : farTo n L (rotL M j) L.length < (prF n L M j).1
    · rw [prF_yes q]
      by_cases e : i = j
      · rw [e]; exact Nat.le_refl _
      · exact Nat.le_trans (Nat.le_of_lt q) (prF_least j i (by omega))
    · rw [prF_no q]
      by_cases e : i = j
      · rw [e]; omega
      · exact prF_least j i (by omega)
theorem prF_some {n : Nat} {L M : List Int} (h : farTo n L (rotL M 0) L.length < n * n) : ∀ j, ∃ i, i ≤ j ∧ (prF n L M (j + 1)).1 = farTo n L (rotL M i) L.length
  | 0 => ⟨0, Nat.le_refl _, by rw [prF_yes (j := 0) h]⟩
  | j + 1 => by
    by_cases q : farTo n L (rotL M (j + 1)) L.length < (prF n L M (j + 1)).1
    · exact ⟨j + 1, Nat.le_refl _, by rw [prF_yes (j := j + 1) q]⟩
    · obtain ⟨i, hi, e⟩ := prF_some h j
      exact ⟨i, by omega, by rw [prF_no (j := j + 1) q]; exact e⟩
theorem dst_le {n A B : Nat} (hl : (tonesTo A n).length = (tonesTo B n).length) (h0 : 0 < (tonesTo A n).length) (j : Nat) : dst n A B ≤ rc n A B j := by
  rw [← rc_mod]
  have hj := Nat.mod_lt j h0
  rw [← far_rc hl hj]
  exact prF_least _ _ hj
theorem dst_is {n A B : Nat} (hn : 1 ≤ n) (hl : (tonesTo A n).length = (tonesTo B n).length) (h0 : 0 < (tonesTo A n).length) : ∃ j, dst n A B = rc n A B j := by
  have hle := tonesTo_le A n
  have hfar := farTo_le (n := n) hn (tonesTo A n) (rotL (tonesTo B n) 0) (tonesTo A n).length
  have hmul := Nat.mul_le_mul_right n hle
  have hnn : 0 < n * n := Nat.mul_pos (by omega) (by omega)
  obtain ⟨i, hi, e⟩ := prF_some (n := n) (L := tonesTo A n) (M := tonesTo B n) (by omega) ((tonesTo A n).length - 1)
  rw [show (tonesTo A n).length - 1 + 1 = (tonesTo A n).length by omega] at e
  exact ⟨i, by unfold dst; rw [e, far_rc hl (by omega)]⟩
end Go.Proofs.YtjgkignnfkbeaaaTro

/-
  Plain mathematics of voices: a step of one tone changes the least way by at most 1; all pairings go at least that far; some step makes it less.
-/
namespace Go.Proofs.YtjgkignnfkbeaaaTro
set_option linter.unusedVariables false

theorem getD_toNat_map {L : List Int} {f : Int → Int} {i : Nat} (h : i < L.length) : ((L.map f).getD i 0) = f (L.getD i 0) := by
  rw [List.getD_eq_getElem?_getD, List.getD_eq_getElem?_getD, List.getElem?_map, List.getElem?_eq_getElem h]; rfl
theorem up_cases {n p : Nat} (hp : p < n) : (p + 1 < n ∧ Tic.up n p = p + 1) ∨ (p + 1 = n ∧ Tic.up n p = 0) := by
  unfold Tic.up
  split
  · exact .inr ⟨‹_›, rfl⟩
  · exact .inl ⟨by omega, rfl⟩
/-- a step up: the tones stand as before, one of them further, and in turn -/
theorem up_turn {n A p : Nat} (hp : p < n) (h2 : 2 ≤ n) (hA : A.testBit p = true) (hq : A.testBit (Tic.up n p) = false) :
    (tonesTo (Tic.mv1 A p (Tic.up n p)) n).length = (tonesTo A n).length ∧ ∃ δ, ∀ i, i < (tonesTo A n).length → tn (Tic.mv1 A p (Tic.up n p)) n ((i + δ) % (tonesTo A n).length) = if tn A n i = p then Tic.up n p else tn A n i := by
  have HB := Tic.mv1_bit A p (Tic.up n p)
  have he := en_tones A n
  rcases up_cases hp with ⟨h1, hu⟩ | ⟨h1, hu⟩
  · rw [hu] at HB hq ⊢
    have hL : tonesTo (Tic.mv1 A p (p + 1)) n = (tonesTo A n).map (fun z => if z = (p : Int) then ((p + 1 : Nat) : Int) else z) := by
      refine asc_ext _ _ (asc_tonesN _ _) ?_ (fun y => ?_)
      · rw [List.pairwise_map]
        refine (asc_tonesN A n).imp_of_mem (fun {a b} ha hb hab => ?_)
        obtain ⟨u, hu1, hu2, rfl⟩ := (mem_tonesN A a n).1 ha
        obtain ⟨v, hv1, hv2, rfl⟩ := (mem_tonesN A b n).1 hb
        have hv : v ≠ p + 1 := fun e => by rw [e, hq] at hv2; cases hv2
        split <;> split <;> omega
      · rw [mem_tonesN, List.mem_map]
        constructor
        · rintro ⟨x, hx, hb, rfl⟩
          rw [HB] at hb
          by_cases e : p + 1 = x
          · exact ⟨(p : Int), (mem_tonesN A _ n).2 ⟨p, hp, hA, rfl⟩, by simp [← e]⟩
          · simp [e] at hb
            exact ⟨(x : Int), (mem_tonesN A _ n).2 ⟨x, hx, hb.1, rfl⟩, by rw [if_neg (fun q => hb.2 (by omega))]⟩
        · rintro ⟨a, ha, rfl⟩
          obtain ⟨x, hx, hb, rfl⟩ := (mem_tonesN A a n).1 ha
          by_cases e : x = p
          · exact ⟨p + 1, h1, by rw [HB]; simp, by rw [if_pos (by omega)]⟩
          · exact ⟨x, hx, by rw [HB, hb]; simp; left; omega, by rw [if_neg (by omega)]⟩
    refine ⟨by rw [hL, List.length_map], 0, fun i hi => ?_⟩
    rw [show i + 0 = i from rfl, Nat.mod_eq_of_lt hi]
    obtain ⟨y, y1, y2, y3, y4⟩ := tonesTo_at A n i hi
    unfold tn
    rw [hL, getD_toNat_map hi, y3]
    by_cases e : y = p
    · simp [e]
    · rw [if_neg (by omega), Int.toNat_natCast, if_neg e]
  · rw [hu] at HB hq ⊢
    obtain rfl : p = n - 1 := by omega
    obtain ⟨m, rfl⟩ : ∃ m, n = m + 1 := ⟨n - 1, by omega⟩
    rw [Nat.add_sub_cancel] at *
    have hL0 : tonesTo A (m + 1) = tonesTo A m ++ [(m : Int)] := tonesTo_yes hA
    have hL : tonesTo (Tic.mv1 A m 0) (m + 1) = 0 :: tonesTo A m := by
      refine asc_ext _ _ (asc_tonesN _ _) ?_ (fun y => ?_)
      · rw [List.pairwise_cons]
        refine ⟨fun b hb => ?_, asc_tonesN A m⟩
        obtain ⟨v, hv1, hv2, rfl⟩ := (mem_tonesN A b m).1 hb
        have hv : v ≠ 0 := fun e => by rw [e, hq] at hv2; cases hv2
        omega
      · rw [mem_tonesN, List.mem_cons, mem_tonesN]
        constructor
        · rintro ⟨x, hx, hb, rfl⟩
          rw [HB] at hb
          by_cases e : 0 = x
          · left; omega
          · simp [e] at hb
            right
            exact ⟨x, by omega, hb.1, rfl⟩
        · rintro (rfl | ⟨x, hx, hb, rfl⟩)
          · exact ⟨0, by omega, by rw [HB]; simp, rfl⟩
          · exact ⟨x, by omega, by rw [HB, hb]; simp; left; omega, rfl⟩
    have hk : (tonesTo A (m + 1)).length = (tonesTo A m).length + 1 := by rw [hL0]; simp
    refine ⟨by rw [hL, hk, List.length_cons], 1, fun i hi => ?_⟩
    unfold tn
    rw [hL, hL0]
    rw [hL0] at hi
    rw [List.length_append, List.length_singleton] at hi ⊢
    by_cases e : i < (tonesTo A m).length
    · rw [Nat.mod_eq_of_lt (by omega)]
      obtain ⟨y, y1, y2, y3, y4⟩ := tonesTo_at A m i e
      have e1 : (tonesTo A m ++ [(m : Int)]).getD i 0 = (y : Int) := by rw [List.getD_eq_getElem?_getD, List.getElem?_append_left e, ← List.getD_eq_getElem?_getD, y3]
      have e2 : (0 :: tonesTo A m).getD (i + 1) 0 = (y : Int) := by rw [List.getD_cons_succ, y3]
      rw [e1, e2, Int.toNat_natCast, if_neg (by omega)]
    · obtain rfl : i = (tonesTo A m).length := by omega
      rw [Nat.mod_self]
      have e1 : (tonesTo A m ++ [(m : Int)]).getD (tonesTo A m).length 0 = (m : Int) := by simp [List.getD_eq_getElem?_getD]
      rw [e1, Int.toNat_natCast, if_pos rfl]; rfl
/-- both ways, a turn of the one is as far as a turn of the other, give or take 1 -/
theorem up_rc {n A B p : Nat} (hn : n < 13) (h2 : 2 ≤ n) (hp : p < n) (hA : A.testBit p = true) (hq : A.testBit (Tic.up n p) = false) (hl : (tonesTo A n).length = (tonesTo B n).length) :
    ∃ δ, ∀ j, rc n (Tic.mv1 A p (Tic.up n p)) B j ≤ rc n A B (δ + j) + 1 ∧ rc n A B (δ + j) ≤ rc n (Tic.mv1 A p (Tic.up n p)) B j + 1 := by
  obtain ⟨e1, δ, e2⟩ := up_turn hp h2 hA hq
  have he := en_tones A n
  have hb := en_tones B n
  refine ⟨δ, fun j => ?_⟩
  obtain ⟨l, hl1, hl2⟩ := he.on p hp hA
  have hk : 0 < (tonesTo A n).length := by omega
  have key : rc n (Tic.mv1 A p (Tic.up n p)) B j = smv (fun i => Tic.apt n (if tn A n i = p then Tic.up n p else tn A n i) (tn B n ((i + (δ + j)) % (tonesTo A n).length))) (tonesTo A n).length := by
    unfold rc ways
    rw [e1, ← smv_rot _ _ δ]
    refine smv_congr _ fun i hi => ?_
    show Tic.apt n (tn (Tic.mv1 A p (Tic.up n p)) n ((i + δ) % (tonesTo A n).length)) (tn B n (((i + δ) % (tonesTo A n).length + j) % (tonesTo A n).length)) = _
    rw [e2 i hi, Nat.mod_add_mod, Nat.add_assoc]
  have hother : ∀ i, i < (tonesTo A n).length → i ≠ l → Tic.apt n (if tn A n i = p then Tic.up n p else tn A n i) (tn B n ((i + (δ + j)) % (tonesTo A n).length)) = Tic.apt n (tn A n i) (tn B n ((i + (δ + j)) % (tonesTo A n).length)) := fun i hi hne => by
    rw [if_neg (fun q => hne (he.inj i l hi hl1 (q.trans hl2.symm)))]
  have hz : tn B n ((l + (δ + j)) % (tonesTo A n).length) < n := hb.lt _ (by rw [← hl]; exact Nat.mod_lt _ hk)
  have hu := apt_up n hn p hp _ hz
  rw [key]
  unfold rc ways
  constructor
  · refine smv_le1 hl1 hother ?_
    show Tic.apt n (if tn A n l = p then Tic.up n p else tn A n l) _ ≤ Tic.apt n (tn A n l) _ + 1
    rw [hl2, if_pos rfl]; exact hu.1
  · refine smv_le1 hl1 (fun i hi hne => (hother i hi hne).symm) ?_
    show Tic.apt n (tn A n l) _ ≤ Tic.apt n (if tn A n l = p then Tic.up n p else tn A n l) _ + 1
    rw [hl2, if_pos rfl]; exact hu.2
theorem up_lip {n A B p : Nat} (hn : n < 13) (h2 : 2 ≤ n) (hp : p < n) (hA : A.testBit p = true) (hq : A.testBit (Tic.up n p) = false) (hl : (tonesTo A n).length = (tonesTo B n).length) :
    dst n (Tic.mv1 A p (Tic.up n p)) B ≤ dst n A B + 1 ∧ dst n A B ≤ dst n (Tic.mv1 A p (Tic.up n p)) B + 1 := by
  obtain ⟨δ, h⟩ := up_rc hn h2 hp hA hq hl
  obtain ⟨e1, _⟩ := up_turn hp h2 hA hq
  have he := en_tones A n
  obtain ⟨l, hl1, hl2⟩ := he.on p hp hA
  have hk : 0 < (tonesTo A n).length := by omega
  constructor
  · obtain ⟨j, hj⟩ := dst_is (by omega) hl hk
    have hd : δ % (tonesTo A n).length < (tonesTo A n).length := Nat.mod_lt _ hk
    have := (h (j + ((tonesTo A n).length - δ % (tonesTo A n).length))).1
    rw [← rc_mod n A B (δ + _), ← Nat.mod_add_mod, show δ % (tonesTo A n).length + (j + ((tonesTo A n).length - δ % (tonesTo A n).length)) = j + (tonesTo A n).length by omega, Nat.add_mod_right, rc_mod, ← hj] at this
    exact Nat.le_trans (dst_le (by omega) (by omega) _) this
  · obtain ⟨j, hj⟩ := dst_is (n := n) (A := Tic.mv1 A p (Tic.up n p)) (B := B) (by omega) (by omega) (by omega)
    have := (h j).2
    rw [← hj] at this
    exact Nat.le_trans (dst_le hl hk _) this
theorem mv1_back {A p q : Nat} (hp : A.testBit p = true) (hq : A.testBit q = false) : Tic.mv1 (Tic.mv1 A p q) q p = A := by
  refine Nat.eq_of_testBit_eq fun i => ?_
  rw [Tic.mv1_bit, Tic.mv1_bit]
  by_cases e1 : p = i
  · subst e1; simp [hp]
  · by_cases e2 : q = i
    · subst e2; simp [hq, e1]
    · simp [e1, e2]
theorem Stp.back {n A p q : Nat} (h : Stp n A p q) : Stp n (Tic.mv1 A p q) q p := by
  obtain ⟨h1, h2, h3, h4, h5⟩ := h
  have hne : p ≠ q := fun e => by rw [e, h4] at h3; cases h3
  refine ⟨h2, h1, by rw [Tic.mv1_bit]; simp, by rw [Tic.mv1_bit]; simp; exact fun e => hne e.symm, ?_⟩
  rcases h5 with rfl | e
  · right; exact (Tic.up_dn h2 h1).1 rfl
  · left; exact (Tic.up_dn h1 h2).2 e
/-- a step of one tone changes the least way by at most 1 -/
theorem stp_lip {n A B p q : Nat} (hn : n < 13) (h2 : 2 ≤ n) (h : Stp n A p q) (hl : (tonesTo A n).length = (tonesTo B n).length) :
    (tonesTo (Tic.mv1 A p q) n).length = (tonesTo A n).length ∧ dst n (Tic.mv1 A p q) B ≤ dst n A B + 1 ∧ dst n A B ≤ dst n (Tic.mv1 A p q) B + 1 := by
  have hb := h.back
  obtain ⟨h1, h3, h4, h5, h6⟩ := h
  rcases h6 with rfl | e
  · exact ⟨(up_turn h1 h2 h4 h5).1, up_lip hn h2 h1 h4 h5 hl⟩
  · obtain ⟨b1, b2, b3, b4, b5⟩ := hb
    have e' : p = Tic.up n q := (Tic.up_dn b2 b1).2 e
    have hk := mv1_back h4 h5
    generalize Tic.mv1 A p q = A' at *
    subst e'
    obtain ⟨t1, _⟩ := up_turn b1 h2 b3 b4
    rw [hk] at t1
    have := up_lip (B := B) hn h2 b1 b3 b4 (by omega)
    rw [hk] at this
    exact ⟨t1.symm, this.2, this.1⟩
theorem len_sub {a b : Nat} : ∀ f, (∀ i, i < f → b.testBit i = true → a.testBit i = true) → (tonesTo b f).length ≤ (tonesTo a f).length ∧ ((tonesTo b f).length = (tonesTo a f).length → ∀ i, i < f → a.testBit i = true → b.testBit i = true)
  | 0, _ => ⟨Nat.le_refl _, fun _ i hi => absurd hi (by omega)⟩
  | f + 1, h => by
    obtain ⟨h1, h2⟩ := len_sub f (fun i hi hb => h i (by omega) hb)
    cases hb : b.testBit f with
    | true =>
      have ha := h f (by omega) hb
      rw [tonesTo_yes hb, tonesTo_yes ha]
      simp only [List.length_append, List.length_singleton]
      refine ⟨by omega, fun e i hi hia => ?_⟩
      by_cases q : i = f
      · rw [q]; exact hb
      · exact h2 (by omega) i (by omega) hia
    | false =>
      rw [tonesTo_no hb]
      cases ha : a.testBit f with
      | true =>
        rw [tonesTo_yes ha]
        simp only [List.length_append, List.length_singleton]
        exact ⟨by omega, fun e => by omega⟩
      | false =>
        rw [tonesTo_no ha]
        refine ⟨h1, fun e i hi hia => ?_⟩
        by_cases q : i = f
        · rw [q, ha] at hia; cases hia
        · exact h2 e i (by omega) hia
theorem dst_self {n A : Nat} (hn : n < 13) (h0 : 0 < (tonesTo A n).length) : dst n A A = 0 := by
  have := dst_le (n := n) (A := A) (B := A) rfl h0 0
  have e : rc n A A 0 = 0 := by
    unfold rc ways
    refine smv_zero _ fun i hi => ?_
    show Tic.apt n (tn A n i) (tn A n ((i + 0) % _)) = 0
    rw [show i + 0 = i from rfl, Nat.mod_eq_of_lt hi]
    exact apt_self n hn _ ((en_tones A n).lt i hi)
  omega
theorem sub_eq {n A B : Nat} (hA : A < 2 ^ n) (hB : B < 2 ^ n) (hl : (tonesTo A n).length = (tonesTo B n).length) (h : ∀ i, i < n → B.testBit i = true → A.testBit i = true) : A = B := by
  have := (len_sub n h).2 hl.symm
  refine Nat.eq_of_testBit_eq fun i => ?_
  by_cases hi : i < n
  · cases ha : A.testBit i with
    | true => exact (this i hi ha).symm
    | false =>
      cases hb : B.testBit i with
      | true => rw [h i hi hb] at ha; cases ha
      | false => rfl
  · rw [Nat.testBit_lt_two_pow (Nat.lt_of_lt_of_le hA (Nat.pow_le_pow_right (by decide) (by omega))), Nat.testBit_lt_two_pow (Nat.lt_of_lt_of_le hB (Nat.pow_le_pow_right (by decide) (by omega)))]
theorem Stp.lt {n A p q : Nat} (h : Stp n A p q) (hA : A < 2 ^ n) : Tic.mv1 A p q < 2 ^ n := Tic.mv1_lt hA h.2.1
/-- no pairing goes less far than the least turn -/
theorem dst_ways {n B : Nat} (hn : n < 13) (h2 : 2 ≤ n) (hB : B < 2 ^ n) {y : Nat → Nat} (hy : En n B (tonesTo B n).length y) (h0 : 0 < (tonesTo B n).length) : ∀ (c A : Nat) (x : Nat → Nat), A < 2 ^ n → (tonesTo A n).length = (tonesTo B n).length → En n A (tonesTo B n).length x → ways n x y (tonesTo B n).length ≤ c → dst n A B ≤ c := by
  intro c
  induction c with
  | zero =>
    intro A x hA hl hx hc
    by_cases h : ∃ l, l < (tonesTo B n).length ∧ A.testBit (y l) = false
    · obtain ⟨l, h1, h3⟩ := h
      obtain ⟨p, q, x', _, _, h5⟩ := dsc hn hy _ x l hx h1 rfl h3
      omega
    · have : A = B := sub_eq hA hB hl (fun i hi hb => by
        obtain ⟨l, h1, rfl⟩ := hy.on i hi hb
        cases q : A.testBit (y l) with
        | true => rfl
        | false => exact absurd ⟨l, h1, q⟩ h)
      subst this
      rw [dst_self hn h0]; exact Nat.zero_le _
  | succ c ih =>
    intro A x hA hl hx hc
    by_cases h : ∃ l, l < (tonesTo B n).length ∧ A.testBit (y l) = false
    · obtain ⟨l, h1, h3⟩ := h
      obtain ⟨p, q, x', hs, hx', h5⟩ := dsc hn hy _ x l hx h1 rfl h3
      obtain ⟨e1, e2, e3⟩ := stp_lip hn h2 hs hl
      have := ih (Tic.mv1 A p q) x' (hs.lt hA) (by omega) hx' (by omega)
      omega
    · have : A = B := sub_eq hA hB hl (fun i hi hb => by
        obtain ⟨l, h1, rfl⟩ := hy.on i hi hb
        cases q : A.testBit (y l) with
        | true => rfl
        | false => exact absurd ⟨l, h1, q⟩ h)
      subst this
      rw [dst_self hn h0]; exact Nat.zero_le _
/-- some step makes the least way less -/
theorem dst_step {n A B : Nat} (hn : n < 13) (h2 : 2 ≤ n) (hA : A < 2 ^ n) (hB : B < 2 ^ n) (hl : (tonesTo A n).length = (tonesTo B n).length) (h0 : 0 < (tonesTo B n).length) (hne : A ≠ B) :
    ∃ p q, Stp n A p q ∧ dst n (Tic.mv1 A p q) B + 1 = dst n A B := by
  obtain ⟨j, hj⟩ := dst_is (n := n) (by omega) hl (by omega)
  have hx := en_tones A n
  have hy := en_rot (en_tones B n) j
  rw [hl] at hx
  have hc : rc n A B j = ways n (tn A n) (fun i => tn B n ((i + j) % (tonesTo B n).length)) (tonesTo B n).length := by unfold rc; rw [hl]
  by_cases h : ∃ l, l < (tonesTo B n).length ∧ A.testBit ((fun i => tn B n ((i + j) % (tonesTo B n).length)) l) = false
  · obtain ⟨l, h1, h3⟩ := h
    obtain ⟨p, q, x', hs, hx', h5⟩ := dsc hn hy _ _ l hx h1 rfl h3
    obtain ⟨e1, e2, e3⟩ := stp_lip hn h2 hs hl
    have := dst_ways hn h2 hB hy h0 _ (Tic.mv1 A p q) x' (hs.lt hA) (by omega) hx' (Nat.le_refl _)
    exact ⟨p, q, hs, by omega⟩
  · exact absurd (sub_eq hA hB hl (fun i hi hb => by
      obtain ⟨l, h1, rfl⟩ := hy.on i hi hb
      cases q : A.testBit ((fun i => tn B n ((i + j) % (tonesTo B n).length)) l) with
      | true => rfl
      | false => exact absurd ⟨l, h1, q⟩ h)) hne
/-- the same both ways -/
theorem dst_symm {n A B : Nat} (hn : n < 13) (h2 : 2 ≤ n) (hl : (tonesTo A n).length = (tonesTo B n).length) (h0 : 0 < (tonesTo B n).length) : dst n A B = dst n B A := by
  have half : ∀ A B : Nat, (tonesTo A n).length = (tonesTo B n).length → 0 < (tonesTo B n).length → dst n A B ≤ dst n B A := fun A B hl h0 => by
    obtain ⟨j, hj⟩ := dst_is (n := n) (A := B) (B := A) (by omega) hl.symm h0
    have hk : (tonesTo A n).length = (tonesTo B n).length := hl
    have hd : j % (tonesTo B n).length < (tonesTo B n).length := Nat.mod_lt _ h0
    have e : rc n B A j = rc n A B ((tonesTo B n).length - j % (tonesTo B n).length) := by
      unfold rc ways
      rw [hk, ← smv_rot _ (tonesTo B n).length ((tonesTo B n).length - j % (tonesTo B n).length)]
      refine smv_congr _ fun i hi => ?_
      show Tic.apt n (tn B n ((i + ((tonesTo B n).length - j % (tonesTo B n).length)) % (tonesTo B n).length)) (tn A n (((i + ((tonesTo B n).length - j % (tonesTo B n).length)) % (tonesTo B n).length + j) % (tonesTo B n).length)) = _
      rw [Nat.mod_add_mod, ← Nat.add_mod_mod (i + ((tonesTo B n).length - j % (tonesTo B n).length)) j, show i + ((tonesTo B n).length - j % (tonesTo B n).length) + j % (tonesTo B n).length = i + (tonesTo B n).length by omega, Nat.add_mod_right, Nat.mod_eq_of_lt hi]
      exact apt_symm n hn _ ((en_tones B n).lt _ (Nat.mod_lt _ h0)) _ ((en_tones A n).lt _ (by omega))
    rw [hj, e]
    exact dst_le hl (by omega) _
  exact Nat.le_antisymm (half A B hl h0) (half B A hl.symm (by omega))
theorem dst_pos {n A B : Nat} (hn : n < 13) (h2 : 2 ≤ n) (hA : A < 2 ^ n) (hB : B < 2 ^ n) (hl : (tonesTo A n).length = (tonesTo B n).length) (h0 : 0 < (tonesTo B n).length) : dst n A B = 0 ↔ A = B := by
  constructor
  · intro h
    refine Classical.byContradiction fun hne => ?_
    obtain ⟨p, q, _, e⟩ := dst_step hn h2 hA hB hl h0 hne
    omega
  · rintro rfl
    exact dst_self hn h0
end Go.Proofs.YtjgkignnfkbeaaaTro

/-
  Plain mathematics of the model's search: sets are met in the order of how far they are, and each is told how far it is.
-/
namespace Go.Proofs.YtjgkignnfkbeaaaTro
set_option linter.unusedVariables false

/-- as many tones as s -/
def Lk (n s S : Nat) : Prop := S < 2 ^ n ∧ (tonesTo S n).length = (tonesTo s n).length
theorem Lk.step {n s S p q : Nat} (hn : n < 13) (h2 : 2 ≤ n) (h : Lk n s S) (hs : Stp n S p q) : Lk n s (Tic.mv1 S p q) :=
  ⟨hs.lt h.1, (stp_lip (B := S) hn h2 hs rfl).1.trans h.2⟩
/-- the state of the search: O what is told of each set, T the sets met, i how many of them are done, m how many moves of the next one are done -/
structure Bf (n s : Nat) (O T : List Int) (i m : Nat) : Prop where
  olen : O.length = 2 ^ n
  mem : ∀ v ∈ T, ∃ S, Lk n s S ∧ v = (S : Int) ∧ O.getD S 0 = (dst n S s : Int)
  neg : ∀ S : Nat, S < 2 ^ n → (S : Int) ∉ T → O.getD S 0 = -1
  start : (s : Int) ∈ T
  nodup : T.Nodup
  sorted : ∀ a b, a < b → b < T.length → dst n (T.getD a 0).toNat s ≤ dst n (T.getD b 0).toNat s
  band : i < T.length → ∀ a, a < T.length → dst n (T.getD a 0).toNat s ≤ dst n (T.getD i 0).toNat s + 1
  closed : ∀ a, a < i → a < T.length → ∀ p q, Stp n (T.getD a 0).toNat p q → (Tic.mv1 (T.getD a 0).toNat p q : Int) ∈ T
  part : i < T.length → ∀ x j, x < n → j < 2 → 2 * x + j < m → (T.getD i 0).toNat.testBit x = true → (T.getD i 0).toNat.testBit (if j = 0 then Tic.dn n x else Tic.up n x) = false → (Tic.mv1 (T.getD i 0).toNat x (if j = 0 then Tic.dn n x else Tic.up n x) : Int) ∈ T
theorem getD_mem {T : List Int} {a : Nat} (h : a < T.length) : T.getD a 0 ∈ T := by
  rw [List.getD_eq_getElem?_getD, List.getElem?_eq_getElem h]; exact List.getElem_mem h
theorem mem_getD {T : List Int} {v : Int} (h : v ∈ T) : ∃ a, a < T.length ∧ T.getD a 0 = v := by
  obtain ⟨a, ha, e⟩ := List.getElem_of_mem h
  exact ⟨a, ha, by rw [List.getD_eq_getElem?_getD, List.getElem?_eq_getElem ha, e]; rfl⟩
theorem Bf.at {n s : Nat} {O T : List Int} {i m : Nat} (h : Bf n s O T i m) {a : Nat} (ha : a < T.length) : ∃ S, Lk n s S ∧ T.getD a 0 = (S : Int) ∧ O.getD S 0 = (dst n S s : Int) := h.mem _ (getD_mem ha)
/-- sets that are less far than the one at hand have been met -/
theorem Bf.early {n s : Nat} {O T : List Int} {i m : Nat} (h : Bf n s O T i m) (hn : n < 13) (h2 : 2 ≤ n) (hs : s < 2 ^ n) (h0 : 0 < (tonesTo s n).length) (hi : i < T.length) :
    ∀ d S, Lk n s S → dst n S s = d → d < dst n (T.getD i 0).toNat s → (S : Int) ∈ T
  | 0, S, hS, hd, _ => by
    rw [(dst_pos hn h2 hS.1 hs hS.2 h0).1 hd]; exact h.start
  | d + 1, S, hS, hd, hlt => by
    have hne : S ≠ s := fun e => by rw [e, dst_self hn h0] at hd; omega
    obtain ⟨p, q, hst, he⟩ := dst_step hn h2 hS.1 hs hS.2 h0 hne
    have ih := Bf.early h hn h2 hs h0 hi d (Tic.mv1 S p q) (hS.step hn h2 hst) (by omega) (by omega)
    obtain ⟨a, ha, hav⟩ := mem_getD ih
    have hai : a < i := by
      rcases Nat.lt_or_ge a i with q | q
      · exact q
      · exfalso
        rcases Nat.lt_or_ge i a with r | r
        · have := h.sorted i a r ha
          rw [hav, Int.toNat_natCast] at this; omega
        · obtain rfl : a = i := by omega
          rw [hav, Int.toNat_natCast] at hlt; omega
    have := h.closed a hai ha q p (by rw [hav, Int.toNat_natCast]; exact hst.back)
    rw [hav, Int.toNat_natCast, mv1_back hst.2.2.1 hst.2.2.2.1] at this
    exact this
/-- a set that is no further than the one at hand and a step from it has been met -/
theorem Bf.level {n s : Nat} {O T : List Int} {i m : Nat} (h : Bf n s O T i m) (hn : n < 13) (h2 : 2 ≤ n) (hs : s < 2 ^ n) (h0 : 0 < (tonesTo s n).length) (hi : i < T.length) (S : Nat) (hS : Lk n s S) (hd : dst n S s ≤ dst n (T.getD i 0).toNat s) : (S : Int) ∈ T := by
  by_cases hz : S = s
  · rw [hz]; exact h.start
  · obtain ⟨p, q, hst, he⟩ := dst_step hn h2 hS.1 hs hS.2 h0 hz
    have ih := h.early hn h2 hs h0 hi (dst n (Tic.mv1 S p q) s) (Tic.mv1 S p q) (hS.step hn h2 hst) rfl (by omega)
    obtain ⟨a, ha, hav⟩ := mem_getD ih
    have hai : a < i := by
      rcases Nat.lt_or_ge a i with q | q
      · exact q
      · exfalso
        rcases Nat.lt_or_ge i a with r | r
        · have := h.sorted i a r ha
          rw [hav, Int.toNat_natCast] at this; omega
        · obtain rfl : a = i := by omega
          rw [hav, Int.toNat_natCast] at hd; omega
    have := h.closed a hai ha q p (by rw [hav, Int.toNat_natCast]; exact hst.back)
    rw [hav, Int.toNat_natCast, mv1_back hst.2.2.1 hst.2.2.2.1] at this
    exact this
theorem stp_of {n S x j : Nat} (hx : x < n) (hb : S.testBit x = true) (hc : S.testBit (if j = 0 then Tic.dn n x else Tic.up n x) = false) : Stp n S x (if j = 0 then Tic.dn n x else Tic.up n x) := by
  by_cases e : j = 0
  · simp only [e, if_true] at hc ⊢; exact ⟨hx, Tic.dn_lt hx, hb, hc, .inr rfl⟩
  · simp only [e, if_false] at hc ⊢; exact ⟨hx, Tic.up_lt hx, hb, hc, .inl rfl⟩
/-- a move that meets nothing new -/
theorem Bf.stay {n s : Nat} {O T : List Int} {i x j : Nat} (h : Bf n s O T i (2 * x + j)) (hx : x < n) (hj : j < 2) (hi : i < T.length)
    (hq : (T.getD i 0).toNat.testBit x = true → (T.getD i 0).toNat.testBit (if j = 0 then Tic.dn n x else Tic.up n x) = false → (Tic.mv1 (T.getD i 0).toNat x (if j = 0 then Tic.dn n x else Tic.up n x) : Int) ∈ T) : Bf n s O T i (2 * x + j + 1) :=
  ⟨h.olen, h.mem, h.neg, h.start, h.nodup, h.sorted, h.band, h.closed, fun _ x' j' hx' hj' hlt hb hc => by
    by_cases e : 2 * x' + j' = 2 * x + j
    · obtain ⟨rfl, rfl⟩ : x' = x ∧ j' = j := by omega
      exact hq hb hc
    · exact h.part hi x' j' hx' hj' (by omega) hb hc⟩
theorem getD_app {T : List Int} {v : Int} {a : Nat} (h : a < T.length) : (T ++ [v]).getD a 0 = T.getD a 0 := by
  rw [List.getD_eq_getElem?_getD, List.getElem?_append_left h, ← List.getD_eq_getElem?_getD]
theorem getD_last {T : List Int} {v : Int} : (T ++ [v]).getD T.length 0 = v := by simp [List.getD_eq_getElem?_getD]
theorem getD_set {O : List Int} {a b : Nat} {v : Int} (hb : b < O.length) : (O.set b v).getD a 0 = if a = b then v else O.getD a 0 := by
  rw [List.getD_eq_getElem?_getD, List.getD_eq_getElem?_getD, List.getElem?_set]
  by_cases e : b = a
  · subst e; simp [hb]
  · have e' : ¬ a = b := fun q => e q.symm
    simp [e, e']
/-- a move that meets a new set -/
theorem Bf.new {n s : Nat} {O T : List Int} {i x j : Nat} (h : Bf n s O T i (2 * x + j)) (hn : n < 13) (h2 : 2 ≤ n) (hs : s < 2 ^ n) (h0 : 0 < (tonesTo s n).length) (hx : x < n) (hj : j < 2) (hi : i < T.length)
    (hb : (T.getD i 0).toNat.testBit x = true) (hc : (T.getD i 0).toNat.testBit (if j = 0 then Tic.dn n x else Tic.up n x) = false) (hO : O.getD (Tic.mv1 (T.getD i 0).toNat x (if j = 0 then Tic.dn n x else Tic.up n x)) 0 < 0) :
    Bf n s (O.set (Tic.mv1 (T.getD i 0).toNat x (if j = 0 then Tic.dn n x else Tic.up n x)) (O.getD (T.getD i 0).toNat 0 + 1)) (T ++ [(Tic.mv1 (T.getD i 0).toNat x (if j = 0 then Tic.dn n x else Tic.up n x) : Int)]) i (2 * x + j + 1) := by
  have hst := stp_of hx hb hc
  obtain ⟨N, hN, hTi, hON⟩ := h.at hi
  rw [hTi, Int.toNat_natCast] at hst hO ⊢
  have hYN := hN.step hn h2 hst
  have hlip := (stp_lip (B := s) hn h2 hst hN.2).2.1
  generalize hY : Tic.mv1 N x (if j = 0 then Tic.dn n x else Tic.up n x) = Y at *
  have hnot : (Y : Int) ∉ T := fun hm => by
    obtain ⟨S, _, e, e2⟩ := h.mem _ hm
    have : Y = S := by omega
    subst this
    omega
  have hD : dst n Y s = dst n N s + 1 := by
    rcases Nat.lt_or_ge (dst n N s) (dst n Y s) with q | q
    · omega
    · exact absurd (h.level hn h2 hs h0 hi Y hYN (by rw [hTi, Int.toNat_natCast]; exact q)) hnot
  have hYl : Y < O.length := by rw [h.olen]; exact hYN.1
  have hne : ∀ S : Nat, (S : Int) ∈ T → S ≠ Y := fun S hm e => hnot (by rw [← e]; exact hm)
  refine ⟨by rw [List.length_set]; exact h.olen, fun v hv => ?_, fun S hS hm => ?_, List.mem_append_left _ h.start, ?_, fun a b hab hbl => ?_, fun _ a ha => ?_, fun a hai hal p q hpq => ?_, fun _ x' j' hx' hj' hlt hb' hc' => ?_⟩
  · rcases List.mem_append.1 hv with hv | hv
    · obtain ⟨S, h1, rfl, h3⟩ := h.mem v hv
      exact ⟨S, h1, rfl, by rw [getD_set hYl, if_neg (hne S hv)]; exact h3⟩
    · rw [List.mem_singleton] at hv
      exact ⟨Y, hYN, hv, by rw [getD_set hYl, if_pos rfl, hON, hD]; omega⟩
  · have h1 : (S : Int) ∉ T := fun q => hm (List.mem_append_left _ q)
    have h3 : S ≠ Y := fun q => hm (List.mem_append_right _ (by rw [q]; exact List.mem_singleton.2 rfl))
    rw [getD_set hYl, if_neg h3]
    exact h.neg S hS h1
  · rw [List.nodup_append]
    refine ⟨h.nodup, List.nodup_cons.2 ⟨List.not_mem_nil, List.nodup_nil⟩, fun a ha b hb e => ?_⟩
    rw [List.mem_singleton] at hb
    exact hnot (by rw [← hb, ← e]; exact ha)
  · rw [List.length_append, List.length_singleton] at hbl
    by_cases e : b < T.length
    · rw [getD_app (by omega), getD_app e]; exact h.sorted a b hab e
    · obtain rfl : b = T.length := by omega
      rw [getD_app hab, getD_last, Int.toNat_natCast]
      have := h.band hi a hab
      rw [hTi, Int.toNat_natCast] at this
      omega
  · rw [List.length_append, List.length_singleton] at ha
    rw [getD_app hi, hTi, Int.toNat_natCast]
    by_cases e : a < T.length
    · rw [getD_app e]
      have := h.band hi a e
      rw [hTi, Int.toNat_natCast] at this
      exact this
    · obtain rfl : a = T.length := by omega
      rw [getD_last, Int.toNat_natCast]; omega
  · rw [getD_app (by omega)] at hpq ⊢
    exact List.mem_append_left _ (h.closed a hai (by omega) p q hpq)
  · rw [getD_app hi] at hb' hc' ⊢
    by_cases e : 2 * x' + j' = 2 * x + j
    · obtain ⟨rfl, rfl⟩ : x' = x ∧ j' = j := by omega
      rw [hTi, Int.toNat_natCast, hY]
      exact List.mem_append_right _ (List.mem_singleton.2 rfl)
    · exact List.mem_append_left _ (h.part hi x' j' hx' hj' (by omega) hb' hc')
/-- all moves of one done -/
theorem Bf.next {n s : Nat} {O T : List Int} {i : Nat} (h : Bf n s O T i (2 * n)) (hi : i < T.length) : Bf n s O T (i + 1) 0 :=
  ⟨h.olen, h.mem, h.neg, h.start, h.nodup, h.sorted, fun hi1 a ha => by
    have h1 := h.band hi a ha
    have h2 := h.sorted i (i + 1) (by omega) hi1
    omega, fun a hai hal p q hpq => by
    by_cases e : a = i
    · subst e
      obtain ⟨h1, h2, h3, h4, h5⟩ := hpq
      rcases h5 with e | e
      · have := h.part hi p 1 h1 (by omega) (by omega) h3 (by simp only [Nat.one_ne_zero, if_false]; rw [← e]; exact h4)
        simp only [Nat.one_ne_zero, if_false] at this
        rw [e]; exact this
      · have := h.part hi p 0 h1 (by omega) (by omega) h3 (by simp only [if_true]; rw [← e]; exact h4)
        simp only [if_true] at this
        rw [e]; exact this
    · exact h.closed a (by omega) hal p q hpq, fun _ x j _ _ hlt => by omega⟩
/-- at the end all sets of as many tones have been met -/
theorem Bf.all {n s : Nat} {O T : List Int} {m : Nat} (h : Bf n s O T T.length m) (hn : n < 13) (h2 : 2 ≤ n) (hs : s < 2 ^ n) (h0 : 0 < (tonesTo s n).length) : ∀ d S, Lk n s S → dst n S s = d → O.getD S 0 = (dst n S s : Int) := by
  have key : ∀ d S, Lk n s S → dst n S s = d → (S : Int) ∈ T := by
    intro d
    induction d with
    | zero => intro S hS hd; rw [(dst_pos hn h2 hS.1 hs hS.2 h0).1 hd]; exact h.start
    | succ d ih =>
      intro S hS hd
      have hne : S ≠ s := fun e => by rw [e, dst_self hn h0] at hd; omega
      obtain ⟨p, q, hst, he⟩ := dst_step hn h2 hS.1 hs hS.2 h0 hne
      have := ih (Tic.mv1 S p q) (hS.step hn h2 hst) (by omega)
      obtain ⟨a, ha, hav⟩ := mem_getD this
      have := h.closed a ha ha q p (by rw [hav, Int.toNat_natCast]; exact hst.back)
      rw [hav, Int.toNat_natCast, mv1_back hst.2.2.1 hst.2.2.2.1] at this
      exact this
  intro d S hS hd
  obtain ⟨S', _, e, e2⟩ := h.mem _ (key d S hS hd)
  have : S = S' := by omega
  subst this
  exact e2
/-- the beginning -/
theorem Bf.first {n s : Nat} (hn : n < 13) (hs : s < 2 ^ n) (h0 : 0 < (tonesTo s n).length) : Bf n s ((List.replicate (2 ^ n) (-1)).set s 0) [(s : Int)] 0 0 := by
  have hl : s < (List.replicate (2 ^ n) (-1 : Int)).length := by rw [List.length_replicate]; exact hs
  refine ⟨by simp, fun v hv => ?_, fun S hS hm => ?_, List.mem_singleton.2 rfl, List.nodup_cons.2 ⟨List.not_mem_nil, List.nodup_nil⟩, fun a b hab hbl => by simp at hbl; omega, fun _ a ha => ?_, fun a ha => by omega, fun _ x j _ _ hlt => by omega⟩
  · rw [List.mem_singleton] at hv
    exact ⟨s, ⟨hs, rfl⟩, hv, by rw [getD_set hl, if_pos rfl, dst_self hn h0]; rfl⟩
  · have : S ≠ s := fun e => hm (by rw [e]; exact List.mem_singleton.2 rfl)
    rw [getD_set hl, if_neg this, List.getD_eq_getElem?_getD, List.getElem?_replicate, if_pos hS]; rfl
  · simp at ha; subst ha; omega
/-- there are no more sets met than there are -/
theorem nodup_le : ∀ (p : Nat) (T : List Int), T.Nodup → (∀ v ∈ T, ∃ S : Nat, S < p ∧ v = (S : Int)) → T.length ≤ p
  | 0, T, _, h => by
    cases T with
    | nil => exact Nat.le_refl _
    | cons v T => obtain ⟨S, h1, _⟩ := h v (by simp); omega
  | p + 1, T, hn, h => by
    have h1 := nodup_le p (T.erase (p : Int)) (hn.erase _) (fun v hv => by
      obtain ⟨S, hS, e⟩ := h v (List.mem_of_mem_erase hv)
      have : v ≠ (p : Int) := fun q => by rw [q] at hv; exact (List.Nodup.not_mem_erase hn) hv
      exact ⟨S, by omega, e⟩)
    have h2 := List.length_erase (a := (p : Int)) (l := T)
    split at h2 <;> omega
theorem Bf.len {n s : Nat} {O T : List Int} {i m : Nat} (h : Bf n s O T i m) : T.length ≤ 2 ^ n := nodup_le _ _ h.nodup (fun v hv => by
  obtain ⟨S, h1, e, _⟩ := h.mem v hv; exact ⟨S, h1.1, e⟩)
theorem Bf.room {n s : Nat} {O T : List Int} {i m Y : Nat} (h : Bf n s O T i m) (hY : Y < 2 ^ n) (hO : O.getD Y 0 < 0) : T.length < 2 ^ n := by
  have := nodup_le (2 ^ n) ((Y : Int) :: T) (List.nodup_cons.2 ⟨fun hm => by
    obtain ⟨S, _, e, e2⟩ := h.mem _ hm
    have : Y = S := by omega
    subst this; omega, h.nodup⟩) (fun v hv => by
      rcases List.mem_cons.1 hv with rfl | hv
      · exact ⟨Y, hY, rfl⟩
      · obtain ⟨S, h1, e, _⟩ := h.mem v hv; exact ⟨S, h1.1, e⟩)
  simp at this; omega
/-- the set with the tone x moved to y, as the model reckons it -/
theorem mv1_sum {S x y : Nat} (hx : S.testBit x = true) (hy : S.testBit y = false) : (Tic.mv1 S x y : Int) = (S : Int) - ((2 ^ x : Nat) : Int) + ((2 ^ y : Nat) : Int) := by
  have h1 : Tic.nd S (2 ^ x) ||| 2 ^ x = S := by
    refine Nat.eq_of_testBit_eq fun i => ?_
    rw [Nat.testBit_or, Tic.nd_bit, Nat.testBit_two_pow]
    by_cases e : x = i
    · subst e; simp [hx]
    · simp [e]
  have h2 := Tic.or_pow_add (a := Tic.nd S (2 ^ x)) (i := x) (by rw [Tic.nd_bit, Nat.testBit_two_pow]; simp)
  have h3 := Tic.or_pow_add (a := Tic.nd S (2 ^ x)) (i := y) (by rw [Tic.nd_bit, hy]; rfl)
  unfold Tic.mv1
  rw [h3]
  rw [h1] at h2
  omega
end Go.Proofs.YtjgkignnfkbeaaaTro

/-
  FarOf of the model and of the program, where a sequential body stands for nearestTo.
-/
namespace Go.Proofs.YtjgkignnfkbeaaaTro
open Go.RowKit
set_option linter.unusedVariables false
set_option maxRecDepth 20000

set_option maxHeartbeats 400000 in
theorem validPair_any (n A B : Int) (w : World) : Calls Tro.prog 44 #[.int .i64 n, .int .i64 A, .int .i64 B] w fun e w' => e = .returned (.bool (vv n A B)) ∧ w = w' := by
  rcases Classical.em (Tic.Valid n A) with hA | hA
  · rcases Classical.em (Tic.Valid n B) with hB | hB
    · have hAl := hA.lt
      have hBl := hB.lt
      have a0 := hA.2.2.1
      have b0 := hB.2.2.1
      have HV : Hid (vv n A B = ((((Tic.wt 12 A.toNat : Nat) : Int) == ((Tic.wt 12 B.toNat : Nat) : Int)) && decide (0 < A))) := Lib.hid (by
        by_cases hw : Tic.wt 12 A.toNat = Tic.wt 12 B.toNat
        · by_cases h0 : A = 0
          · rw [vv_no (fun h => h.2.2.1 h0)]; simp [h0]
          · rw [vv_yes ⟨hA, hB, h0, hw⟩, hw]; simp; omega
        · rw [vv_no (fun h => hw h.2.2.2)]; symm; rw [beq_eq_false_iff_ne.2 (fun e => hw (by omega)), Bool.false_and])
      go_enter Tro.func44, Tro.ntmps44
      go_wp2_with fail
      refine (validSet_yes _ _ _ hA).mono ?_; rintro e w1 ⟨rfl, rfl⟩
      go_wp2_with fail
      refine (validSet_yes _ _ _ hB).mono ?_; rintro e w1 ⟨rfl, rfl⟩
      go_wp2_with fail
      refine (weight_any A _ (by omega) (by omega)).mono ?_; rintro e w1 ⟨rfl, rfl⟩
      go_wp2_with fail
      refine (weight_any B _ (by omega) (by omega)).mono ?_; rintro e w2 ⟨rfl, rfl⟩
      generalize Tic.wt 12 A.toNat = p at *
      generalize Tic.wt 12 B.toNat = q at *
      by_cases hpq : p = q
      · subst hpq
        have HV2 : Hid (vv n A B = decide (0 < A)) := Lib.hid (by rw [HV.out]; simp)
        clear HV
        go_wp2_with fail
        go_ret
        exact ⟨ret_bool HV2.out.symm, rfl⟩
      · have hne : ((p : Int) == (q : Int)) = false := beq_eq_false_iff_ne.2 (fun e => hpq (by omega))
        have HV2 : Hid (vv n A B = false) := Lib.hid (by rw [HV.out, hne]; rfl)
        have hne2 : ¬ ((p : Int) = (q : Int)) := fun e => hpq (by omega)
        clear HV
        go_wp2_with fail
        go_ret
        exact ⟨ret_bool HV2.out.symm, rfl⟩
    · rw [vv_no (fun h => hB h.2.1)]
      go_enter Tro.func44, Tro.ntmps44
      go_wp2_with fail
      refine (validSet_yes _ _ _ hA).mono ?_; rintro e w1 ⟨rfl, rfl⟩
      go_wp2_with fail
      refine (validSet_no _ _ _ hB).mono ?_; rintro e w1 ⟨rfl, rfl⟩
      go_wp2_with fail
      go_ret
      exact ⟨rfl, rfl⟩
  · rw [vv_no (fun h => hA h.1)]
    go_enter Tro.func44, Tro.ntmps44
    go_wp2_with fail
    refine (validSet_no _ _ _ hA).mono ?_; rintro e w1 ⟨rfl, rfl⟩
    go_wp2_with fail
    go_ret
    exact ⟨rfl, rfl⟩
/-- a number and a fresh list -/
def GivesP (p : Int) (L : List Int) (w : World) (e : Ending) (w' : World) : Prop := ∃ v, e = .returned (.tuple #[.int .i64 p, v]) ∧ Row w' w.heap.size v L ∧ Below w.heap.size w w'
theorem iFarOf_no (n A B : Int) (w : World) (h : ¬ Voices n A B) : Calls Tro.prog 13 #[.int .i64 n, .int .i64 A, .int .i64 B] w (GivesP (-1) [] w) := by
  have HV : Hid (∀ w, Calls Tro.prog 41 #[.int .i64 n, .int .i64 A, .int .i64 B] w fun e w' => e = .returned (.bool false) ∧ Below w.heap.size w w') := Lib.hid (fun w => by have := validVoices_any n A B w; rw [vv_no h] at this; exact this)
  go_enter Tro.func13, Tro.ntmps13
  go_wp2_with fail
  refine (HV.out _).mono ?_; rintro e w1 ⟨rfl, hb1⟩
  go_wp2_with fail
  go_ret2
  exact ⟨_, rfl, Row.nil _ _, hb1⟩
theorem sFarOf_no (n A B : Int) (w : World) (h : ¬ Voices n A B) : Calls Tro.prog 14 #[.int .i64 n, .int .i64 A, .int .i64 B] w (GivesP (-1) [] w) := by
  have HV : Hid (∀ w, Calls Tro.prog 44 #[.int .i64 n, .int .i64 A, .int .i64 B] w fun e w' => e = .returned (.bool false) ∧ w = w') := Lib.hid (fun w => by have := validPair_any n A B w; rw [vv_no h] at this; exact this)
  go_enter Tro.func14, Tro.ntmps14
  go_wp2_with fail
  refine (HV.out _).mono ?_; rintro e w1 ⟨rfl, rfl⟩
  go_wp2_with fail
  go_ret2
  exact ⟨_, rfl, Row.nil _ _, Below.refl _ _⟩
set_option maxHeartbeats 400000 in
theorem iFarOf_yes (n A B : Int) (w : World) (h : Voices n A B) (hj : (stubP n A B).2 < (tonesTo B.toNat n.toNat).length) : Calls Tro.prog 13 #[.int .i64 n, .int .i64 A, .int .i64 B] w (GivesP (stubP n A B).1 (rotL (tonesTo B.toNat n.toNat) (stubP n A B).2) w) := by
  have HV : Hid (∀ w, Calls Tro.prog 41 #[.int .i64 n, .int .i64 A, .int .i64 B] w fun e w' => e = .returned (.bool true) ∧ Below w.heap.size w w') := Lib.hid (fun w => by have := validVoices_any n A B w; rw [vv_yes h] at this; exact this)
  have HP := Lib.hid (fun w => stub_any n A B w h)
  have HL := Lib.hid (fun w => listFrom_any n B (stubP n A B).2 w h.2.1 hj)
  generalize stubP n A B = st at *
  obtain ⟨best, at'⟩ := st
  generalize rotL (tonesTo B.toNat n.toNat) at' = R at *
  simp only at HP HL ⊢
  clear hj
  go_enter Tro.func13, Tro.ntmps13
  have hbb := (Below.refl w.heap.size w)
  go_wp2_with fail
  refine (HV.out _).mono ?_; rintro e w1 ⟨rfl, hb1⟩
  have HB1 := Lib.hid hb1
  have hz1 := hb1.size
  clear hb1 hbb
  go_wp2_with fail
  have c0 : (w1.alloc (.cells #[.int .i64 n, .int .i64 B] 47)).cell? ⟨w1.heap.size, 0, none⟩ = some (.int .i64 n) := by rw [World.cell?_alloc_at _ _ _ _ rfl]; rfl
  have c1 : (w1.alloc (.cells #[.int .i64 n, .int .i64 B] 47)).cell? ⟨w1.heap.size, 1, none⟩ = some (.int .i64 B) := by rw [World.cell?_alloc_at _ _ _ _ rfl]; rfl
  have hs1 : (w1.alloc (.cells #[.int .i64 n, .int .i64 B] 47)).heap.size = w1.heap.size + 1 := by simp
  refine (HP.out _).mono ?_; rintro e w2 ⟨rfl, hb2⟩
  have d0 := (hb2.cell (p := ⟨w1.heap.size, 0, none⟩) (by show w1.heap.size < _; omega)).trans c0
  have d1 := (hb2.cell (p := ⟨w1.heap.size, 1, none⟩) (by show w1.heap.size < _; omega)).trans c1
  have hz2 := hb2.size
  have hlt : w1.heap.size < w2.heap.size := by omega
  have HB2 := Lib.hid ((HB1.out.alloc hz1 (.cells #[.int .i64 n, .int .i64 B] 47)).trans (hb2.mono (by omega)))
  clear hb2 c0 c1
  go_wp2_with fail
  have f0 : (w2.alloc (.cells #[.int .i64 (at' : Int), .int .i64 (best : Int)] 49)).cell? ⟨w2.heap.size, 0, none⟩ = some (.int .i64 (at' : Int)) := by rw [World.cell?_alloc_at _ _ _ _ rfl]; rfl
  have f1 : (w2.alloc (.cells #[.int .i64 (at' : Int), .int .i64 (best : Int)] 49)).cell? ⟨w2.heap.size, 1, none⟩ = some (.int .i64 (best : Int)) := by rw [World.cell?_alloc_at _ _ _ _ rfl]; rfl
  have g0 := (World.cell?_alloc_lt w2 (.cells #[.int .i64 (at' : Int), .int .i64 (best : Int)] 49) (a := ⟨w1.heap.size, 0, none⟩) hlt).trans d0
  have g1 := (World.cell?_alloc_lt w2 (.cells #[.int .i64 (at' : Int), .int .i64 (best : Int)] 49) (a := ⟨w1.heap.size, 1, none⟩) hlt).trans d1
  have hs2 : (w2.alloc (.cells #[.int .i64 (at' : Int), .int .i64 (best : Int)] 49)).heap.size = w2.heap.size + 1 := by simp
  have HB3 := Lib.hid (HB2.out.alloc HB2.out.size (.cells #[.int .i64 (at' : Int), .int .i64 (best : Int)] 49))
  clear d0 d1
  generalize w2.alloc (.cells #[.int .i64 (at' : Int), .int .i64 (best : Int)] 49) = w3 at *
  have hl1 : w1.heap.size < w3.heap.size := by omega
  have hl2 : w2.heap.size < w3.heap.size := by omega
  have HC : Hid (∀ W, Below w3.heap.size w3 W → W.cell? ⟨w1.heap.size, 0, none⟩ = some (.int .i64 n) ∧ W.cell? ⟨w1.heap.size, 1, none⟩ = some (.int .i64 B) ∧ W.cell? ⟨w2.heap.size, 0, none⟩ = some (.int .i64 (at' : Int)) ∧ W.cell? ⟨w2.heap.size, 1, none⟩ = some (.int .i64 (best : Int))) := Lib.hid (fun W hW => ⟨(hW.cell (p := ⟨w1.heap.size, 0, none⟩) hl1).trans g0, (hW.cell (p := ⟨w1.heap.size, 1, none⟩) hl1).trans g1, (hW.cell (p := ⟨w2.heap.size, 0, none⟩) hl2).trans f0, (hW.cell (p := ⟨w2.heap.size, 1, none⟩) hl2).trans f1⟩)
  have hz3 := HB3.out.size
  clear hs1 hs2 hl1 hl2 hz2 hlt HB2 hz1 HB1
  have HL3 : Hid (∀ W, Below w3.heap.size w3 W → Calls Tro.prog 43 #[.agg #[.int .i64 n, .int .i64 B], .int .i64 (at' : Int)] W fun e w' => ∃ v, e = .returned v ∧ Row w' w.heap.size v R ∧ Below w3.heap.size w3 w') := Lib.hid (fun W hW => (HL.out W).mono (by rintro e w' ⟨v, rfl, hr, hb⟩; exact ⟨v, rfl, hr.mono (Nat.le_trans hz3 hW.size), hW.trans (hb.mono hW.size)⟩))
  have hk0 : Below w3.heap.size w3 w3 := Below.refl _ _
  clear HL HP HV
  generalize w1.heap.size = b8 at *
  generalize w2.heap.size = b9 at *
  go_region_held3 (fun W => W.cell? ⟨b8, 0, none⟩ = some (.int .i64 n) ∧ W.cell? ⟨b8, 1, none⟩ = some (.int .i64 B) ∧ W.cell? ⟨b9, 0, none⟩ = some (.int .i64 (at' : Int)) ∧ W.cell? ⟨b9, 1, none⟩ = some (.int .i64 (best : Int)))
    (first | go_keep | exact HC.out _ hk0 | exact HC.out _ hk0.drew)
    (first | (go_at_call 43; refine (HL3.out _ (by first | exact hk0 | exact hk0.drew)).mono ?_; rintro e w4 ⟨u, rfl, hu, hb4⟩; have HU := Lib.hid hu; clear hu; replace hk0 : Below w3.heap.size w3 w4 := hb4; clear hb4) | fail)
  go_wp2
  go_ret2
  exact ⟨_, rfl, HU.out, HB3.out.trans (hk0.mono hz3)⟩
theorem prF_last (n : Nat) (L M : List Int) (j : Nat) : (prF n L M (j + 1)).2 ≤ j := by
  by_cases h : farTo n L (rotL M j) L.length < (prF n L M j).1
  · rw [prF_yes h]; exact Nat.le_refl _
  · rw [prF_no h]; exact (prF_bd n L M j).2
theorem len_pos {s f : Nat} (h : s < 2 ^ f) (h0 : s ≠ 0) : 0 < (tonesTo s f).length := by
  rcases Nat.eq_zero_or_pos (tonesTo s f).length with q | q
  · exfalso
    apply h0
    apply Nat.eq_of_testBit_eq
    intro i
    rw [Nat.zero_testBit]
    cases hb : s.testBit i with
    | false => rfl
    | true =>
      exfalso
      by_cases hi : i < f
      · have h1 := tonesTo_next hb
        have h2 := tonesTo_mono s (i + 1) f (by omega)
        omega
      · have := Nat.testBit_lt_two_pow (i := i) (Nat.lt_of_lt_of_le h (Nat.pow_le_pow_right (by decide) (by omega : f ≤ i)))
        rw [this] at hb; cases hb
  · exact q
theorem stub_lt {n A B : Int} (h : Voices n A B) : (stubP n A B).2 < (tonesTo B.toNat n.toNat).length := by
  have hl : (tonesTo A.toNat n.toNat).length = (tonesTo B.toNat n.toNat).length := by rw [← wt_len h.1, ← wt_len h.2.1]; exact h.2.2.2
  have hp : 0 < (tonesTo A.toNat n.toNat).length := by
    obtain ⟨⟨h1, h2, h3, h4⟩, _, h0, _⟩ := h
    exact len_pos (by omega) (by omega)
  obtain ⟨m, hm⟩ : ∃ m, (tonesTo A.toNat n.toNat).length = m + 1 := ⟨(tonesTo A.toNat n.toNat).length - 1, by omega⟩
  unfold stubP
  rw [← hl, hm]
  have := prF_last n.toNat (tonesTo A.toNat n.toNat) (tonesTo B.toNat n.toNat) m
  omega
theorem take_next {R : List Int} {i : Nat} (h : i < R.length) : R.take (i + 1) = R.take i ++ [R.getD i 0] := by
  rw [List.take_succ_eq_append_getElem h, List.getD_eq_getElem?_getD, List.getElem?_eq_getElem h]; rfl
set_option maxHeartbeats 800000 in
theorem sFarOf_yes (n A B : Int) (w : World) (h : Voices n A B) (hj : (stubP n A B).2 < (tonesTo B.toNat n.toNat).length) : Calls Tro.prog 14 #[.int .i64 n, .int .i64 A, .int .i64 B] w (GivesP (stubP n A B).1 (rotL (tonesTo B.toNat n.toNat) (stubP n A B).2) w) := by
  have HV : Hid (∀ w, Calls Tro.prog 44 #[.int .i64 n, .int .i64 A, .int .i64 B] w fun e w' => e = .returned (.bool true) ∧ w = w') := Lib.hid (fun w => by have := validPair_any n A B w; rw [vv_yes h] at this; exact this)
  have hl : (tonesTo A.toNat n.toNat).length = (tonesTo B.toNat n.toNat).length := by rw [← wt_len h.1, ← wt_len h.2.1]; exact h.2.2.2
  have HP : Hid (∀ w, Calls Tro.prog 45 #[.int .i64 n, .int .i64 A, .int .i64 B] w fun e w' => e = .returned (.tuple #[.int .i64 ((stubP n A B).1 : Int), .int .i64 ((stubP n A B).2 : Int)]) ∧ Below w.heap.size w w') := Lib.hid (fun w => pairing_any n A B w h.1 h.2.1 hl)
  have HT := Lib.hid (fun w => stones_any n B w h.2.1)
  have hle := tonesTo_le B.toNat n.toNat
  have hn := h.2.1.2.1
  generalize stubP n A B = st at *
  obtain ⟨best, j⟩ := st
  simp only at hj HP ⊢
  have HAT : Hid (∀ i, i < (tonesTo B.toNat n.toNat).length → (rotL (tonesTo B.toNat n.toNat) j).getD i 0 = (tonesTo B.toNat n.toNat).getD ((i + j) % (tonesTo B.toNat n.toNat).length) 0) := Lib.hid (fun i hi => rotL_at _ hj hi)
  have HRL := Lib.hid (rotL_len (tonesTo B.toNat n.toNat) (j := j) (by omega))
  have HNX : Hid (∀ i, i < (tonesTo B.toNat n.toNat).length → (rotL (tonesTo B.toNat n.toNat) j).take (i + 1) = (rotL (tonesTo B.toNat n.toNat) j).take i ++ [(rotL (tonesTo B.toNat n.toNat) j).getD i 0]) := Lib.hid (fun i hi => take_next (by rw [HRL.out]; exact hi))
  have HAL : Hid ((rotL (tonesTo B.toNat n.toNat) j).take (tonesTo B.toNat n.toNat).length = rotL (tonesTo B.toNat n.toNat) j) := Lib.hid (List.take_of_length_le (by rw [HRL.out]; exact Nat.le_refl _))
  have HLT : Hid (∀ i, ((rotL (tonesTo B.toNat n.toNat) j).take i).length ≤ i) := Lib.hid (fun i => by rw [List.length_take]; exact Nat.min_le_left _ _)
  generalize rotL (tonesTo B.toNat n.toNat) j = R at *
  generalize tonesTo B.toNat n.toNat = M at *
  clear hl h
  go_enter Tro.func14, Tro.ntmps14
  go_wp2_with fail
  refine (HV.out _).mono ?_; rintro e w1 ⟨rfl, rfl⟩
  go_wp2_with fail
  refine (HP.out _).mono ?_; rintro e w1 ⟨rfl, hb1⟩
  go_wp2_with fail
  refine (HT.out _).mono ?_; rintro e w2 ⟨v, rfl, hr, hb2⟩
  have HB := Lib.hid (hb1.trans (hb2.mono hb1.size))
  have hz := HB.out.size
  rcases hr.cases with ⟨rfl, rfl⟩ | ⟨g, cap, rfl, _, hg, hc, _⟩
  · simp at hj
  generalize hm : M.length = m at *
  have HC := Lib.hid hc
  clear hb1 hb2 hr hc HV HP HT hm
  go_wp2
  go_loopw [11, 12] (fun t11 t12 wr => ∃ i : Nat, i ≤ m ∧ t12 = .int .i64 i ∧ Hid (Row wr w2.heap.size t11 (R.take i)) ∧ Hid (Below w2.heap.size w2 wr)) (fun _ t12 _ => m - (intOf t12).toNat)
  case atStart => exact ⟨0, Nat.zero_le _, rfl, ⟨World.ownsRow_made w2 #[] 0 (Nat.le_refl _) (by decide) rfl, Nat.zero_le _⟩, (Below.refl _ _).alloc (Nat.le_refl _) _⟩
  case round =>
    obtain ⟨i, hi, rfl, HR, HBI⟩ := hrel
    by_cases hlt : i < m
    · have hr : (i + j) % m < m := Nat.mod_lt _ (by omega)
      have c1 := (HBI.out.cell (p := ⟨g, (i + j) % m, none⟩) hg).trans (HC.out _ hr)
      rw [← HAT.out i hlt] at c1
      have HN := Lib.hid (HNX.out i hlt)
      have hll := HLT.out i
      have hzr := HBI.out.size
      generalize R.getD i 0 = y at *
      generalize R.take i = P at *
      have htm : ((i : Int) + (j : Int)).tmod (m : Int) = (((i + j) % m : Nat) : Int) := by
        rw [Int.tmod_eq_emod_of_nonneg (by omega), ← Int.natCast_add, ← Int.natCast_emod]
      generalize (i + j) % m = r at *
      have i0 : (0 : Int) ≤ (i : Int) := by omega
      have i1 : (i : Int) < (m : Int) := by omega
      have r0 : (0 : Int) ≤ (r : Int) := by omega
      have r1 : (r : Int) < (m : Int) := by omega
      have k2 := IntWalk.i64_in ((i : Int) + (j : Int)) (by omega)
      have k3 := IntWalk.i64_in (r : Int) (by omega)
      have hm0 : ((m : Int) == 0) = false := beq_eq_false_iff_ne.2 (by omega)
      have hm1 : ¬ (m : Int) = 0 := by omega
      have hm2 : ¬ m = 0 := by omega
      go_wp2_with (at_builtin; refine wpList_append_int rfl _ _ rfl w2.heap.size _ P rfl (HR.out.alloc _) wr.heap.size 1 y rfl ?c1 ?c2 ?c3 ?_)
      case c1 => go_simp
      case c2 => omega
      case c3 => simp; omega
      intro v' w3 hrow hb1
      have HR1 := Lib.hid hrow
      clear hrow
      go_wp2
      go_roundw
      case rel => exact ⟨i + 1, by omega, by go_num, by rw [HN.out]; exact HR1, (HBI.out.alloc hzr _).trans hb1⟩
      case measure => simp [intOf]; omega
    · obtain rfl : i = m := by omega
      rw [HAL.out] at HR
      go_wp2
      go_ret2
      exact ⟨_, rfl, HR.out.mono hz, HB.out.trans (HBI.out.mono hz)⟩
end Go.Proofs.YtjgkignnfkbeaaaTro

/-
  The contract of the model's fars.
-/
namespace Go.Proofs.YtjgkignnfkbeaaaTro
open Go.RowKit
set_option linter.unusedVariables false
set_option maxRecDepth 20000

/-- the first k of p numbers are -1, the others 0 -/
def filled (p k : Nat) : List Int := List.replicate k (-1) ++ List.replicate (p - k) 0
theorem filled_len {p k : Nat} (h : k ≤ p) : (filled p k).length = p := by simp [filled]; omega
theorem filled_set {p k : Nat} (h : k < p) : (filled p k).set k (-1) = filled p (k + 1) := by
  unfold filled
  rw [List.set_append_right _ _ (by simp), List.length_replicate, Nat.sub_self, show p - k = (p - (k + 1)) + 1 by omega, List.replicate_succ, List.set_cons_zero, List.replicate_succ', List.append_assoc]
  rfl
theorem Row.off {w w' : World} {B : Nat} {v : Value} {L : List Int} (h : Row w B v L) {g : Nat} (hg : w.grownBy w' (some g)) (hB : ∀ k, v.ownBlock = some k → k ≠ g) : Row w' B v L := by
  refine ⟨h.1.kept hg ?_, h.2⟩
  cases e : v.ownBlock with
  | none => exact .inl rfl
  | some k => right; intro e2; have := hB k e; injection e2 with e2; omega
/-- the tone that a move looks at -/
def mvTo (n x j : Nat) : Nat := if j = 0 then Tic.dn n x else Tic.up n x
theorem mvTo_emod {n x j : Nat} (hx : x < n) (hj : j < 2) : ((x : Int) + (2 * (j : Int) - 1)) % (n : Int) = (mvTo n x j : Int) := by
  have h0 : 0 ≤ ((x : Int) + (2 * (j : Int) - 1)) % (n : Int) := Int.emod_nonneg _ (by omega)
  have : (((x : Int) + (2 * (j : Int) - 1)) % (n : Int)).toNat = mvTo n x j := by
    unfold mvTo
    split
    · rename_i e; subst e
      rw [← Tic.dn_emod hx]; rfl
    · rw [← Tic.up_emod hx, show (2 * (j : Int) - 1) = 1 by omega]
  omega
theorem mvTo_lt {n x j : Nat} (hx : x < n) : mvTo n x j < n := by
  unfold mvTo; split
  · exact Tic.dn_lt hx
  · exact Tic.up_lt hx
/-- one of a row is written -/
theorem Row.write {w : World} {B g m cap : Nat} {L : List Int} (h : Row w B (.slice (some ⟨g, 0, none⟩) m cap) L) (hm : L.length = m) (j : Nat) (x : Int) :
    Row (w.setCell ⟨g, j, none⟩ (.int .i64 x)) B (.slice (some ⟨g, 0, none⟩) m cap) (L.set j x) ∧ w.grownBy (w.setCell ⟨g, j, none⟩ (.int .i64 x)) (some g) := by
  subst hm; exact h.set j x
set_option maxHeartbeats 2000000 in
theorem fars_any (n s : Int) (w : World) (hv : Tic.Valid n s) (h0 : s ≠ 0) :
    Calls Tro.prog 55 #[.int .i64 n, .int .i64 s] w fun e w' => ∃ v O, e = .returned v ∧ Row w' w.heap.size v O ∧ O.length = 2 ^ n.toNat ∧ (∀ S, Lk n.toNat s.toNat S → O.getD S 0 = (dst n.toNat S s.toNat : Int)) ∧ Below w.heap.size w w' := by
  have hlt := hv.lt
  obtain ⟨g1, g2, g3, g4⟩ := hv
  obtain ⟨N, rfl⟩ := Int.eq_ofNat_of_zero_le (show 0 ≤ n by omega)
  obtain ⟨S0, rfl⟩ := Int.eq_ofNat_of_zero_le g3
  rw [Int.toNat_natCast, Int.toNat_natCast]
  rw [Int.toNat_natCast] at g4
  have hp := Tic.pow_le_12 (n := (N : Int)) g2
  rw [Int.toNat_natCast] at hp
  have hpos : 0 < (tonesTo S0 N).length := len_pos (by omega) (by omega)
  have HF := Lib.hid (Bf.first (n := N) (s := S0) (by omega) (by omega) hpos)
  have HST := Lib.hid (fun (O T : List Int) (i x j : Nat) (h : Bf N S0 O T i (2 * x + j)) => h.stay)
  have HNW := Lib.hid (fun (O T : List Int) (i x j : Nat) (h : Bf N S0 O T i (2 * x + j)) => h.new (by omega) (by omega) (by omega) hpos)
  have HAL := Lib.hid (fun (O T : List Int) (m : Nat) (h : Bf N S0 O T T.length m) => h.all (by omega) (by omega) (by omega) hpos)
  have HLK := Lib.hid (fun (S p q : Nat) (h : Lk N S0 S) (hs : Stp N S p q) => h.step (by omega) (by omega) hs)
  generalize hg : 2 ^ N = p at hp g4
  have HP := Lib.hid hg
  have HS0 : Hid ((S0 : Int) < (p : Int)) := Lib.hid g4
  clear hg hlt
  have hSp : S0 < p := by omega
  go_enter Tro.func55, Tro.ntmps55
  go_wp2_with fail
  refine (power_any _ _ (by omega) (by omega)).mono ?_; rintro e w1 ⟨rfl, rfl⟩
  rw [Int.toNat_natCast, HP.out]
  go_wp2_with (at_make; refine wpList_make_zeros rfl _ _ rfl w.heap.size _ _ p rfl rfl ?c1 ?c2 ?c3 (Nat.le_refl _) ?_)
  case c1 => rfl
  case c2 => rfl
  case c3 => omega
  intro w1 hrow hb1
  generalize hgO : w.heap.size = gO at *
  have HGO := Lib.hid hgO
  have hz1 := hb1.size
  have HR0 : Hid (Row w1 gO (.slice (some ⟨gO, 0, none⟩) p p) (filled p 0)) := Lib.hid (by
    have : filled p 0 = zeros p := by simp [filled, zeros]
    rw [this]; exact hrow)
  have HB1 := Lib.hid hb1
  clear hrow hb1 hgO
  go_wp2
  go_loopw [6] (fun t6 wr => ∃ k : Nat, k ≤ p ∧ t6 = .int .i64 k ∧ Hid (Row wr gO (.slice (some ⟨gO, 0, none⟩) p p) (filled p k)) ∧ Hid (Below gO w wr)) (fun t6 _ => p - (intOf t6).toNat)
  case atStart => exact ⟨0, Nat.zero_le _, rfl, HR0, HB1⟩
  case round =>
    obtain ⟨k, hk, rfl, HR, HB⟩ := hrel
    by_cases hkp : k < p
    · have hsh := HR.out.shape
      obtain ⟨_, _, _, hcell, hfz⟩ := hsh
      have d2 := hcell k hkp
      have f2 := hfz k
      obtain ⟨hw1, hw2⟩ := HR.out.write (filled_len hk) k (-1)
      rw [filled_set hkp] at hw1
      have HW := Lib.hid hw1
      have HB2 := Lib.hid (HB.out.setCell (p := ⟨gO, k, none⟩) (Nat.le_refl gO) (.int .i64 (-1)))
      have i1 : (k : Int) < (p : Int) := by omega
      have i0 : (0 : Int) ≤ (k : Int) := by omega
      have k1 := IntWalk.i64_in ((k : Int) + 1) (by omega)
      clear hcell hfz hw1 hw2
      go_wp2
      go_roundw
      case rel => exact ⟨k + 1, by omega, by go_num, HW, HB2⟩
      case measure => simp [intOf]; omega
    · obtain rfl : k = p := by omega
      have hsh := HR.out.shape
      obtain ⟨_, _, _, hcell, hfz⟩ := hsh
      have d2 := hcell S0 hSp
      have f2 := hfz S0
      obtain ⟨hw1, hw2⟩ := HR.out.write (filled_len (Nat.le_refl _)) S0 0
      have HW : Hid (Row (wr.setCell ⟨gO, S0, none⟩ (.int .i64 0)) gO (.slice (some ⟨gO, 0, none⟩) k k) ((List.replicate (2 ^ N) (-1)).set S0 0)) := Lib.hid (by
        have e : filled k k = List.replicate (2 ^ N) (-1) := by unfold filled; rw [HP.out]; simp
        rw [← e]; exact hw1)
      have HB2 := Lib.hid (HB.out.setCell (p := ⟨gO, S0, none⟩) (Nat.le_refl gO) (.int .i64 0))
      have hzr : gO + 1 ≤ wr.heap.size := by have := block_lt_of_cell d2; exact this
      have s0 : (S0 : Int) < (k : Int) := HS0.out
      clear hcell hfz hw1 hw2
      go_upto_region 7 with fail
      have hz2 : (wr.setCell ⟨gO, S0, none⟩ (.int .i64 0)).heap.size = wr.heap.size := by simp
      generalize wr.setCell ⟨gO, S0, none⟩ (.int .i64 0) = W1 at *
      clear d2 f2
      have HTR : Hid (Row (W1.alloc (.cells #[.int .i64 (S0 : Int)] 3)) (gO + 1) (.slice (some ⟨W1.heap.size, 0, none⟩) 1 1) [(S0 : Int)]) := Lib.hid ⟨World.ownsRow_lit W1 #[.int .i64 (S0 : Int)] 1 (by omega) (by decide) rfl, by simp⟩
      have HOR := Lib.hid (HW.out.alloc (.cells #[.int .i64 (S0 : Int)] 3))
      have HB3 := Lib.hid (HB2.out.alloc (show gO ≤ W1.heap.size by omega) (.cells #[.int .i64 (S0 : Int)] 3))
      clear HW HB2 HR HB HB1 HR0
      go_upto_region 8 with fail
      generalize World.alloc _ _ = W2 at *
      rw [hz2] at HTR
      clear hz2 hzr s0 hkp hk
      generalize Value.slice (some ⟨wr.heap.size, 0, none⟩) 1 1 = v7 at *
      go_wp2
      go_loopw [7, 8, 9, 10, 11, 12, 13] (fun t7 t8 t9 t10 t11 t12 t13 wr => ∃ (i : Nat) (O T : List Int), i ≤ T.length ∧ t8 = .int .i64 i ∧ Hid (Bf N S0 O T i 0) ∧ Hid (Row wr gO (.slice (some ⟨gO, 0, none⟩) k k) O) ∧ Hid (Row wr (gO + 1) t7 T) ∧ Hid (Below gO w wr)) (fun _ t8 _ _ _ _ _ _ => k - (intOf t8).toNat)
      case atStart => exact ⟨0, _, _, Nat.zero_le _, rfl, HF, HOR, HTR, HB3⟩
      case round =>
        obtain ⟨i, O, T, hi, rfl, HBF, HO, HT, HBW⟩ := hrel
        clear HF HOR HTR HB3
        have hTl : T.length ≤ k := by have := HBF.out.len; rw [HP.out] at this; exact this
        have hT0 : 0 < T.length := List.length_pos_of_mem HBF.out.start
        obtain ⟨g7, c7, rfl, hg7, hg7l, hcell, _⟩ := HT.out.cases.resolve_left (fun q => by rw [q.2] at hT0; simp at hT0)
        by_cases hlt : i < T.length
        · obtain ⟨NOW, hNL, hNT, hNO⟩ := HBF.out.at hlt
          have HNL := Lib.hid hNL
          have hNk : NOW < k := by have := hNL.1; rw [HP.out] at this; exact this
          have c1 := hcell i hlt
          rw [hNT] at c1
          have i0 : (0 : Int) ≤ (i : Int) := by omega
          have i1 : (i : Int) < (T.length : Int) := by omega
          have k1 := IntWalk.i64_in ((i : Int) + 1) (by omega)
          have HTI := Lib.hid hNT
          have HI := Lib.hid hlt
          obtain ⟨vT, hvT⟩ : ∃ vT, vT = Value.slice (some ⟨g7, 0, none⟩) T.length c7 := ⟨_, rfl⟩
          have HBF0 : Hid (Bf N S0 O T i (2 * 0)) := HBF
          clear hcell hNL hNO hNT HBF
          go_upto_region 12 with fail
          rw [← hvT]
          rw [← hvT] at HT
          clear hvT c1 i1
          go_wp2
          go_loopw [7, 10, 11, 12, 13] (fun t7 t10 t11 t12 t13 wr => ∃ (x : Nat) (O T : List Int), x ≤ N ∧ t10 = .int .i64 x ∧ Hid (i < T.length) ∧ Hid (T.getD i 0 = (NOW : Int)) ∧ Hid (Bf N S0 O T i (2 * x)) ∧ Hid (Row wr gO (.slice (some ⟨gO, 0, none⟩) k k) O) ∧ Hid (Row wr (gO + 1) t7 T) ∧ Hid (Below gO w wr)) (fun _ t10 _ _ _ _ => N - (intOf t10).toNat)
          case atStart => exact ⟨0, O, T, Nat.zero_le _, rfl, HI, HTI, HBF0, HO, HT, HBW⟩
          case round =>
            clear HI HTI HBF0 HO HT HBW hTl
            obtain ⟨x, O, T, hx, rfl, HI, HTI, HBF, HO, HT, HBW⟩ := hrel
            by_cases hxN : x < N
            · have hx1 : (x : Int) < (N : Int) := by omega
              have k2 := IntWalk.i64_in ((x : Int) + 1) (by omega)
              have HBF0 : Hid (Bf N S0 O T i (2 * x + 0)) := HBF
              have HPX : Hid (2 ^ x < k) := Lib.hid (by rw [← HP.out]; exact Nat.pow_lt_pow_right (by decide) hxN)
              go_upto_region 15 with fail
              clear HBF
              go_wp2
              go_loopw [7, 11, 12, 13] (fun t7 t11 t12 t13 wr => ∃ (j : Nat) (O T : List Int), j ≤ 2 ∧ t11 = .int .i64 (2 * (j : Int) - 1) ∧ Hid (i < T.length) ∧ Hid (T.getD i 0 = (NOW : Int)) ∧ Hid (Bf N S0 O T i (2 * x + j)) ∧ Hid (Row wr gO (.slice (some ⟨gO, 0, none⟩) k k) O) ∧ Hid (Row wr (gO + 1) t7 T) ∧ Hid (Below gO w wr)) (fun _ t11 _ _ _ => 2 - ((intOf t11 + 1) / 2).toNat)
              case atStart => exact ⟨0, O, T, Nat.zero_le _, rfl, HI, HTI, HBF0, HO, HT, HBW⟩
              case round =>
                clear HI HTI HBF0 HO HT HBW
                obtain ⟨j, O, T, hj, rfl, HI, HTI, HBF, HO, HT, HBW⟩ := hrel
                by_cases hj2 : j < 2
                · have hd1 : 2 * (j : Int) - 1 ≤ 1 := by omega
                  have HSTAY : Hid ((NOW.testBit x = true → NOW.testBit (mvTo N x j) = false → (Tic.mv1 NOW x (mvTo N x j) : Int) ∈ T) → Bf N S0 O T i (2 * x + (j + 1))) := Lib.hid (by
                    have := HST.out O T i x j HBF.out hxN hj2 HI.out
                    rw [HTI.out, Int.toNat_natCast] at this
                    exact this)
                  have HNEW : Hid (NOW.testBit x = true → NOW.testBit (mvTo N x j) = false → O.getD (Tic.mv1 NOW x (mvTo N x j)) 0 < 0 → Bf N S0 (O.set (Tic.mv1 NOW x (mvTo N x j)) (O.getD NOW 0 + 1)) (T ++ [(Tic.mv1 NOW x (mvTo N x j) : Int)]) i (2 * x + (j + 1))) := Lib.hid (by
                    have := HNW.out O T i x j HBF.out hxN hj2 HI.out
                    rw [HTI.out, Int.toNat_natCast] at this
                    exact this)
                  have HSTP : Hid (NOW.testBit x = true → NOW.testBit (mvTo N x j) = false → Tic.mv1 NOW x (mvTo N x j) < k) := Lib.hid (fun hb hc => by
                    have := (HLK.out NOW x (mvTo N x j) HNL.out (stp_of (j := j) hxN hb hc)).1
                    rw [HP.out] at this; exact this)
                  have HROOM : Hid (∀ Y, Y < k → O.getD Y 0 < 0 → T.length < k) := Lib.hid (fun Y hY hO => by
                    have := HBF.out.room (Y := Y) (by rw [HP.out]; exact hY) hO
                    rw [HP.out] at this; exact this)
                  have HNO : Hid (O.getD NOW 0 = (dst N NOW S0 : Int)) := Lib.hid (by
                    obtain ⟨S, h1, h2, h3⟩ := HBF.out.at HI.out
                    have e := HTI.out
                    rw [h2] at e
                    obtain rfl : S = NOW := by omega
                    exact h3)
                  have HDB : Hid (dst N NOW S0 ≤ 144) := Lib.hid (by
                    have h1 := (prF_bd N (tonesTo NOW N) (tonesTo S0 N) (tonesTo NOW N).length).1
                    have h2 : N * N ≤ 12 * 12 := Nat.mul_le_mul (by omega) (by omega)
                    exact Nat.le_trans h1 h2)
                  have hyN : mvTo N x j < N := mvTo_lt hxN
                  have HRS : Hid (∀ w, Calls Tro.prog 78 #[.int .i64 ((x : Int) + (2 * (j : Int) - 1)), .int .i64 (N : Int)] w fun e w' => e = .returned (.int .i64 (mvTo N x j : Int)) ∧ w = w') := Lib.hid (fun w => by
                    rw [← mvTo_emod hxN hj2]
                    exact rest_any _ _ w (by omega) (by omega) (by omega) (by omega))
                  have HSUM : Hid (NOW.testBit x = true → NOW.testBit (mvTo N x j) = false → (NOW : Int) - ((2 ^ x : Nat) : Int) + ((2 ^ mvTo N x j : Nat) : Int) = (Tic.mv1 NOW x (mvTo N x j) : Int)) := Lib.hid (fun h1 h2 => (mv1_sum h1 h2).symm)
                  have HPY : Hid (2 ^ mvTo N x j < k) := Lib.hid (by rw [← HP.out]; exact Nat.pow_lt_pow_right (by decide) hyN)
                  generalize mvTo N x j = y at *
                  have HPW1 : Hid (∀ w, Calls Tro.prog 65 #[.int .i64 (x : Int)] w fun e w' => e = .returned (.int .i64 ((2 ^ x : Nat) : Int)) ∧ w = w') := Lib.hid (fun w => power_any (x : Int) w (by omega) (by omega))
                  have HPW2 : Hid (∀ w, Calls Tro.prog 65 #[.int .i64 (y : Int)] w fun e w' => e = .returned (.int .i64 ((2 ^ y : Nat) : Int)) ∧ w = w') := Lib.hid (fun w => power_any (y : Int) w (by omega) (by omega))
                  have hpx := HPX.out
                  have hpy := HPY.out
                  clear HPY
                  generalize 2 ^ x = px at *
                  generalize 2 ^ y = py at *
                  have k3 := IntWalk.i64_in ((NOW : Int) - (px : Int)) (by omega)
                  have k4 := IntWalk.i64_in ((NOW : Int) - (px : Int) + (py : Int)) (by omega)
                  have k5 := IntWalk.i64_in ((x : Int) + (2 * (j : Int) - 1)) (by omega)
                  have k6 := IntWalk.i64_in (2 * (j : Int) - 1 + 2) (by omega)
                  cases hbx : NOW.testBit x with
                  | false =>
                    have HB9 := Lib.hid (HSTAY.out (fun q => by rw [hbx] at q; cases q))
                    clear HSTAY HNEW HSTP HROOM HSUM
                    go_wp2_with fail
                    refine (HRS.out _).mono ?_; rintro e w1 ⟨rfl, rfl⟩
                    go_wp2_with fail
                    refine (HPW1.out _).mono ?_; rintro e w1 ⟨rfl, rfl⟩
                    go_wp2_with fail
                    refine (HPW2.out _).mono ?_; rintro e w1 ⟨rfl, rfl⟩
                    go_wp2_with fail
                    refine (bit_no _ _ NOW x _ rfl (by omega) rfl (by omega) hbx).mono ?_; rintro e w1 ⟨rfl, rfl⟩
                    go_wp2
                    go_roundw
                    case rel => exact ⟨j + 1, O, T, by omega, by go_num, HI, HTI, HB9, HO, HT, HBW⟩
                    case measure => simp [intOf]; omega
                  | true =>
                    cases hby : NOW.testBit y with
                    | true =>
                        have HB9 := Lib.hid (HSTAY.out (fun _ q => by rw [hby] at q; cases q))
                        clear HSTAY HNEW HSTP HROOM HSUM
                        go_wp2_with fail
                        refine (HRS.out _).mono ?_; rintro e w1 ⟨rfl, rfl⟩
                        go_wp2_with fail
                        refine (HPW1.out _).mono ?_; rintro e w1 ⟨rfl, rfl⟩
                        go_wp2_with fail
                        refine (HPW2.out _).mono ?_; rintro e w1 ⟨rfl, rfl⟩
                        go_wp2_with fail
                        refine (bit_yes _ _ NOW x _ rfl (by omega) rfl (by omega) hbx).mono ?_; rintro e w1 ⟨rfl, rfl⟩
                        go_wp2_with fail
                        refine (bit_yes _ _ NOW y _ rfl (by omega) rfl (by omega) hby).mono ?_; rintro e w1 ⟨rfl, rfl⟩
                        go_wp2
                        go_roundw
                        case rel => exact ⟨j + 1, O, T, by omega, by go_num, HI, HTI, HB9, HO, HT, HBW⟩
                        case measure => simp [intOf]; omega
                    | false =>
                        have hYk := HSTP.out hbx hby
                        have k7 := k4.trans (HSUM.out hbx hby)
                        have hYI := HSUM.out hbx hby
                        have HSTAY2 : Hid ((Tic.mv1 NOW x y : Int) ∈ T → Bf N S0 O T i (2 * x + (j + 1))) := Lib.hid (fun q => HSTAY.out (fun _ _ => q))
                        have HNEW2 := Lib.hid (HNEW.out hbx hby)
                        have HNEG : Hid (¬ (Tic.mv1 NOW x y : Int) ∈ T → O.getD (Tic.mv1 NOW x y) 0 = -1) := Lib.hid (fun q => HBF.out.neg _ (by rw [HP.out]; exact hYk) q)
                        clear HSTAY HNEW HSTP HSUM
                        generalize Tic.mv1 NOW x y = Y at *
                        obtain ⟨hOl, _, _, hcell, hfz⟩ := HO.out.shape
                        have cY := hcell Y hYk
                        have fY := hfz Y
                        have cN := hcell NOW hNk
                        rw [HNO.out] at cN HNEW2
                        have y0 : (0 : Int) ≤ (Y : Int) := by omega
                        have y1 : (Y : Int) < (k : Int) := by omega
                        have n0 : (0 : Int) ≤ (NOW : Int) := by omega
                        have n1 : (NOW : Int) < (k : Int) := by omega
                        have hdb := HDB.out
                        have HOL := Lib.hid hOl
                        clear hcell hfz HNO HDB hOl
                        generalize dst N NOW S0 = dN at *
                        have k8 := IntWalk.i64_in ((dN : Int) + 1) (by omega)
                        have HCY : Hid (O.getD Y 0 < 0 ∨ ¬ O.getD Y 0 < 0) := Lib.hid (Classical.em _)
                        rcases HCY.out with hneg | hneg
                        · have hTk := HROOM.out Y hYk hneg
                          have HB9 := Lib.hid (HNEW2.out hneg)
                          obtain ⟨hw1, hw2⟩ := HO.out.write HOL.out Y ((dN : Int) + 1)
                          have HW := Lib.hid hw1
                          have HTO : Hid (Row (wr.setCell ⟨gO, Y, none⟩ (.int .i64 ((dN : Int) + 1))) (gO + 1) u7 T) := Lib.hid (HT.out.off hw2 (fun q hq => by have := (HT.out.lt q hq).1; omega))
                          have HBS := Lib.hid (HBW.out.setCell (p := ⟨gO, Y, none⟩) (Nat.le_refl gO) (.int .i64 ((dN : Int) + 1)))
                          have hzr : gO + 1 ≤ wr.heap.size := by have := block_lt_of_cell cY; exact this
                          clear hw1 hw2 HNEW2 HSTAY2 HNEG HROOM HO HT HBW
                          generalize O.getD Y 0 = oY at *
                          go_wp2_with fail
                          refine (HRS.out _).mono ?_; rintro e w1 ⟨rfl, rfl⟩
                          go_wp2_with fail
                          refine (HPW1.out _).mono ?_; rintro e w1 ⟨rfl, rfl⟩
                          go_wp2_with fail
                          refine (HPW2.out _).mono ?_; rintro e w1 ⟨rfl, rfl⟩
                          go_wp2_with fail
                          refine (bit_yes _ _ NOW x _ rfl (by omega) rfl (by omega) hbx).mono ?_; rintro e w1 ⟨rfl, rfl⟩
                          go_wp2_with fail
                          refine (bit_no _ _ NOW y _ rfl (by omega) rfl (by omega) hby).mono ?_; rintro e w1 ⟨rfl, rfl⟩
                          go_upto_region 22 with fail
                          have hz3 : gO + 1 ≤ (wr.setCell ⟨gO, Y, none⟩ (.int .i64 ((dN : Int) + 1))).heap.size := by simpa using hzr
                          clear cY fY cN hzr
                          generalize wr.setCell ⟨gO, Y, none⟩ (.int .i64 ((dN : Int) + 1)) = W3 at *
                          have hT4 : T.length < 4096 := by omega
                          have hTi := HI.out
                          go_wp2_with (at_builtin; refine wpList_append_row rfl _ _ rfl (gO + 1) _ T rfl (HTO.out.alloc _) W3.heap.size 1 Y rfl ?c1 ?c2 ?c3 ?_)
                          case c1 => go_simp
                          case c2 => exact hT4
                          case c3 => simp; omega
                          intro v' w3 hrow hb1 hg1 hv1
                          have HR1 := Lib.hid hrow
                          have HO1 : Hid (Row w3 gO (.slice (some ⟨gO, 0, none⟩) k k) (O.set Y ((dN : Int) + 1))) := Lib.hid ((HW.out.alloc (.cells #[.int .i64 (Y : Int)] 3)).low hb1 (fun q hq => by simp [Value.ownBlock] at hq; omega))
                          have HB4 : Hid (Below gO w w3) := Lib.hid ((HBS.out.alloc (show gO ≤ W3.heap.size by omega) (.cells #[.int .i64 (Y : Int)] 3)).trans (hb1.mono (by omega)))
                          have HTI4 : Hid ((T ++ [(Y : Int)]).getD i 0 = (NOW : Int)) := Lib.hid (by rw [getD_app hTi]; exact HTI.out)
                          have HI4 : Hid (i < (T ++ [(Y : Int)]).length) := Lib.hid (by simp; omega)
                          clear hrow hb1 hg1 hv1 HW HTO HBS HTI HI
                          go_wp2
                          go_roundw
                          case rel => exact ⟨j + 1, _, _, by omega, by go_num, HI4, HTI4, HB9, HO1, HR1, HB4⟩
                          case measure => simp [intOf]; omega
                        · have HB9 := Lib.hid (HSTAY2.out (Classical.byContradiction fun q => hneg (by rw [HNEG.out q]; decide)))
                          clear HNEW2 HSTAY2 HNEG HROOM
                          generalize O.getD Y 0 = oY at *
                          go_wp2_with fail
                          refine (HRS.out _).mono ?_; rintro e w1 ⟨rfl, rfl⟩
                          go_wp2_with fail
                          refine (HPW1.out _).mono ?_; rintro e w1 ⟨rfl, rfl⟩
                          go_wp2_with fail
                          refine (HPW2.out _).mono ?_; rintro e w1 ⟨rfl, rfl⟩
                          go_wp2_with fail
                          refine (bit_yes _ _ NOW x _ rfl (by omega) rfl (by omega) hbx).mono ?_; rintro e w1 ⟨rfl, rfl⟩
                          go_wp2_with fail
                          refine (bit_no _ _ NOW y _ rfl (by omega) rfl (by omega) hby).mono ?_; rintro e w1 ⟨rfl, rfl⟩
                          go_wp2
                          go_roundw
                          case rel => exact ⟨j + 1, O, T, by omega, by go_num, HI, HTI, HB9, HO, HT, HBW⟩
                          case measure => simp [intOf]; omega
                · obtain rfl : j = 2 := by omega
                  have HBN : Hid (Bf N S0 O T i (2 * (x + 1))) := HBF
                  go_wp2
                  go_roundw
                  case rel => exact ⟨x + 1, O, T, by omega, by go_num, HI, HTI, HBN, HO, HT, HBW⟩
                  case measure => simp [intOf]; omega
            · obtain rfl : x = N := by omega
              have hTl := HBF.out.len
              rw [HP.out] at hTl
              have HBN := Lib.hid (HBF.out.next HI.out)
              have hI := HI.out
              go_wp2
              go_roundw
              case rel => exact ⟨i + 1, O, T, by omega, by go_num, HBN, HO, HT, HBW⟩
              case measure => simp [intOf]; omega
        · obtain rfl : i = T.length := by omega
          have hAL := fun S hS => HAL.out O T 0 HBF.out (dst N S S0) S hS rfl
          go_wp2
          go_ret
          exact ⟨_, O, rfl, by rw [HGO.out]; exact HO.out, by rw [HBF.out.olen]; exact HP.out, hAL, by rw [HGO.out]; exact HBW.out⟩
end Go.Proofs.YtjgkignnfkbeaaaTro

/-
  The program's nearest, of a choice and a list of choices.
-/
namespace Go.Proofs.YtjgkignnfkbeaaaTro
open Go.RowKit
set_option linter.unusedVariables false
set_option maxRecDepth 20000

/-- the nearest of p and the first i of l -/
def nrT (p : Int × Int) (l : Nat → Int × Int) : Nat → Int × Int
  | 0 => p
  | i + 1 => if (l i).2 < (nrT p l i).2 then l i else nrT p l i
theorem nrT_yes {p : Int × Int} {l : Nat → Int × Int} {i : Nat} (h : (l i).2 < (nrT p l i).2) : nrT p l (i + 1) = l i := by show (if _ then _ else _) = _; rw [if_pos h]
theorem nrT_no {p : Int × Int} {l : Nat → Int × Int} {i : Nat} (h : ¬ (l i).2 < (nrT p l i).2) : nrT p l (i + 1) = nrT p l i := by show (if _ then _ else _) = _; rw [if_neg h]
set_option maxHeartbeats 800000 in
theorem nearest_any (p : Int × Int) (l : Nat → Int × Int) (m c g o : Nat) (w : World) (hm : m ≤ c) (hm2 : m ≤ 64) (hg : g < w.heap.size)
    (hc : ∀ i, i < m → w.cell? ⟨g, o + i * 2, none⟩ = some (.int .i64 (l i).1) ∧ w.cell? ⟨g, o + i * 2 + 1, none⟩ = some (.int .i64 (l i).2)) :
    Calls Tro.prog 58 #[.agg #[.int .i64 p.1, .int .i64 p.2], .slice (some ⟨g, o, none⟩) m c] w fun e w' => e = .returned (.agg #[.int .i64 (nrT p l m).1, .int .i64 (nrT p l m).2]) ∧ Below w.heap.size w w' := by
  have HC := Lib.hid hc
  have HY : Hid (∀ i, (l i).2 < (nrT p l i).2 → nrT p l (i + 1) = l i) := Lib.hid (fun i h => nrT_yes h)
  have HN : Hid (∀ i, ¬ (l i).2 < (nrT p l i).2 → nrT p l (i + 1) = nrT p l i) := Lib.hid (fun i h => nrT_no h)
  have hp0 : nrT p l 0 = p := rfl
  clear hc
  go_enter Tro.func58, Tro.ntmps58
  go_wp2
  have hx0 : ((w.alloc (.cells #[.int .i64 p.1, .int .i64 p.2] 49)).alloc (.cells #[.int .i64 0, .int .i64 0] 49)).cell? ⟨w.heap.size, 0, none⟩ = some (.int .i64 p.1) := by rw [World.cell?_alloc_lt _ _ _ (by simp), World.cell?_alloc_at _ _ _ _ rfl]; rfl
  have hx1 : ((w.alloc (.cells #[.int .i64 p.1, .int .i64 p.2] 49)).alloc (.cells #[.int .i64 0, .int .i64 0] 49)).cell? ⟨w.heap.size, 1, none⟩ = some (.int .i64 p.2) := by rw [World.cell?_alloc_lt _ _ _ (by simp), World.cell?_alloc_at _ _ _ _ rfl]; rfl
  have hy0 : ((w.alloc (.cells #[.int .i64 p.1, .int .i64 p.2] 49)).alloc (.cells #[.int .i64 0, .int .i64 0] 49)).cell? ⟨w.heap.size + 1, 0, none⟩ = some (.int .i64 0) := by rw [World.cell?_alloc_at _ _ _ _ (by simp)]; rfl
  have hy1 : ((w.alloc (.cells #[.int .i64 p.1, .int .i64 p.2] 49)).alloc (.cells #[.int .i64 0, .int .i64 0] 49)).cell? ⟨w.heap.size + 1, 1, none⟩ = some (.int .i64 0) := by rw [World.cell?_alloc_at _ _ _ _ (by simp)]; rfl
  have hbel := ((Below.refl w.heap.size w).alloc (Nat.le_refl _) (.cells #[.int .i64 p.1, .int .i64 p.2] 49)).alloc (by simp) (.cells #[.int .i64 0, .int .i64 0] 49)
  have fz : ∀ k, k < 2 → ((w.alloc (.cells #[.int .i64 p.1, .int .i64 p.2] 49)).alloc (.cells #[.int .i64 0, .int .i64 0] 49)).frozen? ⟨w.heap.size, k, none⟩ = false ∧ ((w.alloc (.cells #[.int .i64 p.1, .int .i64 p.2] 49)).alloc (.cells #[.int .i64 0, .int .i64 0] 49)).frozen? ⟨w.heap.size + 1, k, none⟩ = false := fun k hk => by
    constructor <;> go_simp
  have hsz : ((w.alloc (.cells #[.int .i64 p.1, .int .i64 p.2] 49)).alloc (.cells #[.int .i64 0, .int .i64 0] 49)).heap.size = w.heap.size + 2 := by simp
  generalize World.alloc _ _ = W0 at *
  have F00 := (fz 0 (by omega)).1
  have F01 := (fz 1 (by omega)).1
  have F10 := (fz 0 (by omega)).2
  have F11 := (fz 1 (by omega)).2
  clear fz
  have HSZ := Lib.hid hsz
  clear hsz
  generalize hb : w.heap.size = b at *
  have HBW := Lib.hid hb
  clear hb
  go_loopw [6, 9] (fun t6 t9 wr => ∃ i : Nat, i ≤ m ∧ t9 = .int .i64 i ∧ wr.cell? ⟨b, 0, none⟩ = some (.int .i64 (nrT p l i).1) ∧ wr.cell? ⟨b, 1, none⟩ = some (.int .i64 (nrT p l i).2) ∧ wr.cell? ⟨b + 1, 0, none⟩ = some (.int .i64 0) ∧ wr.cell? ⟨b + 1, 1, none⟩ = some (.int .i64 0) ∧
    wr.frozen? ⟨b, 0, none⟩ = false ∧ wr.frozen? ⟨b, 1, none⟩ = false ∧ wr.frozen? ⟨b + 1, 0, none⟩ = false ∧ wr.frozen? ⟨b + 1, 1, none⟩ = false ∧ Hid (b + 2 ≤ wr.heap.size) ∧ Hid (Below b w wr)) (fun _ t9 _ => m - (intOf t9).toNat)
  case atStart => exact ⟨0, Nat.zero_le _, rfl, by rw [hp0]; exact hx0, by rw [hp0]; exact hx1, hy0, hy1, F00, F01, F10, F11, by rw [HSZ.out]; exact Nat.le_refl _, hbel⟩
  case round =>
    obtain ⟨i, hi, rfl, x0, x1, y0, y1, f00, f01, f10, f11, HZ, HBI⟩ := hrel
    by_cases hlt : i < m
    · obtain ⟨c0, c1⟩ := HC.out i hlt
      have d0 := (HBI.out.cell (p := ⟨g, o + i * 2, none⟩) hg).trans c0
      have d1 := (HBI.out.cell (p := ⟨g, o + i * 2 + 1, none⟩) hg).trans c1
      have hy := HY.out i
      have hn := HN.out i
      have HYJ := Lib.hid hy
      have HNJ := Lib.hid hn
      clear hy hn c0 c1
      generalize l i = q at *
      generalize nrT p l i = r at *
      have k1 := IntWalk.i64_in ((i : Int) + 1) (by omega)
      have i1 : (i : Int) < (m : Int) := by omega
      have hdb : Hid (q.2 < r.2 ∨ ¬ q.2 < r.2) := Lib.hid (Classical.em _)
      obtain ⟨q1, q2⟩ := q
      obtain ⟨r1, r2⟩ := r
      simp only at d0 d1 x0 x1 hdb HYJ
      have hbl : b < wr.heap.size := block_lt_of_cell x0
      have hbl1 : b + 1 < wr.heap.size := block_lt_of_cell y0
      have hba := (Below.refl wr.heap.size wr).alloc (Nat.le_refl _) (.cells #[.int .i64 q1, .int .i64 q2] 49)
      have z0 := (hba.cell (p := ⟨b, 0, none⟩) hbl).trans x0
      have z1 := (hba.cell (p := ⟨b, 1, none⟩) hbl).trans x1
      have v0 := (hba.cell (p := ⟨b + 1, 0, none⟩) hbl1).trans y0
      have v1 := (hba.cell (p := ⟨b + 1, 1, none⟩) hbl1).trans y1
      have e00 := (hba.frozen (p := ⟨b, 0, none⟩) hbl).trans f00
      have e01 := (hba.frozen (p := ⟨b, 1, none⟩) hbl).trans f01
      have e10 := (hba.frozen (p := ⟨b + 1, 0, none⟩) hbl1).trans f10
      have e11 := (hba.frozen (p := ⟨b + 1, 1, none⟩) hbl1).trans f11
      have HB2 := Lib.hid (HBI.out.alloc (by omega) (.cells #[.int .i64 q1, .int .i64 q2] 49))
      have HZ2 : Hid (b + 2 ≤ (wr.alloc (.cells #[.int .i64 q1, .int .i64 q2] 49)).heap.size) := Lib.hid (by have := HZ.out; simp; omega)
      clear hba
      rcases hdb.out with hs | hs
      · have HE := Lib.hid (HYJ.out hs)
        go_wp2
        go_roundw
        case rel =>
          have W1 : ∃ W1, W1 = (wr.setCell ⟨b, 0, none⟩ (.int .i64 q1)).setCell ⟨b, 1, none⟩ (.int .i64 q2) := ⟨_, rfl⟩
          obtain ⟨W1, hW1⟩ := W1
          rw [← hW1]
          have n01 : (⟨b, 1, none⟩ : Addr) ≠ ⟨b, 0, none⟩ := by simp
          have n10 : (⟨b, 0, none⟩ : Addr) ≠ ⟨b, 1, none⟩ := by simp
          have s0 : W1.cell? ⟨b, 0, none⟩ = some (.int .i64 q1) := by rw [hW1, World.cell?_setCell_other _ _ _ _ n01, World.cell?_setCell_same _ _ _ x0]
          have s1 : W1.cell? ⟨b, 1, none⟩ = some (.int .i64 q2) := by rw [hW1]; exact World.cell?_setCell_same _ _ _ ((World.cell?_setCell_other _ _ _ _ n10).trans x1)
          have s2 : W1.cell? ⟨b + 1, 0, none⟩ = some (.int .i64 0) := by rw [hW1]; exact ((set_far (by show b ≠ b + 1; omega)).trans (set_far (by show b ≠ b + 1; omega))).trans y0
          have s3 : W1.cell? ⟨b + 1, 1, none⟩ = some (.int .i64 0) := by rw [hW1]; exact ((set_far (by show b ≠ b + 1; omega)).trans (set_far (by show b ≠ b + 1; omega))).trans y1
          have hfz : ∀ a, W1.frozen? a = wr.frozen? a := fun a => by rw [hW1]; simp
          have hsz1 : W1.heap.size = wr.heap.size := by rw [hW1]; simp
          have hbw : Below b w W1 := by rw [hW1]; exact (HBI.out.setCell (p := ⟨b, 0, none⟩) (Nat.le_refl _) _).setCell (p := ⟨b, 1, none⟩) (Nat.le_refl _) _
          have hb1 := (Below.refl W1.heap.size W1).alloc (Nat.le_refl _) (.cells #[.int .i64 q1, .int .i64 q2] 49)
          have l0 : b < W1.heap.size := by omega
          have l1 : b + 1 < W1.heap.size := by omega
          have hz2 := HZ.out
          refine ⟨i + 1, by omega, by go_num, by rw [HE.out]; exact (hb1.cell (p := ⟨b, 0, none⟩) l0).trans s0, by rw [HE.out]; exact (hb1.cell (p := ⟨b, 1, none⟩) l0).trans s1, (hb1.cell (p := ⟨b + 1, 0, none⟩) l1).trans s2, (hb1.cell (p := ⟨b + 1, 1, none⟩) l1).trans s3,
            ((hb1.frozen (p := ⟨b, 0, none⟩) l0).trans (hfz _)).trans f00, ((hb1.frozen (p := ⟨b, 1, none⟩) l0).trans (hfz _)).trans f01, ((hb1.frozen (p := ⟨b + 1, 0, none⟩) l1).trans (hfz _)).trans f10, ((hb1.frozen (p := ⟨b + 1, 1, none⟩) l1).trans (hfz _)).trans f11, ?_, hbw.alloc (by omega) _⟩
          show b + 2 ≤ _
          simp; omega
        case measure => simp [intOf]; omega
      · have HE := Lib.hid (HNJ.out (by first | exact hs | exact Int.not_lt.1 hs))
        go_wp2
        go_roundw
        case rel => exact ⟨i + 1, by omega, by go_num, by rw [HE.out]; exact z0, by rw [HE.out]; exact z1, v0, v1, e00, e01, e10, e11, HZ2, HB2⟩
        case measure => simp [intOf]; omega
    · obtain rfl : i = m := by omega
      go_wp2
      refine bodyPost_ret (v := .agg #[.int .i64 (nrT p l i).1, .int .i64 (nrT p l i).2]) ?_ rfl ⟨rfl, by rw [HBW.out]; exact (HBI.out.setCell (p := ⟨b + 1, 0, none⟩) (by show b ≤ b + 1; omega) _).setCell (p := ⟨b + 1, 1, none⟩) (by show b ≤ b + 1; omega) _⟩
      simp [results, Tro.results58, go_sem, y0, y1]
end Go.Proofs.YtjgkignnfkbeaaaTro
