/-
  Plain mathematics of sets of tones as numbers: images of sets, shifts and turns, the rest round a circle. No program in sight.
-/
import Derived.WalkKit
import Derived.Test.YtjgkignnfkbeaaaTroBase
import Derived.WalkSpells
import Derived.Lib.Hide
import Derived.Below
import Derived.StillTailTactics
import Derived.Deep.QuietTactic
import Derived.BigQuiet
import Derived.Laws.OwnMore
import Derived.WalkSmall
import Derived.Maps.AppendAt
import Derived.Deep.RegionHeld3
import Derived.Laws.BitsAllLaws
import Derived.Deep.Cut
import Derived.Deep.AppendLies
namespace Go.Proofs.YtjgkignnfkbeaaaTro.Tic

theorem or_pow_add {a i : Nat} (h : a.testBit i = false) : a ||| 2 ^ i = a + 2 ^ i := by
  have hq : a = 2 ^ (i + 1) * (a / 2 ^ (i + 1)) + a % 2 ^ (i + 1) := (Nat.div_add_mod a _).symm
  have hr : a % 2 ^ (i + 1) < 2 ^ i := by
    rw [Nat.testBit_eq_decide_div_mod_eq] at h
    have h2 : a / 2 ^ i % 2 = 0 := by have := of_decide_eq_false h; omega
    rw [Nat.pow_succ, Nat.mod_mul, h2]
    have := Nat.mod_lt a (Nat.two_pow_pos i)
    omega
  generalize a / 2 ^ (i + 1) = q at *
  generalize a % 2 ^ (i + 1) = r at *
  subst hq
  have e1 : 2 ^ (i + 1) * q + r = 2 ^ (i + 1) * q ||| r := Nat.two_pow_add_eq_or_of_lt (by rw [Nat.pow_succ]; omega) q
  have e2 : 2 ^ i * 1 + r = 2 ^ i * 1 ||| r := Nat.two_pow_add_eq_or_of_lt hr 1
  have e3 : 2 ^ (i + 1) * q + (2 ^ i * 1 + r) = 2 ^ (i + 1) * q ||| (2 ^ i * 1 + r) := Nat.two_pow_add_eq_or_of_lt (by rw [Nat.pow_succ]; omega) q
  rw [e1, Nat.or_assoc, Nat.or_comm r, ← Nat.mul_one (2 ^ i), ← e2, ← e3, ← e1]
  omega

/-- the image of the first k bits of s under f -/
def img (f : Nat → Nat) (s : Nat) : Nat → Nat
  | 0 => 0
  | k + 1 => if s.testBit k then img f s k ||| 2 ^ f k else img f s k

theorem img_no (f : Nat → Nat) {s k : Nat} (h : s.testBit k = false) : img f s (k + 1) = img f s k := by unfold img; rw [if_neg (by simp [h])]; cases k <;> rfl
theorem img_yes (f : Nat → Nat) {s k : Nat} (h : s.testBit k = true) : img f s (k + 1) = img f s k ||| 2 ^ f k := by conv => lhs; unfold img; rw [if_pos h]

theorem img_testBit (f : Nat → Nat) (s y : Nat) : ∀ k, (img f s k).testBit y = true ↔ ∃ x, x < k ∧ s.testBit x = true ∧ f x = y
  | 0 => by simp [img]
  | k + 1 => by
    have ih := img_testBit f s y k
    unfold img
    by_cases h : s.testBit k = true
    · rw [if_pos h, Nat.testBit_or, Nat.testBit_two_pow]
      simp only [Bool.or_eq_true, decide_eq_true_eq, ih]
      constructor
      · rintro (⟨x, hx, hs, hf⟩ | hf)
        · exact ⟨x, by omega, hs, hf⟩
        · exact ⟨k, by omega, h, hf⟩
      · rintro ⟨x, hx, hs, hf⟩
        by_cases e : x = k
        · subst e; exact Or.inr hf
        · exact Or.inl ⟨x, by omega, hs, hf⟩
    · rw [if_neg h, ih]
      constructor
      · rintro ⟨x, hx, hs, hf⟩; exact ⟨x, by omega, hs, hf⟩
      · rintro ⟨x, hx, hs, hf⟩
        by_cases e : x = k
        · subst e; exact absurd hs h
        · exact ⟨x, by omega, hs, hf⟩

theorem img_lt (f : Nat → Nat) (s n k : Nat) (hf : ∀ x, x < k → f x < n) : img f s k < 2 ^ n := by
  apply Nat.lt_pow_two_of_testBit
  intro i hi
  cases h : (img f s k).testBit i with
  | false => rfl
  | true =>
    obtain ⟨x, hx, _, e⟩ := (img_testBit f s i k).1 h
    have := hf x hx
    omega

def sumImg (f : Nat → Nat) (s : Nat) : Nat → Nat
  | 0 => 0
  | k + 1 => if s.testBit k then sumImg f s k + 2 ^ f k else sumImg f s k

theorem sumImg_eq (f : Nat → Nat) (s n : Nat) (inj : ∀ x y, x < n → y < n → f x = f y → x = y) : ∀ k, k ≤ n → sumImg f s k = img f s k
  | 0, _ => rfl
  | k + 1, hk => by
    have ih := sumImg_eq f s n inj k (by omega)
    unfold sumImg img
    by_cases h : s.testBit k = true
    · rw [if_pos h, if_pos h, ih, or_pow_add]
      cases e : (img f s k).testBit (f k) with
      | false => rfl
      | true =>
        obtain ⟨x, hx, _, e⟩ := (img_testBit f s _ k).1 e
        have := inj x k (by omega) (by omega) e
        omega
    · rw [if_neg h, if_neg h, ih]

/-- the tone way * x + t round the circle -/
def mvd (n : Nat) (way t : Int) (x : Nat) : Nat := ((t + way * x) % (n : Int)).toNat

theorem mvd_lt {n : Nat} (h : 0 < n) (way t : Int) (x : Nat) : mvd n way t x < n := by
  unfold mvd
  have h1 := Int.emod_nonneg (t + way * x) (b := (n : Int)) (by omega)
  have h2 := Int.emod_lt_of_pos (t + way * x) (b := (n : Int)) (by omega)
  omega
/-- t + x round a circle of n -/
def rot (n : Nat) (t : Int) (x : Nat) : Nat := ((t + x) % (n : Int)).toNat
/-- t - x round a circle of n -/
def trn (n : Nat) (t : Int) (x : Nat) : Nat := ((t - x) % (n : Int)).toNat

theorem rot_lt {n : Nat} (h : 0 < n) (t : Int) (x : Nat) : rot n t x < n := by
  unfold rot
  have h1 := Int.emod_nonneg (t + x) (b := (n : Int)) (by omega)
  have h2 := Int.emod_lt_of_pos (t + x) (b := (n : Int)) (by omega)
  omega
theorem trn_lt {n : Nat} (h : 0 < n) (t : Int) (x : Nat) : trn n t x < n := by
  unfold trn
  have h1 := Int.emod_nonneg (t - x) (b := (n : Int)) (by omega)
  have h2 := Int.emod_lt_of_pos (t - x) (b := (n : Int)) (by omega)
  omega
theorem emod_eq_of {n : Nat} (h : 0 < n) {a b : Int} (e : (a % (n : Int)).toNat = (b % (n : Int)).toNat) : a % (n : Int) = b % (n : Int) := by
  have h1 := Int.emod_nonneg a (b := (n : Int)) (by omega)
  have h2 := Int.emod_nonneg b (b := (n : Int)) (by omega)
  omega
theorem sub_of_emod {n : Nat} {a b : Int} (e : a % (n : Int) = b % (n : Int)) (h : 0 < n) (h1 : a - b < n) (h2 : b - a < n) : a = b := by
  have d1 := Int.mul_ediv_add_emod a n
  have d2 := Int.mul_ediv_add_emod b n
  have hm : (n : Int) * (a / n) - n * (b / n) = (n : Int) * (a / n - b / n) := by rw [Int.mul_sub]
  have : a / (n : Int) - b / n = 0 := by
    rcases Int.lt_trichotomy (a / (n : Int) - b / n) 0 with g | g | g
    · have : (n : Int) * (a / n - b / n) ≤ n * (-1) := Int.mul_le_mul_of_nonneg_left (by omega) (by omega)
      omega
    · exact g
    · have : (n : Int) * 1 ≤ n * (a / n - b / n) := Int.mul_le_mul_of_nonneg_left (by omega) (by omega)
      omega
  rw [this] at hm
  omega
theorem rot_inj {n : Nat} (h : 0 < n) (t : Int) : ∀ x y, x < n → y < n → rot n t x = rot n t y → x = y := by
  intro x y hx hy e
  have := sub_of_emod (emod_eq_of h e) h (by omega) (by omega)
  omega
theorem trn_inj {n : Nat} (h : 0 < n) (t : Int) : ∀ x y, x < n → y < n → trn n t x = trn n t y → x = y := by
  intro x y hx hy e
  have := sub_of_emod (emod_eq_of h e) h (by omega) (by omega)
  omega
/-- Go's (x%n + n) % n -/
theorem mvd_inj {n : Nat} (h : 0 < n) (way t : Int) (hw : way = 1 ∨ way = -1) : ∀ x y, x < n → y < n → mvd n way t x = mvd n way t y → x = y := by
  intro x y hx hy e
  have := sub_of_emod (emod_eq_of h e) h (by rcases hw with rfl | rfl <;> omega) (by rcases hw with rfl | rfl <;> omega)
  rcases hw with rfl | rfl <;> omega
theorem sumImg_no (f : Nat → Nat) {s k : Nat} (h : s.testBit k = false) : sumImg f s (k + 1) = sumImg f s k := by conv => lhs; unfold sumImg; rw [if_neg (by simp [h])]
theorem sumImg_yes (f : Nat → Nat) {s k : Nat} (h : s.testBit k = true) : sumImg f s (k + 1) = sumImg f s k + 2 ^ f k := by conv => lhs; unfold sumImg; rw [if_pos h]
theorem sum_mvd_lt {n : Nat} (h : 0 < n) (h2 : n ≤ 12) (way t : Int) (hw : way = 1 ∨ way = -1) (s : Nat) {k : Nat} (hk : k ≤ n) : sumImg (mvd n way t) s k < 4096 := by
  rw [sumImg_eq _ s n (mvd_inj h way t hw) k hk]
  have h1 := img_lt (mvd n way t) s n k (fun x _ => mvd_lt h _ _ x)
  have h3 : 2 ^ n ≤ 2 ^ 12 := Nat.pow_le_pow_right (by omega) h2
  omega
/-- the set shifted by t -/
def shf (n : Nat) (t : Int) (s : Nat) : Nat := img (mvd n 1 t) s n
/-- the set turned by t -/
def tur (n : Nat) (t : Int) (s : Nat) : Nat := img (mvd n (-1) t) s n
theorem shf_lt {n : Nat} (h : 0 < n) (t : Int) (s : Nat) : shf n t s < 2 ^ n := img_lt _ _ _ _ (fun x _ => mvd_lt h _ _ x)
theorem tur_lt {n : Nat} (h : 0 < n) (t : Int) (s : Nat) : tur n t s < 2 ^ n := img_lt _ _ _ _ (fun x _ => mvd_lt h _ _ x)
theorem sum_shf {n : Nat} (h : 0 < n) (t : Int) (s : Nat) : sumImg (mvd n 1 t) s n = shf n t s := sumImg_eq _ s n (mvd_inj h 1 t (.inl rfl)) n (Nat.le_refl _)
theorem sum_tur {n : Nat} (h : 0 < n) (t : Int) (s : Nat) : sumImg (mvd n (-1) t) s n = tur n t s := sumImg_eq _ s n (mvd_inj h (-1) t (.inr rfl)) n (Nat.le_refl _)
theorem go_round_mod {n : Nat} (h : 0 < n) (a : Int) : (a.tmod (n : Int) + n).tmod n = a % (n : Int) := by
  have hn : (0 : Int) < n := by omega
  have l1 := Int.lt_tmod_of_pos a hn
  rw [Int.tmod_eq_emod_of_nonneg (by omega), Int.add_emod_right]
  have e : a.tmod n = a - n * (a.tdiv n) := Int.tmod_def a n
  rw [e, Int.sub_emod, Int.mul_emod_right]
  simp

theorem go_round_emod {n a : Int} : (a.tmod n + n) % n = a % n := by
  rw [Int.add_emod_right, Int.tmod_def, Int.sub_emod, Int.mul_emod_right]
  simp

/-- the number of bits of s, at most f of them -/
def wt : Nat → Nat → Nat
  | 0, _ => 0
  | f + 1, s => s % 2 + wt f (s / 2)
theorem wt_zero : ∀ f, wt f 0 = 0
  | 0 => rfl
  | f + 1 => by unfold wt; rw [wt_zero f]
theorem wt_le : ∀ f s, wt f s ≤ f
  | 0, _ => Nat.le_refl _
  | f + 1, s => by unfold wt; have := wt_le f (s / 2); omega

/-- a bit as a number -/
def bitI (s j : Nat) : Int := if s.testBit j then 1 else 0
theorem bitI_eq (s j : Nat) : bitI s j = (((s / 2 ^ j % 2 : Nat)) : Int) := by
  unfold bitI
  rw [Nat.testBit_eq_decide_div_mod_eq]
  have := Nat.mod_lt (s / 2 ^ j) (y := 2) (by omega)
  by_cases h : s / 2 ^ j % 2 = 1
  · simp [h]
  · have h0 : s / 2 ^ j % 2 = 0 := by omega
    simp [h0]
theorem bitI_true {s j : Nat} (h : s.testBit j = true) : bitI s j = 1 := by simp [bitI, h]
theorem bitI_false {s j : Nat} (h : s.testBit j = false) : bitI s j = 0 := by simp [bitI, h]
theorem div_bd (s p : Nat) : 0 ≤ (s : Int) / (p : Int) ∧ (s : Int) / (p : Int) ≤ s := by
  rw [← Int.natCast_ediv]
  exact ⟨Int.natCast_nonneg _, Int.ofNat_le.2 (Nat.div_le_self s p)⟩

/-- a set of tones of a circle of n -/
def Valid (n s : Int) : Prop := 3 ≤ n ∧ n ≤ 12 ∧ 0 ≤ s ∧ s < ((2 ^ n.toNat : Nat) : Int)
/-- a shift -/
def Turn (t : Int) : Prop := -50 ≤ t ∧ t ≤ 50
theorem pow_le_12 {n : Int} (h : n ≤ 12) : 2 ^ n.toNat ≤ 4096 := by
  have : 2 ^ n.toNat ≤ 2 ^ 12 := Nat.pow_le_pow_right (by omega) (by omega)
  simpa using this
theorem Valid.lt {n s : Int} (h : Valid n s) : s < 4096 := by
  have := pow_le_12 h.2.1
  have := h.2.2.2
  omega

theorem shf_lt12 {n s : Int} (h : Valid n s) (t : Int) : shf n.toNat t s.toNat < 4096 := by
  have h1 := shf_lt (n := n.toNat) (by have := h.1; omega) t s.toNat
  have h2 := pow_le_12 h.2.1
  omega
theorem tur_lt12 {n s : Int} (h : Valid n s) (t : Int) : tur n.toNat t s.toNat < 4096 := by
  have h1 := tur_lt (n := n.toNat) (by have := h.1; omega) t s.toNat
  have h2 := pow_le_12 h.2.1
  omega
theorem Valid.cast {n s : Int} (h : Valid n s) : s = (s.toNat : Int) := (Int.toNat_of_nonneg h.2.2.1).symm
theorem Valid.nat {n s : Int} (h : Valid n s) : s.toNat < 4096 := by have := h.lt; omega

theorem pow_split (n k : Nat) (h : k ≤ n) : 2 ^ (n - k) * 2 ^ k = 2 ^ n := by
  rw [← Nat.pow_add]; congr 1; omega
theorem pow_le_62 {k : Nat} (h : k ≤ 62) : 2 ^ k ≤ 4611686018427387904 := by
  have : 2 ^ k ≤ 2 ^ 62 := Nat.pow_le_pow_right (by omega) h
  simpa using this

end Go.Proofs.YtjgkignnfkbeaaaTro.Tic

/-
  Contracts of the small functions on numbers: powers of 2, bits, weights, rests, ranges, valid circles and shifts.
-/
namespace Go.Proofs.YtjgkignnfkbeaaaTro
open Go.RowKit
set_option linter.unusedVariables false

theorem ret_int {k : IntKind} {a b : Int} (h : a = b) : Ending.returned (.int k a) = .returned (.int k b) := by rw [h]
theorem ret_bool {a b : Bool} (h : a = b) : Ending.returned (.bool a) = .returned (.bool b) := by rw [h]

theorem power_any (n : Int) (w : World) (h0 : 0 ≤ n) (h1 : n ≤ 61) :
    Calls Tro.prog 65 #[.int .i64 n] w fun e w' => e = .returned (.int .i64 ((2 ^ n.toNat : Nat) : Int)) ∧ w = w' := by
  obtain ⟨N, rfl⟩ := Int.eq_ofNat_of_zero_le h0
  rw [Int.toNat_natCast]
  have HN := Lib.hid (Tic.pow_le_62 (k := N) (by omega))
  go_enter Tro.func65, Tro.ntmps65
  go_wp2
  go_loop [0, 3] (fun t0 t3 => ∃ k P : Nat, k ≤ N ∧ t0 = .int .i64 k ∧ t3 = .int .i64 P ∧ Hid (P * 2 ^ k = 2 ^ N)) (fun t0 _ => (intOf t0).toNat)
  case atStart => exact ⟨N, 1, Nat.le_refl _, rfl, rfl, Nat.one_mul _⟩
  case round =>
    obtain ⟨k, P, hk, rfl, rfl, hP⟩ := hrel
    by_cases hlt : 0 < k
    · have hb : P ≤ 2305843009213693952 := by
        have h2 : 2 ≤ 2 ^ k := by
          have := Nat.pow_le_pow_right (n := 2) (by omega) hlt
          simpa using this
        have h3 := hP.out
        have h4 := HN.out
        have h5 : P * 2 ≤ P * 2 ^ k := Nat.mul_le_mul_left _ h2
        omega
      go_wp2
      go_round
      case rel =>
        refine ⟨k - 1, 2 * P, by omega, ?_, ?_, ?_⟩
        · have : ((k : Int) - 1) = ((k - 1 : Nat) : Int) := by omega
          rw [this]
        · have : (2 * (P : Int)) = ((2 * P : Nat) : Int) := by omega
          rw [this]
        · have h3 := hP.out
          show 2 * P * 2 ^ (k - 1) = 2 ^ N
          rw [← h3]
          obtain ⟨j, rfl⟩ : ∃ j, k = j + 1 := ⟨k - 1, by omega⟩
          simp only [Nat.add_sub_cancel, Nat.pow_succ]
          rw [Nat.mul_comm 2 P, Nat.mul_assoc, Nat.mul_comm 2]
      case measure => simp [intOf]; omega
    · have : k = 0 := by omega
      subst this
      go_wp2
      go_ret
      have h3 := hP.out
      exact ⟨ret_int (congrArg Int.ofNat (by rw [← h3, Nat.pow_zero, Nat.mul_one])), rfl⟩

theorem bit_any (x j : Int) (w : World) (h0 : 0 ≤ x) (hx : x ≤ 1000000) (h1 : 0 ≤ j) (h2 : j ≤ 61) :
    Calls Tro.prog 70 #[.int .i64 x, .int .i64 j] w fun e w' => e = .returned (.int .i64 (Tic.bitI x.toNat j.toNat)) ∧ w = w' := by
  obtain ⟨s, rfl⟩ := Int.eq_ofNat_of_zero_le h0
  have hp : 1 ≤ 2 ^ j.toNat := Nat.one_le_two_pow
  have hpl := Tic.pow_le_62 (k := j.toNat) (by omega)
  have HB := Lib.hid (Tic.bitI_eq s j.toNat)
  generalize hg : 2 ^ j.toNat = p at hp hpl
  have HG := Lib.hid hg
  clear hg
  obtain ⟨hq0, hq1⟩ := Tic.div_bd s p
  go_enter Tro.func70, Tro.ntmps70
  go_wp2_with (go_at_call 65; refine (power_any _ _ h1 h2).mono ?_; rintro e w' ⟨rfl, rfl⟩; rw [HG.out])
  go_ret
  refine ⟨ret_int ?_, rfl⟩
  rw [Int.toNat_natCast, HB.out, HG.out]
  rfl

theorem bit_yes (x j : Int) (S k : Nat) (w : World) (hx : x = S) (hS : S < 4096) (hj : j = k) (hk : k ≤ 12) (h : S.testBit k = true) :
    Calls Tro.prog 70 #[.int .i64 x, .int .i64 j] w fun e w' => e = .returned (.int .i64 1) ∧ w = w' := by
  subst hx hj
  exact (bit_any S k w (by omega) (by omega) (by omega) (by omega)).mono fun e w' ⟨h1, h2⟩ => ⟨h1.trans (ret_int (Tic.bitI_true h)), h2⟩
theorem bit_no (x j : Int) (S k : Nat) (w : World) (hx : x = S) (hS : S < 4096) (hj : j = k) (hk : k ≤ 12) (h : S.testBit k = false) :
    Calls Tro.prog 70 #[.int .i64 x, .int .i64 j] w fun e w' => e = .returned (.int .i64 0) ∧ w = w' := by
  subst hx hj
  exact (bit_any S k w (by omega) (by omega) (by omega) (by omega)).mono fun e w' ⟨h1, h2⟩ => ⟨h1.trans (ret_int (Tic.bitI_false h)), h2⟩

theorem weight_any (x : Int) (w : World) (h0 : 0 ≤ x) (hx : x < 4096) :
    Calls Tro.prog 64 #[.int .i64 x] w fun e w' => e = .returned (.int .i64 (Tic.wt 12 x.toNat : Int)) ∧ w = w' := by
  obtain ⟨s, rfl⟩ := Int.eq_ofNat_of_zero_le h0
  rw [Int.toNat_natCast]
  have hle := Tic.wt_le 12 s
  go_enter Tro.func64, Tro.ntmps64
  go_wp2
  go_loop [0, 3] (fun t0 t3 => ∃ f r c : Nat, f ≤ 12 ∧ c ≤ 12 ∧ r ≤ 4095 ∧ r < 2 ^ f ∧ t0 = .int .i64 r ∧ t3 = .int .i64 c ∧ Hid (c + Tic.wt f r = Tic.wt 12 s)) (fun t0 _ => (intOf t0).toNat)
  case atStart => exact ⟨12, s, 0, by omega, by omega, by omega, by omega, rfl, rfl, Nat.zero_add _⟩
  case round =>
    obtain ⟨f, r, c, hf, hc, hr', hr, rfl, rfl, hP⟩ := hrel
    by_cases hlt : 0 < r
    · obtain ⟨g, rfl⟩ : ∃ g, f = g + 1 := ⟨f - 1, by
        cases f with
        | zero => simp at hr; omega
        | succ f => omega⟩
      have h3 : c + (r % 2 + Tic.wt g (r / 2)) = Tic.wt 12 s := hP.out
      have hm : c + r % 2 ≤ 12 := by omega
      have H3 := Lib.hid h3
      clear h3
      rw [Nat.pow_succ] at hr
      go_wp2
      go_round
      case rel => exact ⟨g, r / 2, c + r % 2, by omega, by omega, by omega, by omega, by go_num, by go_num, by have := H3.out; show c + r % 2 + Tic.wt g (r / 2) = Tic.wt 12 s; omega⟩
      case measure => simp [intOf]; omega
    · have : r = 0 := by omega
      subst this
      go_wp2
      go_ret
      have h3 := hP.out
      rw [Tic.wt_zero] at h3
      exact ⟨ret_int (by omega), rfl⟩

theorem rest_any (x n : Int) (w : World) (h0 : -1000 ≤ x) (hx : x ≤ 1000) (h1 : 1 ≤ n) (h2 : n ≤ 1000) :
    Calls Tro.prog 78 #[.int .i64 x, .int .i64 n] w fun e w' => e = .returned (.int .i64 (x % n)) ∧ w = w' := by
  have H := Lib.hid (Tic.go_round_emod (a := x) (n := n))
  have l1 := Int.lt_tmod_of_pos x (show 0 < n by omega)
  have l2 := Int.tmod_lt_of_pos x (show 0 < n by omega)
  go_enter Tro.func78, Tro.ntmps78
  go_wp2
  go_ret
  exact ⟨ret_int H.out, rfl⟩

theorem roundCircle_any (n x : Int) (w : World) (h0 : -1000 ≤ x) (hx : x ≤ 1000) (h1 : 1 ≤ n) (h2 : n ≤ 1000) :
    Calls Tro.prog 73 #[.int .i64 n, .int .i64 x] w fun e w' => e = .returned (.int .i64 (x % n)) ∧ w = w' := by
  have H := Lib.hid (Tic.go_round_emod (a := x) (n := n))
  have l1 := Int.lt_tmod_of_pos x (show 0 < n by omega)
  have l2 := Int.tmod_lt_of_pos x (show 0 < n by omega)
  go_enter Tro.func73, Tro.ntmps73
  go_wp2
  go_ret
  exact ⟨ret_int H.out, rfl⟩

theorem inRange_yes (n a b : Int) (w : World) (h1 : a ≤ n) (h2 : n ≤ b) :
    Calls Tro.prog 77 #[.int .i64 n, .int .i64 a, .int .i64 b] w fun e w' => e = .returned (.bool true) ∧ w = w' := by
  go_enter Tro.func77, Tro.ntmps77
  go_wp2
  go_ret
  exact ⟨rfl, rfl⟩
theorem inRange_no (n a b : Int) (w : World) (h : n < a ∨ b < n) :
    Calls Tro.prog 77 #[.int .i64 n, .int .i64 a, .int .i64 b] w fun e w' => e = .returned (.bool false) ∧ w = w' := by
  by_cases h1 : n < a
  · go_enter Tro.func77, Tro.ntmps77
    go_wp2
    go_ret
    exact ⟨rfl, rfl⟩
  · have h2 : b < n := by omega
    clear h
    go_enter Tro.func77, Tro.ntmps77
    go_wp2
    go_ret
    exact ⟨ret_bool (decide_eq_false (by omega)), rfl⟩

theorem validSet_yes (n s : Int) (w : World) (h : Tic.Valid n s) :
    Calls Tro.prog 52 #[.int .i64 n, .int .i64 s] w fun e w' => e = .returned (.bool true) ∧ w = w' := by
  obtain ⟨h1, h2, h3, h4⟩ := h
  have hp := Tic.pow_le_12 h2
  have hp1 : 1 ≤ 2 ^ n.toNat := Nat.one_le_two_pow
  generalize hg : 2 ^ n.toNat = p at h4 hp hp1
  have HG := Lib.hid hg
  clear hg
  go_enter Tro.func52, Tro.ntmps52
  go_wp2_with fail
  refine (inRange_yes _ _ _ _ h1 h2).mono ?_; rintro e w' ⟨rfl, rfl⟩
  go_wp2_with fail
  refine (power_any _ _ (by omega) (by omega)).mono ?_; rintro e w' ⟨rfl, rfl⟩; rw [HG.out]
  go_wp2_with fail
  refine (inRange_yes _ _ _ _ h3 (by omega)).mono ?_; rintro e w' ⟨rfl, rfl⟩
  go_wp2_with fail
  go_ret
  exact ⟨rfl, rfl⟩
theorem validSet_no (n s : Int) (w : World) (h : ¬ Tic.Valid n s) :
    Calls Tro.prog 52 #[.int .i64 n, .int .i64 s] w fun e w' => e = .returned (.bool false) ∧ w = w' := by
  by_cases h1 : n < 3 ∨ 12 < n
  · go_enter Tro.func52, Tro.ntmps52
    go_wp2_with fail
    refine (inRange_no _ _ _ _ h1).mono ?_; rintro e w' ⟨rfl, rfl⟩
    go_wp2_with fail
    go_ret
    exact ⟨rfl, rfl⟩
  · have h2 : 3 ≤ n ∧ n ≤ 12 := by omega
    obtain ⟨h2, h3⟩ := h2
    have hp := Tic.pow_le_12 h3
    have hp1 : 1 ≤ 2 ^ n.toNat := Nat.one_le_two_pow
    have h4 : s < 0 ∨ ((2 ^ n.toNat : Nat) : Int) ≤ s := by
      unfold Tic.Valid at h
      omega
    clear h h1
    generalize hg : 2 ^ n.toNat = p at h4 hp hp1
    have HG := Lib.hid hg
    have H4 := Lib.hid h4
    clear hg h4
    go_enter Tro.func52, Tro.ntmps52
    go_wp2_with fail
    refine (inRange_yes _ _ _ _ h2 h3).mono ?_; rintro e w' ⟨rfl, rfl⟩
    go_wp2_with fail
    refine (power_any _ _ (by omega) (by omega)).mono ?_; rintro e w' ⟨rfl, rfl⟩; rw [HG.out]
    go_wp2_with fail
    refine (inRange_no _ _ _ _ (by have := H4.out; omega)).mono ?_; rintro e w' ⟨rfl, rfl⟩
    go_wp2_with fail
    go_ret
    exact ⟨rfl, rfl⟩

theorem circle_yes (n : Int) (w : World) (h1 : 3 ≤ n) (h2 : n ≤ 12) :
    Calls Tro.prog 54 #[.int .i64 n] w fun e w' => e = .returned (.bool true) ∧ w = w' := by
  go_enter Tro.func54, Tro.ntmps54
  go_wp2
  go_ret
  exact ⟨rfl, rfl⟩
theorem circle_no (n : Int) (w : World) (h : n < 3 ∨ 12 < n) :
    Calls Tro.prog 54 #[.int .i64 n] w fun e w' => e = .returned (.bool false) ∧ w = w' := by
  by_cases h1 : n < 3
  · clear h
    go_enter Tro.func54, Tro.ntmps54
    go_wp2
    go_ret
    exact ⟨rfl, rfl⟩
  · have h2 : 12 < n := by omega
    clear h
    go_enter Tro.func54, Tro.ntmps54
    go_wp2
    go_ret
    exact ⟨ret_bool (decide_eq_false (by omega)), rfl⟩
theorem shiftOk_yes (t : Int) (w : World) (h : Tic.Turn t) :
    Calls Tro.prog 60 #[.int .i64 t] w fun e w' => e = .returned (.bool true) ∧ w = w' := by
  obtain ⟨h1, h2⟩ := h
  go_enter Tro.func60, Tro.ntmps60
  go_wp2
  go_ret
  exact ⟨rfl, rfl⟩
theorem shiftOk_no (t : Int) (w : World) (h : ¬ Tic.Turn t) :
    Calls Tro.prog 60 #[.int .i64 t] w fun e w' => e = .returned (.bool false) ∧ w = w' := by
  have h : t < -50 ∨ 50 < t := by unfold Tic.Turn at h; omega
  by_cases h1 : t < -50
  · clear h
    go_enter Tro.func60, Tro.ntmps60
    go_wp2
    go_ret
    exact ⟨rfl, rfl⟩
  · have h2 : 50 < t := by omega
    clear h
    go_enter Tro.func60, Tro.ntmps60
    go_wp2
    go_ret
    exact ⟨ret_bool (decide_eq_false (by omega)), rfl⟩

theorem wrap_nat {P : Nat} (h : P ≤ 4611686018427387904) : wrap64 (P : Int) = P := IntWalk.wrap64_in _ (by omega)
theorem wrap_pow {k : Nat} (h : k ≤ 61) : wrap64 ((2 : Int) ^ k) = ((2 ^ k : Nat) : Int) := by
  have e : (2 : Int) ^ k = ((2 ^ k : Nat) : Int) := by rw [Int.natCast_pow]; rfl
  rw [e]
  exact wrap_nat (Tic.pow_le_62 (by omega))

theorem ofInt_i64 (a : Nat) (ha : a < 4611686018427387904) : (BitVec.ofInt 64 (a : Int)).toNat = a := by
  rw [BitVec.ofInt_natCast, BitVec.toNat_ofNat]; exact Nat.mod_eq_of_lt (by omega)
theorem i64_and_nat (a b : Nat) (ha : a < 4611686018427387904) (hb : b < 4611686018427387904) : bits .and .i64 (a : Int) (b : Int) = ((a &&& b : Nat) : Int) := by
  have hx : a &&& b < 2 ^ 62 := Nat.and_lt_two_pow _ (by omega)
  show IntKind.i64.wrap ((BitVec.ofInt 64 (a : Int) &&& BitVec.ofInt 64 (b : Int)).toNat : Int) = _
  rw [BitVec.toNat_and, ofInt_i64 a ha, ofInt_i64 b hb]
  exact IntWalk.i64_in _ (by omega)
theorem i64_or_nat (a b : Nat) (ha : a < 4611686018427387904) (hb : b < 4611686018427387904) : bits .or .i64 (a : Int) (b : Int) = ((a ||| b : Nat) : Int) := by
  have hx : a ||| b < 2 ^ 62 := Nat.or_lt_two_pow (by omega) (by omega)
  show IntKind.i64.wrap ((BitVec.ofInt 64 (a : Int) ||| BitVec.ofInt 64 (b : Int)).toNat : Int) = _
  rw [BitVec.toNat_or, ofInt_i64 a ha, ofInt_i64 b hb]
  exact IntWalk.i64_in _ (by omega)
/-- s >> x & 1 == 1 -/
theorem has_bits (s x : Nat) (hs : s < 4096) : (bits .and .i64 ((s : Int) / (2 : Int) ^ x) 1 == 1) = s.testBit x := by
  have e : (2 : Int) ^ x = ((2 ^ x : Nat) : Int) := by rw [Int.natCast_pow]; rfl
  have hd : s / 2 ^ x < 4611686018427387904 := by have := Nat.div_le_self s (2 ^ x); omega
  rw [e, ← Int.natCast_ediv]
  have := i64_and_nat (s / 2 ^ x) 1 hd (by omega)
  rw [show ((1 : Nat) : Int) = 1 from rfl] at this
  rw [this, Nat.and_one_is_mod, Nat.testBit_eq_decide_div_mod_eq]
  have := Nat.mod_lt (s / 2 ^ x) (y := 2) (by omega)
  by_cases h : s / 2 ^ x % 2 = 1
  · simp [h]
  · have h0 : s / 2 ^ x % 2 = 0 := by omega
    simp [h0]

theorem implValid_yes (n s : Int) (w : World) (h : Tic.Valid n s) :
    Calls Tro.prog 22 #[.int .i64 n, .int .i64 s] w fun e w' => e = .returned (.bool true) ∧ w = w' := by
  have h4 := Lib.hid h.2.2.2
  obtain ⟨h1, h2, h3, _⟩ := h
  have HW := Lib.hid (wrap_pow (k := n.toNat) (by omega))
  go_enter Tro.func22, Tro.ntmps22
  go_wp2_with fail
  refine (circle_yes _ _ h1 h2).mono ?_; rintro e w' ⟨rfl, rfl⟩
  go_wp2_with fail
  go_ret
  exact ⟨ret_bool (by rw [HW.out]; exact decide_eq_true h4.out), rfl⟩
theorem implValid_no (n s : Int) (w : World) (h : ¬ Tic.Valid n s) :
    Calls Tro.prog 22 #[.int .i64 n, .int .i64 s] w fun e w' => e = .returned (.bool false) ∧ w = w' := by
  by_cases h1 : n < 3 ∨ 12 < n
  · go_enter Tro.func22, Tro.ntmps22
    go_wp2_with fail
    refine (circle_no _ _ h1).mono ?_; rintro e w' ⟨rfl, rfl⟩
    go_wp2_with fail
    go_ret
    exact ⟨rfl, rfl⟩
  · have h2 : 3 ≤ n ∧ n ≤ 12 := by omega
    obtain ⟨h2, h3⟩ := h2
    have h4 : s < 0 ∨ ((2 ^ n.toNat : Nat) : Int) ≤ s := by
      unfold Tic.Valid at h
      omega
    clear h h1
    have HW := Lib.hid (wrap_pow (k := n.toNat) (by omega))
    by_cases h5 : s < 0
    · clear h4
      go_enter Tro.func22, Tro.ntmps22
      go_wp2_with fail
      refine (circle_yes _ _ h2 h3).mono ?_; rintro e w' ⟨rfl, rfl⟩
      go_wp2_with fail
      go_ret
      exact ⟨rfl, rfl⟩
    · have h6 : ((2 ^ n.toNat : Nat) : Int) ≤ s := by omega
      have H6 := Lib.hid h6
      clear h4 h6
      go_enter Tro.func22, Tro.ntmps22
      go_wp2_with fail
      refine (circle_yes _ _ h2 h3).mono ?_; rintro e w' ⟨rfl, rfl⟩
      go_wp2_with fail
      go_ret
      exact ⟨ret_bool (by rw [HW.out]; exact decide_eq_false (by have := H6.out; omega)), rfl⟩


end Go.Proofs.YtjgkignnfkbeaaaTro

/-
  Contracts of shifts and turns of sets: the program's own methods and the model's loops; both are the image of a set under a map of tones.
-/
namespace Go.Proofs.YtjgkignnfkbeaaaTro
open Go.RowKit
set_option linter.unusedVariables false

theorem bcell {W w1 : World} (hb : Below W.heap.size W w1) : (∀ b o, b < W.heap.size → w1.cell? ⟨b, o, none⟩ = W.cell? ⟨b, o, none⟩) ∧ (∀ b o, b < W.heap.size → w1.frozen? ⟨b, o, none⟩ = W.frozen? ⟨b, o, none⟩) :=
  ⟨fun b o h => hb.cell (p := ⟨b, o, none⟩) h, fun b o h => hb.frozen (p := ⟨b, o, none⟩) h⟩

theorem has_any (n s x : Int) (w : World) (h0 : 0 ≤ s) (hs : s < 4096) (hx : 0 ≤ x) (hx2 : x ≤ 12) :
    Calls Tro.prog 71 #[.agg #[.int .i64 n, .int .i64 s], .int .i64 x] w fun e w' => e = .returned (.bool (s.toNat.testBit x.toNat)) ∧ Below w.heap.size w w' := by
  obtain ⟨S, rfl⟩ := Int.eq_ofNat_of_zero_le h0
  have HB := Lib.hid (has_bits S x.toNat (by omega))
  go_enter Tro.func71, Tro.ntmps71
  go_wp2
  go_ret
  exact ⟨ret_bool HB.out, (Below.refl _ _).alloc (Nat.le_refl _) _⟩

theorem has_yes (n s : Int) (S k : Nat) (w : World) (hs : s = S) (hS : S < 4096) (hk : k ≤ 12) (h : S.testBit k = true) :
    Calls Tro.prog 71 #[.agg #[.int .i64 n, .int .i64 s], .int .i64 k] w fun e w' => e = .returned (.bool true) ∧ Below w.heap.size w w' := by
  subst hs
  exact (has_any n S k w (by omega) (by omega) (by omega) (by omega)).mono fun e w' ⟨h1, h2⟩ => ⟨h1.trans (ret_bool h), h2⟩
theorem has_no (n s : Int) (S k : Nat) (w : World) (hs : s = S) (hS : S < 4096) (hk : k ≤ 12) (h : S.testBit k = false) :
    Calls Tro.prog 71 #[.agg #[.int .i64 n, .int .i64 s], .int .i64 k] w fun e w' => e = .returned (.bool false) ∧ Below w.heap.size w w' := by
  subst hs
  exact (has_any n S k w (by omega) (by omega) (by omega) (by omega)).mono fun e w' ⟨h1, h2⟩ => ⟨h1.trans (ret_bool h), h2⟩

theorem way_bd {way : Int} {k : Nat} (h1 : -1 ≤ way) (h2 : way ≤ 1) (hk : k ≤ 12) : -12 ≤ way * k := by
  rcases (show way = -1 ∨ way = 0 ∨ way = 1 by omega) with rfl | rfl | rfl <;> omega
theorem way_bd2 {way : Int} {k : Nat} (h1 : -1 ≤ way) (h2 : way ≤ 1) (hk : k ≤ 12) : way * k ≤ 12 := by
  rcases (show way = -1 ∨ way = 0 ∨ way = 1 by omega) with rfl | rfl | rfl <;> omega
theorem or_pow {S k : Nat} (hS : S < 4096) (hk : k ≤ 12) : bits .or .i64 (S : Int) (wrap64 ((2 : Int) ^ k)) = ((S ||| 2 ^ k : Nat) : Int) := by
  rw [wrap_pow (by omega)]
  have : 2 ^ k ≤ 2 ^ 12 := Nat.pow_le_pow_right (by omega) hk
  exact i64_or_nat _ _ (by omega) (by omega)
theorem still_of {P : Program} {f : Nat} {args : Array Value} {w : World} {v : Value} (h : Calls P f args w fun e w' => e = .returned v ∧ w = w') : Calls P f args w fun e w' => e = .returned v ∧ w' = w :=
  h.mono fun _ _ ⟨a, b⟩ => ⟨a, b.symm⟩

/-- a world in which a new pair of cells is written -/
theorem pair_back {w : World} {b : Nat} {x y u v : Value} (r0 : w.cell? ⟨b, 0, none⟩ = some u) (r1 : w.cell? ⟨b, 1, none⟩ = some v) :
    ((w.setCell ⟨b, 0, none⟩ x).setCell ⟨b, 1, none⟩ y).cell? ⟨b, 0, none⟩ = some x ∧ ((w.setCell ⟨b, 0, none⟩ x).setCell ⟨b, 1, none⟩ y).cell? ⟨b, 1, none⟩ = some y := by
  constructor
  · rw [World.cell?_setCell_other _ _ _ _ (by simp)]; exact World.cell?_setCell_same _ _ _ r0
  · refine World.cell?_setCell_same _ _ _ (u := v) ?_
    rw [World.cell?_setCell_other _ _ _ _ (by simp)]; exact r1
theorem emod_bd (x n : Int) (h : 1 ≤ n) : 0 ≤ x % n ∧ x % n < n := ⟨Int.emod_nonneg x (by omega), Int.emod_lt_of_pos x (by omega)⟩
set_option maxRecDepth 20000 in
theorem with_any (n s x : Int) (w : World) (g1 : 1 ≤ n) (g2 : n ≤ 12) (g3 : 0 ≤ s) (g4 : s < 4096) (h1 : -1000 ≤ x) (h2 : x ≤ 1000) :
    Calls Tro.prog 75 #[.agg #[.int .i64 n, .int .i64 s], .int .i64 x] w fun e w' => e = .returned (.agg #[.int .i64 n, .int .i64 ((s.toNat ||| 2 ^ (x % n).toNat : Nat) : Int)]) ∧ Below w.heap.size w w' := by
  obtain ⟨S, rfl⟩ := Int.eq_ofNat_of_zero_le g3
  rw [Int.toNat_natCast]
  obtain ⟨m1, m2⟩ := emod_bd x n g1
  have HW := Lib.hid (or_pow (S := S) (k := (x % n).toNat) (by omega) (by omega))
  go_enter Tro.func75, Tro.ntmps75
  go_wp2
  have c0 : ((w.alloc (.cells #[.int .i64 n, .int .i64 S] 47)).alloc (.cells #[.int .i64 0, .int .i64 0] 47)).cell? ⟨w.heap.size, 0, none⟩ = some (.int .i64 n) := by go_simp
  have c1 : ((w.alloc (.cells #[.int .i64 n, .int .i64 S] 47)).alloc (.cells #[.int .i64 0, .int .i64 0] 47)).cell? ⟨w.heap.size, 1, none⟩ = some (.int .i64 S) := by go_simp
  have c2 : ((w.alloc (.cells #[.int .i64 n, .int .i64 S] 47)).alloc (.cells #[.int .i64 0, .int .i64 0] 47)).frozen? ⟨w.heap.size, 1, none⟩ = false := by go_simp
  have r0 : ((w.alloc (.cells #[.int .i64 n, .int .i64 S] 47)).alloc (.cells #[.int .i64 0, .int .i64 0] 47)).cell? ⟨w.heap.size + 1, 0, none⟩ = some (.int .i64 0) := by go_simp
  have r1 : ((w.alloc (.cells #[.int .i64 n, .int .i64 S] 47)).alloc (.cells #[.int .i64 0, .int .i64 0] 47)).cell? ⟨w.heap.size + 1, 1, none⟩ = some (.int .i64 0) := by go_simp
  have q0 : ((w.alloc (.cells #[.int .i64 n, .int .i64 S] 47)).alloc (.cells #[.int .i64 0, .int .i64 0] 47)).frozen? ⟨w.heap.size + 1, 0, none⟩ = false := by go_simp
  have q1 : ((w.alloc (.cells #[.int .i64 n, .int .i64 S] 47)).alloc (.cells #[.int .i64 0, .int .i64 0] 47)).frozen? ⟨w.heap.size + 1, 1, none⟩ = false := by go_simp
  have hbel : Below w.heap.size w ((w.alloc (.cells #[.int .i64 n, .int .i64 S] 47)).alloc (.cells #[.int .i64 0, .int .i64 0] 47)) := ((Below.refl _ _).alloc (Nat.le_refl _) _).alloc (by simp) _
  generalize (w.alloc (.cells #[.int .i64 n, .int .i64 S] 47)).alloc (.cells #[.int .i64 0, .int .i64 0] 47) = W at c0 c1 c2 r0 r1 q0 q1 hbel ⊢
  refine wp_region_still_tail 9 (by kernel_rfl) (by kernel_rfl) ?_
  simp only [List.take_succ_cons, List.take_zero, List.drop_succ_cons, List.drop_zero]
  still_step
  still_step
  still_step
  still_step
  still_step
  still_call (still_of (roundCircle_any _ _ _ (by omega) (by omega) (by omega) (by omega)))
  still_step
  still_step
  still_step
  refine wpStill_nil ?_
  change wpList _ _ _ _ _ W.drew
  go_wp2
  rw [HW.out]
  obtain ⟨e1, e2⟩ := pair_back (w := W.setCell ⟨w.heap.size, 1, none⟩ (.int .i64 ((S ||| 2 ^ (x % n).toNat : Nat) : Int))) (x := .int .i64 n) (y := .int .i64 ((S ||| 2 ^ (x % n).toNat : Nat) : Int)) ((World.cell?_setCell_other _ _ _ _ (by simp)).trans r0) ((World.cell?_setCell_other _ _ _ _ (by simp)).trans r1)
  refine bodyPost_ret (v := .agg #[.int .i64 n, .int .i64 ((S ||| 2 ^ (x % n).toNat : Nat) : Int)]) (by simp [results, Tro.results75, go_sem, e1, e2]) rfl ⟨rfl, ?_⟩
  exact (((hbel.setCell (by simp) _).setCell (by simp) _).setCell (by simp) _).drew
set_option maxRecDepth 20000 in
theorem moved_any (n s way t : Int) (w : World) (hv : Tic.Valid n s) (h1 : -1 ≤ way) (h2 : way ≤ 1) (h3 : -50 ≤ t) (h4 : t ≤ 50) :
    Calls Tro.prog 79 #[.agg #[.int .i64 n, .int .i64 s], .int .i64 way, .int .i64 t] w fun e w' => e = .returned (.agg #[.int .i64 n, .int .i64 (Tic.img (Tic.mvd n.toNat way t) s.toNat n.toNat : Int)]) ∧ Below w.heap.size w w' := by
  have hlt := hv.lt
  obtain ⟨g1, g2, g3, _⟩ := hv
  obtain ⟨N, rfl⟩ := Int.eq_ofNat_of_zero_le (show 0 ≤ n by omega)
  obtain ⟨S, rfl⟩ := Int.eq_ofNat_of_zero_le g3
  rw [Int.toNat_natCast, Int.toNat_natCast]
  go_enter Tro.func79, Tro.ntmps79
  go_wp2
  go_loopw [8, 14] (fun t8 t14 wr => ∃ k : Nat, k ≤ N ∧ t14 = .int .i64 k ∧
      wr.cell? ⟨w.heap.size, 0, none⟩ = some (.int .i64 N) ∧ wr.cell? ⟨w.heap.size, 1, none⟩ = some (.int .i64 S) ∧
      wr.cell? ⟨w.heap.size + 1, 0, none⟩ = some (.int .i64 0) ∧ wr.cell? ⟨w.heap.size + 1, 1, none⟩ = some (.int .i64 0) ∧
      wr.frozen? ⟨w.heap.size + 1, 0, none⟩ = false ∧ wr.frozen? ⟨w.heap.size + 1, 1, none⟩ = false ∧
      wr.cell? ⟨w.heap.size + 1 + 1, 0, none⟩ = some (.int .i64 N) ∧ wr.cell? ⟨w.heap.size + 1 + 1, 1, none⟩ = some (.int .i64 (Tic.img (Tic.mvd N way t) S k : Int)) ∧
      wr.frozen? ⟨w.heap.size + 1 + 1, 1, none⟩ = false ∧ wr.frozen? ⟨w.heap.size + 1 + 1, 0, none⟩ = false ∧
      w.heap.size + 1 + 1 < wr.heap.size ∧ Below w.heap.size w wr) (fun _ t14 _ => N - (intOf t14).toNat)
  case atStart =>
    refine ⟨0, Nat.zero_le _, rfl, ?_, ?_, ?_, ?_, ?_, ?_, ?_, ?_, ?_, ?_, ?_, ?_⟩
    all_goals first | exact (((Below.refl _ _).alloc (Nat.le_refl _) _).alloc (by simp) _).alloc (by simp; omega) _ | go_simp
    rfl
  case round =>
    obtain ⟨k, hk, rfl, a0, a1, r0, r1, q0, q1, b0, b1, p1, p2, hz, hbel⟩ := hrel
    by_cases hlt2 : k < N
    · cases hbit : S.testBit k with
      | false =>
        have HB := Lib.hid hbit
        clear hbit
        go_wp2_with fail
        refine (has_no _ _ S k _ rfl (by omega) (by omega) HB.out).mono ?_; rintro e w1 ⟨rfl, hb1⟩
        obtain ⟨hc, hf⟩ := bcell hb1
        have hz1 := hb1.size
        go_wp2
        go_roundw
        case rel =>
          refine ⟨k + 1, by omega, by go_num, ?_, ?_, ?_, ?_, ?_, ?_, ?_, ?_, ?_, ?_, ?_, ?_⟩
          all_goals first | (rw [hc _ _ (by omega)]; assumption) | (rw [hf _ _ (by omega)]; assumption) | omega | exact hbel.trans (hb1.mono (by omega)) | (rw [hc _ _ (by omega), Tic.img_no _ HB.out]; assumption)
        case measure => simp [intOf]; omega
      | true =>
        have HB := Lib.hid hbit
        clear hbit
        go_wp2_with fail
        refine (has_yes _ _ S k _ rfl (by omega) (by omega) HB.out).mono ?_; rintro e w1 ⟨rfl, hb1⟩
        obtain ⟨hc, hf⟩ := bcell hb1
        have hz1 := hb1.size
        go_wp2_with fail
        have d0 : w1.cell? ⟨w.heap.size, 0, none⟩ = some (.int .i64 N) := by rw [hc _ _ (by omega)]; exact a0
        have d1 : w1.cell? ⟨w.heap.size, 1, none⟩ = some (.int .i64 S) := by rw [hc _ _ (by omega)]; exact a1
        have e0 : w1.cell? ⟨w.heap.size + 1, 0, none⟩ = some (.int .i64 0) := by rw [hc _ _ (by omega)]; exact r0
        have e1 : w1.cell? ⟨w.heap.size + 1, 1, none⟩ = some (.int .i64 0) := by rw [hc _ _ (by omega)]; exact r1
        have g0 : w1.frozen? ⟨w.heap.size + 1, 0, none⟩ = false := by rw [hf _ _ (by omega)]; exact q0
        have g1 : w1.frozen? ⟨w.heap.size + 1, 1, none⟩ = false := by rw [hf _ _ (by omega)]; exact q1
        have l0 : w1.cell? ⟨w.heap.size + 1 + 1, 0, none⟩ = some (.int .i64 N) := by rw [hc _ _ (by omega)]; exact b0
        have l1 : w1.cell? ⟨w.heap.size + 1 + 1, 1, none⟩ = some (.int .i64 (Tic.img (Tic.mvd N way t) S k : Int)) := by rw [hc _ _ (by omega)]; exact b1
        have l2 : w1.frozen? ⟨w.heap.size + 1 + 1, 1, none⟩ = false := by rw [hf _ _ (by omega)]; exact p1
        have l3 : w1.frozen? ⟨w.heap.size + 1 + 1, 0, none⟩ = false := by rw [hf _ _ (by omega)]; exact p2
        have hbel1 : Below w.heap.size w w1 := hbel.trans (hb1.mono (by omega))
        have hz2 : w.heap.size + 1 + 1 < w1.heap.size := by omega
        clear hc hf hz1 hb1 a0 a1 r0 r1 q0 q1 b0 b1 p1 p2 hz hbel
        have hw1 := way_bd (k := k) h1 h2 (by omega)
        have hw2 := way_bd2 (k := k) h1 h2 (by omega)
        have hs1 := IntWalk.wrap64_in (way * k) (by omega)
        have hs2 := IntWalk.wrap64_in (t + way * k) (by omega)
        have hi1 : Tic.img (Tic.mvd N way t) S k < 4096 := by have := Tic.img_lt (Tic.mvd N way t) S 12 k (fun x _ => by have := Tic.mvd_lt (n := N) (by omega) way t x; omega); omega
        rw [hs1, hs2]
        clear hs1 hs2
        refine (with_any _ _ _ _ (by omega) (by omega) (by omega) (by omega) (by omega) (by omega)).mono ?_; rintro e w2 ⟨rfl, hb2⟩
        rw [Int.toNat_natCast, show Tic.img (Tic.mvd N way t) S k ||| 2 ^ ((t + way * k) % (N : Int)).toNat = Tic.img (Tic.mvd N way t) S (k + 1) from (Tic.img_yes _ HB.out).symm]
        obtain ⟨hc2, hf2⟩ := bcell hb2
        have s0 := (hc2 _ 0 (by omega)).trans d0
        have s1 := (hc2 _ 1 (by omega)).trans d1
        have t0 := (hc2 _ 0 (by omega)).trans e0
        have t1 := (hc2 _ 1 (by omega)).trans e1
        have u0 := (hf2 _ 0 (by omega)).trans g0
        have u1 := (hf2 _ 1 (by omega)).trans g1
        have v0 := (hc2 _ 0 (by omega)).trans l0
        have v1 := (hc2 _ 1 (by omega)).trans l1
        have v2 := (hf2 _ 1 (by omega)).trans l2
        have v3 := (hf2 _ 0 (by omega)).trans l3
        have hz3 := hb2.size
        have hbel2 := hbel1.trans (hb2.mono (by omega))
        clear hc2 hf2 d0 d1 e0 e1 g0 g1 l0 l1 l2 l3 hb2 hbel1
        go_wp2
        obtain ⟨y0, y1⟩ := pair_back (x := .int .i64 N) (y := .int .i64 (Tic.img (Tic.mvd N way t) S (k + 1) : Int)) v0 v1
        go_roundw
        case rel =>
          refine ⟨k + 1, by omega, by go_num, ?_, ?_, ?_, ?_, ?_, ?_, y0, y1, ?_, ?_, ?_, ?_⟩
          all_goals try simp only [World.frozen?_setCell]
          all_goals first | assumption | (rw [World.cell?_setCell_other _ _ _ _ (by simp), World.cell?_setCell_other _ _ _ _ (by simp)]; assumption) | exact (hbel2.setCell (by simp; omega) _).setCell (by simp; omega) _ | (simp; omega)
        case measure => simp [intOf]; omega
    · have : k = N := by omega
      subst this
      go_wp2
      refine bodyPost_ret (v := .agg #[.int .i64 k, .int .i64 (Tic.img (Tic.mvd k way t) S k : Int)]) ?_ rfl ⟨rfl, ?_⟩
      · have e1 := World.cell?_setCell_same wr ⟨w.heap.size + 1, 0, none⟩ (.int .i64 k) r0
        have e2 : ((wr.setCell ⟨w.heap.size + 1, 0, none⟩ (.int .i64 k)).setCell ⟨w.heap.size + 1, 1, none⟩ (.int .i64 (Tic.img (Tic.mvd k way t) S k : Int))).cell? ⟨w.heap.size + 1, 0, none⟩ = some (.int .i64 k) := by
          rw [World.cell?_setCell_other _ _ _ _ (by simp)]; exact e1
        have e3 : ((wr.setCell ⟨w.heap.size + 1, 0, none⟩ (.int .i64 k)).setCell ⟨w.heap.size + 1, 1, none⟩ (.int .i64 (Tic.img (Tic.mvd k way t) S k : Int))).cell? ⟨w.heap.size + 1, 1, none⟩ = some (.int .i64 (Tic.img (Tic.mvd k way t) S k : Int)) := by
          refine World.cell?_setCell_same _ _ _ (u := .int .i64 0) ?_
          rw [World.cell?_setCell_other _ _ _ _ (by simp)]; exact r1
        simp [results, Tro.results79, go_sem, e2, e3]
      · exact (hbel.setCell (by simp) _).setCell (by simp) _
theorem tones_of (a b : Int) (w : World) : (Instr.field 47 (.agg #[.int .i64 a, .int .i64 b]) 1).run Tro.prog w = .ok (.int .i64 b) w := by kernel_rfl
theorem mshift_any (n s t : Int) (w : World) (hv : Tic.Valid n s) (ht : Tic.Turn t) :
    Calls Tro.prog 57 #[.agg #[.int .i64 n, .int .i64 s], .int .i64 t] w fun e w' => e = .returned (.agg #[.int .i64 n, .int .i64 (Tic.img (Tic.mvd n.toNat 1 t) s.toNat n.toNat : Int)]) ∧ Below w.heap.size w w' := by
  go_enter Tro.func57, Tro.ntmps57
  go_wp2_with fail
  refine (moved_any _ _ _ _ _ hv (by omega) (by omega) ht.1 ht.2).mono ?_; rintro e w1 ⟨rfl, hb⟩
  obtain ⟨hc, hf⟩ := bcell hb
  have r0 : w1.cell? ⟨w.heap.size + 1, 0, none⟩ = some (.int .i64 0) := by rw [hc _ _ (by simp)]; go_simp
  have r1 : w1.cell? ⟨w.heap.size + 1, 1, none⟩ = some (.int .i64 0) := by rw [hc _ _ (by simp)]; go_simp
  have q0 : w1.frozen? ⟨w.heap.size + 1, 0, none⟩ = false := by rw [hf _ _ (by simp)]; go_simp
  have q1 : w1.frozen? ⟨w.heap.size + 1, 1, none⟩ = false := by rw [hf _ _ (by simp)]; go_simp
  clear hc hf
  go_wp2_with fail
  obtain ⟨e1, e2⟩ := pair_back (x := .int .i64 n) (y := .int .i64 (Tic.img (Tic.mvd n.toNat 1 t) s.toNat n.toNat : Int)) r0 r1
  refine bodyPost_ret (v := .agg #[.int .i64 n, .int .i64 (Tic.img (Tic.mvd n.toNat 1 t) s.toNat n.toNat : Int)]) (by simp [results, Tro.results57, go_sem, e1, e2]) rfl ⟨rfl, ?_⟩
  exact (((((Below.refl _ _).alloc (Nat.le_refl _) _).alloc (by simp) _).trans (hb.mono (by simp; omega))).setCell (by simp) _).setCell (by simp) _

end Go.Proofs.YtjgkignnfkbeaaaTro

/-
  Slices of whole numbers that a call made: their rows, kept and written; the contracts of the laws' helpers eqIntS, markIntS, heldIntS.
-/
namespace Go.Proofs.YtjgkignnfkbeaaaTro
open Go.RowKit
set_option linter.unusedVariables false

/-- the slice v, made from block B on, holds the numbers L -/
def Row (w : World) (B : Nat) (v : Value) (L : List Int) : Prop := w.ownsRow B 3 1 v L.length (L.map (Value.int .i64)) ∧ L.length ≤ 1048576

theorem Row.kept {w w' : World} {B : Nat} {v : Value} {L : List Int} (h : Row w B v L) (hb : Below w.heap.size w w') : Row w' B v L :=
  ⟨h.1.kept (row := none) ⟨hb.os, hb.tape, hb.output, hb.size, fun k hk _ => hb.block k hk⟩ (by cases v.ownBlock <;> simp), h.2⟩
theorem Row.mono {w : World} {B B' : Nat} {v : Value} {L : List Int} (h : Row w B v L) (hB : B' ≤ B) : Row w B' v L := by
  obtain ⟨⟨h1, h2⟩, h3⟩ := h
  refine ⟨⟨h1, ?_⟩, h3⟩
  rcases h2 with h2 | ⟨g, cap, cur, e, hg, r⟩
  · exact .inl h2
  · exact .inr ⟨g, cap, cur, e, by omega, r⟩
theorem Row.cases {w : World} {B : Nat} {v : Value} {L : List Int} (h : Row w B v L) : (v = .slice none 0 0 ∧ L = []) ∨
    ∃ g cap, v = .slice (some ⟨g, 0, none⟩) L.length cap ∧ B ≤ g ∧ g < w.heap.size ∧ (∀ i, i < L.length → w.cell? ⟨g, i, none⟩ = some (.int .i64 (L.getD i 0))) ∧ (∀ i, w.frozen? ⟨g, i, none⟩ = false) := by
  obtain ⟨h1, h3⟩ := h
  have h1' := h1
  rcases h1.2 with ⟨e, hn⟩ | ⟨g, cap, cur, e, hg, hh, r⟩
  · exact .inl ⟨e, List.eq_nil_of_length_eq_zero hn⟩
  · subst e
    refine .inr ⟨g, cap, rfl, hg, (Array.getElem?_eq_some_iff.1 hh).1, fun i hi => ?_, fun i => h1.frozenAt i⟩
    rw [h1.cellAt i (by omega), List.getElem?_map, List.getElem?_eq_getElem hi]
    simp [List.getD_eq_getElem?_getD, List.getElem?_eq_getElem hi]
theorem Row.set {w : World} {B g cap : Nat} {L : List Int} (h : Row w B (.slice (some ⟨g, 0, none⟩) L.length cap) L) (j : Nat) (x : Int) :
    Row (w.setCell ⟨g, j, none⟩ (.int .i64 x)) B (.slice (some ⟨g, 0, none⟩) L.length cap) (L.set j x) ∧ w.grownBy (w.setCell ⟨g, j, none⟩ (.int .i64 x)) (some g) := by
  obtain ⟨h1, h2⟩ := h.1.stored j (.int .i64 x)
  refine ⟨⟨?_, by simpa using h.2⟩, h2⟩
  rw [List.map_set, List.length_set]
  exact h1
theorem Row.far {w w' : World} {B : Nat} {v : Value} {L : List Int} (h : Row w B v L) {g : Nat} (hg : w.grownBy w' (some g)) (hB : ∀ k, v.ownBlock = some k → k < g) : Row w' B v L := by
  refine ⟨h.1.kept hg ?_, h.2⟩
  cases e : v.ownBlock with
  | none => exact .inl rfl
  | some k => right; intro e2; have := hB k e; injection e2 with e2; omega

set_option maxHeartbeats 400000 in
theorem eqIntS_same (v1 v2 : Value) (B1 B2 : Nat) (L : List Int) (w : World) (h1 : Row w B1 v1 L) (h2 : Row w B2 v2 L) :
    Calls Tro.prog 36 #[v1, v2] w fun e w' => e = .returned (.bool true) ∧ Below w.heap.size w w' := by
  by_cases hL : L = []
  · subst hL
    rcases h1.cases with ⟨rfl, _⟩ | ⟨g1, c1, rfl, _⟩ <;> rcases h2.cases with ⟨rfl, _⟩ | ⟨g2, c2, rfl, _⟩
    all_goals
      go_enter Tro.func36, Tro.ntmps36
      go_wp2
      refine wp_loop_rounds 1 ?_
      rw [rounds_succ]
      go_wp2
      go_ret
      exact ⟨rfl, Below.refl _ _⟩
  · have hl : 0 < L.length := List.length_pos_iff.2 hL
    have hl2 := h1.2
    rcases h1.cases with ⟨_, e⟩ | ⟨g1, c1, rfl, _, hg1, hc1, _⟩
    · exact absurd e hL
    rcases h2.cases with ⟨_, e⟩ | ⟨g2, c2, rfl, _, hg2, hc2, _⟩
    · exact absurd e hL
    generalize hn : L.length = n at hl hl2 hc1 hc2
    have HC1 := Lib.hid hc1
    have HC2 := Lib.hid hc2
    clear hn hc1 hc2 h1 h2 hL
    go_enter Tro.func36, Tro.ntmps36
    go_wp2
    go_loopw [5] (fun t5 wr => ∃ k : Nat, k ≤ n ∧ t5 = .int .i64 k ∧ Below w.heap.size w wr) (fun t5 _ => n - (intOf t5).toNat)
    case atStart => exact ⟨0, Nat.zero_le _, rfl, Below.refl _ _⟩
    case round =>
      obtain ⟨k, hk, rfl, hbel⟩ := hrel
      by_cases hlt2 : k < n
      · have d1 := (hbel.cell (p := ⟨g1, k, none⟩) hg1).trans (HC1.out k hlt2)
        have d2 := (hbel.cell (p := ⟨g2, k, none⟩) hg2).trans (HC2.out k hlt2)
        have hi0 : (0 : Int) ≤ (k : Int) := by omega
        have hi1 : (k : Int) < (n : Int) := by omega
        go_wp2
        go_region
        all_goals
          go_wp2
          go_roundw
          case rel => exact ⟨k + 1, by omega, by go_num, hbel.drew⟩
          case measure => simp [intOf]; omega
      · have : k = n := by omega
        subst this
        go_wp2
        go_ret
        exact ⟨rfl, hbel⟩

theorem Row.low {w w' : World} {B B0 : Nat} {v : Value} {L : List Int} (h : Row w B0 v L) (hb : Below B w w') (hlt : ∀ k, v.ownBlock = some k → k < B) : Row w' B0 v L := by
  obtain ⟨⟨h1, h2⟩, h3⟩ := h
  refine ⟨⟨h1, ?_⟩, h3⟩
  rcases h2 with h2 | ⟨g, cap, cur, e, hg, hh, r⟩
  · exact .inl h2
  · subst e
    exact .inr ⟨g, cap, cur, rfl, hg, (hb.block g (hlt g rfl)).trans hh, r⟩
theorem Row.lt {w : World} {B : Nat} {v : Value} {L : List Int} (h : Row w B v L) : ∀ k, v.ownBlock = some k → B ≤ k ∧ k < w.heap.size := h.1.lt

/-- the first i numbers are q, q + 1, and so on -/
def markTo (q : Int) (L : List Int) : Nat → List Int
  | 0 => L
  | i + 1 => (markTo q L i).set i (q + i)
theorem markTo_length (q : Int) (L : List Int) : ∀ i, (markTo q L i).length = L.length
  | 0 => rfl
  | i + 1 => by unfold markTo; rw [List.length_set, markTo_length q L i]
theorem markTo_getD (q : Int) (L : List Int) : ∀ i, i ≤ L.length → ∀ j, j < i → (markTo q L i).getD j 0 = q + j
  | 0, _, j, h => by omega
  | i + 1, hi, j, h => by
    unfold markTo
    have hl := markTo_length q L i
    rw [List.getD_eq_getElem?_getD, List.getElem?_set]
    by_cases e : i = j
    · subst e; rw [if_pos rfl, if_pos (by omega)]; rfl
    · rw [if_neg e, ← List.getD_eq_getElem?_getD]; exact markTo_getD q L i (by omega) j (by omega)

def Marked (q : Int) (M : List Int) : Prop := ∀ j, j < M.length → M.getD j 0 = q + j
theorem marked_all (q : Int) (L : List Int) : Marked q (markTo q L L.length) := fun j hj => markTo_getD q L L.length (Nat.le_refl _) j (by rw [markTo_length] at hj; exact hj)

def Marks (B : Nat) (v : Value) (L : List Int) (q : Int) (w : World) (e : Ending) (w' : World) : Prop :=
  e = .returned (.int .i64 (q + L.length)) ∧ Row w' B v (markTo q L L.length) ∧ Below B w w'

theorem markIntS_any (v : Value) (B : Nat) (L : List Int) (q : Int) (w : World) (h1 : Row w B v L) (hB : B ≤ w.heap.size) (hq0 : 0 ≤ q) (hq1 : q ≤ 1000000) :
    Calls Tro.prog 37 #[v, .int .i64 q] w (Marks B v L q w) := by
  have hl2 := h1.2
  rcases h1.cases with ⟨rfl, rfl⟩ | ⟨g1, c1, rfl, hBg, hg1, hc1, hf1⟩
  · go_enter Tro.func37, Tro.ntmps37
    go_wp2
    refine wp_loop_rounds 1 ?_
    rw [rounds_succ]
    go_wp2
    go_ret
    exact ⟨ret_int (by simp), h1, Below.refl _ _⟩
  · generalize hn : L.length = n at hl2 hc1 h1
    have HN := Lib.hid hn
    have HR : Hid (Row w B (.slice (some ⟨g1, 0, none⟩) n c1) L) := h1
    clear hn hc1 hf1 h1
    go_enter Tro.func37, Tro.ntmps37
    go_wp2
    go_loopw [1, 5] (fun t1 t5 wr => ∃ k : Nat, k ≤ n ∧ t5 = .int .i64 k ∧ t1 = .int .i64 (q + k) ∧ Hid (Row wr B (.slice (some ⟨g1, 0, none⟩) n c1) (markTo q L k)) ∧ Below B w wr) (fun _ t5 _ => n - (intOf t5).toNat)
    case atStart => exact ⟨0, Nat.zero_le _, rfl, by simp, HR, Below.refl _ _⟩
    case round =>
      obtain ⟨k, hk, rfl, rfl, HR2, hbel⟩ := hrel
      have hr : Row wr B (.slice (some ⟨g1, 0, none⟩) (markTo q L k).length c1) (markTo q L k) := by rw [markTo_length, HN.out]; exact HR2.out
      by_cases hlt2 : k < n
      · obtain ⟨d1, f1⟩ : (∃ u, wr.cell? ⟨g1, k, none⟩ = some u) ∧ wr.frozen? ⟨g1, k, none⟩ = false := by
          rcases hr.cases with ⟨e, _⟩ | ⟨g, c, e, _, _, hc, hf⟩
          · cases e
          · simp only [Value.slice.injEq, Option.some.injEq, Addr.mk.injEq, and_true, true_and] at e
            obtain ⟨rfl, rfl⟩ := e
            exact ⟨⟨_, hc k (by rw [markTo_length, HN.out]; exact hlt2)⟩, hf k⟩
        obtain ⟨u, d1⟩ := d1
        have hset := hr.set k (q + k)
        have HS : Hid (Row (wr.setCell ⟨g1, k, none⟩ (.int .i64 (q + k))) B (.slice (some ⟨g1, 0, none⟩) n c1) (markTo q L (k + 1))) := by
          have := hset.1
          rw [markTo_length, HN.out] at this
          exact this
        clear hr hset HR2
        go_wp2
        all_goals
          go_roundw
          case rel => exact ⟨k + 1, by omega, by go_num, by go_num, HS, hbel.setCell hBg _⟩
          case measure => simp [intOf]; omega
      · have : k = n := by omega
        subst this
        clear hr
        go_wp2
        go_ret
        refine ⟨ret_int (by rw [HN.out]), ?_, hbel⟩
        rw [HN.out]; exact HR2.out

theorem heldIntS_any (v : Value) (B : Nat) (M : List Int) (q : Int) (w : World) (h1 : Row w B v M) (hm : Marked q M) (hq0 : 0 ≤ q) (hq1 : q ≤ 1000000) :
    Calls Tro.prog 38 #[v, .int .i64 q] w fun e w' => e = .returned (.int .i64 (q + M.length)) ∧ w = w' := by
  have hl2 := h1.2
  rcases h1.cases with ⟨rfl, rfl⟩ | ⟨g1, c1, rfl, hBg, hg1, hc1, hf1⟩
  · go_enter Tro.func38, Tro.ntmps38
    go_wp2
    refine wp_loop_rounds 1 ?_
    rw [rounds_succ]
    go_wp2
    go_ret
    exact ⟨ret_int (by simp), rfl⟩
  · generalize hn : M.length = n at hl2 hc1
    have HC : Hid (∀ j, j < n → w.cell? ⟨g1, j, none⟩ = some (.int .i64 (q + j))) := fun j hj => by rw [hc1 j hj, hm j (by omega)]
    clear hn hc1 hf1 h1 hm
    go_enter Tro.func38, Tro.ntmps38
    go_wp2
    go_loop [1, 5] (fun t1 t5 => ∃ k : Nat, k ≤ n ∧ t5 = .int .i64 k ∧ t1 = .int .i64 (q + k)) (fun _ t5 => n - (intOf t5).toNat)
    case atStart => exact ⟨0, Nat.zero_le _, rfl, by simp⟩
    case round =>
      obtain ⟨k, hk, rfl, rfl⟩ := hrel
      by_cases hlt2 : k < n
      · have d1 := HC.out k hlt2
        go_wp2
        go_round
        case rel => exact ⟨k + 1, by omega, by go_num, by go_num⟩
        case measure => simp [intOf]; omega
      · have : k = n := by omega
        subst this
        go_wp2
        go_ret
        exact ⟨rfl, rfl⟩
theorem held_marked (v : Value) (B : Nat) (L : List Int) (q : Int) (w : World) (h1 : Row w B v (markTo q L L.length)) (hq0 : 0 ≤ q) (hq1 : q ≤ 1000000) :
    Calls Tro.prog 38 #[v, .int .i64 q] w fun e w' => e = .returned (.int .i64 (q + L.length)) ∧ w = w' :=
  (heldIntS_any v B _ q w h1 (marked_all q L) hq0 hq1).mono fun e w' ⟨h1, h2⟩ => ⟨h1.trans (ret_int (by rw [markTo_length])), h2⟩
end Go.Proofs.YtjgkignnfkbeaaaTro

/-
  Contracts of TonesOf, of the program and of the model.
-/
namespace Go.Proofs.YtjgkignnfkbeaaaTro
open Go.RowKit
set_option linter.unusedVariables false

theorem info_int : (Tro.prog.info? 3).map (fun i => (i.zero, i.size, i.bytes)) = some (some (.int .i64 0), 1, 8) := by kernel_rfl

/-- the tones of s below k, ascending -/
def tonesTo (s : Nat) : Nat → List Int
  | 0 => []
  | k + 1 => if s.testBit k then tonesTo s k ++ [(k : Int)] else tonesTo s k
theorem tonesTo_le (s : Nat) : ∀ k, (tonesTo s k).length ≤ k
  | 0 => Nat.le_refl _
  | k + 1 => by unfold tonesTo; have := tonesTo_le s k; split <;> simp <;> omega
theorem tonesTo_yes {s k : Nat} (h : s.testBit k = true) : tonesTo s (k + 1) = tonesTo s k ++ [(k : Int)] := by conv => lhs; unfold tonesTo; rw [if_pos h]
theorem tonesTo_no {s k : Nat} (h : s.testBit k = false) : tonesTo s (k + 1) = tonesTo s k := by conv => lhs; unfold tonesTo; rw [if_neg (by simp [h])]

/-- a fresh slice of the numbers L; nothing that was there is written -/
def Gives (L : List Int) (w : World) (e : Ending) (w' : World) : Prop := ∃ v, e = .returned v ∧ Row w' w.heap.size v L ∧ Below w.heap.size w w'

theorem Row.alloc {w : World} {B : Nat} {v : Value} {L : List Int} (h : Row w B v L) (o : Obj) : Row (w.alloc o) B v L := ⟨h.1.alloc o, h.2⟩

theorem Row.mono2 {w : World} {B B' : Nat} {v : Value} {L : List Int} (h : Row w B v L) (hB : ∀ b, v.ownBlock = some b → B' ≤ b) : Row w B' v L := by
  obtain ⟨⟨h1, h2⟩, h3⟩ := h
  refine ⟨⟨h1, ?_⟩, h3⟩
  rcases h2 with h2 | ⟨g, cap, cur, e, hg, r⟩
  · exact .inl h2
  · exact .inr ⟨g, cap, cur, e, hB g (by rw [e]; rfl), r⟩

theorem wpList_append_int {ops : Array Oper} {rest : List Oper} {o : Oper} {a : Act} {Q : Exit → Act → World → Prop} {w : World} (hgd : o.guard = none) (s x : Operand)
    (ho : o.op = .call { callee := .builtin .append, args := #[s, x], argTypes := #[25, 25] })
    (B : Nat) (v : Value) (L : List Int) (hs : a.eval s = v) (hrow : Row w B v L) (g c : Nat) (y : Int) (hx : a.eval x = .slice (some ⟨g, 0, none⟩) 1 c)
    (hc : w.cell? ⟨g, 0, none⟩ = some (.int .i64 y)) (hlen : L.length < 4096) (hB : B ≤ w.heap.size)
    (h : ∀ v' w', Row w' B v' (L ++ [y]) → Below B w w' → wpList Tro.prog ops Q rest (a.put o.dst v') w') : wpList Tro.prog ops Q (o :: rest) a w := by
  obtain ⟨i0, hi, hz0, hz1, hz2⟩ := info_parts info_int
  refine wpList_append_own w hgd s x 25 ho B 3 i0 (.int .i64 0) 1 8 Tro.underlying25 hi hz0 hz1 hz2 rfl (by decide) v L.length _ hs hrow.1 ⟨g, 0, none⟩ 1 c [.int .i64 y] hx rfl ?_ ?_ ?_ ?_ hB ?_
  · intro j u hj
    match j, hj with
    | 0, hj => simp at hj; subst hj; simpa [Addr.add] using hc
  · intro u hu; simp at hu; subst hu; rfl
  · unfold maxLen; omega
  · omega
  · intro v' w' hown hg _
    refine h v' w' ⟨?_, by simp; omega⟩ ((Below.refl B w).grown hg hB fun k hk => (hrow.lt k hk).1)
    rw [List.map_append, List.length_append]
    exact hown

/-- .. telling also which block is written: the row's own, or a new one -/
theorem wpList_append_row {ops : Array Oper} {rest : List Oper} {o : Oper} {a : Act} {Q : Exit → Act → World → Prop} {w : World} (hgd : o.guard = none) (s x : Operand)
    (ho : o.op = .call { callee := .builtin .append, args := #[s, x], argTypes := #[25, 25] })
    (B : Nat) (v : Value) (L : List Int) (hs : a.eval s = v) (hrow : Row w B v L) (g c : Nat) (y : Int) (hx : a.eval x = .slice (some ⟨g, 0, none⟩) 1 c)
    (hc : w.cell? ⟨g, 0, none⟩ = some (.int .i64 y)) (hlen : L.length < 4096) (hB : B ≤ w.heap.size)
    (h : ∀ v' w', Row w' B v' (L ++ [y]) → Below B w w' → w.grownBy w' v.ownBlock → (v'.ownBlock = v.ownBlock ∨ v'.ownBlock = some w.heap.size) → wpList Tro.prog ops Q rest (a.put o.dst v') w') : wpList Tro.prog ops Q (o :: rest) a w := by
  obtain ⟨i0, hi, hz0, hz1, hz2⟩ := info_parts info_int
  refine wpList_append_own_at w hgd s x 25 ho B 3 i0 (.int .i64 0) 1 8 Tro.underlying25 hi hz0 hz1 hz2 rfl (by decide) v L.length _ hs hrow.1 ⟨g, 0, none⟩ 1 c [.int .i64 y] hx rfl ?_ ?_ ?_ ?_ hB ?_
  · intro j u hj
    match j, hj with
    | 0, hj => simp at hj; subst hj; simpa [Addr.add] using hc
  · intro u hu; simp at hu; subst hu; rfl
  · unfold maxLen; omega
  · omega
  · intro v' w' hown hg _ hv
    refine h v' w' ⟨?_, by simp; omega⟩ ((Below.refl B w).grown hg hB fun k hk => (hrow.lt k hk).1) hg hv
    rw [List.map_append, List.length_append]
    exact hown

set_option maxHeartbeats 400000 in
theorem stones_any (n s : Int) (w : World) (hv : Tic.Valid n s) :
    Calls Tro.prog 46 #[.int .i64 n, .int .i64 s] w (Gives (tonesTo s.toNat n.toNat) w) := by
  have hlt := hv.lt
  obtain ⟨g1, g2, g3, _⟩ := hv
  obtain ⟨N, rfl⟩ := Int.eq_ofNat_of_zero_le (show 0 ≤ n by omega)
  obtain ⟨S, rfl⟩ := Int.eq_ofNat_of_zero_le g3
  rw [Int.toNat_natCast, Int.toNat_natCast]
  go_enter Tro.func46, Tro.ntmps46
  go_wp2
  go_loopw [5, 6] (fun t5 t6 wr => ∃ k : Nat, k ≤ N ∧ t6 = .int .i64 k ∧ Hid (Row wr w.heap.size t5 (tonesTo S k)) ∧ Below w.heap.size w wr) (fun _ t6 _ => N - (intOf t6).toNat)
  case atStart => exact ⟨0, Nat.zero_le _, rfl, ⟨World.ownsRow_made w #[] 0 (Nat.le_refl _) (by decide) rfl, Nat.zero_le _⟩, (Below.refl _ _).alloc (Nat.le_refl _) _⟩
  case round =>
    obtain ⟨k, hk, rfl, HR, hbel⟩ := hrel
    have hl := tonesTo_le S k
    have hs := hbel.size
    by_cases hlt2 : k < N
    · cases hbit : S.testBit k with
      | false =>
        have HB := Lib.hid hbit
        clear hbit
        go_wp2_with fail
        refine (bit_no _ _ S k _ rfl (by omega) rfl (by omega) HB.out).mono ?_; rintro e w1 ⟨rfl, rfl⟩
        go_wp2
        go_roundw
        case rel => exact ⟨k + 1, by omega, by go_num, by rw [tonesTo_no HB.out]; exact HR, hbel⟩
        case measure => simp [intOf]; omega
      | true =>
        have HB := Lib.hid hbit
        clear hbit
        go_wp2_with fail
        refine (bit_yes _ _ S k _ rfl (by omega) rfl (by omega) HB.out).mono ?_; rintro e w1 ⟨rfl, rfl⟩
        go_wp2_with (at_builtin; refine wpList_append_int rfl _ _ rfl w.heap.size _ (tonesTo S k) rfl (HR.out.alloc _) wr.heap.size 1 k rfl ?c1 ?c2 ?c3 ?_)
        case c1 => go_simp
        case c2 => omega
        case c3 => simp; omega
        intro v' w1 hrow hb1
        have HR1 := Lib.hid hrow
        clear hrow
        go_wp2
        go_roundw
        case rel => exact ⟨k + 1, by omega, by go_num, by rw [tonesTo_yes HB.out]; exact HR1, (hbel.alloc hs _).trans hb1⟩
        case measure => simp [intOf]; omega
    · have : k = N := by omega
      subst this
      go_wp2
      go_ret
      exact ⟨_, rfl, HR, hbel⟩


theorem Row.nil (w : World) (B : Nat) : Row w B (.slice none 0 0) [] := ⟨World.ownsRow_nil _ _ _ _, Nat.zero_le _⟩

set_option maxHeartbeats 400000 in
theorem list_any (n s : Int) (w : World) (hv : Tic.Valid n s) :
    Calls Tro.prog 47 #[.agg #[.int .i64 n, .int .i64 s]] w (Gives (tonesTo s.toNat n.toNat) w) := by
  have hlt := hv.lt
  obtain ⟨g1, g2, g3, _⟩ := hv
  obtain ⟨N, rfl⟩ := Int.eq_ofNat_of_zero_le (show 0 ≤ n by omega)
  obtain ⟨S, rfl⟩ := Int.eq_ofNat_of_zero_le g3
  rw [Int.toNat_natCast, Int.toNat_natCast]
  go_enter Tro.func47, Tro.ntmps47
  go_wp2
  go_loopw [3, 4, 7] (fun t3 t4 t7 wr => ∃ k : Nat, k ≤ N ∧ t7 = .int .i64 k ∧ Hid (Row wr w.heap.size t3 (tonesTo S k)) ∧
    wr.cell? ⟨w.heap.size, 0, none⟩ = some (.int .i64 N) ∧ wr.cell? ⟨w.heap.size, 1, none⟩ = some (.int .i64 S) ∧ w.heap.size < wr.heap.size ∧ Hid (∀ b, t3.ownBlock = some b → w.heap.size < b) ∧ Below w.heap.size w wr) (fun _ _ t7 _ => N - (intOf t7).toNat)
  case atStart =>
    refine ⟨0, Nat.zero_le _, rfl, Row.nil _ _, ?_, ?_, ?_, ?_, (Below.refl _ _).alloc (Nat.le_refl _) _⟩
    · go_simp
    · go_simp
    · simp
    · intro b hb; cases hb
  case round =>
    obtain ⟨k, hk, rfl, HR, a0, a1, hz, HO, hbel⟩ := hrel
    have hl := tonesTo_le S k
    by_cases hlt2 : k < N
    · cases hbit : S.testBit k with
      | false =>
        have HB := Lib.hid hbit
        clear hbit
        go_wp2_with fail
        refine (has_no _ _ S k _ rfl (by omega) (by omega) HB.out).mono ?_; rintro e w1 ⟨rfl, hb1⟩
        have d0 := (hb1.cell (p := ⟨w.heap.size, 0, none⟩) hz).trans a0
        have d1 := (hb1.cell (p := ⟨w.heap.size, 1, none⟩) hz).trans a1
        have HR1 := Lib.hid (HR.out.kept hb1)
        have hz1 := hb1.size
        have hbel1 := hbel.trans (hb1.mono (by omega))
        clear a0 a1 hb1
        go_wp2
        go_roundw
        case rel => exact ⟨k + 1, by omega, by go_num, by rw [tonesTo_no HB.out]; exact HR1, d0, d1, by omega, HO, hbel1⟩
        case measure => simp [intOf]; omega
      | true =>
        have HB := Lib.hid hbit
        clear hbit
        go_wp2_with fail
        refine (has_yes _ _ S k _ rfl (by omega) (by omega) HB.out).mono ?_; rintro e w1 ⟨rfl, hb1⟩
        have d0 := (hb1.cell (p := ⟨w.heap.size, 0, none⟩) hz).trans a0
        have d1 := (hb1.cell (p := ⟨w.heap.size, 1, none⟩) hz).trans a1
        have HR1 := Lib.hid ((HR.out.kept hb1).mono2 (B' := w.heap.size + 1) HO.out)
        have hz1 := hb1.size
        have hbel1 := hbel.trans (hb1.mono (by omega))
        clear a0 a1 hb1
        go_wp2_with (at_builtin; refine wpList_append_int rfl _ _ rfl (w.heap.size + 1) _ (tonesTo S k) rfl (HR1.out.alloc _) w1.heap.size 1 k rfl ?c1 ?c2 ?c3 ?_)
        case c1 => go_simp
        case c2 => omega
        case c3 => simp; omega
        intro v' w2 hrow hb1
        have hs1 := hbel1.size
        have HO2 : Hid (∀ b, v'.ownBlock = some b → w.heap.size < b) := fun b hb => (hrow.lt b hb).1
        have HR2 := Lib.hid (hrow.mono (B' := w.heap.size) (by omega))
        clear hrow
        have hz2 := hb1.size
        simp at hz2
        have hbX : Below (w.heap.size + 1) w1 w2 := ((Below.refl (w.heap.size + 1) w1).alloc (by omega) _).trans hb1
        have x0 := (hbX.cell (p := ⟨w.heap.size, 0, none⟩) (by simp)).trans d0
        have x1 := (hbX.cell (p := ⟨w.heap.size, 1, none⟩) (by simp)).trans d1
        have hbel2 : Below w.heap.size w w2 := hbel1.trans (hbX.mono (by omega))
        clear d0 d1 hb1 hbX
        go_wp2
        go_roundw
        case rel => exact ⟨k + 1, by omega, by go_num, by rw [tonesTo_yes HB.out]; exact HR2, x0, x1, by omega, HO2, hbel2⟩
        case measure => simp [intOf]; omega
    · have : k = N := by omega
      subst this
      go_wp2
      go_ret
      exact ⟨_, rfl, HR, hbel⟩


theorem iTonesOf_yes (n s : Int) (w : World) (hv : Tic.Valid n s) :
    Calls Tro.prog 16 #[.int .i64 n, .int .i64 s] w (Gives (tonesTo s.toNat n.toNat) w) := by
  go_enter Tro.func16, Tro.ntmps16
  go_wp2_with fail
  refine (implValid_yes _ _ _ hv).mono ?_; rintro e w1 ⟨rfl, rfl⟩
  go_wp2_with fail
  refine (list_any _ _ _ hv).mono ?_; rintro e w1 ⟨v, rfl, hr, hb⟩
  go_wp2_with fail
  go_ret
  exact ⟨v, rfl, hr, hb⟩
theorem iTonesOf_no (n s : Int) (w : World) (hv : ¬ Tic.Valid n s) :
    Calls Tro.prog 16 #[.int .i64 n, .int .i64 s] w (Gives [] w) := by
  go_enter Tro.func16, Tro.ntmps16
  go_wp2_with fail
  refine (implValid_no _ _ _ hv).mono ?_; rintro e w1 ⟨rfl, rfl⟩
  go_wp2_with fail
  go_ret
  exact ⟨_, rfl, Row.nil _ _, Below.refl _ _⟩

theorem set_far {w : World} {a b : Addr} {v : Value} (h : a.block ≠ b.block) : (w.setCell a v).cell? b = w.cell? b := World.cell?_setCell_other _ _ _ _ (fun e => h (by rw [e]))
theorem Row.shape {w : World} {B g n cap : Nat} {L : List Int} (h : Row w B (.slice (some ⟨g, 0, none⟩) n cap) L) : L.length = n ∧ B ≤ g ∧ g < w.heap.size ∧ (∀ i, i < n → w.cell? ⟨g, i, none⟩ = some (.int .i64 (L.getD i 0))) ∧ (∀ i, w.frozen? ⟨g, i, none⟩ = false) := by
  rcases h.cases with ⟨e, _⟩ | ⟨g', c', e, hB, hg, hc, hf⟩
  · cases e
  · simp only [Value.slice.injEq, Option.some.injEq, Addr.mk.injEq, and_true] at e
    obtain ⟨rfl, rfl, rfl⟩ := e
    exact ⟨rfl, hB, hg, hc, hf⟩
theorem Row.capge {w : World} {B g n cap : Nat} {L : List Int} (h : Row w B (.slice (some ⟨g, 0, none⟩) n cap) L) : n ≤ cap ∧ cap ≤ maxLen := by
  rcases h.1.2 with ⟨e, _⟩ | ⟨g', c', cur, e, _, _, h1, h2, _⟩
  · cases e
  · simp only [Value.slice.injEq, Option.some.injEq, Addr.mk.injEq, and_true] at e
    obtain ⟨rfl, rfl, rfl⟩ := e
    exact ⟨h1, h2⟩
theorem tonesTo_at (S : Nat) : ∀ N i, i < (tonesTo S N).length → ∃ y, y < N ∧ S.testBit y = true ∧ (tonesTo S N).getD i 0 = (y : Int) ∧ (tonesTo S y).length = i
  | 0, i, h => by simp [tonesTo] at h
  | N + 1, i, h => by
    cases hb : S.testBit N with
    | false =>
      rw [tonesTo_no hb] at h ⊢
      obtain ⟨y, h1, h2⟩ := tonesTo_at S N i h
      exact ⟨y, by omega, h2⟩
    | true =>
      rw [tonesTo_yes hb] at h ⊢
      by_cases hi : i < (tonesTo S N).length
      · obtain ⟨y, h1, h2, h3, h4⟩ := tonesTo_at S N i hi
        refine ⟨y, by omega, h2, ?_, h4⟩
        rw [List.getD_eq_getElem?_getD, List.getElem?_append_left hi, ← List.getD_eq_getElem?_getD]
        exact h3
      · have : i = (tonesTo S N).length := by simp at h; omega
        subst this
        exact ⟨N, by omega, hb, by simp [List.getD_eq_getElem?_getD], rfl⟩
theorem tonesTo_mono (S a : Nat) : ∀ b, a ≤ b → (tonesTo S a).length ≤ (tonesTo S b).length
  | 0, h => by rw [Nat.le_zero.1 h]; exact Nat.le_refl _
  | b + 1, h => by
    by_cases e : a = b + 1
    · rw [e]; exact Nat.le_refl _
    · have := tonesTo_mono S a b (by omega)
      cases hb : S.testBit b with
      | false => rw [tonesTo_no hb]; exact this
      | true => rw [tonesTo_yes hb]; simp; omega
theorem tonesTo_next {S y : Nat} (h : S.testBit y = true) : (tonesTo S (y + 1)).length = (tonesTo S y).length + 1 := by rw [tonesTo_yes h]; simp

end Go.Proofs.YtjgkignnfkbeaaaTro

/-
  Lists of whole numbers that came in, and their copies.
-/
namespace Go.Proofs.YtjgkignnfkbeaaaTro
open Go.RowKit
set_option linter.unusedVariables false

/-- what came in as a list of numbers -/
def Came (w : World) (v : Value) (L : List Int) : Prop := ∃ p m, v = .slice p L.length m ∧ L.length ≤ m ∧ m ≤ maxLen ∧
  (L.length = 0 ∨ ∃ b o, p = some ⟨b, o, none⟩ ∧ b < w.heap.size ∧ ∀ i, i < L.length → w.cell? ⟨b, o + i, none⟩ = some (.int .i64 (L.getD i 0)))
theorem Came.kept {w w' : World} {v : Value} {L : List Int} (h : Came w v L) (hb : Below w.heap.size w w') : Came w' v L := by
  obtain ⟨p, m, e, h1, h2, h3⟩ := h
  refine ⟨p, m, e, h1, h2, ?_⟩
  rcases h3 with h3 | ⟨b, o, e2, h4, h5⟩
  · exact .inl h3
  · exact .inr ⟨b, o, e2, Nat.lt_of_lt_of_le h4 hb.size, fun i hi => (hb.cell (p := ⟨b, o + i, none⟩) h4).trans (h5 i hi)⟩
theorem came_nil (w : World) : Came w (.slice none 0 0) [] := ⟨none, 0, rfl, Nat.le_refl _, Nat.zero_le _, .inl rfl⟩
theorem came_row {w : World} {x : Addr} {len cap : Nat} {z : List Int} (hl : len ≤ cap) (hm : cap ≤ maxLen) (hz : z.length = cap) (hcell : ∀ i, i < z.length → w.cell? (x.add i) = some (.int .i64 (z.getD i 0))) : Came w (.slice (some x) len cap) (z.take len) := by
  have hlen : (z.take len).length = len := by rw [List.length_take]; omega
  refine ⟨some x, cap, by rw [hlen], by omega, hm, ?_⟩
  by_cases h0 : len = 0
  · exact .inl (by omega)
  · obtain ⟨b, off, spot⟩ := x
    have hc := hcell 0 (by omega)
    have hspot : spot = none := by simpa [Addr.add] using World.cell?_spot hc
    subst hspot
    have hb : b < w.heap.size := by simpa [Addr.add] using World.block_lt_of_cell? w _ hc
    refine .inr ⟨b, off, rfl, hb, fun i hi => ?_⟩
    have h1 := (show (⟨b, off + i, none⟩ : Addr) = (⟨b, off, none⟩ : Addr).add i by unfold Addr.add; split <;> simp_all) ▸ hcell i (by omega)
    rw [h1]
    rw [List.getD_eq_getElem?_getD, List.getD_eq_getElem?_getD, List.getElem?_take_of_lt (by omega)]

/-- numbers as a list of n -/
def zeros (n : Nat) : List Int := List.replicate n 0
/-- a list whose first k are those of L, and the others 0 -/
def part (L : List Int) (k : Nat) : List Int := L.take k ++ zeros (L.length - k)
theorem part_length (L : List Int) {k : Nat} (h : k ≤ L.length) : (part L k).length = L.length := by simp [part, zeros]; omega
theorem part_all (L : List Int) : part L L.length = L := by simp [part, zeros]
theorem part_set {L : List Int} {k : Nat} (h : k < L.length) : (part L k).set k (L.getD k 0) = part L (k + 1) := by
  have hk : (L.take k).length = k := by rw [List.length_take]; omega
  unfold part zeros
  rw [List.set_append_right _ _ (by omega), hk, Nat.sub_self]
  rw [show L.length - k = (L.length - (k + 1)) + 1 by omega, List.replicate_succ, List.set_cons_zero]
  rw [List.take_succ_eq_append_getElem h, List.append_assoc]
  simp [List.getD_eq_getElem?_getD, List.getElem?_eq_getElem h]

theorem wpList_make_zeros {ops : Array Oper} {rest : List Oper} {o : Oper} {a : Act} {Q : Exit → Act → World → Prop} {w : World} (hg : o.guard = none) (l c : Operand) (hop : o.op = Op.makeSlice 25 l c)
    (B : Nat) (X Y : Int) (m : Nat) (hl : a.eval l = .int .i64 X) (hc : a.eval c = .int .i64 Y) (hX : X = (m : Int)) (hY : Y = (m : Int)) (hm : m ≤ 1048576) (hB : B ≤ w.heap.size)
    (hK : ∀ w', Row w' B (.slice (some ⟨w.heap.size, 0, none⟩) m m) (zeros m) → Below w.heap.size w w' → wpList Tro.prog ops Q rest (a.put o.dst (.slice (some ⟨w.heap.size, 0, none⟩) m m)) w') :
    wpList Tro.prog ops Q (o :: rest) a w := by
  obtain ⟨i0, hi, hz0, hz1, hz2⟩ := info_parts info_int
  refine wpList_make_full w hg l c 25 hop B 3 i0 (.int .i64 0) 1 Tro.underlying25 hi hz0 hz1 .i64 .i64 X Y m hl hc hX hY (by rw [hz2]; omega) (by unfold maxLen; omega) hB ?_
  intro w' hown hgr
  refine hK w' ⟨?_, by simp [zeros]; exact hm⟩ ((Below.refl _ _).grown hgr (Nat.le_refl _) (fun k hk => by cases hk))
  rw [show (zeros m).length = m by simp [zeros], show (zeros m).map (Value.int .i64) = List.replicate m (Value.int .i64 0) by simp [zeros]]
  have : (madeCells (Value.int .i64 0).cells (m * 1)).toList = List.replicate m (Value.int .i64 0) := by
    rw [Nat.mul_one]; exact toList_madeCells_one _ _
  rw [this] at hown
  exact hown

theorem grownBy_set {w v : World} {g : Nat} (h : w.grownBy v (some g)) (j : Nat) (u : Value) : w.grownBy (v.setCell ⟨g, j, none⟩ u) (some g) :=
  ⟨h.os, h.tape, h.output, by simpa using h.size, fun k hk hne => (Below.heap_setCell v ⟨g, j, none⟩ u k (fun e => hne (by rw [e]))).trans (h.block k hk hne)⟩
theorem Row.besides {w w' : World} {B : Nat} {v : Value} {L : List Int} (h : Row w B v L) {row : Option Nat} (hg : w.grownBy w' row) (hB : ∀ k, v.ownBlock = some k → row ≠ some k) : Row w' B v L := by
  refine ⟨h.1.kept hg ?_, h.2⟩
  cases e : v.ownBlock with
  | none => exact .inl rfl
  | some k => right; intro e2; exact hB k e e2.symm
/-- markIntS writes no other block -/
theorem markIntS_only (v : Value) (B : Nat) (L : List Int) (q : Int) (w : World) (h1 : Row w B v L) (hq0 : 0 ≤ q) (hq1 : q ≤ 1000000) :
    Calls Tro.prog 37 #[v, .int .i64 q] w fun e w' => e = .returned (.int .i64 (q + L.length)) ∧ w.grownBy w' v.ownBlock := by
  have hl2 := h1.2
  rcases h1.cases with ⟨rfl, rfl⟩ | ⟨g1, c1, rfl, hBg, hg1, hc1, hf1⟩
  · go_enter Tro.func37, Tro.ntmps37
    go_wp2
    refine wp_loop_rounds 1 ?_
    rw [rounds_succ]
    go_wp2
    go_ret
    exact ⟨ret_int (by simp), ⟨rfl, rfl, rfl, Nat.le_refl _, fun _ _ _ => rfl⟩⟩
  · generalize hn : L.length = n at hl2 hc1 h1
    have HN := Lib.hid hn
    have HR : Hid (Row w B (.slice (some ⟨g1, 0, none⟩) n c1) L) := h1
    clear hn hc1 hf1 h1
    go_enter Tro.func37, Tro.ntmps37
    go_wp2
    go_loopw [1, 5] (fun t1 t5 wr => ∃ k : Nat, k ≤ n ∧ t5 = .int .i64 k ∧ t1 = .int .i64 (q + k) ∧ Hid (Row wr B (.slice (some ⟨g1, 0, none⟩) n c1) (markTo q L k)) ∧ Hid (w.grownBy wr (some g1))) (fun _ t5 _ => n - (intOf t5).toNat)
    case atStart => exact ⟨0, Nat.zero_le _, rfl, by simp, HR, Lib.hid ⟨rfl, rfl, rfl, Nat.le_refl _, fun _ _ _ => rfl⟩⟩
    case round =>
      obtain ⟨k, hk, rfl, rfl, HR2, hbel⟩ := hrel
      have hr : Row wr B (.slice (some ⟨g1, 0, none⟩) (markTo q L k).length c1) (markTo q L k) := by rw [markTo_length, HN.out]; exact HR2.out
      by_cases hlt2 : k < n
      · obtain ⟨d1, f1⟩ : (∃ u, wr.cell? ⟨g1, k, none⟩ = some u) ∧ wr.frozen? ⟨g1, k, none⟩ = false := by
          rcases hr.cases with ⟨e, _⟩ | ⟨g, c, e, _, _, hc, hf⟩
          · cases e
          · simp only [Value.slice.injEq, Option.some.injEq, Addr.mk.injEq, and_true, true_and] at e
            obtain ⟨rfl, rfl⟩ := e
            exact ⟨⟨_, hc k (by rw [markTo_length, HN.out]; exact hlt2)⟩, hf k⟩
        obtain ⟨u, d1⟩ := d1
        have hset := hr.set k (q + k)
        have HS : Hid (Row (wr.setCell ⟨g1, k, none⟩ (.int .i64 (q + k))) B (.slice (some ⟨g1, 0, none⟩) n c1) (markTo q L (k + 1))) := by
          have := hset.1
          rw [markTo_length, HN.out] at this
          exact this
        have HG := Lib.hid (grownBy_set hbel.out k (.int .i64 (q + k)))
        clear hr hset HR2 hbel
        go_wp2
        all_goals
          go_roundw
          case rel => exact ⟨k + 1, by omega, by go_num, by go_num, HS, HG⟩
          case measure => simp [intOf]; omega
      · have : k = n := by omega
        subst this
        clear hr
        go_wp2
        go_ret
        exact ⟨rfl, hbel.out⟩
end Go.Proofs.YtjgkignnfkbeaaaTro

/-
  Cells written into a row's block, and rows told by their block.
-/
namespace Go.Proofs.YtjgkignnfkbeaaaTro
open Go.RowKit
set_option linter.unusedVariables false

/-- an array in which some values are written from o on -/
def putA (cur : Array Value) : Nat → List Value → Array Value
  | _, [] => cur
  | o, v :: r => putA (cur.setIfInBounds o v) (o + 1) r
theorem putA_size : ∀ (vs : List Value) (cur : Array Value) (o : Nat), (putA cur o vs).size = cur.size
  | [], _, _ => rfl
  | v :: r, cur, o => by unfold putA; rw [putA_size r]; simp
theorem putA_at : ∀ (vs : List Value) (cur : Array Value) (o j : Nat), o + vs.length ≤ cur.size → (putA cur o vs)[j]? = if o ≤ j ∧ j < o + vs.length then vs[j - o]? else cur[j]?
  | [], cur, o, j, _ => by
    rw [if_neg (by simp only [List.length_nil]; omega)]; rfl
  | v :: r, cur, o, j, h => by
    have hl : o + r.length + 1 ≤ cur.size := by simpa [Nat.add_assoc] using h
    unfold putA
    rw [putA_at r _ (o + 1) j (by simp; omega)]
    simp only [List.length_cons]
    by_cases h1 : o + 1 ≤ j ∧ j < o + 1 + r.length
    · rw [if_pos h1, if_pos (by omega), show j - o = (j - (o + 1)) + 1 by omega]
      simp
    · rw [if_neg h1, Array.getElem?_setIfInBounds]
      by_cases h2 : o = j
      · subst h2
        rw [if_pos rfl, if_pos (by omega), if_pos (by omega)]
        simp
      · rw [if_neg h2, if_neg (by omega)]
theorem heap_setCells (b : Nat) (t : TypeId) : ∀ (vs : List Value) (o : Nat) (cur : Array Value) (w : World), w.heap[b]? = some (.cells cur t (0, 0)) → (w.setCells b o vs).heap[b]? = some (.cells (putA cur o vs) t (0, 0))
  | [], _, _, _, h => h
  | v :: r, o, cur, w, h => by
    unfold World.setCells putA
    exact heap_setCells b t r (o + 1) _ _ (heap_setCell_same w b o cur t v h)
theorem below_put {B b : Nat} (hb : B ≤ b) : ∀ (vs : List Value) (o : Nat) {a w : World}, Below B a w → Below B a (w.setCells b o vs)
  | [], _, _, _, h => h
  | v :: r, o, _, _, h => below_put hb r (o + 1) (h.setCell hb _)

theorem one_int (x : Int) : (Value.int .i64 x).oneCell' = true := rfl
theorem ones_list (L : List Int) : ∀ v ∈ L.map (Value.int .i64), v.oneCell' = true := by
  intro v hv
  obtain ⟨x, _, rfl⟩ := List.mem_map.1 hv
  rfl

/-- a row out of its block -/
theorem Row.of {w : World} {B g cap : Nat} {cur : Array Value} {L : List Int} (hB : B ≤ g) (hh : w.heap[g]? = some (.cells cur 3 (0, 0))) (hc : L.length ≤ cap) (hm : cap ≤ maxLen) (hs : cur.size = cap) (hl : L.length ≤ 4096)
    (ht : ∀ j, j < L.length → cur[j]? = (L.map (Value.int .i64))[j]?) : Row w B (.slice (some ⟨g, 0, none⟩) L.length cap) L := by
  refine ⟨⟨by simp, .inr ⟨g, cap, cur, rfl, hB, hh, hc, hm, by omega, ?_⟩⟩, by omega⟩
  apply List.ext_getElem?
  intro j
  rw [List.getElem?_take]
  by_cases hj : j < L.length
  · rw [if_pos (by omega), ← ht j hj]; simp
  · rw [if_neg (by omega), List.getElem?_eq_none (by simp; omega)]
theorem Row.block {w : World} {B g n cap : Nat} {L : List Int} (h : Row w B (.slice (some ⟨g, 0, none⟩) n cap) L) : n = L.length ∧ B ≤ g ∧ g < w.heap.size ∧ n ≤ cap ∧ cap ≤ maxLen ∧
    ∃ cur, w.heap[g]? = some (.cells cur 3 (0, 0)) ∧ cur.size = cap ∧ ∀ j, j < L.length → cur[j]? = (L.map (Value.int .i64))[j]? := by
  rcases h.1.2 with ⟨e, _⟩ | ⟨g', cap', cur, e, hg, hh, h1, h2, h3, h4⟩
  · cases e
  · simp only [Value.slice.injEq, Option.some.injEq, Addr.mk.injEq, and_true] at e
    obtain ⟨rfl, rfl, rfl⟩ := e
    refine ⟨rfl, hg, (Array.getElem?_eq_some_iff.1 hh).1, h1, h2, cur, hh, by omega, fun j hj => ?_⟩
    rw [← h4, List.getElem?_take, if_pos (by omega)]
    simp
end Go.Proofs.YtjgkignnfkbeaaaTro

/-
  Two lists put behind each other: the program's joined, of slices that may begin inside their row.
-/
namespace Go.Proofs.YtjgkignnfkbeaaaTro
open Go.RowKit
set_option linter.unusedVariables false

theorem copy_none {w : World} (ty : TypeId) (d a : Option Addr) (dl dc c : Nat) :
    (Builtin.copy_ #[25, 25] ty #[.slice d dl dc, .slice a 0 c]).run Tro.prog w = .ok (goInt 0) w := by
  obtain ⟨i0, hi, hz0, hz1, hz2⟩ := info_parts info_int
  cases d <;> cases a <;> simp [Builtin.copy_, run_underlying Tro.underlying25, sizeOf, typeInfo, hi, Builtin.lenOf, Builtin.firstCells, storeCells, goInt, loadCells, loadCellsFrom]

theorem copy_came {w : World} {vx : Value} {M : List Int} (h : Came w vx M) (ty : TypeId) (g o dl dc : Nat) (cur : Array Value) (hg : w.heap[g]? = some (.cells cur 3 (0, 0))) (hdl : M.length ≤ dl) (hc : o + M.length ≤ cur.size) :
    (Builtin.copy_ #[25, 25] ty #[.slice (some ⟨g, o, none⟩) dl dc, vx]).run Tro.prog w = .ok (goInt M.length) (w.setCells g o (M.map (Value.int .i64))) := by
  have hsz : (Tro.prog.info? 3).map (·.size) = some 1 := by
    obtain ⟨i0, hi, hz0, hz1, hz2⟩ := info_parts info_int
    rw [hi]; simp [hz1]
  obtain ⟨p, m, rfl, _, _, h3⟩ := h
  rcases h3 with h0 | ⟨b, o', rfl, _, hcx⟩
  · obtain rfl := List.eq_nil_of_length_eq_zero h0
    have := copy_none (w := w) ty (some ⟨g, o, none⟩) p dl dc m
    simpa [World.setCells, goInt] using this
  · have hlen : (M.map (Value.int .i64)).length = M.length := by simp
    have key : (Builtin.copy_ #[25, 25] ty #[.slice (some ⟨g, o, none⟩) dl dc, .slice (some ⟨b, o', none⟩) M.length m]).run Tro.prog w = .ok (goInt (M.map (Value.int .i64)).length) (w.setCells g o (M.map (Value.int .i64))) := by
     refine run_copy_cells w _ _ ty 3 g o dl dc ⟨b, o', none⟩ M.length m (M.map (Value.int .i64)) Tro.underlying25 hsz ?_ ?_ ?_ ?_ (ones_list M)
     · rw [hlen]; simp only [Nat.min_def]; split <;> omega
     · intro j v hj
       have hj2 : j < M.length := by have := (List.getElem?_eq_some_iff.1 hj).1; simpa using this
       rw [show (⟨b, o', none⟩ : Addr).add j = ⟨b, o' + j, none⟩ by unfold Addr.add; split <;> simp_all, hcx j hj2]
       rw [List.getElem?_map, List.getElem?_eq_getElem hj2] at hj
       rw [List.getD_eq_getElem?_getD, List.getElem?_eq_getElem hj2]
       simpa using hj
     · intro j hj
       rw [hlen] at hj
       rw [cell_of_row w g (o + j) cur 3 (0, 0) hg, Array.getElem?_eq_getElem (by omega)]; rfl
     · intro j hj
       exact frozen_of_row w g (o + j) cur 3 hg
    rw [hlen] at key
    exact key
theorem Came.lens {w : World} {v : Value} {L : List Int} (h : Came w v L) : ∃ a c, v = .slice a L.length c := by
  obtain ⟨p, m, e, _⟩ := h
  exact ⟨p, m, e⟩
set_option maxHeartbeats 1000000 in
set_option maxRecDepth 20000 in
theorem joined_came (v1 v2 : Value) (L M : List Int) (w : World) (h1 : Came w v1 L) (h2 : Came w v2 M) (hl : L.length + M.length ≤ 4096) :
    Calls Tro.prog 68 #[v1, v2] w (Gives (L ++ M) w) := by
  obtain ⟨a1, c1, rfl⟩ := h1.lens
  obtain ⟨a2, c2, rfl⟩ := h2.lens
  have H1 := Lib.hid h1
  have H2 := Lib.hid h2
  clear h1 h2
  have hs1 := IntWalk.i64_in ((L.length : Int) + (M.length : Int)) (by omega)
  go_enter Tro.func68, Tro.ntmps68
  go_wp2_with (at_make; refine wpList_make_zeros rfl _ _ rfl w.heap.size _ _ (L.length + M.length) rfl rfl ?c1 ?c2 ?c3 (Nat.le_refl _) ?_)
  case c1 => omega
  case c2 => omega
  case c3 => omega
  intro w1 hrow hb1
  obtain ⟨-, -, hg2, -, -, cur, hh, hcs, hat⟩ := hrow.block
  have hcp1 := fun ty : TypeId => copy_came (H1.out.kept hb1) ty w.heap.size 0 (L.length + M.length) (L.length + M.length) cur hh (by omega) (by omega)
  obtain ⟨W2, hW2⟩ : ∃ W2, W2 = w1.setCells w.heap.size 0 (L.map (Value.int .i64)) := ⟨_, rfl⟩
  have hb2 : Below w.heap.size w W2 := by rw [hW2]; exact below_put (Nat.le_refl _) _ _ hb1
  have hh2 : W2.heap[w.heap.size]? = some (.cells (putA cur 0 (L.map (Value.int .i64))) 3 (0, 0)) := by rw [hW2]; exact heap_setCells _ _ _ _ _ _ hh
  rw [← hW2] at hcp1
  have hcp2 := fun ty : TypeId => copy_came (H2.out.kept hb2) ty w.heap.size L.length M.length M.length _ hh2 (by omega) (by rw [putA_size]; omega)
  have HW2 := Lib.hid hW2
  have HR : Hid (Row (W2.setCells w.heap.size L.length (M.map (Value.int .i64))) w.heap.size (.slice (some ⟨w.heap.size, 0, none⟩) (L.length + M.length) (L.length + M.length)) (L ++ M)) := Lib.hid (by
    have := Row.of (L := L ++ M) (cap := L.length + M.length) (Nat.le_refl _) (heap_setCells _ _ (M.map (Value.int .i64)) L.length _ _ hh2) (by simp) (by unfold maxLen; omega) (by rw [putA_size, putA_size]; exact hcs) (by simp; omega) (fun j hj => by
      rw [List.length_append] at hj
      rw [putA_at _ _ _ _ (by rw [putA_size]; simp; omega), putA_at _ _ _ _ (by simp; omega), List.map_append]
      by_cases hj1 : j < L.length
      · rw [if_neg (by simp; omega), if_pos (by simp; omega), List.getElem?_append_left (by simpa using hj1)]; rfl
      · rw [if_pos (by simp; omega), List.getElem?_append_right (by simp; omega)]; simp)
    rwa [List.length_append] at this)
  have HB : Hid (Below w.heap.size w (W2.setCells w.heap.size L.length (M.map (Value.int .i64)))) := Lib.hid (below_put (Nat.le_refl _) _ _ hb2)
  clear hs1 hrow hW2 hat hcs hh hh2 hb1 hb2
  have hlm : (L.length : Int) ≤ (L.length : Int) + (M.length : Int) := by omega
  by_cases hM : M = []
  · subst hM
    have hcn := fun (ty : TypeId) (d : Option Addr) (dl dc : Nat) (W : World) => copy_none (w := W) ty d a2 dl dc c2
    clear hcp2
    simp only [List.length_nil, Nat.add_zero, List.append_nil] at hcp1 HR ⊢
    have HR2 : Row W2 w.heap.size (.slice (some ⟨w.heap.size, 0, none⟩) L.length L.length) L := HR.out
    have HB2 : Below w.heap.size w W2 := HB.out
    go_wp2
    go_ret
    exact ⟨_, rfl, by rw [List.append_nil]; exact HR2, HB2⟩
  · have hM1 : ¬ M.length = 0 := fun e => hM (List.eq_nil_of_length_eq_zero e)
    clear hM
    go_wp2
    go_ret
    exact ⟨_, rfl, HR.out, HB.out⟩

end Go.Proofs.YtjgkignnfkbeaaaTro

/-
  How far two tones are apart.
-/
namespace Go.Proofs.YtjgkignnfkbeaaaTro
open Go.RowKit
set_option linter.unusedVariables false

/-- how far two tones are apart, the shorter way round -/
def Tic.apt (n x y : Nat) : Nat := min ((y + n - x) % n) (n - (y + n - x) % n)
theorem Tic.apt_lt {n x y : Nat} (h : x < y) (hy : y < n) : Tic.apt n x y = min (y - x) (n - (y - x)) := by
  unfold Tic.apt
  rw [show y + n - x = (y - x) + n by omega, Nat.add_mod_right, Nat.mod_eq_of_lt (by omega)]
theorem apart_any (N x y : Nat) (w : World) (h1 : 1 ≤ N) (h2 : N ≤ 12) (hx : x < N) (hy : y < N) :
    Calls Tro.prog 89 #[.int .i64 N, .int .i64 x, .int .i64 y] w fun e w' => e = .returned (.int .i64 (Tic.apt N x y : Int)) ∧ w = w' := by
  have he : ((y : Int) - (x : Int)) % (N : Int) = (((y + N - x) % N : Nat) : Int) := by
    rw [Int.natCast_emod, show ((y + N - x : Nat) : Int) = ((y : Int) - x) + N by omega, Int.add_emod_right]
  have hlt : (y + N - x) % N < N := Nat.mod_lt _ (by omega)
  have HD : Hid (Tic.apt N x y = min ((y + N - x) % N) (N - (y + N - x) % N)) := rfl
  generalize (y + N - x) % N = u at *
  have HE := Lib.hid he
  clear he
  go_enter Tro.func89, Tro.ntmps89
  go_wp2_with fail
  refine (roundCircle_any _ _ _ (by omega) (by omega) (by omega) (by omega)).mono ?_; rintro e w1 ⟨rfl, rfl⟩
  rw [HE.out]
  go_wp2
  all_goals
    go_ret
    exact ⟨ret_int (by rw [HD.out]; omega), rfl⟩
theorem sapart_any (N x y : Nat) (w : World) (h1 : 1 ≤ N) (h2 : N ≤ 12) (hx : x < N) (hy : y < N) :
    Calls Tro.prog 69 #[.int .i64 N, .int .i64 x, .int .i64 y] w fun e w' => e = .returned (.int .i64 (Tic.apt N x y : Int)) ∧ w = w' := by
  have he : ((y : Int) - (x : Int)) % (N : Int) = (((y + N - x) % N : Nat) : Int) := by
    rw [Int.natCast_emod, show ((y + N - x : Nat) : Int) = ((y : Int) - x) + N by omega, Int.add_emod_right]
  have hlt : (y + N - x) % N < N := Nat.mod_lt _ (by omega)
  have HD : Hid (Tic.apt N x y = min ((y + N - x) % N) (N - (y + N - x) % N)) := rfl
  generalize (y + N - x) % N = u at *
  have HE := Lib.hid he
  clear he
  go_enter Tro.func69, Tro.ntmps69
  go_wp2_with fail
  refine (rest_any _ _ _ (by omega) (by omega) (by omega) (by omega)).mono ?_; rintro e w1 ⟨rfl, rfl⟩
  rw [HE.out]
  go_wp2
  all_goals
    go_ret
    exact ⟨ret_int (by rw [HD.out]; omega), rfl⟩
theorem Tic.apt_le {n x y : Nat} (hn : 1 ≤ n) : 2 * Tic.apt n x y ≤ n := by
  unfold Tic.apt
  have := Nat.mod_lt (y + n - x) (y := n) (by omega)
  omega
end Go.Proofs.YtjgkignnfkbeaaaTro

/-
  Memory that grows from call to call.
-/
namespace Go.Proofs.YtjgkignnfkbeaaaTro
open Go.RowKit
set_option linter.unusedVariables false

theorem grow1 {a b d : World} (h : Below a.heap.size a b) (k : Below b.drew.heap.size b.drew d) : Below a.heap.size a d := h.drew.trans (k.mono h.size)
theorem grow0 {a b d : World} (h : Below a.heap.size a b) (k : Below b.heap.size b d) : Below a.heap.size a d := h.trans (k.mono h.size)
theorem below_dn {w w' : World} {B : Nat} (h : Below B w w') (q : Nat) : Below B w (w'.drewN q) := ⟨h.os, h.tape, h.output, h.size, fun k hk => h.block k hk⟩
end Go.Proofs.YtjgkignnfkbeaaaTro

/-
  Contracts of the program's listFrom, far, nearest.
-/
namespace Go.Proofs.YtjgkignnfkbeaaaTro
open Go.RowKit
set_option linter.unusedVariables false
set_option maxRecDepth 20000

/-- a list, from a place on, and then what is ahead of it -/
def rotL (M : List Int) (j : Nat) : List Int := M.drop j ++ M.take j
theorem rotL_len (M : List Int) {j : Nat} (h : j ≤ M.length) : (rotL M j).length = M.length := by simp [rotL]; omega
theorem rotL_at (M : List Int) {i j : Nat} (hj : j < M.length) (hi : i < M.length) : (rotL M j).getD i 0 = M.getD ((i + j) % M.length) 0 := by
  unfold rotL
  rw [List.getD_eq_getElem?_getD, List.getD_eq_getElem?_getD]
  congr 1
  by_cases h : i < M.length - j
  · rw [List.getElem?_append_left (by simp; omega), List.getElem?_drop, Nat.mod_eq_of_lt (by omega), Nat.add_comm]
  · rw [List.getElem?_append_right (by simp; omega), List.length_drop]
    have e : (i + j) % M.length = i + j - M.length := by rw [Nat.mod_eq_sub_mod (by omega), Nat.mod_eq_of_lt (by omega)]
    rw [e, List.getElem?_take_of_lt (by omega)]
    congr 1; omega
theorem Row.lenz {w : World} {B : Nat} {v : Value} {L : List Int} (h : Row w B v L) : ∃ a c, v = .slice a L.length c := by
  rcases h.cases with ⟨e, e2⟩ | ⟨g, cap, e, _⟩
  · exact ⟨none, 0, by rw [e, e2]; rfl⟩
  · exact ⟨_, _, e⟩
/-- tones of a circle of n -/
def Ton (n : Nat) (L : List Int) : Prop := ∀ i, i < L.length → ∃ x : Nat, x < n ∧ L.getD i 0 = (x : Int)
theorem ton_tones (s n : Nat) : Ton n (tonesTo s n) := fun i hi => by
  obtain ⟨y, h1, _, h2, _⟩ := tonesTo_at s n i hi
  exact ⟨y, h1, h2⟩
theorem ton_rot {n : Nat} {M : List Int} (h : Ton n M) {j : Nat} (hj : j < M.length) : Ton n (rotL M j) := fun i hi => by
  rw [rotL_len M (by omega)] at hi
  rw [rotL_at M hj hi]
  exact h _ (Nat.mod_lt _ (by omega))
/-- how far the first i tones are from some goals -/
def farTo (n : Nat) (L M : List Int) : Nat → Nat
  | 0 => 0
  | i + 1 => farTo n L M i + Tic.apt n (L.getD i 0).toNat (M.getD i 0).toNat
theorem farTo_le {n : Nat} (hn : 1 ≤ n) (L M : List Int) : ∀ i, 2 * farTo n L M i ≤ i * n
  | 0 => by simp [farTo]
  | i + 1 => by
    have h1 := farTo_le hn L M i
    have h2 := Tic.apt_le (n := n) (x := (L.getD i 0).toNat) (y := (M.getD i 0).toNat) hn
    unfold farTo
    rw [Nat.add_mul, Nat.one_mul]; omega
set_option maxHeartbeats 400000 in
theorem listFrom_any (n s : Int) (i : Nat) (w : World) (hv : Tic.Valid n s) (hi : i < (tonesTo s.toNat n.toNat).length) :
    Calls Tro.prog 43 #[.agg #[.int .i64 n, .int .i64 s], .int .i64 (i : Int)] w (Gives (rotL (tonesTo s.toNat n.toNat) i) w) := by
  have hl := tonesTo_le s.toNat n.toNat
  have hn12 : n.toNat ≤ 12 := by have := hv.2.1; omega
  have HL := Lib.hid (fun w => list_any n s w hv)
  generalize tonesTo s.toNat n.toNat = M at *
  have hbx := (Below.refl w.heap.size w).alloc (Nat.le_refl _) (.cells #[.int .i64 n, .int .i64 s] 47)
  have hs1 : (w.alloc (.cells #[.int .i64 n, .int .i64 s] 47)).heap.size = w.heap.size + 1 := by simp
  go_enter Tro.func43, Tro.ntmps43
  go_wp2_with fail
  refine (HL.out _).mono ?_; rintro e w1 ⟨v, rfl, hr, hb⟩
  have HB := Lib.hid (hbx.trans (hb.mono (by omega)))
  have hz := HB.out.size
  rcases hr.cases with ⟨rfl, rfl⟩ | ⟨g, cap, rfl, _, hg, hc, _⟩
  · simp at hi
  have hcap := hr.capge
  generalize hm : M.length = m at *
  have hci : ¬ cap = i := by omega
  have hi1 : (i : Int) ≤ (m : Int) := by omega
  have hi2 : (m : Int) ≤ (cap : Int) := by omega
  have hi3 : (i : Int) ≤ (cap : Int) := by omega
  have hi4 : i ≤ m := by omega
  have hi5 : i ≤ cap := by omega
  have H1 : Hid (∀ W, Below w1.heap.size w1 W → Came W (.slice (some ⟨g, i, none⟩) (m - i) (cap - i)) (M.drop i)) := Lib.hid (fun W hW => by
    refine ⟨some ⟨g, i, none⟩, cap - i, by rw [List.length_drop, hm], by rw [List.length_drop, hm]; omega, by have := hcap.2; omega, .inr ⟨g, i, rfl, by have := hW.size; omega, fun j hj => ?_⟩⟩
    rw [List.length_drop, hm] at hj
    refine (hW.cell (p := ⟨g, i + j, none⟩) hg).trans ((hc (i + j) (by omega)).trans ?_)
    rw [List.getD_eq_getElem?_getD, List.getD_eq_getElem?_getD, List.getElem?_drop])
  have H2 : Hid (∀ W, Below w1.heap.size w1 W → Came W (.slice (some ⟨g, 0, none⟩) i cap) (M.take i)) := Lib.hid (fun W hW => by
    refine ⟨some ⟨g, 0, none⟩, cap, by rw [List.length_take, hm, Nat.min_eq_left hi4], by rw [List.length_take, hm, Nat.min_eq_left hi4]; omega, hcap.2, .inr ⟨g, 0, rfl, by have := hW.size; omega, fun j hj => ?_⟩⟩
    rw [List.length_take, hm] at hj
    rw [Nat.zero_add]
    refine (hW.cell (p := ⟨g, j, none⟩) hg).trans ((hc j (by omega)).trans ?_)
    rw [List.getD_eq_getElem?_getD, List.getD_eq_getElem?_getD, List.getElem?_take_of_lt (by omega)])
  have HJ := Lib.hid (fun W hW => joined_came _ _ _ _ W (H1.out W hW) (H2.out W hW) (by rw [List.length_drop, List.length_take]; omega))
  have hk0 : Below w1.heap.size w1 w1 := Below.refl _ _
  clear hr hb hbx hc H1 H2 HL
  go_wp2_with fail
  go_region_held3 (fun _ => True) (trivial)
    (first | (go_at_call 68; refine (HJ.out _ (by first | exact hk0 | exact hk0.drew)).mono ?_; rintro e w2 ⟨u, rfl, hu, hb2⟩) | fail)
  have HU := Lib.hid (hu.mono (show w.heap.size ≤ _ from hz))
  have HB2 := Lib.hid (HB.out.trans ((hk0.drew.trans hb2).mono hz))
  clear hu hb2 hk0
  go_wp2
  go_ret
  exact ⟨_, rfl, HU.out, HB2.out⟩
set_option maxHeartbeats 800000 in
theorem far_any (n s : Int) (v : Value) (B : Nat) (M : List Int) (w : World) (hv : Tic.Valid n s) (hr : Row w B v M) (hlen : M.length = (tonesTo s.toNat n.toNat).length) (hM : Ton n.toNat M) :
    Calls Tro.prog 84 #[.agg #[.int .i64 n, .int .i64 s], v] w fun e w' => e = .returned (.int .i64 (farTo n.toNat (tonesTo s.toNat n.toNat) M M.length : Int)) ∧ Below w.heap.size w w' := by
  have hl := tonesTo_le s.toNat n.toNat
  have g1 := hv.1
  have g2 := hv.2.1
  have HL := Lib.hid (fun w => list_any n s w hv)
  have hT := ton_tones s.toNat n.toNat
  generalize tonesTo s.toNat n.toNat = L at *
  obtain ⟨N, rfl⟩ := Int.eq_ofNat_of_zero_le (show 0 ≤ n by omega)
  rw [Int.toNat_natCast] at *
  have HF := Lib.hid (farTo_le (n := N) (by omega) L M)
  have HST : Hid (∀ i, farTo N L M (i + 1) = farTo N L M i + Tic.apt N (L.getD i 0).toNat (M.getD i 0).toNat) := Lib.hid (fun i => rfl)
  have HT := Lib.hid hT
  have HTM := Lib.hid hM
  have hbx := (Below.refl w.heap.size w).alloc (Nat.le_refl _) (.cells #[.int .i64 (N : Int), .int .i64 s] 47)
  have hs1 : (w.alloc (.cells #[.int .i64 (N : Int), .int .i64 s] 47)).heap.size = w.heap.size + 1 := by simp
  have hx0 : (w.alloc (.cells #[.int .i64 (N : Int), .int .i64 s] 47)).cell? ⟨w.heap.size, 0, none⟩ = some (.int .i64 (N : Int)) := by rw [World.cell?_alloc_at _ _ _ _ rfl]; rfl
  have hf0 : farTo N L M 0 = 0 := rfl
  obtain ⟨m, hm⟩ : ∃ m, m = M.length := ⟨_, rfl⟩
  rw [← hm] at hlen ⊢
  have HM := Lib.hid hm
  clear hT hM
  go_enter Tro.func84, Tro.ntmps84
  go_wp2_with fail
  refine (HL.out _).mono ?_; rintro e w1 ⟨u, rfl, hu, hb⟩
  have hx := (hb.cell (p := ⟨w.heap.size, 0, none⟩) (by show w.heap.size < _; omega)).trans hx0
  have HB := Lib.hid (hbx.trans (hb.mono (by omega)))
  have hz := HB.out.size
  have hzx : w.heap.size < w1.heap.size := by have := hb.size; omega
  have hr1 := hr.kept (hbx.trans (hb.mono (by omega)))
  have hl2 := hr1.2
  have HR : Hid (0 < m → ∃ g c, v = .slice (some ⟨g, 0, none⟩) m c ∧ g < w1.heap.size ∧ ∀ i, i < m → w1.cell? ⟨g, i, none⟩ = some (.int .i64 (M.getD i 0))) := Lib.hid (fun h0 => by
    rcases hr1.cases with ⟨_, e⟩ | ⟨g, c, e, _, h2, h3, _⟩
    · rw [e] at hm; simp at hm; omega
    · exact ⟨g, c, by rw [e, ← hm], h2, fun i hi => h3 i (by omega)⟩)
  obtain ⟨p, cp, rfl⟩ := hu.lenz
  have HU : Hid (0 < m → ∃ g, p = some ⟨g, 0, none⟩ ∧ g < w1.heap.size ∧ ∀ i, i < m → w1.cell? ⟨g, i, none⟩ = some (.int .i64 (L.getD i 0))) := Lib.hid (fun h0 => by
    rcases hu.cases with ⟨_, e⟩ | ⟨g, c, e, _, h2, h3, _⟩
    · rw [e] at hlen; simp at hlen; omega
    · simp only [Value.slice.injEq, true_and] at e
      exact ⟨g, e.1, h2, fun i hi => h3 i (by omega)⟩)
  rw [← hlen]
  clear hr hr1 hu hb hbx hm hx0
  go_wp2
  go_loopw [5, 11] (fun t5 t11 wr => ∃ i : Nat, i ≤ m ∧ t11 = .int .i64 i ∧ t5 = .int .i64 (farTo N L M i : Int) ∧ Hid (Below w1.heap.size w1 wr)) (fun _ t11 _ => m - (intOf t11).toNat)
  case atStart => exact ⟨0, Nat.zero_le _, rfl, by rw [hf0]; rfl, Below.refl _ _⟩
  case round =>
    obtain ⟨i, hi, rfl, rfl, HBI⟩ := hrel
    by_cases hlt : i < m
    · obtain ⟨g, c, rfl, hg, hc⟩ := HR.out (by omega)
      obtain ⟨gu, rfl, hgu, hcu⟩ := HU.out (by omega)
      obtain ⟨x, hx1, ex⟩ := HT.out i (by omega)
      obtain ⟨y, hy1, ey⟩ := HTM.out i (by rw [← HM.out]; exact hlt)
      have c0 := (HBI.out.cell (p := ⟨g, i, none⟩) hg).trans (hc i hlt)
      have c1 := (HBI.out.cell (p := ⟨gu, i, none⟩) hgu).trans (hcu i hlt)
      have c2 := (HBI.out.cell (p := ⟨w.heap.size, 0, none⟩) hzx).trans hx
      have hst := HST.out i
      have hfl := HF.out i
      rw [ex, ey, Int.toNat_natCast, Int.toNat_natCast] at hst
      rw [ey] at c0
      rw [ex] at c1
      have hap := Tic.apt_le (n := N) (x := x) (y := y) (by omega)
      have HA := Lib.hid (fun w => apart_any N x y w (by omega) (by omega) hx1 hy1)
      have hin : i * N ≤ 1048576 * 12 := Nat.mul_le_mul (by omega) (by omega)
      have hfb : farTo N L M i ≤ 12582912 := by omega
      have HSTE := Lib.hid hst
      clear hc hcu ex ey hst hfl hin
      generalize farTo N L M i = f at *
      generalize Tic.apt N x y = q at *
      have i1 : (i : Int) < (m : Int) := by omega
      have i0 : (0 : Int) ≤ (i : Int) := by omega
      have hq1 := IntWalk.i64_in ((f : Int) + (q : Int)) (by omega)
      go_wp2_with fail
      go_quiet ((go_at_call 89; exact Calls.quiet_of_same (still_of (HA.out _))))
      have HB2 : Hid (Below w1.heap.size w1 (wr.drewN nq)) := Lib.hid (below_dn HBI.out nq)
      go_wp2
      go_roundw
      case rel => exact ⟨i + 1, by omega, by go_num, by rw [HSTE.out]; exact congrArg (Value.int .i64) (by omega), HB2⟩
      case measure => simp [intOf]; omega
    · obtain rfl : i = m := by omega
      go_wp2
      go_ret
      exact ⟨rfl, HB.out.trans (HBI.out.mono hz)⟩
end Go.Proofs.YtjgkignnfkbeaaaTro

/-
  Contracts of ShiftSet, TurnSet and OthersOf, of the program and of the model.
-/
namespace Go.Proofs.YtjgkignnfkbeaaaTro
open Go.RowKit

theorem sshift_any (n s t : Int) (w : World) (hv : Tic.Valid n s) (ht : Tic.Turn t) :
    Calls Tro.prog 59 #[.int .i64 n, .int .i64 s, .int .i64 t] w fun e w' => e = .returned (.int .i64 (Tic.shf n.toNat t s.toNat : Int)) ∧ w = w' := by
  have hlt := hv.lt
  obtain ⟨g1, g2, g3, _⟩ := hv
  obtain ⟨h3, h4⟩ := ht
  obtain ⟨N, rfl⟩ := Int.eq_ofNat_of_zero_le (show 0 ≤ n by omega)
  obtain ⟨S, rfl⟩ := Int.eq_ofNat_of_zero_le g3
  rw [Int.toNat_natCast, Int.toNat_natCast]
  have HF := Lib.hid (Tic.sum_shf (n := N) (by omega) t S)
  go_enter Tro.func59, Tro.ntmps59
  go_wp2
  go_loop [7, 8] (fun t7 t8 => ∃ k : Nat, k ≤ N ∧ t8 = .int .i64 k ∧ t7 = .int .i64 (Tic.sumImg (Tic.mvd N 1 t) S k : Int)) (fun _ t8 => N - (intOf t8).toNat)
  case atStart => exact ⟨0, Nat.zero_le _, rfl, rfl⟩
  case round =>
    obtain ⟨k, hk, rfl, rfl⟩ := hrel
    have hb := Tic.sum_mvd_lt (n := N) (by omega) (by omega) 1 t (.inl rfl) S hk
    by_cases hlt2 : k < N
    · cases hbit : S.testBit k with
      | false =>
        have HB := Lib.hid hbit
        clear hbit
        go_wp2_with fail
        refine (bit_no _ _ S k _ rfl (by omega) rfl (by omega) HB.out).mono ?_; rintro e w1 ⟨rfl, rfl⟩
        go_wp2
        go_round
        case rel => exact ⟨k + 1, by omega, by go_num, by rw [Tic.sumImg_no _ HB.out]⟩
        case measure => simp [intOf]; omega
      | true =>
        have HB := Lib.hid hbit
        clear hbit
        have hm1 := Int.emod_nonneg (k + t) (b := (N : Int)) (by omega)
        have hm2 := Int.emod_lt_of_pos (k + t) (b := (N : Int)) (by omega)
        have hp : 2 ^ ((k + t) % (N : Int)).toNat ≤ 4096 := Tic.pow_le_12 (by omega)
        go_wp2_with fail
        refine (bit_yes _ _ S k _ rfl (by omega) rfl (by omega) HB.out).mono ?_; rintro e w1 ⟨rfl, rfl⟩
        go_wp2_with fail
        refine (rest_any _ _ _ (by omega) (by omega) (by omega) (by omega)).mono ?_; rintro e w1 ⟨rfl, rfl⟩
        go_wp2_with fail
        refine (power_any _ _ (by omega) (by omega)).mono ?_; rintro e w1 ⟨rfl, rfl⟩
        generalize hg : 2 ^ ((k + t) % (N : Int)).toNat = p at hp
        have HG := Lib.hid hg
        clear hg
        go_wp2
        go_round
        case rel =>
          refine ⟨k + 1, by omega, by go_num, ?_⟩
          rw [Tic.sumImg_yes _ HB.out, ← HG.out]
          rw [show Tic.mvd N 1 t k = ((k + t) % (N : Int)).toNat by unfold Tic.mvd; rw [Int.one_mul, Int.add_comm]]
          rfl
        case measure => simp [intOf]; omega
    · have : k = N := by omega
      subst this
      go_wp2
      go_ret
      exact ⟨ret_int (by rw [HF.out]), rfl⟩

theorem sturn_any (n s t : Int) (w : World) (hv : Tic.Valid n s) (ht : Tic.Turn t) :
    Calls Tro.prog 63 #[.int .i64 n, .int .i64 s, .int .i64 t] w fun e w' => e = .returned (.int .i64 (Tic.tur n.toNat t s.toNat : Int)) ∧ w = w' := by
  have hlt := hv.lt
  obtain ⟨g1, g2, g3, _⟩ := hv
  obtain ⟨h3, h4⟩ := ht
  obtain ⟨N, rfl⟩ := Int.eq_ofNat_of_zero_le (show 0 ≤ n by omega)
  obtain ⟨S, rfl⟩ := Int.eq_ofNat_of_zero_le g3
  rw [Int.toNat_natCast, Int.toNat_natCast]
  have HF := Lib.hid (Tic.sum_tur (n := N) (by omega) t S)
  go_enter Tro.func63, Tro.ntmps63
  go_wp2
  go_loop [7, 8] (fun t7 t8 => ∃ k : Nat, k ≤ N ∧ t8 = .int .i64 k ∧ t7 = .int .i64 (Tic.sumImg (Tic.mvd N (-1) t) S k : Int)) (fun _ t8 => N - (intOf t8).toNat)
  case atStart => exact ⟨0, Nat.zero_le _, rfl, rfl⟩
  case round =>
    obtain ⟨k, hk, rfl, rfl⟩ := hrel
    have hb := Tic.sum_mvd_lt (n := N) (by omega) (by omega) (-1) t (.inr rfl) S hk
    by_cases hlt2 : k < N
    · cases hbit : S.testBit k with
      | false =>
        have HB := Lib.hid hbit
        clear hbit
        go_wp2_with fail
        refine (bit_no _ _ S k _ rfl (by omega) rfl (by omega) HB.out).mono ?_; rintro e w1 ⟨rfl, rfl⟩
        go_wp2
        go_round
        case rel => exact ⟨k + 1, by omega, by go_num, by rw [Tic.sumImg_no _ HB.out]⟩
        case measure => simp [intOf]; omega
      | true =>
        have HB := Lib.hid hbit
        clear hbit
        have hm1 := Int.emod_nonneg (t - k) (b := (N : Int)) (by omega)
        have hm2 := Int.emod_lt_of_pos (t - k) (b := (N : Int)) (by omega)
        have hp : 2 ^ ((t - k) % (N : Int)).toNat ≤ 4096 := Tic.pow_le_12 (by omega)
        go_wp2_with fail
        refine (bit_yes _ _ S k _ rfl (by omega) rfl (by omega) HB.out).mono ?_; rintro e w1 ⟨rfl, rfl⟩
        go_wp2_with fail
        refine (rest_any _ _ _ (by omega) (by omega) (by omega) (by omega)).mono ?_; rintro e w1 ⟨rfl, rfl⟩
        go_wp2_with fail
        refine (power_any _ _ (by omega) (by omega)).mono ?_; rintro e w1 ⟨rfl, rfl⟩
        generalize hg : 2 ^ ((t - k) % (N : Int)).toNat = p at hp
        have HG := Lib.hid hg
        clear hg
        go_wp2
        go_round
        case rel =>
          refine ⟨k + 1, by omega, by go_num, ?_⟩
          rw [Tic.sumImg_yes _ HB.out, ← HG.out]
          rw [show Tic.mvd N (-1) t k = ((t - k) % (N : Int)).toNat by unfold Tic.mvd; rw [Int.neg_one_mul, Int.sub_eq_add_neg]]
          rfl
        case measure => simp [intOf]; omega
    · have : k = N := by omega
      subst this
      go_wp2
      go_ret
      exact ⟨ret_int (by rw [HF.out]), rfl⟩

theorem iShiftSet_yes (n s t : Int) (w : World) (hv : Tic.Valid n s) (ht : Tic.Turn t) :
    Calls Tro.prog 34 #[.int .i64 n, .int .i64 s, .int .i64 t] w fun e w' => e = .returned (.int .i64 (Tic.shf n.toNat t s.toNat : Int)) ∧ Below w.heap.size w w' := by
  have hfd := tones_of
  go_enter Tro.func34, Tro.ntmps34
  go_wp2_with fail
  refine (implValid_yes _ _ _ hv).mono ?_; rintro e w1 ⟨rfl, rfl⟩
  go_wp2_with fail
  refine (shiftOk_yes _ _ ht).mono ?_; rintro e w1 ⟨rfl, rfl⟩
  go_wp2_with fail
  refine (mshift_any _ _ _ _ hv ht).mono ?_; rintro e w1 ⟨rfl, hb⟩
  go_wp2_with fail
  go_ret
  exact ⟨rfl, hb⟩
theorem iShiftSet_no (n s t : Int) (w : World) (h : ¬ (Tic.Valid n s ∧ Tic.Turn t)) :
    Calls Tro.prog 34 #[.int .i64 n, .int .i64 s, .int .i64 t] w fun e w' => e = .returned (.int .i64 (-1)) ∧ w = w' := by
  by_cases hv : Tic.Valid n s
  · have ht : ¬ Tic.Turn t := fun ht => h ⟨hv, ht⟩
    clear h
    go_enter Tro.func34, Tro.ntmps34
    go_wp2_with fail
    refine (implValid_yes _ _ _ hv).mono ?_; rintro e w1 ⟨rfl, rfl⟩
    go_wp2_with fail
    refine (shiftOk_no _ _ ht).mono ?_; rintro e w1 ⟨rfl, rfl⟩
    go_wp2_with fail
    go_ret
    exact ⟨rfl, rfl⟩
  · clear h
    go_enter Tro.func34, Tro.ntmps34
    go_wp2_with fail
    refine (implValid_no _ _ _ hv).mono ?_; rintro e w1 ⟨rfl, rfl⟩
    go_wp2_with fail
    go_ret
    exact ⟨rfl, rfl⟩

end Go.Proofs.YtjgkignnfkbeaaaTro

/-
  The library's count of bits in six steps, for numbers below 4096. No program in sight.
-/
namespace Go.Proofs.YtjgkignnfkbeaaaTro
open Go.RowKit

/-! The six steps of the count -/
def o1 (x : Int) : Int := IntKind.u64.wrap (bits .and .u64 (x / 2) 6148914691236517205 + bits .and .u64 x 6148914691236517205)
def o2 (x : Int) : Int := IntKind.u64.wrap (bits .and .u64 (x / 4) 3689348814741910323 + bits .and .u64 x 3689348814741910323)
def o3 (x : Int) : Int := bits .and .u64 (IntKind.u64.wrap (x / 16 + x)) 1085102592571150095
def o4 (x : Int) : Int := IntKind.u64.wrap (x + x / 256)
def o5 (x : Int) : Int := IntKind.u64.wrap (x + x / 65536)
def o6 (x : Int) : Int := IntKind.u64.wrap (x + x / 4294967296)
def oAll (x : Int) : Int := bits .and .i64 (wrap64 (o6 (o5 (o4 (o3 (o2 (o1 x))))))) 127
theorem ones_dec : ∀ a : Fin 64, ∀ b : Fin 64, oAll ((64 * a.val + b.val : Nat) : Int) = (Tic.wt 12 (64 * a.val + b.val) : Int) := by decide +kernel
theorem ones_all {X : Nat} (h : X < 4096) : oAll (X : Int) = (Tic.wt 12 X : Int) := by
  have := ones_dec ⟨X / 64, by omega⟩ ⟨X % 64, by omega⟩
  rw [show 64 * (X / 64) + X % 64 = X by omega] at this
  exact this

theorem ones_long {X : Nat} (h : X < 4096) : bits .and .i64 (wrap64 (o6 (o5 (o4 (o3 (o2 (o1 (X : Int)))))))) 127 = (Tic.wt 12 X : Int) := ones_all h

end Go.Proofs.YtjgkignnfkbeaaaTro

/-
  Contracts of the library's count of bits, for numbers below 4096, and of the methods others, common and count.
-/
namespace Go.Proofs.YtjgkignnfkbeaaaTro
open Go.RowKit
set_option linter.unusedVariables false

set_option maxRecDepth 20000 in
theorem ones64_any (x : Int) (X : Nat) (w : World) (hx : x = X) (hX : X < 4096) :
    Calls Tro.prog 88 #[.int .u64 x] w fun e w' => e = .returned (.int .i64 (Tic.wt 12 X : Int)) ∧ w = w' := by
  subst hx
  have HO := Lib.hid (ones_long hX)
  go_enter Tro.func88, Tro.ntmps88
  go_wp2
  go_ret
  refine ⟨ret_int ?_, rfl⟩
  have h := HO.out
  unfold o6 o5 o4 o3 o2 o1 at h
  exact h
theorem ones_any (x : Int) (X : Nat) (w : World) (hx : x = X) (hX : X < 4096) :
    Calls Tro.prog 82 #[.int .u64 x] w fun e w' => e = .returned (.int .i64 (Tic.wt 12 X : Int)) ∧ w = w' := by
  subst hx
  go_enter Tro.func82, Tro.ntmps82
  go_wp2_with fail
  refine (ones64_any _ X _ rfl hX).mono ?_; rintro e w1 ⟨rfl, rfl⟩
  go_wp2_with fail
  go_ret
  exact ⟨rfl, rfl⟩

theorem others_num {n s : Int} (hv : Tic.Valid n s) : wrap64 (wrap64 (wrap64 ((2 : Int) ^ n.toNat) - 1) - s) = ((2 ^ n.toNat : Nat) : Int) - 1 - s := by
  obtain ⟨g1, g2, g3, g4⟩ := hv
  have hp := Tic.pow_le_12 g2
  have hp1 : 1 ≤ 2 ^ n.toNat := Nat.one_le_two_pow
  rw [wrap_pow (by omega)]
  generalize 2 ^ n.toNat = p at g4 hp hp1
  rw [IntWalk.wrap64_in ((p : Int) - 1) (by omega)]
  exact IntWalk.wrap64_in _ (by omega)


theorem u64_small {P : Nat} (h : P < 4096) : IntKind.u64.wrap (P : Int) = P := by rw [IntKind.wrap_u64]; omega
theorem count_any (n s : Int) (S : Nat) (w : World) (h1 : s = S) (h3 : S < 4096) :
    Calls Tro.prog 66 #[.agg #[.int .i64 n, .int .i64 s]] w fun e w' => e = .returned (.int .i64 (Tic.wt 12 S : Int)) ∧ Below w.heap.size w w' := by
  subst h1
  go_enter Tro.func66, Tro.ntmps66
  go_wp2_with fail
  refine (ones_any _ S _ rfl h3).mono ?_; rintro e w1 ⟨rfl, rfl⟩
  go_wp2_with fail
  go_ret
  exact ⟨rfl, (Below.refl _ _).alloc (Nat.le_refl _) _⟩


end Go.Proofs.YtjgkignnfkbeaaaTro

/-
  The contract of the program's validVoices.
-/
namespace Go.Proofs.YtjgkignnfkbeaaaTro
open Go.RowKit
set_option linter.unusedVariables false
set_option maxRecDepth 20000

theorem tones_half (s : Nat) : ∀ k, (tonesTo s (k + 1)).length = s % 2 + (tonesTo (s / 2) k).length
  | 0 => by
    cases h : s.testBit 0 with
    | true =>
      rw [tonesTo_yes h]
      have := Nat.testBit_zero s ▸ h
      simp [tonesTo] at this ⊢; omega
    | false =>
      rw [tonesTo_no h]
      have := Nat.testBit_zero s ▸ h
      simp [tonesTo] at this ⊢; omega
  | k + 1 => by
    have ih := tones_half s k
    have e : s.testBit (k + 1) = (s / 2).testBit k := Nat.testBit_succ ..
    cases h : s.testBit (k + 1) with
    | true => rw [tonesTo_yes h, tonesTo_yes (e.symm.trans h)]; simp; omega
    | false => rw [tonesTo_no h, tonesTo_no (e.symm.trans h)]; exact ih
theorem wt_tones : ∀ f s, Tic.wt f s = (tonesTo s f).length
  | 0, s => rfl
  | f + 1, s => by rw [tones_half, ← wt_tones f (s / 2)]; rfl
theorem tones_past {s n : Nat} (hs : s < 2 ^ n) : ∀ d, tonesTo s (n + d) = tonesTo s n
  | 0 => rfl
  | d + 1 => by
    have h : s.testBit (n + d) = false := Nat.testBit_lt_two_pow (Nat.lt_of_lt_of_le hs (Nat.pow_le_pow_right (by decide) (by omega)))
    rw [← Nat.add_assoc, tonesTo_no h]
    exact tones_past hs d
theorem wt_len {n B : Int} (hB : Tic.Valid n B) : Tic.wt 12 B.toNat = (tonesTo B.toNat n.toNat).length := by
  obtain ⟨h1, h2, h3, h4⟩ := hB
  rw [wt_tones, ← tones_past (s := B.toNat) (n := n.toNat) (by omega) (12 - n.toNat), show n.toNat + (12 - n.toNat) = 12 by omega]
/-- voices may go from A to B -/
def Voices (n A B : Int) : Prop := Tic.Valid n A ∧ Tic.Valid n B ∧ A ≠ 0 ∧ Tic.wt 12 A.toNat = Tic.wt 12 B.toNat
instance (n A B : Int) : Decidable (Voices n A B) := by unfold Voices Tic.Valid; exact inferInstance
def vv (n A B : Int) : Bool := decide (Voices n A B)
theorem vv_yes {n A B : Int} (h : Voices n A B) : vv n A B = true := decide_eq_true h
theorem vv_no {n A B : Int} (h : ¬ Voices n A B) : vv n A B = false := decide_eq_false h
theorem of_vv {n A B : Int} (h : vv n A B = true) : Voices n A B := of_decide_eq_true h
set_option maxHeartbeats 400000 in
theorem validVoices_any (n A B : Int) (w : World) : Calls Tro.prog 41 #[.int .i64 n, .int .i64 A, .int .i64 B] w fun e w' => e = .returned (.bool (vv n A B)) ∧ Below w.heap.size w w' := by
  rcases Classical.em (Tic.Valid n A) with hA | hA
  · rcases Classical.em (Tic.Valid n B) with hB | hB
    · by_cases h0 : A = 0
      · rw [vv_no (fun h => h.2.2.1 h0)]
        subst h0
        go_enter Tro.func41, Tro.ntmps41
        go_wp2_with fail
        refine (implValid_yes _ _ _ hA).mono ?_; rintro e w1 ⟨rfl, rfl⟩
        go_wp2_with fail
        refine (implValid_yes _ _ _ hB).mono ?_; rintro e w1 ⟨rfl, rfl⟩
        go_wp2_with fail
        go_ret
        exact ⟨rfl, Below.refl _ _⟩
      · have hAl := hA.lt
        have hBl := hB.lt
        have a0 := hA.2.2.1
        have b0 := hB.2.2.1
        have hne : (A == 0) = false := beq_eq_false_iff_ne.2 h0
        have HV : Hid (vv n A B = (((Tic.wt 12 A.toNat : Nat) : Int) == ((Tic.wt 12 B.toNat : Nat) : Int))) := Lib.hid (by
          by_cases hw : Tic.wt 12 A.toNat = Tic.wt 12 B.toNat
          · rw [vv_yes ⟨hA, hB, h0, hw⟩, hw]; simp
          · rw [vv_no (fun h => hw h.2.2.2)]; symm; exact beq_eq_false_iff_ne.2 (fun e => hw (by omega)))
        go_enter Tro.func41, Tro.ntmps41
        go_wp2_with fail
        refine (implValid_yes _ _ _ hA).mono ?_; rintro e w1 ⟨rfl, rfl⟩
        go_wp2_with fail
        refine (implValid_yes _ _ _ hB).mono ?_; rintro e w1 ⟨rfl, rfl⟩
        go_wp2_with fail
        refine (count_any n A A.toNat _ (by omega) (by omega)).mono ?_; rintro e w1 ⟨rfl, hb1⟩
        go_wp2_with fail
        refine (count_any n B B.toNat _ (by omega) (by omega)).mono ?_; rintro e w2 ⟨rfl, hb2⟩
        have HB := Lib.hid (hb1.trans (hb2.mono hb1.size))
        clear hb1 hb2
        generalize Tic.wt 12 A.toNat = p at *
        generalize Tic.wt 12 B.toNat = q at *
        go_wp2_with fail
        go_ret
        exact ⟨ret_bool HV.out.symm, HB.out⟩
    · rw [vv_no (fun h => hB h.2.1)]
      go_enter Tro.func41, Tro.ntmps41
      go_wp2_with fail
      refine (implValid_yes _ _ _ hA).mono ?_; rintro e w1 ⟨rfl, rfl⟩
      go_wp2_with fail
      refine (implValid_no _ _ _ hB).mono ?_; rintro e w1 ⟨rfl, rfl⟩
      go_wp2_with fail
      go_ret
      exact ⟨rfl, Below.refl _ _⟩
  · rw [vv_no (fun h => hA h.1)]
    go_enter Tro.func41, Tro.ntmps41
    go_wp2_with fail
    refine (implValid_no _ _ _ hA).mono ?_; rintro e w1 ⟨rfl, rfl⟩
    go_wp2_with fail
    go_ret
    exact ⟨rfl, Below.refl _ _⟩
end Go.Proofs.YtjgkignnfkbeaaaTro

/-
  The contract of the model's pairing.
-/
namespace Go.Proofs.YtjgkignnfkbeaaaTro
open Go.RowKit
set_option linter.unusedVariables false
set_option maxRecDepth 20000

/-- the least sum of the first j turns, and the first turn that has it -/
def prF (n : Nat) (L M : List Int) : Nat → Nat × Nat
  | 0 => (n * n, 0)
  | j + 1 => if farTo n L (rotL M j) L.length < (prF n L M j).1 then (farTo n L (rotL M j) L.length, j) else prF n L M j
theorem prF_yes {n : Nat} {L M : List Int} {j : Nat} (h : farTo n L (rotL M j) L.length < (prF n L M j).1) : prF n L M (j + 1) = (farTo n L (rotL M j) L.length, j) := by show (if _ then _ else _) = _; rw [if_pos h]
theorem prF_no {n : Nat} {L M : List Int} {j : Nat} (h : ¬ farTo n L (rotL M j) L.length < (prF n L M j).1) : prF n L M (j + 1) = prF n L M j := by show (if _ then _ else _) = _; rw [if_neg h]
theorem prF_bd (n : Nat) (L M : List Int) : ∀ j, (prF n L M j).1 ≤ n * n ∧ (prF n L M j).2 ≤ j
  | 0 => ⟨Nat.le_refl _, Nat.le_refl _⟩
  | j + 1 => by
    obtain ⟨h1, h2⟩ := prF_bd n L M j
    by_cases h : farTo n L (rotL M j) L.length < (prF n L M j).1
    · rw [prF_yes h]; exact ⟨by omega, by simp⟩
    · rw [prF_no h]; exact ⟨h1, by omega⟩
set_option maxHeartbeats 1000000 in
theorem pairing_any (n A B : Int) (w : World) (hA : Tic.Valid n A) (hB : Tic.Valid n B) (hl : (tonesTo A.toNat n.toNat).length = (tonesTo B.toNat n.toNat).length) :
    Calls Tro.prog 45 #[.int .i64 n, .int .i64 A, .int .i64 B] w fun e w' => e = .returned (.tuple #[.int .i64 ((prF n.toNat (tonesTo A.toNat n.toNat) (tonesTo B.toNat n.toNat) (tonesTo A.toNat n.toNat).length).1 : Int), .int .i64 ((prF n.toNat (tonesTo A.toNat n.toNat) (tonesTo B.toNat n.toNat) (tonesTo A.toNat n.toNat).length).2 : Int)]) ∧ Below w.heap.size w w' := by
  have hle := tonesTo_le A.toNat n.toNat
  have g1 := hA.1
  have g2 := hA.2.1
  have HSA := Lib.hid (fun w => stones_any n A w hA)
  have HSB := Lib.hid (fun w => stones_any n B w hB)
  have hTA := ton_tones A.toNat n.toNat
  have hTB := ton_tones B.toNat n.toNat
  generalize tonesTo A.toNat n.toNat = L at *
  generalize tonesTo B.toNat n.toNat = M at *
  obtain ⟨N, rfl⟩ := Int.eq_ofNat_of_zero_le (show 0 ≤ n by omega)
  rw [Int.toNat_natCast] at *
  obtain ⟨m, hm⟩ : ∃ m, m = L.length := ⟨_, rfl⟩
  rw [← hm] at hl hle ⊢
  have HM := Lib.hid hm
  have HL := Lib.hid hl
  have HTA := Lib.hid hTA
  have HTB := Lib.hid hTB
  have HBD := Lib.hid (prF_bd N L M)
  have HY : Hid (∀ j, farTo N L (rotL M j) m < (prF N L M j).1 → prF N L M (j + 1) = (farTo N L (rotL M j) m, j)) := Lib.hid (fun j h => by rw [hm] at h ⊢; exact prF_yes h)
  have HN : Hid (∀ j, ¬ farTo N L (rotL M j) m < (prF N L M j).1 → prF N L M (j + 1) = prF N L M j) := Lib.hid (fun j h => by rw [hm] at h; exact prF_no h)
  have hp0 : prF N L M 0 = (N * N, 0) := rfl
  have hnn : N * N ≤ 12 * 12 := Nat.mul_le_mul (by omega) (by omega)
  have enn : (N : Int) * (N : Int) = ((N * N : Nat) : Int) := (Int.natCast_mul _ _).symm
  have HFL := Lib.hid (fun j => farTo_le (n := N) (by omega) L (rotL M j))
  obtain ⟨NN, hNN⟩ : ∃ NN, NN = N * N := ⟨_, rfl⟩
  rw [← hNN] at hp0 hnn enn HBD
  have ENN := Lib.hid enn
  have knn := IntWalk.i64_in (NN : Int) (by omega)
  have KNN := Lib.hid knn
  clear hTA hTB hA hB hl hm enn knn hNN
  go_enter Tro.func45, Tro.ntmps45
  go_wp2_with fail
  refine (HSA.out _).mono ?_; rintro e w1 ⟨va, rfl, ha, hb1⟩
  go_wp2_with fail
  refine (HSB.out _).mono ?_; rintro e w2 ⟨vb, rfl, hbr, hb2⟩
  have hz1 := hb1.size
  have hz2 := hb2.size
  have HB := Lib.hid (hb1.trans (hb2.mono hz1))
  have ha2 := ha.kept hb2
  obtain ⟨pa, ca, rfl⟩ := ha2.lenz
  obtain ⟨pb, cb, rfl⟩ := hbr.lenz
  have HA : Hid (0 < m → ∃ g, pa = some ⟨g, 0, none⟩ ∧ g < w2.heap.size ∧ ∀ i, i < m → w2.cell? ⟨g, i, none⟩ = some (.int .i64 (L.getD i 0))) := Lib.hid (fun h0 => by
    rcases ha2.cases with ⟨_, e⟩ | ⟨g, c, e, _, h2, h3, _⟩
    · have := HM.out; rw [e] at this; simp at this; omega
    · simp only [Value.slice.injEq, true_and] at e
      exact ⟨g, e.1, h2, fun i hi => h3 i (by have := HM.out; omega)⟩)
  have HBR : Hid (0 < m → ∃ g, pb = some ⟨g, 0, none⟩ ∧ g < w2.heap.size ∧ ∀ i, i < m → w2.cell? ⟨g, i, none⟩ = some (.int .i64 (M.getD i 0))) := Lib.hid (fun h0 => by
    rcases hbr.cases with ⟨_, e⟩ | ⟨g, c, e, _, h2, h3, _⟩
    · have := HL.out; rw [e] at this; simp at this; omega
    · simp only [Value.slice.injEq, true_and] at e
      exact ⟨g, e.1, h2, fun i hi => h3 i (by have := HL.out; omega)⟩)
  rw [← HM.out, ← HL.out]
  clear ha hbr ha2 hb1 hb2 HSA HSB
  have enn := ENN.out
  have knn := KNN.out
  go_wp2
  clear enn knn
  go_loopw [10, 11, 12] (fun t10 t11 t12 wr => ∃ j : Nat, j ≤ m ∧ t12 = .int .i64 j ∧ t10 = .int .i64 ((prF N L M j).1 : Int) ∧ t11 = .int .i64 ((prF N L M j).2 : Int) ∧ Hid (Below w2.heap.size w2 wr)) (fun _ _ t12 _ => m - (intOf t12).toNat)
  case atStart => exact ⟨0, Nat.zero_le _, rfl, by rw [hp0], by rw [hp0]; rfl, Below.refl _ _⟩
  case round =>
    obtain ⟨j, hj, rfl, rfl, rfl, HBJ⟩ := hrel
    by_cases hlt : j < m
    · obtain ⟨bd1, bd2⟩ := HBD.out j
      have hy := HY.out j
      have hn := HN.out j
      have HFJ := Lib.hid (HFL.out j)
      have HST : Hid (∀ i, farTo N L (rotL M j) (i + 1) = farTo N L (rotL M j) i + Tic.apt N (L.getD i 0).toNat ((rotL M j).getD i 0).toNat) := Lib.hid (fun i => rfl)
      have hf0 : farTo N L (rotL M j) 0 = 0 := rfl
      have HAT : Hid (∀ i, i < m → (rotL M j).getD i 0 = M.getD ((i + j) % m) 0) := Lib.hid (fun i hi => by rw [HL.out] at hlt hi ⊢; exact rotL_at M hlt hi)
      generalize farTo N L (rotL M j) = fj at *
      generalize hpj : prF N L M j = st at *
      have HPJ := Lib.hid hpj
      have HYJ := Lib.hid hy
      have HNJ := Lib.hid hn
      obtain ⟨best, at'⟩ := st
      simp only at bd1 bd2 hy hn HYJ HNJ ⊢
      clear hpj hy hn
      go_wp2_with fail
      go_loopw [13, 14] (fun t13 t14 wr => ∃ i : Nat, i ≤ m ∧ t14 = .int .i64 i ∧ t13 = .int .i64 (fj i : Int) ∧ Hid (Below w2.heap.size w2 wr)) (fun _ t14 _ => m - (intOf t14).toNat)
      case atStart => exact ⟨0, Nat.zero_le _, rfl, by rw [hf0]; rfl, HBJ⟩
      case round =>
        obtain ⟨i, hi, rfl, rfl, HBI⟩ := hrel
        by_cases hlti : i < m
        · obtain ⟨ga, rfl, hga, hca⟩ := HA.out (by omega)
          obtain ⟨gb, rfl, hgb, hcb⟩ := HBR.out (by omega)
          obtain ⟨x, hx1, ex⟩ := HTA.out i (by rw [← HM.out]; exact hlti)
          have hr : (i + j) % m < m := Nat.mod_lt _ (by omega)
          obtain ⟨y, hy1, ey⟩ := HTB.out ((i + j) % m) (by rw [← HL.out]; exact hr)
          have c0 := (HBI.out.cell (p := ⟨ga, i, none⟩) hga).trans (hca i hlti)
          have c1 := (HBI.out.cell (p := ⟨gb, (i + j) % m, none⟩) hgb).trans (hcb _ hr)
          have hst := HST.out i
          have hfl := HFJ.out i
          rw [HAT.out i hlti, ex, ey, Int.toNat_natCast, Int.toNat_natCast] at hst
          rw [ex] at c0
          rw [ey] at c1
          have htm : ((i : Int) + (j : Int)).tmod (m : Int) = (((i + j) % m : Nat) : Int) := by
            rw [Int.tmod_eq_emod_of_nonneg (by omega), ← Int.natCast_add, ← Int.natCast_emod]
          have hap := Tic.apt_le (n := N) (x := x) (y := y) (by omega)
          have HAP := Lib.hid (fun w => sapart_any N x y w (by omega) (by omega) hx1 hy1)
          have hin : i * N ≤ 12 * 12 := Nat.mul_le_mul (by omega) (by omega)
          have hfb : fj i ≤ 144 := by omega
          have HSTE := Lib.hid hst
          clear hca hcb ex ey hst hfl hin
          generalize fj i = f at *
          generalize Tic.apt N x y = q at *
          generalize (i + j) % m = r at *
          have i0 : (0 : Int) ≤ (i : Int) := by omega
          have i1 : (i : Int) < (m : Int) := by omega
          have r0 : (0 : Int) ≤ (r : Int) := by omega
          have r1 : (r : Int) < (m : Int) := by omega
          have k1 := IntWalk.i64_in ((f : Int) + (q : Int)) (by omega)
          have k2 := IntWalk.i64_in ((i : Int) + (j : Int)) (by omega)
          have k3 := IntWalk.i64_in (r : Int) (by omega)
          have hm0 : ((m : Int) == 0) = false := beq_eq_false_iff_ne.2 (by omega)
          have hm1 : ¬ (m : Int) = 0 := by omega
          have hm2 : ¬ m = 0 := by omega
          go_wp2_with fail
          go_quiet ((go_at_call 69; exact Calls.quiet_of_same (still_of (HAP.out _))))
          have HB2 : Hid (Below w2.heap.size w2 (wr.drewN nq)) := Lib.hid (below_dn HBI.out nq)
          go_wp2
          go_roundw
          case rel => exact ⟨i + 1, by omega, by go_num, by rw [HSTE.out]; exact congrArg (Value.int .i64) (by omega), HB2⟩
          case measure => simp [intOf]; omega
        · obtain rfl : i = m := by omega
          generalize fj i = s at *
          by_cases hs : s < best
          · have HE := Lib.hid (HYJ.out hs)
            go_wp2
            go_roundw
            case rel => exact ⟨j + 1, by omega, by go_num, by rw [HE.out], by rw [HE.out], HBI⟩
            case measure => simp [intOf]; omega
          · have HE := Lib.hid (HNJ.out hs)
            go_wp2
            go_roundw
            case rel => exact ⟨j + 1, by omega, by go_num, by rw [HE.out], by rw [HE.out], HBI⟩
            case measure => simp [intOf]; omega
    · obtain rfl : j = m := by omega
      go_wp2
      go_ret2
      exact ⟨rfl, HB.out.trans (HBJ.out.mono (by omega))⟩
end Go.Proofs.YtjgkignnfkbeaaaTro

/-
  The contract of the sequential body.
-/
namespace Go.Proofs.YtjgkignnfkbeaaaTro
open Go.RowKit
set_option linter.unusedVariables false
set_option maxRecDepth 20000

theorem size_of (a b : Int) (w : World) : (Instr.field 47 (.agg #[.int .i64 a, .int .i64 b]) 0).run Tro.prog w = .ok (.int .i64 a) w := by kernel_rfl
/-- what the sequential body gives -/
def stubP (n A B : Int) : Nat × Nat := prF n.toNat (tonesTo A.toNat n.toNat) (tonesTo B.toNat n.toNat) (tonesTo A.toNat n.toNat).length
set_option maxHeartbeats 400000 in
theorem stub_any (n A B : Int) (w : World) (h : Voices n A B) : Calls Tro.prog 42 #[.agg #[.int .i64 n, .int .i64 A], .agg #[.int .i64 n, .int .i64 B]] w fun e w' => e = .returned (.agg #[.int .i64 ((stubP n A B).2 : Int), .int .i64 ((stubP n A B).1 : Int)]) ∧ Below w.heap.size w w' := by
  have hl : (tonesTo A.toNat n.toNat).length = (tonesTo B.toNat n.toNat).length := by rw [← wt_len h.1, ← wt_len h.2.1]; exact h.2.2.2
  have HP := Lib.hid (fun w => pairing_any n A B w h.1 h.2.1 hl)
  have HV : Hid (∀ w, Calls Tro.prog 41 #[.int .i64 n, .int .i64 A, .int .i64 B] w fun e w' => e = .returned (.bool true) ∧ Below w.heap.size w w') := Lib.hid (fun w => by have := validVoices_any n A B w; rw [vv_yes h] at this; exact this)
  have hn1 := h.1.1
  have hn2 := h.1.2.1
  unfold stubP
  generalize prF n.toNat (tonesTo A.toNat n.toNat) (tonesTo B.toNat n.toNat) (tonesTo A.toNat n.toNat).length = st at *
  obtain ⟨best, at'⟩ := st
  go_enter Tro.func42, Tro.ntmps42
  have s1 := size_of n A
  have s2 := tones_of n A
  have s3 := tones_of n B
  have s4 := size_of n B
  have hba := (Below.refl w.heap.size w).alloc (Nat.le_refl _) (.cells #[.int .i64 n, .int .i64 A] 47)
  have hbb := hba.alloc hba.size (.cells #[.int .i64 n, .int .i64 B] 47)
  go_wp2_with fail
  refine (HV.out _).mono ?_; rintro e w1 ⟨rfl, hb1⟩
  have HB := Lib.hid (hbb.trans (hb1.mono hbb.size))
  have hz := HB.out.size
  clear hb1 hba hbb
  go_wp2_with fail
  refine (HP.out _).mono ?_; rintro e w2 ⟨rfl, hb2⟩
  have HB2 := Lib.hid (HB.out.trans (hb2.mono hz))
  clear hb2
  go_wp2
  go_ret
  exact ⟨rfl, HB2.out⟩
end Go.Proofs.YtjgkignnfkbeaaaTro

/-
  FarOf of the model and of the program, where a sequential body stands for nearestTo.
-/
namespace Go.Proofs.YtjgkignnfkbeaaaTro
open Go.RowKit
set_option linter.unusedVariables false
set_option maxRecDepth 20000

set_option maxHeartbeats 400000 in
theorem validPair_any (n A B : Int) (w : World) : Calls Tro.prog 44 #[.int .i64 n, .int .i64 A, .int .i64 B] w fun e w' => e = .returned (.bool (vv n A B)) ∧ w = w' := by
  rcases Classical.em (Tic.Valid n A) with hA | hA
  · rcases Classical.em (Tic.Valid n B) with hB | hB
    · have hAl := hA.lt
      have hBl := hB.lt
      have a0 := hA.2.2.1
      have b0 := hB.2.2.1
      have HV : Hid (vv n A B = ((((Tic.wt 12 A.toNat : Nat) : Int) == ((Tic.wt 12 B.toNat : Nat) : Int)) && decide (0 < A))) := Lib.hid (by
        by_cases hw : Tic.wt 12 A.toNat = Tic.wt 12 B.toNat
        · by_cases h0 : A = 0
          · rw [vv_no (fun h => h.2.2.1 h0)]; simp [h0]
          · rw [vv_yes ⟨hA, hB, h0, hw⟩, hw]; simp; omega
        · rw [vv_no (fun h => hw h.2.2.2)]; symm; rw [beq_eq_false_iff_ne.2 (fun e => hw (by omega)), Bool.false_and])
      go_enter Tro.func44, Tro.ntmps44
      go_wp2_with fail
      refine (validSet_yes _ _ _ hA).mono ?_; rintro e w1 ⟨rfl, rfl⟩
      go_wp2_with fail
      refine (validSet_yes _ _ _ hB).mono ?_; rintro e w1 ⟨rfl, rfl⟩
      go_wp2_with fail
      refine (weight_any A _ (by omega) (by omega)).mono ?_; rintro e w1 ⟨rfl, rfl⟩
      go_wp2_with fail
      refine (weight_any B _ (by omega) (by omega)).mono ?_; rintro e w2 ⟨rfl, rfl⟩
      generalize Tic.wt 12 A.toNat = p at *
      generalize Tic.wt 12 B.toNat = q at *
      by_cases hpq : p = q
      · subst hpq
        have HV2 : Hid (vv n A B = decide (0 < A)) := Lib.hid (by rw [HV.out]; simp)
        clear HV
        go_wp2_with fail
        go_ret
        exact ⟨ret_bool HV2.out.symm, rfl⟩
      · have hne : ((p : Int) == (q : Int)) = false := beq_eq_false_iff_ne.2 (fun e => hpq (by omega))
        have HV2 : Hid (vv n A B = false) := Lib.hid (by rw [HV.out, hne]; rfl)
        have hne2 : ¬ ((p : Int) = (q : Int)) := fun e => hpq (by omega)
        clear HV
        go_wp2_with fail
        go_ret
        exact ⟨ret_bool HV2.out.symm, rfl⟩
    · rw [vv_no (fun h => hB h.2.1)]
      go_enter Tro.func44, Tro.ntmps44
      go_wp2_with fail
      refine (validSet_yes _ _ _ hA).mono ?_; rintro e w1 ⟨rfl, rfl⟩
      go_wp2_with fail
      refine (validSet_no _ _ _ hB).mono ?_; rintro e w1 ⟨rfl, rfl⟩
      go_wp2_with fail
      go_ret
      exact ⟨rfl, rfl⟩
  · rw [vv_no (fun h => hA h.1)]
    go_enter Tro.func44, Tro.ntmps44
    go_wp2_with fail
    refine (validSet_no _ _ _ hA).mono ?_; rintro e w1 ⟨rfl, rfl⟩
    go_wp2_with fail
    go_ret
    exact ⟨rfl, rfl⟩
/-- a number and a fresh list -/
def GivesP (p : Int) (L : List Int) (w : World) (e : Ending) (w' : World) : Prop := ∃ v, e = .returned (.tuple #[.int .i64 p, v]) ∧ Row w' w.heap.size v L ∧ Below w.heap.size w w'
theorem iFarOf_no (n A B : Int) (w : World) (h : ¬ Voices n A B) : Calls Tro.prog 13 #[.int .i64 n, .int .i64 A, .int .i64 B] w (GivesP (-1) [] w) := by
  have HV : Hid (∀ w, Calls Tro.prog 41 #[.int .i64 n, .int .i64 A, .int .i64 B] w fun e w' => e = .returned (.bool false) ∧ Below w.heap.size w w') := Lib.hid (fun w => by have := validVoices_any n A B w; rw [vv_no h] at this; exact this)
  go_enter Tro.func13, Tro.ntmps13
  go_wp2_with fail
  refine (HV.out _).mono ?_; rintro e w1 ⟨rfl, hb1⟩
  go_wp2_with fail
  go_ret2
  exact ⟨_, rfl, Row.nil _ _, hb1⟩
theorem sFarOf_no (n A B : Int) (w : World) (h : ¬ Voices n A B) : Calls Tro.prog 14 #[.int .i64 n, .int .i64 A, .int .i64 B] w (GivesP (-1) [] w) := by
  have HV : Hid (∀ w, Calls Tro.prog 44 #[.int .i64 n, .int .i64 A, .int .i64 B] w fun e w' => e = .returned (.bool false) ∧ w = w') := Lib.hid (fun w => by have := validPair_any n A B w; rw [vv_no h] at this; exact this)
  go_enter Tro.func14, Tro.ntmps14
  go_wp2_with fail
  refine (HV.out _).mono ?_; rintro e w1 ⟨rfl, rfl⟩
  go_wp2_with fail
  go_ret2
  exact ⟨_, rfl, Row.nil _ _, Below.refl _ _⟩
set_option maxHeartbeats 400000 in
theorem iFarOf_yes (n A B : Int) (w : World) (h : Voices n A B) (hj : (stubP n A B).2 < (tonesTo B.toNat n.toNat).length) : Calls Tro.prog 13 #[.int .i64 n, .int .i64 A, .int .i64 B] w (GivesP (stubP n A B).1 (rotL (tonesTo B.toNat n.toNat) (stubP n A B).2) w) := by
  have HV : Hid (∀ w, Calls Tro.prog 41 #[.int .i64 n, .int .i64 A, .int .i64 B] w fun e w' => e = .returned (.bool true) ∧ Below w.heap.size w w') := Lib.hid (fun w => by have := validVoices_any n A B w; rw [vv_yes h] at this; exact this)
  have HP := Lib.hid (fun w => stub_any n A B w h)
  have HL := Lib.hid (fun w => listFrom_any n B (stubP n A B).2 w h.2.1 hj)
  generalize stubP n A B = st at *
  obtain ⟨best, at'⟩ := st
  generalize rotL (tonesTo B.toNat n.toNat) at' = R at *
  simp only at HP HL ⊢
  clear hj
  go_enter Tro.func13, Tro.ntmps13
  have hbb := (Below.refl w.heap.size w)
  go_wp2_with fail
  refine (HV.out _).mono ?_; rintro e w1 ⟨rfl, hb1⟩
  have HB1 := Lib.hid hb1
  have hz1 := hb1.size
  clear hb1 hbb
  go_wp2_with fail
  have c0 : (w1.alloc (.cells #[.int .i64 n, .int .i64 B] 47)).cell? ⟨w1.heap.size, 0, none⟩ = some (.int .i64 n) := by rw [World.cell?_alloc_at _ _ _ _ rfl]; rfl
  have c1 : (w1.alloc (.cells #[.int .i64 n, .int .i64 B] 47)).cell? ⟨w1.heap.size, 1, none⟩ = some (.int .i64 B) := by rw [World.cell?_alloc_at _ _ _ _ rfl]; rfl
  have hs1 : (w1.alloc (.cells #[.int .i64 n, .int .i64 B] 47)).heap.size = w1.heap.size + 1 := by simp
  refine (HP.out _).mono ?_; rintro e w2 ⟨rfl, hb2⟩
  have d0 := (hb2.cell (p := ⟨w1.heap.size, 0, none⟩) (by show w1.heap.size < _; omega)).trans c0
  have d1 := (hb2.cell (p := ⟨w1.heap.size, 1, none⟩) (by show w1.heap.size < _; omega)).trans c1
  have hz2 := hb2.size
  have hlt : w1.heap.size < w2.heap.size := by omega
  have HB2 := Lib.hid ((HB1.out.alloc hz1 (.cells #[.int .i64 n, .int .i64 B] 47)).trans (hb2.mono (by omega)))
  clear hb2 c0 c1
  go_wp2_with fail
  have f0 : (w2.alloc (.cells #[.int .i64 (at' : Int), .int .i64 (best : Int)] 49)).cell? ⟨w2.heap.size, 0, none⟩ = some (.int .i64 (at' : Int)) := by rw [World.cell?_alloc_at _ _ _ _ rfl]; rfl
  have f1 : (w2.alloc (.cells #[.int .i64 (at' : Int), .int .i64 (best : Int)] 49)).cell? ⟨w2.heap.size, 1, none⟩ = some (.int .i64 (best : Int)) := by rw [World.cell?_alloc_at _ _ _ _ rfl]; rfl
  have g0 := (World.cell?_alloc_lt w2 (.cells #[.int .i64 (at' : Int), .int .i64 (best : Int)] 49) (a := ⟨w1.heap.size, 0, none⟩) hlt).trans d0
  have g1 := (World.cell?_alloc_lt w2 (.cells #[.int .i64 (at' : Int), .int .i64 (best : Int)] 49) (a := ⟨w1.heap.size, 1, none⟩) hlt).trans d1
  have hs2 : (w2.alloc (.cells #[.int .i64 (at' : Int), .int .i64 (best : Int)] 49)).heap.size = w2.heap.size + 1 := by simp
  have HB3 := Lib.hid (HB2.out.alloc HB2.out.size (.cells #[.int .i64 (at' : Int), .int .i64 (best : Int)] 49))
  clear d0 d1
  generalize w2.alloc (.cells #[.int .i64 (at' : Int), .int .i64 (best : Int)] 49) = w3 at *
  have hl1 : w1.heap.size < w3.heap.size := by omega
  have hl2 : w2.heap.size < w3.heap.size := by omega
  have HC : Hid (∀ W, Below w3.heap.size w3 W → W.cell? ⟨w1.heap.size, 0, none⟩ = some (.int .i64 n) ∧ W.cell? ⟨w1.heap.size, 1, none⟩ = some (.int .i64 B) ∧ W.cell? ⟨w2.heap.size, 0, none⟩ = some (.int .i64 (at' : Int)) ∧ W.cell? ⟨w2.heap.size, 1, none⟩ = some (.int .i64 (best : Int))) := Lib.hid (fun W hW => ⟨(hW.cell (p := ⟨w1.heap.size, 0, none⟩) hl1).trans g0, (hW.cell (p := ⟨w1.heap.size, 1, none⟩) hl1).trans g1, (hW.cell (p := ⟨w2.heap.size, 0, none⟩) hl2).trans f0, (hW.cell (p := ⟨w2.heap.size, 1, none⟩) hl2).trans f1⟩)
  have hz3 := HB3.out.size
  clear hs1 hs2 hl1 hl2 hz2 hlt HB2 hz1 HB1
  have HL3 : Hid (∀ W, Below w3.heap.size w3 W → Calls Tro.prog 43 #[.agg #[.int .i64 n, .int .i64 B], .int .i64 (at' : Int)] W fun e w' => ∃ v, e = .returned v ∧ Row w' w.heap.size v R ∧ Below w3.heap.size w3 w') := Lib.hid (fun W hW => (HL.out W).mono (by rintro e w' ⟨v, rfl, hr, hb⟩; exact ⟨v, rfl, hr.mono (Nat.le_trans hz3 hW.size), hW.trans (hb.mono hW.size)⟩))
  have hk0 : Below w3.heap.size w3 w3 := Below.refl _ _
  clear HL HP HV
  generalize w1.heap.size = b8 at *
  generalize w2.heap.size = b9 at *
  go_region_held3 (fun W => W.cell? ⟨b8, 0, none⟩ = some (.int .i64 n) ∧ W.cell? ⟨b8, 1, none⟩ = some (.int .i64 B) ∧ W.cell? ⟨b9, 0, none⟩ = some (.int .i64 (at' : Int)) ∧ W.cell? ⟨b9, 1, none⟩ = some (.int .i64 (best : Int)))
    (first | go_keep | exact HC.out _ hk0 | exact HC.out _ hk0.drew)
    (first | (go_at_call 43; refine (HL3.out _ (by first | exact hk0 | exact hk0.drew)).mono ?_; rintro e w4 ⟨u, rfl, hu, hb4⟩; have HU := Lib.hid hu; clear hu; replace hk0 : Below w3.heap.size w3 w4 := hb4; clear hb4) | fail)
  go_wp2
  go_ret2
  exact ⟨_, rfl, HU.out, HB3.out.trans (hk0.mono hz3)⟩
theorem prF_last (n : Nat) (L M : List Int) (j : Nat) : (prF n L M (j + 1)).2 ≤ j := by
  by_cases h : farTo n L (rotL M j) L.length < (prF n L M j).1
  · rw [prF_yes h]; exact Nat.le_refl _
  · rw [prF_no h]; exact (prF_bd n L M j).2
theorem len_pos {s f : Nat} (h : s < 2 ^ f) (h0 : s ≠ 0) : 0 < (tonesTo s f).length := by
  rcases Nat.eq_zero_or_pos (tonesTo s f).length with q | q
  · exfalso
    apply h0
    apply Nat.eq_of_testBit_eq
    intro i
    rw [Nat.zero_testBit]
    cases hb : s.testBit i with
    | false => rfl
    | true =>
      exfalso
      by_cases hi : i < f
      · have h1 := tonesTo_next hb
        have h2 := tonesTo_mono s (i + 1) f (by omega)
        omega
      · have := Nat.testBit_lt_two_pow (i := i) (Nat.lt_of_lt_of_le h (Nat.pow_le_pow_right (by decide) (by omega : f ≤ i)))
        rw [this] at hb; cases hb
  · exact q
theorem stub_lt {n A B : Int} (h : Voices n A B) : (stubP n A B).2 < (tonesTo B.toNat n.toNat).length := by
  have hl : (tonesTo A.toNat n.toNat).length = (tonesTo B.toNat n.toNat).length := by rw [← wt_len h.1, ← wt_len h.2.1]; exact h.2.2.2
  have hp : 0 < (tonesTo A.toNat n.toNat).length := by
    obtain ⟨⟨h1, h2, h3, h4⟩, _, h0, _⟩ := h
    exact len_pos (by omega) (by omega)
  obtain ⟨m, hm⟩ : ∃ m, (tonesTo A.toNat n.toNat).length = m + 1 := ⟨(tonesTo A.toNat n.toNat).length - 1, by omega⟩
  unfold stubP
  rw [← hl, hm]
  have := prF_last n.toNat (tonesTo A.toNat n.toNat) (tonesTo B.toNat n.toNat) m
  omega
theorem take_next {R : List Int} {i : Nat} (h : i < R.length) : R.take (i + 1) = R.take i ++ [R.getD i 0] := by
  rw [List.take_succ_eq_append_getElem h, List.getD_eq_getElem?_getD, List.getElem?_eq_getElem h]; rfl
set_option maxHeartbeats 800000 in
theorem sFarOf_yes (n A B : Int) (w : World) (h : Voices n A B) (hj : (stubP n A B).2 < (tonesTo B.toNat n.toNat).length) : Calls Tro.prog 14 #[.int .i64 n, .int .i64 A, .int .i64 B] w (GivesP (stubP n A B).1 (rotL (tonesTo B.toNat n.toNat) (stubP n A B).2) w) := by
  have HV : Hid (∀ w, Calls Tro.prog 44 #[.int .i64 n, .int .i64 A, .int .i64 B] w fun e w' => e = .returned (.bool true) ∧ w = w') := Lib.hid (fun w => by have := validPair_any n A B w; rw [vv_yes h] at this; exact this)
  have hl : (tonesTo A.toNat n.toNat).length = (tonesTo B.toNat n.toNat).length := by rw [← wt_len h.1, ← wt_len h.2.1]; exact h.2.2.2
  have HP : Hid (∀ w, Calls Tro.prog 45 #[.int .i64 n, .int .i64 A, .int .i64 B] w fun e w' => e = .returned (.tuple #[.int .i64 ((stubP n A B).1 : Int), .int .i64 ((stubP n A B).2 : Int)]) ∧ Below w.heap.size w w') := Lib.hid (fun w => pairing_any n A B w h.1 h.2.1 hl)
  have HT := Lib.hid (fun w => stones_any n B w h.2.1)
  have hle := tonesTo_le B.toNat n.toNat
  have hn := h.2.1.2.1
  generalize stubP n A B = st at *
  obtain ⟨best, j⟩ := st
  simp only at hj HP ⊢
  have HAT : Hid (∀ i, i < (tonesTo B.toNat n.toNat).length → (rotL (tonesTo B.toNat n.toNat) j).getD i 0 = (tonesTo B.toNat n.toNat).getD ((i + j) % (tonesTo B.toNat n.toNat).length) 0) := Lib.hid (fun i hi => rotL_at _ hj hi)
  have HRL := Lib.hid (rotL_len (tonesTo B.toNat n.toNat) (j := j) (by omega))
  have HNX : Hid (∀ i, i < (tonesTo B.toNat n.toNat).length → (rotL (tonesTo B.toNat n.toNat) j).take (i + 1) = (rotL (tonesTo B.toNat n.toNat) j).take i ++ [(rotL (tonesTo B.toNat n.toNat) j).getD i 0]) := Lib.hid (fun i hi => take_next (by rw [HRL.out]; exact hi))
  have HAL : Hid ((rotL (tonesTo B.toNat n.toNat) j).take (tonesTo B.toNat n.toNat).length = rotL (tonesTo B.toNat n.toNat) j) := Lib.hid (List.take_of_length_le (by rw [HRL.out]; exact Nat.le_refl _))
  have HLT : Hid (∀ i, ((rotL (tonesTo B.toNat n.toNat) j).take i).length ≤ i) := Lib.hid (fun i => by rw [List.length_take]; exact Nat.min_le_left _ _)
  generalize rotL (tonesTo B.toNat n.toNat) j = R at *
  generalize tonesTo B.toNat n.toNat = M at *
  clear hl h
  go_enter Tro.func14, Tro.ntmps14
  go_wp2_with fail
  refine (HV.out _).mono ?_; rintro e w1 ⟨rfl, rfl⟩
  go_wp2_with fail
  refine (HP.out _).mono ?_; rintro e w1 ⟨rfl, hb1⟩
  go_wp2_with fail
  refine (HT.out _).mono ?_; rintro e w2 ⟨v, rfl, hr, hb2⟩
  have HB := Lib.hid (hb1.trans (hb2.mono hb1.size))
  have hz := HB.out.size
  rcases hr.cases with ⟨rfl, rfl⟩ | ⟨g, cap, rfl, _, hg, hc, _⟩
  · simp at hj
  generalize hm : M.length = m at *
  have HC := Lib.hid hc
  clear hb1 hb2 hr hc HV HP HT hm
  go_wp2
  go_loopw [11, 12] (fun t11 t12 wr => ∃ i : Nat, i ≤ m ∧ t12 = .int .i64 i ∧ Hid (Row wr w2.heap.size t11 (R.take i)) ∧ Hid (Below w2.heap.size w2 wr)) (fun _ t12 _ => m - (intOf t12).toNat)
  case atStart => exact ⟨0, Nat.zero_le _, rfl, ⟨World.ownsRow_made w2 #[] 0 (Nat.le_refl _) (by decide) rfl, Nat.zero_le _⟩, (Below.refl _ _).alloc (Nat.le_refl _) _⟩
  case round =>
    obtain ⟨i, hi, rfl, HR, HBI⟩ := hrel
    by_cases hlt : i < m
    · have hr : (i + j) % m < m := Nat.mod_lt _ (by omega)
      have c1 := (HBI.out.cell (p := ⟨g, (i + j) % m, none⟩) hg).trans (HC.out _ hr)
      rw [← HAT.out i hlt] at c1
      have HN := Lib.hid (HNX.out i hlt)
      have hll := HLT.out i
      have hzr := HBI.out.size
      generalize R.getD i 0 = y at *
      generalize R.take i = P at *
      have htm : ((i : Int) + (j : Int)).tmod (m : Int) = (((i + j) % m : Nat) : Int) := by
        rw [Int.tmod_eq_emod_of_nonneg (by omega), ← Int.natCast_add, ← Int.natCast_emod]
      generalize (i + j) % m = r at *
      have i0 : (0 : Int) ≤ (i : Int) := by omega
      have i1 : (i : Int) < (m : Int) := by omega
      have r0 : (0 : Int) ≤ (r : Int) := by omega
      have r1 : (r : Int) < (m : Int) := by omega
      have k2 := IntWalk.i64_in ((i : Int) + (j : Int)) (by omega)
      have k3 := IntWalk.i64_in (r : Int) (by omega)
      have hm0 : ((m : Int) == 0) = false := beq_eq_false_iff_ne.2 (by omega)
      have hm1 : ¬ (m : Int) = 0 := by omega
      have hm2 : ¬ m = 0 := by omega
      go_wp2_with (at_builtin; refine wpList_append_int rfl _ _ rfl w2.heap.size _ P rfl (HR.out.alloc _) wr.heap.size 1 y rfl ?c1 ?c2 ?c3 ?_)
      case c1 => go_simp
      case c2 => omega
      case c3 => simp; omega
      intro v' w3 hrow hb1
      have HR1 := Lib.hid hrow
      clear hrow
      go_wp2
      go_roundw
      case rel => exact ⟨i + 1, by omega, by go_num, by rw [HN.out]; exact HR1, (HBI.out.alloc hzr _).trans hb1⟩
      case measure => simp [intOf]; omega
    · obtain rfl : i = m := by omega
      rw [HAL.out] at HR
      go_wp2
      go_ret2
      exact ⟨_, rfl, HR.out.mono hz, HB.out.trans (HBI.out.mono hz)⟩
end Go.Proofs.YtjgkignnfkbeaaaTro

/-
  Plain mathematics of kinds of sets: shifts and turns composed, and the least of them. No program in sight.
-/
namespace Go.Proofs.YtjgkignnfkbeaaaTro.Tic
set_option linter.unusedVariables false
/-- how many t below k have p -/
def cnt (p : Nat → Bool) : Nat → Nat
  | 0 => 0
  | k + 1 => if p k then cnt p k + 1 else cnt p k
theorem cnt_le (p : Nat → Bool) : ∀ k, cnt p k ≤ k
  | 0 => Nat.le_refl _
  | k + 1 => by unfold cnt; have := cnt_le p k; split <;> omega
theorem cnt_yes {p : Nat → Bool} {k : Nat} (h : p k = true) : cnt p (k + 1) = cnt p k + 1 := by conv => lhs; unfold cnt; rw [if_pos h]
theorem cnt_no {p : Nat → Bool} {k : Nat} (h : p k = false) : cnt p (k + 1) = cnt p k := by conv => lhs; unfold cnt; rw [if_neg (by simp [h])]

theorem emod_mul_emod (a b c : Int) (n : Nat) : (a + b * (c % (n : Int))) % (n : Int) = (a + b * c) % (n : Int) := by
  have h := Int.mul_ediv_add_emod c n
  have e : a + b * c = (a + b * (c % (n : Int))) + n * (b * (c / n)) := by
    conv => lhs; rw [← h]
    rw [Int.mul_add, Int.mul_left_comm b]
    omega
  rw [e, Int.add_mul_emod_self_left]

theorem mvd_comp {n : Nat} (h : 0 < n) (w1 t1 w2 t2 : Int) (x : Nat) : mvd n w1 t1 (mvd n w2 t2 x) = mvd n (w1 * w2) (t1 + w1 * t2) x := by
  have h1 := Int.emod_nonneg (t2 + w2 * x) (b := (n : Int)) (by omega)
  unfold mvd
  rw [Int.toNat_of_nonneg h1, emod_mul_emod]
  congr 2
  rw [Int.mul_add, Int.add_assoc, Int.mul_assoc]

theorem img_congr (f g : Nat → Nat) (s : Nat) : ∀ k, (∀ x, x < k → f x = g x) → img f s k = img g s k
  | 0, _ => rfl
  | k + 1, h => by unfold img; rw [img_congr f g s k (fun x hx => h x (by omega)), h k (by omega)]

theorem img_img (f g : Nat → Nat) (s n : Nat) (hg : ∀ x, x < n → g x < n) : img f (img g s n) n = img (fun x => f (g x)) s n := by
  apply Nat.eq_of_testBit_eq
  intro y
  rw [Bool.eq_iff_iff, img_testBit, img_testBit]
  constructor
  · rintro ⟨x, hx, h1, rfl⟩
    obtain ⟨z, hz, h2, rfl⟩ := (img_testBit g s x n).1 h1
    exact ⟨z, hz, h2, rfl⟩
  · rintro ⟨z, hz, h2, rfl⟩
    exact ⟨g z, hg z hz, (img_testBit g s _ n).2 ⟨z, hz, h2, rfl⟩, rfl⟩

theorem img_id {s n : Nat} (hs : s < 2 ^ n) (f : Nat → Nat) (hf : ∀ x, x < n → f x = x) : img f s n = s := by
  apply Nat.eq_of_testBit_eq
  intro y
  rw [Bool.eq_iff_iff, img_testBit]
  constructor
  · rintro ⟨x, hx, h1, rfl⟩; rw [hf x hx]; exact h1
  · intro h
    have hy : y < n := by
      rcases Nat.lt_or_ge y n with g | g
      · exact g
      · have := Nat.testBit_lt_two_pow (Nat.lt_of_lt_of_le hs (Nat.pow_le_pow_right (by omega : 0 < 2) g))
        rw [this] at h; cases h
    exact ⟨y, hy, h, hf y hy⟩

theorem img_mvd_comp {n : Nat} (h : 0 < n) (w1 t1 w2 t2 : Int) (s : Nat) : img (mvd n w1 t1) (img (mvd n w2 t2) s n) n = img (mvd n (w1 * w2) (t1 + w1 * t2)) s n := by
  rw [img_img _ _ _ _ (fun x _ => mvd_lt h _ _ x)]
  exact img_congr _ _ _ _ fun x _ => mvd_comp h _ _ _ _ x

theorem shf_zero {n s : Nat} (h : 0 < n) (hs : s < 2 ^ n) : shf n 0 s = s := by
  refine img_id hs _ fun x hx => ?_
  unfold mvd
  rw [Int.one_mul, Int.zero_add, Int.emod_eq_of_lt (by omega) (by omega)]
  rfl
theorem shf_tur0 {n : Nat} (h : 0 < n) (t : Int) (s : Nat) : shf n t (tur n 0 s) = tur n t s := by
  unfold shf tur
  rw [img_mvd_comp h, show t + 1 * 0 = t from by omega]; rfl
theorem shf_shf {n : Nat} (h : 0 < n) (t u : Int) (s : Nat) : shf n t (shf n u s) = shf n (t + u) s := by
  unfold shf
  rw [img_mvd_comp h, show t + 1 * u = t + u from by omega]; rfl
theorem tur_shf {n : Nat} (h : 0 < n) (t u : Int) (s : Nat) : tur n t (shf n u s) = tur n (t - u) s := by
  unfold tur shf
  rw [img_mvd_comp h, show t + -1 * u = t - u from by omega]; rfl
theorem shf_tur {n : Nat} (h : 0 < n) (t u : Int) (s : Nat) : shf n t (tur n u s) = tur n (t + u) s := by
  unfold tur shf
  rw [img_mvd_comp h, show t + 1 * u = t + u from by omega]; rfl
theorem tur_tur {n : Nat} (h : 0 < n) (t u : Int) (s : Nat) : tur n t (tur n u s) = shf n (t - u) s := by
  unfold tur shf
  rw [img_mvd_comp h, show t + -1 * u = t - u from by omega]; rfl

/-- the least of s and its shifts and turns by all below k -/
def kTo (n s : Nat) : Nat → Nat
  | 0 => s
  | k + 1 => min (min (kTo n s k) (shf n k s)) (tur n k s)
/-- the least of s and its shifts by 1 to k -/
def lTo (n s : Nat) : Nat → Nat
  | 0 => s
  | k + 1 => min (lTo n s k) (shf n (k + 1 : Nat) s)
theorem lTo_next (n s : Nat) {k : Nat} (h : 1 ≤ k) : lTo n s (k + 1 - 1) = min (lTo n s (k - 1)) (shf n k s) := by
  obtain ⟨j, rfl⟩ : ∃ j, k = j + 1 := ⟨k - 1, by omega⟩
  rfl
theorem kTo_le (n s : Nat) : ∀ k, kTo n s k ≤ s
  | 0 => Nat.le_refl _
  | k + 1 => by unfold kTo; have := kTo_le n s k; omega
theorem lTo_le (n s : Nat) : ∀ k, lTo n s k ≤ s
  | 0 => Nat.le_refl _
  | k + 1 => by unfold lTo; have := lTo_le n s k; omega
theorem kTo_shf (n s : Nat) : ∀ k t, t < k → kTo n s k ≤ shf n t s
  | k + 1, t, h => by
    unfold kTo
    by_cases e : t = k
    · subst e; omega
    · have := kTo_shf n s k t (by omega); omega
theorem kTo_tur (n s : Nat) : ∀ k t, t < k → kTo n s k ≤ tur n t s
  | k + 1, t, h => by
    unfold kTo
    by_cases e : t = k
    · subst e; omega
    · have := kTo_tur n s k t (by omega); omega
theorem kTo_mem (n s : Nat) : ∀ k, kTo n s k = s ∨ ∃ t, t < k ∧ (kTo n s k = shf n t s ∨ kTo n s k = tur n t s)
  | 0 => .inl rfl
  | k + 1 => by
    have e : kTo n s (k + 1) = kTo n s k ∨ kTo n s (k + 1) = shf n k s ∨ kTo n s (k + 1) = tur n k s := by
      conv => lhs; lhs; unfold kTo
      conv => rhs; lhs; lhs; unfold kTo
      conv => rhs; rhs; lhs; unfold kTo
      omega
    rcases e with e | e | e
    · rcases kTo_mem n s k with h | ⟨t, ht, h⟩
      · exact .inl (e.trans h)
      · exact .inr ⟨t, by omega, by rw [e]; exact h⟩
    · exact .inr ⟨k, by omega, .inl e⟩
    · exact .inr ⟨k, by omega, .inr e⟩
theorem lTo_shf (n s : Nat) : ∀ k t, 1 ≤ t → t ≤ k → lTo n s k ≤ shf n (t : Nat) s
  | 0, t, h, h2 => by omega
  | k + 1, t, h, h2 => by
    unfold lTo
    by_cases e : t = k + 1
    · subst e; omega
    · have := lTo_shf n s k t h (by omega); omega
theorem lTo_mem (n s : Nat) : ∀ k, lTo n s k = s ∨ ∃ t : Nat, 1 ≤ t ∧ t ≤ k ∧ lTo n s k = shf n t s
  | 0 => .inl rfl
  | k + 1 => by
    have e : lTo n s (k + 1) = lTo n s k ∨ lTo n s (k + 1) = shf n (k + 1 : Nat) s := by
      conv => lhs; lhs; unfold lTo
      conv => rhs; lhs; unfold lTo
      omega
    rcases e with e | e
    · rcases lTo_mem n s k with h | ⟨t, h0, ht, h⟩
      · exact .inl (e.trans h)
      · exact .inr ⟨t, h0, by omega, by rw [e]; exact h⟩
    · exact .inr ⟨k + 1, by omega, by omega, e⟩
/-- the least number of a kind -/
def prm (n s : Nat) : Nat := kTo n s n
theorem prm_spec {n s : Nat} (h : 0 < n) (hs : s < 2 ^ n) : min (lTo n s (n - 1)) (lTo n (tur n 0 s) (n - 1)) = prm n s := by
  apply Nat.le_antisymm
  · unfold prm
    rcases kTo_mem n s n with e | ⟨t, ht, e | e⟩
    · rw [e]; have := lTo_le n s (n - 1); omega
    · rw [e]
      by_cases e0 : t = 0
      · subst e0; rw [show ((0 : Nat) : Int) = 0 from rfl, shf_zero h hs]; have := lTo_le n s (n - 1); omega
      · have := lTo_shf n s (n - 1) t (by omega) (by omega); omega
    · rw [e]
      by_cases e0 : t = 0
      · subst e0; rw [show ((0 : Nat) : Int) = 0 from rfl]; have := lTo_le n (tur n 0 s) (n - 1); omega
      · have := lTo_shf n (tur n 0 s) (n - 1) t (by omega) (by omega); rw [shf_tur0 h] at this; omega
  · have h1 : prm n s ≤ lTo n s (n - 1) := by
      unfold prm
      rcases lTo_mem n s (n - 1) with e | ⟨t, h0, ht, e⟩
      · rw [e]; exact kTo_le _ _ _
      · rw [e]; exact kTo_shf n s n t (by omega)
    have h2 : prm n s ≤ lTo n (tur n 0 s) (n - 1) := by
      unfold prm
      rcases lTo_mem n (tur n 0 s) (n - 1) with e | ⟨t, h0, ht, e⟩
      · rw [e]; exact kTo_tur n s n 0 h
      · rw [e, shf_tur0 h]; exact kTo_tur n s n t (by omega)
    omega
theorem kTo_lt {n s : Nat} (hs : s < 2 ^ n) (k : Nat) : kTo n s k < 2 ^ n := Nat.lt_of_le_of_lt (kTo_le _ _ _) hs
theorem lTo_lt {n s : Nat} (hs : s < 2 ^ n) (k : Nat) : lTo n s k < 2 ^ n := Nat.lt_of_le_of_lt (lTo_le _ _ _) hs
theorem valid_shf {n s : Int} (h : Valid n s) (t : Int) : Valid n (shf n.toNat t s.toNat : Int) :=
  ⟨h.1, h.2.1, Int.natCast_nonneg _, by have := shf_lt (n := n.toNat) (by have := h.1; omega) t s.toNat; exact Int.ofNat_lt.2 this⟩
theorem valid_tur {n s : Int} (h : Valid n s) (t : Int) : Valid n (tur n.toNat t s.toNat : Int) :=
  ⟨h.1, h.2.1, Int.natCast_nonneg _, by have := tur_lt (n := n.toNat) (by have := h.1; omega) t s.toNat; exact Int.ofNat_lt.2 this⟩
theorem Valid.lt_pow {n s : Int} (h : Valid n s) : s.toNat < 2 ^ n.toNat := by
  have h1 := h.2.2.2
  have h2 := h.2.2.1
  omega
theorem valid_prm {n s : Int} (h : Valid n s) : Valid n (prm n.toNat s.toNat : Int) :=
  ⟨h.1, h.2.1, Int.natCast_nonneg _, Int.ofNat_lt.2 (kTo_lt h.lt_pow _)⟩
theorem prm_min {n s : Int} (h : Valid n s) : min (lTo n.toNat s.toNat (n.toNat - 1)) (lTo n.toNat (tur n.toNat 0 s.toNat) (n.toNat - 1)) = prm n.toNat s.toNat :=
  prm_spec (by have := h.1; omega) h.lt_pow
/-- how many shifts, turns below n leave the set -/
def shs (n s : Nat) : Nat → Nat := cnt fun t => shf n t s == s
def trs (n s : Nat) : Nat → Nat := cnt fun t => tur n t s == s
theorem shs_step (N S k : Nat) : ((((img (mvd N 1 k) S N : Nat) : Int) == (S : Int)) = true ∧ shs N S (k + 1) = shs N S k + 1) ∨ ((((img (mvd N 1 k) S N : Nat) : Int) == (S : Int)) = false ∧ shs N S (k + 1) = shs N S k) := by
  by_cases h : shf N k S = S
  · refine .inl ⟨?_, cnt_yes (by simpa using h)⟩
    rw [show img (mvd N 1 k) S N = S from h]; simp
  · refine .inr ⟨?_, cnt_no (by simpa using h)⟩
    have : ((img (mvd N 1 k) S N : Nat) : Int) ≠ (S : Int) := fun e => h (Int.ofNat.inj e)
    simpa using this
theorem trs_step (N S k : Nat) : ((((img (mvd N (-1) k) S N : Nat) : Int) == (S : Int)) = true ∧ trs N S (k + 1) = trs N S k + 1) ∨ ((((img (mvd N (-1) k) S N : Nat) : Int) == (S : Int)) = false ∧ trs N S (k + 1) = trs N S k) := by
  by_cases h : tur N k S = S
  · refine .inl ⟨?_, cnt_yes (by simpa using h)⟩
    rw [show img (mvd N (-1) k) S N = S from h]; simp
  · refine .inr ⟨?_, cnt_no (by simpa using h)⟩
    have : ((img (mvd N (-1) k) S N : Nat) : Int) ≠ (S : Int) := fun e => h (Int.ofNat.inj e)
    simpa using this
theorem shs_le (N S k : Nat) : shs N S k ≤ k := cnt_le _ k
theorem trs_le (N S k : Nat) : trs N S k ≤ k := cnt_le _ k
end Go.Proofs.YtjgkignnfkbeaaaTro.Tic

/-
  Plain mathematics of gaps: how many pairs of tones are how far apart, counted in two orders. No program in sight.
-/
namespace Go.Proofs.YtjgkignnfkbeaaaTro.Tic
set_option linter.unusedVariables false

def gsum (f : Nat → Nat) : Nat → Nat
  | 0 => 0
  | k + 1 => gsum f k + f k
theorem gsum_congr {f g : Nat → Nat} : ∀ k, (∀ x, x < k → f x = g x) → gsum f k = gsum g k
  | 0, _ => rfl
  | k + 1, h => by unfold gsum; rw [gsum_congr k (fun x hx => h x (by omega)), h k (by omega)]
theorem gsum_zero (k : Nat) : gsum (fun _ => 0) k = 0 := by
  induction k with
  | zero => rfl
  | succ k ih => unfold gsum; rw [ih]
theorem gsum_add (f g : Nat → Nat) : ∀ k, gsum (fun x => f x + g x) k = gsum f k + gsum g k
  | 0 => rfl
  | k + 1 => by unfold gsum; rw [gsum_add f g k]; omega
theorem gsum_swap (f : Nat → Nat → Nat) (m : Nat) : ∀ n, gsum (fun x => gsum (fun y => f x y) m) n = gsum (fun y => gsum (fun x => f x y) n) m
  | 0 => by
    show 0 = _
    exact (gsum_zero m).symm
  | n + 1 => by
    show gsum (fun x => gsum (fun y => f x y) m) n + gsum (fun y => f n y) m = _
    rw [gsum_swap f m n, ← gsum_add]
    rfl
theorem gsum_le {f : Nat → Nat} {b : Nat} (h : ∀ x, f x ≤ b) : ∀ k, gsum f k ≤ k * b
  | 0 => by simp [gsum]
  | k + 1 => by unfold gsum; have := gsum_le h k; have := h k; rw [Nat.add_mul]; omega
/-- the sum ends where nothing follows -/
theorem gsum_stop {f : Nat → Nat} {m : Nat} (h : ∀ x, m ≤ x → f x = 0) : ∀ k, m ≤ k → gsum f k = gsum f m
  | 0, hk => by rw [Nat.le_zero.1 hk]
  | k + 1, hk => by
    by_cases e : m = k + 1
    · rw [e]
    · unfold gsum
      rw [gsum_stop h k (by omega), h k (by omega)]
      cases m <;> rfl

/-- the pair of the tones x and y of s is d + 1 apart, in a circle of n -/
def hit (n s d x y : Nat) : Nat := if s.testBit x = true ∧ s.testBit y = true ∧ x < y ∧ min (y - x) (n - (y - x)) = d + 1 then 1 else 0
theorem hit_le (n s d x y : Nat) : hit n s d x y ≤ 1 := by unfold hit; split <;> omega
/-- the pairs with the first tone below x, and with x and the second tone below y -/
def gS (n s x y d : Nat) : Nat := gsum (fun x' => gsum (fun y' => hit n s d x' y') n) x + gsum (fun y' => hit n s d x y') y
/-- the pairs with the second tone below y, and with y and the first tone below x -/
def gI (n s y x d : Nat) : Nat := gsum (fun y' => gsum (fun x' => hit n s d x' y') n) y + gsum (fun x' => hit n s d x' y) x
def gAll (n s d : Nat) : Nat := gsum (fun x' => gsum (fun y' => hit n s d x' y') n) n
theorem gS_end (n s d : Nat) : gS n s n 0 d = gAll n s d := rfl
theorem gI_end (n s d : Nat) : gI n s n 0 d = gAll n s d := by
  show gsum (fun y' => gsum (fun x' => hit n s d x' y') n) n + 0 = _
  rw [Nat.add_zero, gAll, gsum_swap (fun x y => hit n s d x y) n n]
theorem gS_start (n s x d : Nat) : gS n s x (x + 1) d = gS n s x 0 d := by
  unfold gS
  congr 1
  have : gsum (fun y' => hit n s d x y') (x + 1) = gsum (fun _ => 0) (x + 1) := gsum_congr _ fun y hy => by
    unfold hit; rw [if_neg]; rintro ⟨_, _, h, _⟩; omega
  rw [this, gsum_zero]; rfl
theorem gS_row (n s x d : Nat) : gS n s (x + 1) 0 d = gS n s x n d := rfl
theorem gS_next (n s x y d : Nat) : gS n s x (y + 1) d = gS n s x y d + hit n s d x y := by
  unfold gS
  conv => lhs; rhs; unfold gsum
  omega
theorem gI_row (n s y d : Nat) (h : y ≤ n) : gI n s (y + 1) 0 d = gI n s y y d := by
  show gsum (fun y' => gsum (fun x' => hit n s d x' y') n) y + gsum (fun x' => hit n s d x' y) n + 0 = _
  rw [gsum_stop (f := fun x' => hit n s d x' y) (m := y) (fun x hx => by unfold hit; rw [if_neg]; rintro ⟨_, _, h, _⟩; omega) n h]
  rfl
theorem gI_next (n s y x d : Nat) : gI n s y (x + 1) d = gI n s y x d + hit n s d x y := by
  unfold gI
  conv => lhs; rhs; unfold gsum
  omega
theorem gI_skip (n s y x d : Nat) (h : s.testBit x = false) : gI n s y (x + 1) d = gI n s y x d := by
  rw [gI_next]; unfold hit; rw [if_neg (by simp [h])]; omega
theorem gI_none (n s y d : Nat) (hy : y ≤ n) (h : s.testBit y = false) : gI n s (y + 1) 0 d = gI n s y 0 d := by
  rw [gI_row n s y d hy]
  unfold gI
  congr 1
  rw [gsum_congr (g := fun _ => 0) y (fun x _ => by unfold hit; rw [if_neg (by simp [h])]), gsum_zero]; rfl
theorem gS_no (n s x y d : Nat) (h : s.testBit x = false ∨ s.testBit y = false) : gS n s x (y + 1) d = gS n s x y d := by
  rw [gS_next]; unfold hit; rw [if_neg]; omega
  rintro ⟨a, b, _⟩; rcases h with h | h
  · rw [h] at a; cases a
  · rw [h] at b; cases b
theorem hit_at {n s x y i : Nat} (hx : s.testBit x = true) (hy : s.testBit y = true) (h : x < y) (hi : min (y - x) (n - (y - x)) = i + 1) (d : Nat) : hit n s d x y = if d = i then 1 else 0 := by
  unfold hit
  by_cases e : d = i
  · rw [if_pos e, if_pos ⟨hx, hy, h, by omega⟩]
  · rw [if_neg e, if_neg]; rintro ⟨_, _, _, h⟩; omega
theorem gS_le (n s x y d : Nat) (hx : x ≤ 12) (hy : y ≤ 12) (hn : n ≤ 12) : gS n s x y d ≤ 1000 := by
  have h1 : ∀ x', gsum (fun y' => hit n s d x' y') n ≤ 12 := fun x' => by
    have := gsum_le (f := fun y' => hit n s d x' y') (hit_le n s d x') n; omega
  have h2 := gsum_le (f := fun x' => gsum (fun y' => hit n s d x' y') n) h1 x
  have h3 := gsum_le (f := fun y' => hit n s d x y') (hit_le n s d x) y
  unfold gS
  omega
theorem gI_le (n s y x d : Nat) (hx : x ≤ 12) (hy : y ≤ 12) (hn : n ≤ 12) : gI n s y x d ≤ 1000 := by
  have h1 : ∀ y', gsum (fun x' => hit n s d x' y') n ≤ 12 := fun y' => by
    have := gsum_le (f := fun x' => hit n s d x' y') (fun x' => hit_le n s d x' y') n; omega
  have h2 := gsum_le (f := fun y' => gsum (fun x' => hit n s d x' y') n) h1 y
  have h3 := gsum_le (f := fun x' => hit n s d x' y) (fun x' => hit_le n s d x' y) x
  unfold gI
  omega

/-- a list of m counts -/
def cts (m : Nat) (C : Nat → Nat) : List Int := (List.range m).map fun d => (C d : Int)
theorem cts_length (m : Nat) (C : Nat → Nat) : (cts m C).length = m := by simp [cts]
theorem cts_getD {m i : Nat} (C : Nat → Nat) (h : i < m) : (cts m C).getD i 0 = (C i : Int) := by
  simp [cts, List.getD_eq_getElem?_getD, h]
theorem cts_set {m i : Nat} (C C' : Nat → Nat) (h : i < m) (hC : ∀ d, C' d = C d + if d = i then 1 else 0) : (cts m C).set i ((C i : Int) + 1) = cts m C' := by
  apply List.ext_getElem
  · simp [cts]
  · intro j h1 h2
    have hj : j < m := by simpa [cts] using h2
    rw [List.getElem_set]
    simp only [cts, List.getElem_map, List.getElem_range]
    rw [hC j]
    by_cases e : i = j
    · subst e; simp
    · rw [if_neg e, if_neg (fun e2 => e e2.symm)]; simp
theorem cts_congr {m : Nat} {C C' : Nat → Nat} (h : ∀ d, C d = C' d) : cts m C = cts m C' := by
  unfold cts; simp [h]
theorem cts_zero (m : Nat) : cts m (fun _ => 0) = List.replicate m 0 := by
  apply List.ext_getElem
  · simp [cts]
  · intro j h1 h2; simp [cts]
/-- the gaps of a set -/
def gapsOf (n s : Nat) : List Int := cts (n / 2) (gAll n s)
end Go.Proofs.YtjgkignnfkbeaaaTro.Tic

/-
  Plain mathematics: counts of pairs of tones as sums over two tones, under shifts, turns and complements. No program in sight.
-/
namespace Go.Proofs.YtjgkignnfkbeaaaTro.Tic
set_option linter.unusedVariables false

/-- 1 if the tone is in the set -/
def bx (s x : Nat) : Nat := if s.testBit x then 1 else 0
def Q (n : Nat) (F : Nat → Nat → Nat) (s : Nat) : Nat := gsum (fun x => gsum (fun y => F x y * (bx s x * bx s y)) n) n
/-- the pair x < y is d + 1 apart round a circle of n -/
def Ap (n d x y : Nat) : Nat := if x < y ∧ min (y - x) (n - (y - x)) = d + 1 then 1 else 0
theorem gAll_Q (n s d : Nat) : gAll n s d = Q n (Ap n d) s := by
  unfold gAll Q
  refine gsum_congr n fun x _ => gsum_congr n fun y _ => ?_
  unfold hit Ap bx
  cases s.testBit x <;> cases s.testBit y <;> simp

theorem gsum_succ (f : Nat → Nat) (k : Nat) : gsum f (k + 1) = gsum f k + f k := rfl
theorem gsum_mul (f : Nat → Nat) (c : Nat) : ∀ k, gsum (fun x => c * f x) k = c * gsum f k
  | 0 => by simp [gsum]
  | k + 1 => by unfold gsum; rw [gsum_mul f c k, Nat.mul_add]
theorem Q_swap (n : Nat) (F : Nat → Nat → Nat) (s : Nat) : Q n F s = Q n (fun x y => F y x) s := by
  unfold Q
  rw [gsum_swap (fun x y => F x y * (bx s x * bx s y)) n n]
  refine gsum_congr n fun y _ => gsum_congr n fun x _ => ?_
  show F x y * (bx s x * bx s y) = F x y * (bx s y * bx s x)
  rw [Nat.mul_comm (bx s x)]
theorem Q_add (n : Nat) (F G : Nat → Nat → Nat) (s : Nat) : Q n (fun x y => F x y + G x y) s = Q n F s + Q n G s := by
  unfold Q
  rw [← gsum_add]
  refine gsum_congr n fun x _ => ?_
  rw [← gsum_add]
  refine gsum_congr n fun y _ => ?_
  rw [Nat.add_mul]
theorem Q_congr {n : Nat} {F G : Nat → Nat → Nat} (s : Nat) (h : ∀ x y, x < n → y < n → F x y = G x y) : Q n F s = Q n G s := by
  unfold Q
  refine gsum_congr n fun x hx => gsum_congr n fun y hy => ?_
  rw [h x y hx hy]
theorem Q_sym {n : Nat} {F G : Nat → Nat → Nat} (s : Nat) (h : ∀ x y, x < n → y < n → F x y + F y x = G x y + G y x) : Q n F s = Q n G s := by
  have h1 : Q n F s + Q n F s = Q n G s + Q n G s := by
    conv => lhs; rhs; rw [Q_swap]
    conv => rhs; rhs; rw [Q_swap]
    rw [← Q_add, ← Q_add]
    exact Q_congr s h
  omega

/-- a sum over the tones of an image -/
theorem gsum_or (n : Nat) (G : Nat → Nat) {a i : Nat} (hi : i < n) (ha : a.testBit i = false) : gsum (fun x => G x * bx (a ||| 2 ^ i) x) n = gsum (fun x => G x * bx a x) n + G i := by
  have e : ∀ x, G x * bx (a ||| 2 ^ i) x = G x * bx a x + (if x = i then G i else 0) := fun x => by
    unfold bx
    rw [Nat.testBit_or, Nat.testBit_two_pow]
    by_cases h : x = i
    · subst h; simp [ha]
    · have : decide (i = x) = false := by simpa using fun e => h e.symm
      rw [this, if_neg h]; simp
  rw [gsum_congr n (fun x _ => e x), gsum_add]
  congr 1
  clear e ha
  induction n with
  | zero => omega
  | succ n ih =>
    unfold gsum
    by_cases h : n = i
    · subst h
      rw [if_pos rfl, gsum_congr (g := fun _ => 0) n (fun x hx => by rw [if_neg (by omega)]), gsum_zero]; omega
    · rw [ih (by omega), if_neg h]; omega
theorem gsum_img (n s : Nat) (f : Nat → Nat) (G : Nat → Nat) (hf : ∀ x, x < n → f x < n) (inj : ∀ x y, x < n → y < n → f x = f y → x = y) : ∀ k, k ≤ n →
    gsum (fun x => G x * bx (img f s k) x) n = gsum (fun z => G (f z) * bx s z) k
  | 0, _ => by
    rw [gsum_congr (g := fun _ => 0) n (fun x _ => by simp [img, bx]), gsum_zero]; rfl
  | k + 1, hk => by
    have ih := gsum_img n s f G hf inj k (by omega)
    cases h : s.testBit k with
    | false =>
      rw [img_no f h, gsum_succ, ih]; simp [bx, h]
    | true =>
      rw [img_yes f h]
      have hno : (img f s k).testBit (f k) = false := by
        cases e : (img f s k).testBit (f k) with
        | false => rfl
        | true =>
          obtain ⟨x, hx, _, e2⟩ := (img_testBit f s _ k).1 e
          have := inj x k (by omega) (by omega) e2
          omega
      rw [gsum_or n G (hf k (by omega)) hno, ih, gsum_succ]
      simp [bx, h]
theorem Q_img (n s : Nat) (f : Nat → Nat) (F : Nat → Nat → Nat) (hf : ∀ x, x < n → f x < n) (inj : ∀ x y, x < n → y < n → f x = f y → x = y) :
    Q n F (img f s n) = Q n (fun z u => F (f z) (f u)) s := by
  unfold Q
  have e1 : ∀ x, gsum (fun y => F x y * (bx (img f s n) x * bx (img f s n) y)) n = (gsum (fun u => F x (f u) * bx s u) n) * bx (img f s n) x := fun x => by
    have := gsum_img n s f (fun y => F x y) hf inj n (Nat.le_refl _)
    rw [← this, Nat.mul_comm, ← gsum_mul]
    refine gsum_congr n fun y _ => ?_
    rw [Nat.mul_left_comm]
  rw [gsum_congr n (fun x _ => e1 x), gsum_img n s f (fun x => gsum (fun u => F x (f u) * bx s u) n) hf inj n (Nat.le_refl _)]
  refine gsum_congr n fun z _ => ?_
  rw [Nat.mul_comm, ← gsum_mul]
  refine gsum_congr n fun u _ => ?_
  show bx s z * (F (f z) (f u) * bx s u) = F (f z) (f u) * (bx s z * bx s u)
  rw [Nat.mul_left_comm]

theorem mvd_mod (n : Nat) (w t : Int) (x : Nat) : mvd n w t x = mvd n w (t % (n : Int)) x := by
  unfold mvd
  rw [Int.emod_add_emod]
/-- the distance of two tones is that of the tones moved -/
def apOk (w : Int) : Bool := (List.range 13).all fun n => (List.range n).all fun t => (List.range n).all fun x => (List.range n).all fun y => (List.range 6).all fun d =>
  Ap n d (mvd n w t x) (mvd n w t y) + Ap n d (mvd n w t y) (mvd n w t x) == Ap n d x y + Ap n d y x
theorem apOk_up : apOk 1 = true := by decide +kernel
theorem apOk_down : apOk (-1) = true := by decide +kernel
theorem ap_moved {n : Nat} (hn : n ≤ 12) (h0 : 0 < n) (w : Int) (hw : w = 1 ∨ w = -1) (t : Int) {d x y : Nat} (hd : d < 6) (hx : x < n) (hy : y < n) :
    Ap n d (mvd n w t x) (mvd n w t y) + Ap n d (mvd n w t y) (mvd n w t x) = Ap n d x y + Ap n d y x := by
  have ht1 := Int.emod_nonneg t (b := (n : Int)) (by omega)
  have ht2 := Int.emod_lt_of_pos t (b := (n : Int)) (by omega)
  obtain ⟨T, hT⟩ := Int.eq_ofNat_of_zero_le ht1
  have hok : apOk w = true := by rcases hw with rfl | rfl; exact apOk_up; exact apOk_down
  unfold apOk at hok
  simp only [List.all_eq_true, List.mem_range, beq_iff_eq] at hok
  rw [mvd_mod n w t x, mvd_mod n w t y, hT]
  exact hok n (by omega) T (by omega) x hx y hy d hd
theorem gAll_moved {n : Nat} (hn : n ≤ 12) (h0 : 0 < n) (w : Int) (hw : w = 1 ∨ w = -1) (t : Int) {d : Nat} (hd : d < 6) (s : Nat) : gAll n (img (mvd n w t) s n) d = gAll n s d := by
  rw [gAll_Q, gAll_Q, Q_img n s _ _ (fun x _ => mvd_lt h0 w t x) (mvd_inj h0 w t hw)]
  exact Q_sym s fun x y hx hy => ap_moved hn h0 w hw t hd hx hy
theorem cts_congr2 {m : Nat} {C C' : Nat → Nat} (h : ∀ d, d < m → C d = C' d) : cts m C = cts m C' := by
  unfold cts
  refine List.map_congr_left fun d hd => ?_
  rw [h d (List.mem_range.1 hd)]
theorem gaps_shf {n : Nat} (hn : n ≤ 12) (h0 : 0 < n) (t : Int) (s : Nat) : gapsOf n (shf n t s) = gapsOf n s :=
  cts_congr2 fun d hd => gAll_moved hn h0 1 (.inl rfl) t (by omega) s
theorem gaps_tur {n : Nat} (hn : n ≤ 12) (h0 : 0 < n) (t : Int) (s : Nat) : gapsOf n (tur n t s) = gapsOf n s :=
  cts_congr2 fun d hd => gAll_moved hn h0 (-1) (.inr rfl) t (by omega) s
end Go.Proofs.YtjgkignnfkbeaaaTro.Tic

/-
  Plain mathematics of the laws of sets: weights, shifts back, others, common tones. No program in sight.
-/
namespace Go.Proofs.YtjgkignnfkbeaaaTro.Tic
set_option linter.unusedVariables false

theorem gsum_shift (f : Nat → Nat) : ∀ k, gsum f (k + 1) = f 0 + gsum (fun x => f (x + 1)) k
  | 0 => by simp [gsum]
  | k + 1 => by rw [gsum_succ, gsum_shift f k, gsum_succ]; omega
theorem bx_zero (s : Nat) : bx s 0 = s % 2 := by
  unfold bx
  rw [Nat.testBit_zero]
  rcases Nat.mod_two_eq_zero_or_one s with h | h <;> simp [h]
theorem bx_succ (s x : Nat) : bx s (x + 1) = bx (s / 2) x := by unfold bx; rw [Nat.testBit_succ]
theorem wt_gsum : ∀ f s, wt f s = gsum (bx s) f
  | 0, _ => rfl
  | f + 1, s => by
    rw [gsum_shift, bx_zero]
    show s % 2 + wt f (s / 2) = _
    rw [wt_gsum f (s / 2), gsum_congr f (fun x _ => (bx_succ s x).symm)]
theorem bx_big {s n x : Nat} (h : s < 2 ^ n) (hx : n ≤ x) : bx s x = 0 := by
  unfold bx
  rw [Nat.testBit_lt_two_pow (Nat.lt_of_lt_of_le h (Nat.pow_le_pow_right (by omega) hx))]; rfl
theorem wt_n {s n : Nat} (h : s < 2 ^ n) (hn : n ≤ 12) : wt 12 s = gsum (bx s) n := by
  rw [wt_gsum, gsum_stop (f := bx s) (m := n) (fun x hx => bx_big h hx) 12 hn]
theorem wt_img {n s : Nat} (hs : s < 2 ^ n) (hn : n ≤ 12) (f : Nat → Nat) (hf : ∀ x, x < n → f x < n) (inj : ∀ x y, x < n → y < n → f x = f y → x = y) : wt 12 (img f s n) = wt 12 s := by
  rw [wt_n hs hn, wt_n (img_lt f s n n hf) hn]
  have := gsum_img n s f (fun _ => 1) hf inj n (Nat.le_refl _)
  simpa using this
theorem wt_shf {n s : Nat} (h0 : 0 < n) (hn : n ≤ 12) (hs : s < 2 ^ n) (t : Int) : wt 12 (shf n t s) = wt 12 s :=
  wt_img hs hn _ (fun x _ => mvd_lt h0 1 t x) (mvd_inj h0 1 t (.inl rfl))
theorem wt_tur {n s : Nat} (h0 : 0 < n) (hn : n ≤ 12) (hs : s < 2 ^ n) (t : Int) : wt 12 (tur n t s) = wt 12 s :=
  wt_img hs hn _ (fun x _ => mvd_lt h0 (-1) t x) (mvd_inj h0 (-1) t (.inr rfl))
theorem img_mod (n : Nat) (w t : Int) (s k : Nat) : img (mvd n w t) s k = img (mvd n w (t % (n : Int))) s k := img_congr _ _ _ _ fun x _ => mvd_mod n w t x
theorem shf_n {n s : Nat} (h : 0 < n) (hs : s < 2 ^ n) : shf n n s = s := by
  unfold shf
  rw [img_mod, Int.emod_self]
  exact shf_zero h hs
theorem shf_back {n s : Nat} (h : 0 < n) (hs : s < 2 ^ n) (t : Int) : shf n (-t) (shf n t s) = s := by
  rw [shf_shf h, show -t + t = 0 by omega, shf_zero h hs]
theorem tur_back {n s : Nat} (h : 0 < n) (hs : s < 2 ^ n) (t : Int) : tur n t (tur n t s) = s := by
  rw [tur_tur h, show t - t = 0 by omega, shf_zero h hs]

/-- the other tones -/
def oth (n s : Nat) : Nat := 2 ^ n - 1 - s
theorem oth_lt {n s : Nat} : oth n s < 2 ^ n := by unfold oth; have := Nat.two_pow_pos n; omega
theorem oth_bit {n s x : Nat} (hs : s < 2 ^ n) : (oth n s).testBit x = (decide (x < n) && !s.testBit x) := by
  unfold oth
  rw [Nat.sub_sub, Nat.add_comm 1 s]
  exact Nat.testBit_two_pow_sub_succ hs x
theorem oth_and {n s : Nat} (hs : s < 2 ^ n) : oth n s &&& s = 0 := by
  apply Nat.eq_of_testBit_eq
  intro x
  rw [Nat.testBit_and, oth_bit hs, Nat.zero_testBit]
  cases s.testBit x <;> simp
theorem bx_oth {n s x : Nat} (hs : s < 2 ^ n) (hx : x < n) : bx (oth n s) x + bx s x = 1 := by
  unfold bx
  rw [oth_bit hs]
  cases s.testBit x <;> simp [hx]
theorem wt_oth {n s : Nat} (hs : s < 2 ^ n) (hn : n ≤ 12) : wt 12 (oth n s) + wt 12 s = n := by
  rw [wt_n oth_lt hn, wt_n hs hn, ← gsum_add, gsum_congr (g := fun _ => 1) n (fun x hx => bx_oth hs hx)]
  have : ∀ k, gsum (fun _ => 1) k = k := fun k => by
    induction k with
    | zero => rfl
    | succ k ih => rw [gsum_succ, ih]
  exact this n

/-- a mixed sum over two sets -/
def M (n : Nat) (F : Nat → Nat → Nat) (s o : Nat) : Nat := gsum (fun x => gsum (fun y => F x y * (bx s x * bx o y)) n) n
theorem M_swap (n : Nat) (F : Nat → Nat → Nat) (s o : Nat) : M n F s o = M n (fun x y => F y x) o s := by
  unfold M
  rw [gsum_swap (fun x y => F x y * (bx s x * bx o y)) n n]
  refine gsum_congr n fun y _ => gsum_congr n fun x _ => ?_
  show F x y * (bx s x * bx o y) = F x y * (bx o y * bx s x)
  rw [Nat.mul_comm (bx s x)]
theorem M_row {n r : Nat} {F : Nat → Nat → Nat} {s o : Nat} (hs : ∀ x, x < n → bx o x + bx s x = 1) (hr : ∀ x, x < n → gsum (fun y => F x y) n = r) : M n F s s + M n F s o = r * gsum (bx s) n := by
  unfold M
  rw [← gsum_add, ← gsum_mul]
  refine gsum_congr n fun x hx => ?_
  rw [← gsum_add, ← hr x hx, Nat.mul_comm, ← gsum_mul]
  refine gsum_congr n fun y hy => ?_
  have := hs y hy
  show F x y * (bx s x * bx s y) + F x y * (bx s x * bx o y) = bx s x * F x y
  rw [← Nat.mul_add, ← Nat.mul_add, show bx s y + bx o y = 1 by omega, Nat.mul_one, Nat.mul_comm]
/-- both sides of a distance -/
def Ad (n d x y : Nat) : Nat := Ap n d x y + Ap n d y x
def rowsOk : Bool := (List.range 13).all fun n => (List.range (n / 2)).all fun d => (List.range n).all fun x => gsum (fun y => Ad n d x y) n == if 2 * (d + 1) = n then 1 else 2
theorem rowsOk_true : rowsOk = true := by decide +kernel
theorem Ad_row {n d x : Nat} (hn : n ≤ 12) (hd : d < n / 2) (hx : x < n) : gsum (fun y => Ad n d x y) n = if 2 * (d + 1) = n then 1 else 2 := by
  have hok := rowsOk_true
  unfold rowsOk at hok
  simp only [List.all_eq_true, List.mem_range, beq_iff_eq] at hok
  exact hok n (by omega) d hd x hx
theorem two_gAll (n s d : Nat) : 2 * gAll n s d = M n (Ad n d) s s := by
  have h : M n (Ad n d) s s = Q n (Ad n d) s := rfl
  have h2 : Q n (Ad n d) s = Q n (Ap n d) s + Q n (fun x y => Ap n d y x) s := Q_add n (Ap n d) (fun x y => Ap n d y x) s
  have e := Q_swap n (Ap n d) s
  rw [h, h2, gAll_Q]; omega
/-- gaps of others differ by the same -/
theorem gAll_oth {n s d : Nat} (hs : s < 2 ^ n) (hn : n ≤ 12) (hd : d < n / 2) :
    2 * gAll n (oth n s) d + (if 2 * (d + 1) = n then 1 else 2) * wt 12 s = 2 * gAll n s d + (if 2 * (d + 1) = n then 1 else 2) * wt 12 (oth n s) := by
  have e1 := M_row (F := Ad n d) (s := s) (o := oth n s) (fun x hx => bx_oth hs hx) (fun x hx => Ad_row hn hd hx)
  have e2 := M_row (F := Ad n d) (s := oth n s) (o := s) (fun x hx => by rw [Nat.add_comm]; exact bx_oth hs hx) (fun x hx => Ad_row hn hd hx)
  have e3 : M n (Ad n d) s (oth n s) = M n (Ad n d) (oth n s) s := by
    rw [M_swap]
    unfold M
    refine gsum_congr n fun x _ => gsum_congr n fun y _ => ?_
    show Ad n d y x * _ = _
    rw [show Ad n d y x = Ad n d x y from Nat.add_comm _ _]
  rw [two_gAll, two_gAll, wt_n hs hn, wt_n oth_lt hn, ← e1, ← e2, e3]
  omega

/-- common tones of a set and its shift -/
theorem wt_and_shf {n s : Nat} (hs : s < 2 ^ n) (h0 : 0 < n) (hn : n ≤ 12) (t : Int) : wt 12 (s &&& shf n t s) = Q n (fun z y => if mvd n 1 t z = y then 1 else 0) s := by
  have hl : s &&& shf n t s < 2 ^ n := Nat.and_lt_two_pow _ (shf_lt h0 t s)
  rw [wt_n hl hn]
  have e : ∀ x, bx (s &&& shf n t s) x = bx s x * bx (shf n t s) x := fun x => by
    unfold bx; rw [Nat.testBit_and]; cases s.testBit x <;> cases (shf n t s).testBit x <;> rfl
  rw [gsum_congr n (fun x _ => e x)]
  have := gsum_img n s (mvd n 1 t) (fun x => bx s x) (fun x _ => mvd_lt h0 1 t x) (mvd_inj h0 1 t (.inl rfl)) n (Nat.le_refl _)
  unfold shf
  rw [this]
  unfold Q
  refine gsum_congr n fun z _ => ?_
  have hz := mvd_lt h0 1 t z
  show bx s (mvd n 1 t z) * bx s z = gsum (fun y => (if mvd n 1 t z = y then 1 else 0) * (bx s z * bx s y)) n
  generalize mvd n 1 t z = y at hz
  have one : ∀ k, y < k → gsum (fun y' => (if y = y' then 1 else 0) * (bx s z * bx s y')) k = bx s z * bx s y := fun k => by
    induction k with
    | zero => omega
    | succ k ih =>
      intro hk
      rw [gsum_succ]
      by_cases h : y = k
      · subst h
        rw [if_pos rfl, gsum_congr (g := fun _ => 0) y (fun x hx => by rw [if_neg (by omega)]; omega), gsum_zero]; omega
      · rw [ih (by omega), if_neg h]; omega
  rw [one n hz, Nat.mul_comm]
def comOk : Bool := (List.range 13).all fun n => (List.range n).all fun t => (List.range n).all fun x => (List.range n).all fun y =>
  (t == 0) || ((if mvd n 1 t x = y then 1 else 0) + (if mvd n 1 t y = x then 1 else 0) == (if 2 * min t (n - t) = n then 2 else 1) * Ap n (min t (n - t) - 1) x y + (if 2 * min t (n - t) = n then 2 else 1) * Ap n (min t (n - t) - 1) y x)
theorem comOk_true : comOk = true := by decide +kernel
theorem common_gaps {n s T : Nat} (hs : s < 2 ^ n) (hn : n ≤ 12) (h0 : 0 < T) (hT : T < n) : wt 12 (s &&& shf n T s) = (if 2 * min T (n - T) = n then 2 else 1) * gAll n s (min T (n - T) - 1) := by
  rw [wt_and_shf hs (by omega) hn, gAll_Q]
  have e : (if 2 * min T (n - T) = n then 2 else 1) * Q n (Ap n (min T (n - T) - 1)) s = Q n (fun x y => (if 2 * min T (n - T) = n then 2 else 1) * Ap n (min T (n - T) - 1) x y) s := by
    unfold Q
    rw [← gsum_mul]
    refine gsum_congr n fun x _ => ?_
    rw [← gsum_mul]
    refine gsum_congr n fun y _ => ?_
    rw [Nat.mul_assoc]
  rw [e]
  refine Q_sym s fun x y hx hy => ?_
  have hok := comOk_true
  unfold comOk at hok
  simp only [List.all_eq_true, List.mem_range, Bool.or_eq_true, beq_iff_eq] at hok
  rcases hok n (by omega) T hT x hx y hy with h | h
  · omega
  · exact h

/-! ### the least of a kind -/
theorem shf_mod (n s : Nat) (t : Int) : shf n t s = shf n (t % (n : Int)) s := img_mod n 1 t s n
theorem tur_mod (n s : Nat) (t : Int) : tur n t s = tur n (t % (n : Int)) s := img_mod n (-1) t s n
theorem prm_le_shf {n : Nat} (h : 0 < n) (s : Nat) (t : Int) : prm n s ≤ shf n t s := by
  have h1 := Int.emod_nonneg t (b := (n : Int)) (by omega)
  have h2 := Int.emod_lt_of_pos t (b := (n : Int)) (by omega)
  obtain ⟨T, hT⟩ := Int.eq_ofNat_of_zero_le h1
  rw [shf_mod, hT]
  exact kTo_shf n s n T (by omega)
theorem prm_le_tur {n : Nat} (h : 0 < n) (s : Nat) (t : Int) : prm n s ≤ tur n t s := by
  have h1 := Int.emod_nonneg t (b := (n : Int)) (by omega)
  have h2 := Int.emod_lt_of_pos t (b := (n : Int)) (by omega)
  obtain ⟨T, hT⟩ := Int.eq_ofNat_of_zero_le h1
  rw [tur_mod, hT]
  exact kTo_tur n s n T (by omega)
theorem prm_mem {n s : Nat} (h : 0 < n) (hs : s < 2 ^ n) : ∃ t : Int, prm n s = shf n t s ∨ prm n s = tur n t s := by
  rcases kTo_mem n s n with e | ⟨t, _, e⟩
  · exact ⟨0, .inl (by rw [shf_zero h hs]; exact e)⟩
  · exact ⟨t, e⟩
theorem prm_shf {n s : Nat} (h : 0 < n) (hs : s < 2 ^ n) (u : Int) : prm n (shf n u s) = prm n s := by
  apply Nat.le_antisymm
  · obtain ⟨t, e | e⟩ := prm_mem h hs
    · rw [e]
      have := prm_le_shf h (shf n u s) (t - u)
      rw [shf_shf h, show t - u + u = t by omega] at this
      exact this
    · rw [e]
      have := prm_le_tur h (shf n u s) (t + u)
      rw [tur_shf h, show t + u - u = t by omega] at this
      exact this
  · obtain ⟨t, e | e⟩ := prm_mem h (shf_lt h u s)
    · rw [e, shf_shf h]; exact prm_le_shf h s _
    · rw [e, tur_shf h]; exact prm_le_tur h s _
theorem prm_tur {n s : Nat} (h : 0 < n) (hs : s < 2 ^ n) (u : Int) : prm n (tur n u s) = prm n s := by
  apply Nat.le_antisymm
  · obtain ⟨t, e | e⟩ := prm_mem h hs
    · rw [e]
      have := prm_le_tur h (tur n u s) (t + u)
      rw [tur_tur h, show t + u - u = t by omega] at this
      exact this
    · rw [e]
      have := prm_le_shf h (tur n u s) (t - u)
      rw [shf_tur h, show t - u + u = t by omega] at this
      exact this
  · obtain ⟨t, e | e⟩ := prm_mem h (tur_lt h u s)
    · rw [e, shf_tur h]; exact prm_le_tur h s _
    · rw [e, tur_tur h]; exact prm_le_shf h s _
theorem prm_prm {n s : Nat} (h : 0 < n) (hs : s < 2 ^ n) : prm n (prm n s) = prm n s := by
  obtain ⟨t, e | e⟩ := prm_mem h hs
  · conv => lhs; rw [e]
    exact prm_shf h hs t
  · conv => lhs; rw [e]
    exact prm_tur h hs t
theorem prm_gaps {n s : Nat} (h : 0 < n) (hn : n ≤ 12) (hs : s < 2 ^ n) : gapsOf n (prm n s) = gapsOf n s := by
  obtain ⟨t, e | e⟩ := prm_mem h hs
  · rw [e]; exact gaps_shf hn h t s
  · rw [e]; exact gaps_tur hn h t s
theorem prm_le {n s : Nat} : prm n s ≤ s := kTo_le n s n
theorem prm_wt {n s : Nat} (h : 0 < n) (hn : n ≤ 12) (hs : s < 2 ^ n) : wt 12 (prm n s) = wt 12 s := by
  obtain ⟨t, e | e⟩ := prm_mem h hs
  · rw [e]; exact wt_shf h hn hs t
  · rw [e]; exact wt_tur h hn hs t
/-- common tones of a set and any shift -/
theorem common_zero {n s : Nat} (h : 0 < n) (hs : s < 2 ^ n) {t : Int} (ht : t % (n : Int) = 0) : wt 12 (s &&& shf n t s) = wt 12 s := by
  rw [shf_mod, ht, shf_zero h hs, Nat.and_self]
theorem common_at {n s T : Nat} (hs : s < 2 ^ n) (hn : n ≤ 12) {t : Int} (ht : t % (n : Int) = T) (h0 : 0 < T) (hT : T < n) : wt 12 (s &&& shf n t s) = (if 2 * min T (n - T) = n then 2 else 1) * gAll n s (min T (n - T) - 1) := by
  rw [shf_mod, ht]; exact common_gaps hs hn h0 hT

/-! ### all pairs -/
theorem gsum_comm3 (f : Nat → Nat → Nat → Nat) (m n : Nat) : gsum (fun d => gsum (fun x => gsum (fun y => f d x y) n) n) m = gsum (fun x => gsum (fun y => gsum (fun d => f d x y) m) n) n := by
  rw [gsum_swap (fun d x => gsum (fun y => f d x y) n) n m]
  exact gsum_congr n fun x _ => gsum_swap (fun d y => f d x y) n m
def allOk : Bool := (List.range 13).all fun n => (List.range n).all fun x => (List.range n).all fun y => gsum (fun d => Ap n d x y) (n / 2) == if x < y then 1 else 0
theorem allOk_true : allOk = true := by decide +kernel
theorem gaps_total {n s : Nat} (hs : s < 2 ^ n) (hn : n ≤ 12) : 2 * gsum (gAll n s) (n / 2) + wt 12 s = wt 12 s * wt 12 s := by
  have e : gsum (gAll n s) (n / 2) = Q n (fun x y => if x < y then 1 else 0) s := by
    rw [gsum_congr (n / 2) (fun d _ => gAll_Q n s d)]
    unfold Q
    rw [gsum_comm3 (fun d x y => Ap n d x y * (bx s x * bx s y))]
    refine gsum_congr n fun x hx => gsum_congr n fun y hy => ?_
    have hok := allOk_true
    unfold allOk at hok
    simp only [List.all_eq_true, List.mem_range, beq_iff_eq] at hok
    show _ = (if x < y then 1 else 0) * (bx s x * bx s y)
    rw [← hok n (by omega) x hx y hy]
    rw [gsum_congr (g := fun d => (bx s x * bx s y) * Ap n d x y) (n / 2) (fun d _ => Nat.mul_comm _ _), gsum_mul, Nat.mul_comm]
  have h2 : Q n (fun x y => if x < y then 1 else 0) s + Q n (fun x y => if x < y then 1 else 0) s + Q n (fun x y => if x = y then 1 else 0) s = Q n (fun _ _ => 1) s := by
    conv => lhs; lhs; rhs; rw [Q_swap]
    rw [← Q_add, ← Q_add]
    refine Q_congr s fun x y _ _ => ?_
    rcases Nat.lt_trichotomy x y with h | h | h
    · rw [if_pos h, if_neg (by omega), if_neg (by omega)]
    · subst h; simp
    · rw [if_neg (by omega), if_pos h, if_neg (by omega)]
  have h3 : Q n (fun _ _ => 1) s = wt 12 s * wt 12 s := by
    rw [wt_n hs hn]
    unfold Q
    rw [gsum_congr (g := fun x => gsum (bx s) n * bx s x) n (fun x _ => by
      rw [gsum_congr (g := fun y => bx s x * bx s y) n (fun y _ => Nat.one_mul _), gsum_mul, Nat.mul_comm]), gsum_mul]
  have h4 : Q n (fun x y => if x = y then 1 else 0) s = wt 12 s := by
    rw [wt_n hs hn]
    unfold Q
    refine gsum_congr n fun x hx => ?_
    have one : ∀ k, x < k → gsum (fun y => (if x = y then 1 else 0) * (bx s x * bx s y)) k = bx s x := fun k => by
      induction k with
      | zero => omega
      | succ k ih =>
        intro hk
        rw [gsum_succ]
        by_cases h : x = k
        · subst h
          rw [if_pos rfl, gsum_congr (g := fun _ => 0) x (fun z hz => by rw [if_neg (by omega)]; omega), gsum_zero]
          unfold bx; cases s.testBit x <;> rfl
        · rw [ih (by omega), if_neg h]; omega
    exact one n hx
  omega
end Go.Proofs.YtjgkignnfkbeaaaTro.Tic

/-
  SmoothOf of the model, where a sequential body stands for nearestTo.
-/
namespace Go.Proofs.YtjgkignnfkbeaaaTro
open Go.RowKit
set_option linter.unusedVariables false
set_option maxRecDepth 20000

/-- the least of D 1 to D j, ahead of it b, and the first place that has it -/
def smF (D : Nat → Nat) (b : Nat) : Nat → Nat × Nat
  | 0 => (0, b)
  | j + 1 => if D (j + 1) < (smF D b j).2 then (j + 1, D (j + 1)) else smF D b j
theorem smF_yes {D : Nat → Nat} {b j : Nat} (h : D (j + 1) < (smF D b j).2) : smF D b (j + 1) = (j + 1, D (j + 1)) := by show (if _ then _ else _) = _; rw [if_pos h]
theorem smF_no {D : Nat → Nat} {b j : Nat} (h : ¬ D (j + 1) < (smF D b j).2) : smF D b (j + 1) = smF D b j := by show (if _ then _ else _) = _; rw [if_neg h]
theorem smF_bd (D : Nat → Nat) (b : Nat) : ∀ j, (smF D b j).1 ≤ j ∧ (smF D b j).2 ≤ b
  | 0 => ⟨Nat.le_refl _, Nat.le_refl _⟩
  | j + 1 => by
    obtain ⟨h1, h2⟩ := smF_bd D b j
    by_cases h : D (j + 1) < (smF D b j).2
    · rw [smF_yes h]; exact ⟨Nat.le_refl _, by simp; omega⟩
    · rw [smF_no h]; exact ⟨by omega, h2⟩
theorem voices_shf {n s : Int} (h : Tic.Valid n s) (h0 : s ≠ 0) (t : Int) : Voices n s (Tic.shf n.toNat t s.toNat : Int) := by
  have hlt := Tic.shf_lt (n := n.toNat) (by have := h.1; omega) t s.toNat
  refine ⟨h, ⟨h.1, h.2.1, by omega, by omega⟩, h0, ?_⟩
  have h1 := h.1
  have h2 := h.2.1
  rw [Int.toNat_natCast, Tic.wt_shf (by omega) (by omega) (by have := h.2.2.2; have := h.2.2.1; omega)]
/-- how far a set is from itself shifted by t -/
def smD (n s : Int) (t : Nat) : Nat := (stubP n s (Tic.shf n.toNat (t : Int) s.toNat : Int)).1
/-- what SmoothOf gives -/
def smP (n s : Int) : Nat × Nat := smF (smD n s) (n.toNat * n.toNat) (n.toNat - 1)
theorem sSmoothOf_no (n s : Int) (w : World) (h : ¬ (Tic.Valid n s ∧ s ≠ 0)) : Calls Tro.prog 33 #[.int .i64 n, .int .i64 s] w fun e w' => e = .returned (.tuple #[.int .i64 (-1), .int .i64 (-1)]) ∧ Below w.heap.size w w' := by
  by_cases hv : Tic.Valid n s
  · have h0 : s = 0 := Classical.byContradiction fun q => h ⟨hv, q⟩
    subst h0
    go_enter Tro.func33, Tro.ntmps33
    go_wp2_with fail
    refine (validSet_yes _ _ _ hv).mono ?_; rintro e w1 ⟨rfl, rfl⟩
    go_wp2_with fail
    go_ret2
    exact ⟨rfl, Below.refl _ _⟩
  · go_enter Tro.func33, Tro.ntmps33
    go_wp2_with fail
    refine (validSet_no _ _ _ hv).mono ?_; rintro e w1 ⟨rfl, rfl⟩
    go_wp2_with fail
    go_ret2
    exact ⟨rfl, Below.refl _ _⟩
set_option maxHeartbeats 800000 in
theorem sSmoothOf_yes (n s : Int) (w : World) (h : Tic.Valid n s) (h0 : s ≠ 0) : Calls Tro.prog 33 #[.int .i64 n, .int .i64 s] w fun e w' => e = .returned (.tuple #[.int .i64 ((smP n s).1 : Int), .int .i64 ((smP n s).2 : Int)]) ∧ Below w.heap.size w w' := by
  have HV : Hid (∀ w, Calls Tro.prog 52 #[.int .i64 n, .int .i64 s] w fun e w' => e = .returned (.bool true) ∧ w = w') := Lib.hid (fun w => validSet_yes _ _ w h)
  have g1 := h.1
  have g2 := h.2.1
  have hne : (s == 0) = false := beq_eq_false_iff_ne.2 h0
  have HS : Hid (∀ (t : Nat) w, t < n.toNat → Calls Tro.prog 59 #[.int .i64 n, .int .i64 s, .int .i64 (t : Int)] w fun e w' => e = .returned (.int .i64 (Tic.shf n.toNat (t : Int) s.toNat : Int)) ∧ w = w') := Lib.hid (fun t w ht => sshift_any n s t w h ⟨by omega, by omega⟩)
  have HP : Hid (∀ (t : Nat) w, t < n.toNat → Calls Tro.prog 45 #[.int .i64 n, .int .i64 s, .int .i64 (Tic.shf n.toNat (t : Int) s.toNat : Int)] w fun e w' => ∃ p : Nat, e = .returned (.tuple #[.int .i64 (smD n s t : Int), .int .i64 (p : Int)]) ∧ Below w.heap.size w w') := Lib.hid (fun t w ht => by
    have hV := voices_shf h h0 t
    have hl : (tonesTo s.toNat n.toNat).length = (tonesTo (Tic.shf n.toNat (t : Int) s.toNat : Int).toNat n.toNat).length := by rw [← wt_len hV.1, ← wt_len hV.2.1]; exact hV.2.2.2
    exact (pairing_any n s _ w hV.1 hV.2.1 hl).mono (fun e w' ⟨h1, h2⟩ => ⟨_, h1, h2⟩))
  obtain ⟨N, rfl⟩ := Int.eq_ofNat_of_zero_le (show 0 ≤ n by omega)
  unfold smP
  rw [Int.toNat_natCast] at *
  generalize smD (N : Int) s = D at *
  have HBD := Lib.hid (smF_bd D (N * N))
  have HY : Hid (∀ j, D (j + 1) < (smF D (N * N) j).2 → smF D (N * N) (j + 1) = (j + 1, D (j + 1))) := Lib.hid (fun j h => smF_yes h)
  have HN : Hid (∀ j, ¬ D (j + 1) < (smF D (N * N) j).2 → smF D (N * N) (j + 1) = smF D (N * N) j) := Lib.hid (fun j h => smF_no h)
  have hp0 : smF D (N * N) 0 = (0, N * N) := rfl
  have hnn : N * N ≤ 12 * 12 := Nat.mul_le_mul (by omega) (by omega)
  have enn : (N : Int) * (N : Int) = ((N * N : Nat) : Int) := (Int.natCast_mul _ _).symm
  generalize hNN : N * N = NN at *
  have knn := IntWalk.i64_in (NN : Int) (by omega)
  clear hNN h
  go_enter Tro.func33, Tro.ntmps33
  go_wp2_with fail
  refine (HV.out _).mono ?_; rintro e w1 ⟨rfl, rfl⟩
  go_wp2
  clear enn knn
  go_loopw [6, 7, 8, 9, 10] (fun t6 t7 t8 t9 t10 wr => ∃ j : Nat, j + 1 ≤ N ∧ t8 = .int .i64 ((j : Int) + 1) ∧ t6 = .int .i64 ((smF D NN j).1 : Int) ∧ t7 = .int .i64 ((smF D NN j).2 : Int) ∧ Hid (Below w.heap.size w wr)) (fun _ _ t8 _ _ _ => N - (intOf t8).toNat)
  case atStart => exact ⟨0, by omega, rfl, by rw [hp0]; rfl, by rw [hp0], Below.refl _ _⟩
  case round =>
    obtain ⟨j, hj, rfl, rfl, rfl, HBJ⟩ := hrel
    have hzj := HBJ.out.size
    by_cases hlt : j + 1 < N
    · obtain ⟨bd1, bd2⟩ := HBD.out j
      have hy := HY.out j
      have hn := HN.out j
      have HSJ := Lib.hid (fun w => HS.out (j + 1) w hlt)
      have HPJ := Lib.hid (fun w => HP.out (j + 1) w hlt)
      generalize hpj : smF D NN j = st at *
      have HYJ := Lib.hid hy
      have HNJ := Lib.hid hn
      obtain ⟨at', best⟩ := st
      simp only at bd1 bd2 hy hn HYJ HNJ ⊢
      clear hpj hy hn
      have ej : ((j + 1 : Nat) : Int) = (j : Int) + 1 := by omega
      rw [ej] at HSJ HPJ
      generalize Tic.shf N ((j : Int) + 1) s.toNat = S at *
      have hj1 : (j : Int) + 1 < (N : Int) := by omega
      have k1 := IntWalk.i64_in ((j : Int) + 1 + 1) (by omega)
      have hdb : Hid (D (j + 1) < best ∨ ¬ D (j + 1) < best) := Lib.hid (Classical.em _)
      generalize hd0 : D (j + 1) = d at *
      go_wp2_with fail
      refine (HSJ.out _).mono ?_; rintro e w1 ⟨rfl, rfl⟩
      go_wp2_with fail
      refine (HPJ.out _).mono ?_; rintro e w1 ⟨p, rfl, hb1⟩
      have HB2 := Lib.hid (HBJ.out.trans (hb1.mono hzj))
      clear hb1
      rcases hdb.out with hs | hs
      · have HE := Lib.hid (HYJ.out hs)
        go_wp2
        go_roundw
        case rel => exact ⟨j + 1, by omega, by go_num, by rw [HE.out, ej], by rw [HE.out], HB2⟩
        case measure => simp [intOf]; omega
      · have HE := Lib.hid (HNJ.out hs)
        go_wp2
        go_roundw
        case rel => exact ⟨j + 1, by omega, by go_num, by rw [HE.out], by rw [HE.out], HB2⟩
        case measure => simp [intOf]; omega
    · have hE : N - 1 = j := by omega
      have hnl : ¬ ((j : Int) + 1 < (N : Int)) := by omega
      go_wp2
      go_ret2
      exact ⟨rfl, HBJ.out⟩
end Go.Proofs.YtjgkignnfkbeaaaTro

/-
  The program's nearest, of a choice and a list of choices.
-/
namespace Go.Proofs.YtjgkignnfkbeaaaTro
open Go.RowKit
set_option linter.unusedVariables false
set_option maxRecDepth 20000

/-- the nearest of p and the first i of l -/
def nrT (p : Int × Int) (l : Nat → Int × Int) : Nat → Int × Int
  | 0 => p
  | i + 1 => if (l i).2 < (nrT p l i).2 then l i else nrT p l i
theorem nrT_yes {p : Int × Int} {l : Nat → Int × Int} {i : Nat} (h : (l i).2 < (nrT p l i).2) : nrT p l (i + 1) = l i := by show (if _ then _ else _) = _; rw [if_pos h]
theorem nrT_no {p : Int × Int} {l : Nat → Int × Int} {i : Nat} (h : ¬ (l i).2 < (nrT p l i).2) : nrT p l (i + 1) = nrT p l i := by show (if _ then _ else _) = _; rw [if_neg h]
set_option maxHeartbeats 800000 in
theorem nearest_any (p : Int × Int) (l : Nat → Int × Int) (m c g o : Nat) (w : World) (hm : m ≤ c) (hm2 : m ≤ 64) (hg : g < w.heap.size)
    (hc : ∀ i, i < m → w.cell? ⟨g, o + i * 2, none⟩ = some (.int .i64 (l i).1) ∧ w.cell? ⟨g, o + i * 2 + 1, none⟩ = some (.int .i64 (l i).2)) :
    Calls Tro.prog 58 #[.agg #[.int .i64 p.1, .int .i64 p.2], .slice (some ⟨g, o, none⟩) m c] w fun e w' => e = .returned (.agg #[.int .i64 (nrT p l m).1, .int .i64 (nrT p l m).2]) ∧ Below w.heap.size w w' := by
  have HC := Lib.hid hc
  have HY : Hid (∀ i, (l i).2 < (nrT p l i).2 → nrT p l (i + 1) = l i) := Lib.hid (fun i h => nrT_yes h)
  have HN : Hid (∀ i, ¬ (l i).2 < (nrT p l i).2 → nrT p l (i + 1) = nrT p l i) := Lib.hid (fun i h => nrT_no h)
  have hp0 : nrT p l 0 = p := rfl
  clear hc
  go_enter Tro.func58, Tro.ntmps58
  go_wp2
  have hx0 : ((w.alloc (.cells #[.int .i64 p.1, .int .i64 p.2] 49)).alloc (.cells #[.int .i64 0, .int .i64 0] 49)).cell? ⟨w.heap.size, 0, none⟩ = some (.int .i64 p.1) := by rw [World.cell?_alloc_lt _ _ _ (by simp), World.cell?_alloc_at _ _ _ _ rfl]; rfl
  have hx1 : ((w.alloc (.cells #[.int .i64 p.1, .int .i64 p.2] 49)).alloc (.cells #[.int .i64 0, .int .i64 0] 49)).cell? ⟨w.heap.size, 1, none⟩ = some (.int .i64 p.2) := by rw [World.cell?_alloc_lt _ _ _ (by simp), World.cell?_alloc_at _ _ _ _ rfl]; rfl
  have hy0 : ((w.alloc (.cells #[.int .i64 p.1, .int .i64 p.2] 49)).alloc (.cells #[.int .i64 0, .int .i64 0] 49)).cell? ⟨w.heap.size + 1, 0, none⟩ = some (.int .i64 0) := by rw [World.cell?_alloc_at _ _ _ _ (by simp)]; rfl
  have hy1 : ((w.alloc (.cells #[.int .i64 p.1, .int .i64 p.2] 49)).alloc (.cells #[.int .i64 0, .int .i64 0] 49)).cell? ⟨w.heap.size + 1, 1, none⟩ = some (.int .i64 0) := by rw [World.cell?_alloc_at _ _ _ _ (by simp)]; rfl
  have hbel := ((Below.refl w.heap.size w).alloc (Nat.le_refl _) (.cells #[.int .i64 p.1, .int .i64 p.2] 49)).alloc (by simp) (.cells #[.int .i64 0, .int .i64 0] 49)
  have fz : ∀ k, k < 2 → ((w.alloc (.cells #[.int .i64 p.1, .int .i64 p.2] 49)).alloc (.cells #[.int .i64 0, .int .i64 0] 49)).frozen? ⟨w.heap.size, k, none⟩ = false ∧ ((w.alloc (.cells #[.int .i64 p.1, .int .i64 p.2] 49)).alloc (.cells #[.int .i64 0, .int .i64 0] 49)).frozen? ⟨w.heap.size + 1, k, none⟩ = false := fun k hk => by
    constructor <;> go_simp
  have hsz : ((w.alloc (.cells #[.int .i64 p.1, .int .i64 p.2] 49)).alloc (.cells #[.int .i64 0, .int .i64 0] 49)).heap.size = w.heap.size + 2 := by simp
  generalize World.alloc _ _ = W0 at *
  have F00 := (fz 0 (by omega)).1
  have F01 := (fz 1 (by omega)).1
  have F10 := (fz 0 (by omega)).2
  have F11 := (fz 1 (by omega)).2
  clear fz
  have HSZ := Lib.hid hsz
  clear hsz
  generalize hb : w.heap.size = b at *
  have HBW := Lib.hid hb
  clear hb
  go_loopw [6, 9] (fun t6 t9 wr => ∃ i : Nat, i ≤ m ∧ t9 = .int .i64 i ∧ wr.cell? ⟨b, 0, none⟩ = some (.int .i64 (nrT p l i).1) ∧ wr.cell? ⟨b, 1, none⟩ = some (.int .i64 (nrT p l i).2) ∧ wr.cell? ⟨b + 1, 0, none⟩ = some (.int .i64 0) ∧ wr.cell? ⟨b + 1, 1, none⟩ = some (.int .i64 0) ∧
    wr.frozen? ⟨b, 0, none⟩ = false ∧ wr.frozen? ⟨b, 1, none⟩ = false ∧ wr.frozen? ⟨b + 1, 0, none⟩ = false ∧ wr.frozen? ⟨b + 1, 1, none⟩ = false ∧ Hid (b + 2 ≤ wr.heap.size) ∧ Hid (Below b w wr)) (fun _ t9 _ => m - (intOf t9).toNat)
  case atStart => exact ⟨0, Nat.zero_le _, rfl, by rw [hp0]; exact hx0, by rw [hp0]; exact hx1, hy0, hy1, F00, F01, F10, F11, by rw [HSZ.out]; exact Nat.le_refl _, hbel⟩
  case round =>
    obtain ⟨i, hi, rfl, x0, x1, y0, y1, f00, f01, f10, f11, HZ, HBI⟩ := hrel
    by_cases hlt : i < m
    · obtain ⟨c0, c1⟩ := HC.out i hlt
      have d0 := (HBI.out.cell (p := ⟨g, o + i * 2, none⟩) hg).trans c0
      have d1 := (HBI.out.cell (p := ⟨g, o + i * 2 + 1, none⟩) hg).trans c1
      have hy := HY.out i
      have hn := HN.out i
      have HYJ := Lib.hid hy
      have HNJ := Lib.hid hn
      clear hy hn c0 c1
      generalize l i = q at *
      generalize nrT p l i = r at *
      have k1 := IntWalk.i64_in ((i : Int) + 1) (by omega)
      have i1 : (i : Int) < (m : Int) := by omega
      have hdb : Hid (q.2 < r.2 ∨ ¬ q.2 < r.2) := Lib.hid (Classical.em _)
      obtain ⟨q1, q2⟩ := q
      obtain ⟨r1, r2⟩ := r
      simp only at d0 d1 x0 x1 hdb HYJ
      have hbl : b < wr.heap.size := block_lt_of_cell x0
      have hbl1 : b + 1 < wr.heap.size := block_lt_of_cell y0
      have hba := (Below.refl wr.heap.size wr).alloc (Nat.le_refl _) (.cells #[.int .i64 q1, .int .i64 q2] 49)
      have z0 := (hba.cell (p := ⟨b, 0, none⟩) hbl).trans x0
      have z1 := (hba.cell (p := ⟨b, 1, none⟩) hbl).trans x1
      have v0 := (hba.cell (p := ⟨b + 1, 0, none⟩) hbl1).trans y0
      have v1 := (hba.cell (p := ⟨b + 1, 1, none⟩) hbl1).trans y1
      have e00 := (hba.frozen (p := ⟨b, 0, none⟩) hbl).trans f00
      have e01 := (hba.frozen (p := ⟨b, 1, none⟩) hbl).trans f01
      have e10 := (hba.frozen (p := ⟨b + 1, 0, none⟩) hbl1).trans f10
      have e11 := (hba.frozen (p := ⟨b + 1, 1, none⟩) hbl1).trans f11
      have HB2 := Lib.hid (HBI.out.alloc (by omega) (.cells #[.int .i64 q1, .int .i64 q2] 49))
      have HZ2 : Hid (b + 2 ≤ (wr.alloc (.cells #[.int .i64 q1, .int .i64 q2] 49)).heap.size) := Lib.hid (by have := HZ.out; simp; omega)
      clear hba
      rcases hdb.out with hs | hs
      · have HE := Lib.hid (HYJ.out hs)
        go_wp2
        go_roundw
        case rel =>
          have W1 : ∃ W1, W1 = (wr.setCell ⟨b, 0, none⟩ (.int .i64 q1)).setCell ⟨b, 1, none⟩ (.int .i64 q2) := ⟨_, rfl⟩
          obtain ⟨W1, hW1⟩ := W1
          rw [← hW1]
          have n01 : (⟨b, 1, none⟩ : Addr) ≠ ⟨b, 0, none⟩ := by simp
          have n10 : (⟨b, 0, none⟩ : Addr) ≠ ⟨b, 1, none⟩ := by simp
          have s0 : W1.cell? ⟨b, 0, none⟩ = some (.int .i64 q1) := by rw [hW1, World.cell?_setCell_other _ _ _ _ n01, World.cell?_setCell_same _ _ _ x0]
          have s1 : W1.cell? ⟨b, 1, none⟩ = some (.int .i64 q2) := by rw [hW1]; exact World.cell?_setCell_same _ _ _ ((World.cell?_setCell_other _ _ _ _ n10).trans x1)
          have s2 : W1.cell? ⟨b + 1, 0, none⟩ = some (.int .i64 0) := by rw [hW1]; exact ((set_far (by show b ≠ b + 1; omega)).trans (set_far (by show b ≠ b + 1; omega))).trans y0
          have s3 : W1.cell? ⟨b + 1, 1, none⟩ = some (.int .i64 0) := by rw [hW1]; exact ((set_far (by show b ≠ b + 1; omega)).trans (set_far (by show b ≠ b + 1; omega))).trans y1
          have hfz : ∀ a, W1.frozen? a = wr.frozen? a := fun a => by rw [hW1]; simp
          have hsz1 : W1.heap.size = wr.heap.size := by rw [hW1]; simp
          have hbw : Below b w W1 := by rw [hW1]; exact (HBI.out.setCell (p := ⟨b, 0, none⟩) (Nat.le_refl _) _).setCell (p := ⟨b, 1, none⟩) (Nat.le_refl _) _
          have hb1 := (Below.refl W1.heap.size W1).alloc (Nat.le_refl _) (.cells #[.int .i64 q1, .int .i64 q2] 49)
          have l0 : b < W1.heap.size := by omega
          have l1 : b + 1 < W1.heap.size := by omega
          have hz2 := HZ.out
          refine ⟨i + 1, by omega, by go_num, by rw [HE.out]; exact (hb1.cell (p := ⟨b, 0, none⟩) l0).trans s0, by rw [HE.out]; exact (hb1.cell (p := ⟨b, 1, none⟩) l0).trans s1, (hb1.cell (p := ⟨b + 1, 0, none⟩) l1).trans s2, (hb1.cell (p := ⟨b + 1, 1, none⟩) l1).trans s3,
            ((hb1.frozen (p := ⟨b, 0, none⟩) l0).trans (hfz _)).trans f00, ((hb1.frozen (p := ⟨b, 1, none⟩) l0).trans (hfz _)).trans f01, ((hb1.frozen (p := ⟨b + 1, 0, none⟩) l1).trans (hfz _)).trans f10, ((hb1.frozen (p := ⟨b + 1, 1, none⟩) l1).trans (hfz _)).trans f11, ?_, hbw.alloc (by omega) _⟩
          show b + 2 ≤ _
          simp; omega
        case measure => simp [intOf]; omega
      · have HE := Lib.hid (HNJ.out (by first | exact hs | exact Int.not_lt.1 hs))
        go_wp2
        go_roundw
        case rel => exact ⟨i + 1, by omega, by go_num, by rw [HE.out]; exact z0, by rw [HE.out]; exact z1, v0, v1, e00, e01, e10, e11, HZ2, HB2⟩
        case measure => simp [intOf]; omega
    · obtain rfl : i = m := by omega
      go_wp2
      refine bodyPost_ret (v := .agg #[.int .i64 (nrT p l i).1, .int .i64 (nrT p l i).2]) ?_ rfl ⟨rfl, by rw [HBW.out]; exact (HBI.out.setCell (p := ⟨b + 1, 0, none⟩) (by show b ≤ b + 1; omega) _).setCell (p := ⟨b + 1, 1, none⟩) (by show b ≤ b + 1; omega) _⟩
      simp [results, Tro.results58, go_sem, y0, y1]
end Go.Proofs.YtjgkignnfkbeaaaTro

/-
  The law FnExactSmoothOf, where a sequential body stands for nearestTo, from the contracts of both SmoothOf.
-/
namespace Go.Proofs.YtjgkignnfkbeaaaTro
open Go.RowKit
set_option linter.unusedVariables false
set_option maxRecDepth 20000

/-- two numbers -/
def Gives2 (a b : Int) (w : World) (e : Ending) (w' : World) : Prop := e = .returned (.tuple #[.int .i64 a, .int .i64 b]) ∧ Below w.heap.size w w'
theorem FnExactSmoothOf_core (n s a b : Int) (hs : ∀ w, Calls Tro.prog 33 #[.int .i64 n, .int .i64 s] w (Gives2 a b w)) (hi : ∀ w, Calls Tro.prog 32 #[.int .i64 n, .int .i64 s] w (Gives2 a b w)) (w : World) :
    Calls Tro.prog 11 #[.int .i64 n, .int .i64 s] w fun e w' => e = .returned (.bool true) ∧ Below w.heap.size w w' := by
  have HS := Lib.hid hs
  have HI := Lib.hid hi
  clear hs hi
  go_enter Tro.func11, Tro.ntmps11
  go_wp2_with fail
  refine (HS.out _).mono ?_; rintro e w1 ⟨rfl, b1⟩
  have B1 := Lib.hid b1
  have hz := b1.size
  clear b1
  go_wp2_with fail
  refine (HI.out _).mono ?_; rintro e w2 ⟨rfl, b2⟩
  have B2 := Lib.hid (B1.out.trans (b2.mono hz))
  clear b2
  go_wp2_with fail
  go_ret
  exact ⟨rfl, B2.out⟩
theorem iSmoothOf_no (n s : Int) (w : World) (h : ¬ (Tic.Valid n s ∧ s ≠ 0)) : Calls Tro.prog 32 #[.int .i64 n, .int .i64 s] w (Gives2 (-1) (-1) w) := by
  by_cases hv : Tic.Valid n s
  · have h0 : s = 0 := Classical.byContradiction fun q => h ⟨hv, q⟩
    subst h0
    go_enter Tro.func32, Tro.ntmps32
    go_wp2_with fail
    refine (implValid_yes _ _ _ hv).mono ?_; rintro e w1 ⟨rfl, rfl⟩
    go_wp2_with fail
    go_ret2
    exact ⟨rfl, Below.refl _ _⟩
  · go_enter Tro.func32, Tro.ntmps32
    go_wp2_with fail
    refine (implValid_no _ _ _ hv).mono ?_; rintro e w1 ⟨rfl, rfl⟩
    go_wp2_with fail
    go_ret2
    exact ⟨rfl, Below.refl _ _⟩
/-- the fold over the list of choices is the model's -/
theorem nrT_smF {D : Nat → Nat} {b : Nat} (h : D 1 < b) : ∀ m, nrT ((1 : Int), (D 1 : Int)) (fun i => (((i + 2 : Nat) : Int), (D (i + 2) : Int))) m = (((smF D b (m + 1)).1 : Int), ((smF D b (m + 1)).2 : Int))
  | 0 => by rw [smF_yes (j := 0) h]; rfl
  | m + 1 => by
    have ih := nrT_smF h m
    by_cases hd : D (m + 2) < (smF D b (m + 1)).2
    · rw [nrT_yes (by rw [ih]; exact Int.ofNat_lt.2 hd), smF_yes (j := m + 1) hd]
    · rw [nrT_no (by rw [ih]; exact fun q => hd (Int.ofNat_lt.1 q)), ih, smF_no (j := m + 1) hd]
end Go.Proofs.YtjgkignnfkbeaaaTro

/-
  Lists of choices in memory, two cells each: read, appended to at a step of a region that draws its order.
-/
namespace Go.Proofs.YtjgkignnfkbeaaaTro
open Go.RowKit
set_option linter.unusedVariables false
set_option maxRecDepth 20000

/-- a choice as a row of cells -/
def chR (p : Int × Int) : List Value := [.int .i64 p.1, .int .i64 p.2]
theorem chFlat_len : ∀ M : List (Int × Int), (M.map chR).flatten.length = M.length * 2
  | [] => rfl
  | m :: M => by
    rw [List.map_cons, List.flatten_cons, List.length_append, chFlat_len M, List.length_cons, Nat.add_mul]
    show 2 + _ = _
    omega
theorem chFlat_at : ∀ (M : List (Int × Int)) (i j : Nat), i < M.length → j < 2 → (M.map chR).flatten[i * 2 + j]? = (chR (M.getD i (0, 0)))[j]?
  | [], i, j, hi, _ => by simp at hi
  | m :: M, 0, j, _, hj => by
    rw [List.map_cons, List.flatten_cons, Nat.zero_mul, Nat.zero_add, List.getElem?_append_left (by show j < 2; exact hj)]
    simp
  | m :: M, i + 1, j, hi, hj => by
    have := chFlat_at M i j (by simpa using hi) hj
    rw [List.map_cons, List.flatten_cons, List.getElem?_append_right (by show 2 ≤ _; omega), show (i + 1) * 2 + j - (chR m).length = i * 2 + j by show _ - 2 = _; omega, this]
    simp
/-- a list of choices, two cells each -/
def Chs (w : World) (B : Nat) (v : Value) (M : List (Int × Int)) : Prop := w.ownsRow B 49 2 v M.length (M.map chR).flatten ∧ M.length ≤ 64
theorem Chs.nil (w : World) (B : Nat) : Chs w B (.slice none 0 0) [] := ⟨World.ownsRow_nil _ _ _ _, Nat.zero_le _⟩
theorem Chs.kept {w w' : World} {B : Nat} {v : Value} {M : List (Int × Int)} (h : Chs w B v M) (hb : Below w.heap.size w w') : Chs w' B v M :=
  ⟨h.1.kept (row := none) ⟨hb.os, hb.tape, hb.output, hb.size, fun k hk _ => hb.block k hk⟩ (by cases v.ownBlock <;> simp), h.2⟩
theorem Chs.mono {w : World} {B B' : Nat} {v : Value} {M : List (Int × Int)} (h : Chs w B v M) (hB : B' ≤ B) : Chs w B' v M := by
  obtain ⟨⟨h31, h3⟩, r⟩ := h
  refine ⟨⟨h31, ?_⟩, r⟩
  rcases h3 with h3 | ⟨g, cap, cur, e, hg, r⟩
  · exact .inl h3
  · exact .inr ⟨g, cap, cur, e, by omega, r⟩
theorem Chs.lt {w : World} {B : Nat} {v : Value} {M : List (Int × Int)} (h : Chs w B v M) : ∀ q, v.ownBlock = some q → B ≤ q ∧ q < w.heap.size := fun q hq => by
  rcases h.1.2 with ⟨e, _⟩ | ⟨g, cap, cur, e, hg, hb, _⟩
  · subst e; cases hq
  · subst e; simp [Value.ownBlock] at hq; subst hq; exact ⟨hg, (Array.getElem?_eq_some_iff.1 hb).1⟩
theorem Chs.cases {w : World} {B : Nat} {v : Value} {M : List (Int × Int)} (h : Chs w B v M) (h0 : 0 < M.length) :
    ∃ g cap, v = .slice (some ⟨g, 0, none⟩) M.length cap ∧ B ≤ g ∧ g < w.heap.size ∧ M.length ≤ cap ∧ ∀ i, i < M.length → w.cell? ⟨g, i * 2, none⟩ = some (.int .i64 (M.getD i (0, 0)).1) ∧ w.cell? ⟨g, i * 2 + 1, none⟩ = some (.int .i64 (M.getD i (0, 0)).2) := by
  have h1 := h.1
  rcases h1.2 with ⟨_, e⟩ | ⟨g, cap, cur, e, hg, hb, r1, r2, r3, r4⟩
  · omega
  · subst e
    refine ⟨g, cap, rfl, hg, (Array.getElem?_eq_some_iff.1 hb).1, r1, fun i hi => ⟨?_, ?_⟩⟩
    · have := h1.cellAt (i * 2 + 0) (by omega)
      rw [chFlat_at M i 0 hi (by decide)] at this
      exact this
    · have := h1.cellAt (i * 2 + 1) (by omega)
      rw [chFlat_at M i 1 hi (by decide)] at this
      exact this
theorem info_choice : (Tro.prog.info? 49).map (fun i => (i.zero, i.size, i.bytes)) = some (some (.agg #[.int .i64 0, .int .i64 0]), 2, 16) := by kernel_rfl
theorem info_partsC {o : Option TypeInfo} {z : Option Value} {a b : Nat} (h : o.map (fun i => (i.zero, i.size, i.bytes)) = some (z, a, b)) : ∃ i, o = some i ∧ i.zero = z ∧ i.size = a ∧ i.bytes = b := by
  cases o with
  | none => cases h
  | some i => simp at h; exact ⟨i, rfl, h.1, h.2.1, h.2.2⟩
/-- a choice is appended, at a step of a region that draws its order; B: the first block that the list may lie in, V: the world ahead of the region -/
theorem step_app_ch {ops : Array Oper} {o : Oper} {a : Act} {w : World} {K : Act → World → Prop} {Q : Exit → Act → World → Prop} {E : Prop} (hgd : o.guard = none) (s x : Operand)
    (ho : o.op = .call { callee := .builtin .append, args := #[s, x], argTypes := #[57, 57] })
    (B : Nat) (V : World) (v : Value) (M : List (Int × Int)) (hs : a.eval s = v) (g c : Nat) (p : Int × Int) (hx : a.eval x = .slice (some ⟨g, 0, none⟩) 1 c)
    (hk : Below B V w) (hr : Chs w B v M) (hc : w.cell? ⟨g, 0, none⟩ = some (.int .i64 p.1) ∧ w.cell? ⟨g, 1, none⟩ = some (.int .i64 p.2)) (hM : M.length < 64) (hBw : B ≤ w.heap.size)
    (h : ∀ v' w', Chs w' B v' (M ++ [p]) → Below B V w' → (∀ b k u, v.ownBlock ≠ some b → w.cell? ⟨b, k, none⟩ = some u → w'.cell? ⟨b, k, none⟩ = some u) → K (a.put o.dst v') w') :
    if Region.wanted o (yielded ops a.tmps) = true then Oper.wp Tro.prog o a w K Q else E := by
  have hw : Region.wanted o (yielded ops a.tmps) = true := by simp [Region.wanted, hgd]
  rw [if_pos hw]
  obtain ⟨i0, hi, hz0, hz1, hz2⟩ := info_partsC info_choice
  obtain ⟨v', w', hr', h2, h3, h4, h5'⟩ := run_append_own_at (P := Tro.prog) w B 57 o.type 49 i0 _ 2 16 Tro.underlying57 hi hz0 hz1 hz2 rfl (by decide) v M.length _ hr.1 ⟨g, 0, none⟩ 1 c (chR p)
    rfl (fun j u hj => by
      have e : (⟨g, 0, none⟩ : Addr).add j = ⟨g, j, none⟩ := by unfold Addr.add; split <;> simp_all
      rw [e]
      match j, hj with
      | 0, hj => simp [chR] at hj; subst hj; exact hc.1
      | 1, hj => simp [chR] at hj; subst hj; exact hc.2) (by intro u hu; simp [chR] at hu; rcases hu with rfl | rfl <;> rfl) (by unfold maxLen; omega) (by omega) hBw
  unfold Oper.wp execOp
  simp only [ho, resolve, invoke, builtin, Sem.run_bind, Sem.run_pure, Result.andThen_ok, List.map_toArray, List.map_cons, List.map_nil, hs, hx, hr']
  refine h v' w' ⟨?_, by simp; omega⟩ (hk.grown h3 hBw (fun q hq => (hr.lt q hq).1)) (fun b k u hb hc => (h3.cell_far _ (block_lt_of_cell hc) (fun e => hb e.symm)).trans hc)
  rw [List.length_append, List.map_append, List.flatten_append]
  simpa using h2
/-- a choice is appended -/
theorem wpList_append_ch {ops : Array Oper} {rest : List Oper} {o : Oper} {a : Act} {Q : Exit → Act → World → Prop} {w : World} (hgd : o.guard = none) (s x : Operand)
    (ho : o.op = .call { callee := .builtin .append, args := #[s, x], argTypes := #[57, 57] })
    (B : Nat) (v : Value) (M : List (Int × Int)) (hs : a.eval s = v) (hr : Chs w B v M) (g c : Nat) (p : Int × Int) (hx : a.eval x = .slice (some ⟨g, 0, none⟩) 1 c)
    (hc : w.cell? ⟨g, 0, none⟩ = some (.int .i64 p.1) ∧ w.cell? ⟨g, 1, none⟩ = some (.int .i64 p.2)) (hM : M.length < 64) (hB : B ≤ w.heap.size)
    (h : ∀ v' w', Chs w' B v' (M ++ [p]) → Below B w w' → wpList Tro.prog ops Q rest (a.put o.dst v') w') : wpList Tro.prog ops Q (o :: rest) a w := by
  obtain ⟨i0, hi, hz0, hz1, hz2⟩ := info_partsC info_choice
  refine wpList_append_own w hgd s x 57 ho B 49 i0 _ 2 16 Tro.underlying57 hi hz0 hz1 hz2 rfl (by decide) v M.length _ hs hr.1 ⟨g, 0, none⟩ 1 c (chR p) hx rfl ?_ ?_ ?_ ?_ hB ?_
  · intro j u hj
    have e : (⟨g, 0, none⟩ : Addr).add j = ⟨g, j, none⟩ := by unfold Addr.add; split <;> simp_all
    rw [e]
    match j, hj with
    | 0, hj => simp [chR] at hj; subst hj; exact hc.1
    | 1, hj => simp [chR] at hj; subst hj; exact hc.2
  · intro u hu; simp [chR] at hu; rcases hu with rfl | rfl <;> rfl
  · unfold maxLen; omega
  · omega
  · intro v' w' hown hg _
    refine h v' w' ⟨?_, by simp; omega⟩ ((Below.refl B w).grown hg hB fun k hk => (hr.lt k hk).1)
    rw [List.length_append, List.map_append, List.flatten_append]
    simpa using hown
theorem far_of (a b : Int) (w : World) : (Instr.field 49 (.agg #[.int .i64 a, .int .i64 b]) 1).run Tro.prog w = .ok (.int .i64 b) w := by kernel_rfl
theorem number_of (a b : Int) (w : World) : (Instr.field 49 (.agg #[.int .i64 a, .int .i64 b]) 0).run Tro.prog w = .ok (.int .i64 a) w := by kernel_rfl
/-- a block of two numbers just made -/
theorem ch_new (w : World) (x y : Int) (t : TypeId) (g : Nat) (hg : g = w.heap.size) : (w.alloc (.cells #[.int .i64 x, .int .i64 y] t)).cell? ⟨g, 0, none⟩ = some (.int .i64 x) ∧ (w.alloc (.cells #[.int .i64 x, .int .i64 y] t)).cell? ⟨g, 1, none⟩ = some (.int .i64 y) := by
  constructor <;> (rw [World.cell?_alloc_at _ _ _ _ hg]; rfl)
theorem ch_froz (w : World) (x y : Int) (t : TypeId) (g : Nat) (hg : g = w.heap.size) : (w.alloc (.cells #[.int .i64 x, .int .i64 y] t)).frozen? ⟨g, 0, none⟩ = false ∧ (w.alloc (.cells #[.int .i64 x, .int .i64 y] t)).frozen? ⟨g, 1, none⟩ = false := by
  subst hg
  constructor <;> go_simp
/-- what a call behind an alloc leaves -/
theorem after_alloc {wr w1 : World} {t : TypeId} (hb : Below (wr.alloc (.cells #[.int .i64 0, .int .i64 0] t)).heap.size (wr.alloc (.cells #[.int .i64 0, .int .i64 0] t)) w1) :
    Hid (Below wr.heap.size wr w1) ∧ w1.cell? ⟨wr.heap.size, 0, none⟩ = some (.int .i64 0) ∧ w1.cell? ⟨wr.heap.size, 1, none⟩ = some (.int .i64 0) ∧ w1.frozen? ⟨wr.heap.size, 0, none⟩ = false ∧ w1.frozen? ⟨wr.heap.size, 1, none⟩ = false := by
  have h0 := (Below.refl wr.heap.size wr).alloc (Nat.le_refl _) (.cells #[.int .i64 0, .int .i64 0] t)
  exact ⟨h0.trans (hb.mono h0.size), (hb.cell (p := ⟨wr.heap.size, 0, none⟩) (by simp)).trans (ch_new wr 0 0 t _ rfl).1, (hb.cell (p := ⟨wr.heap.size, 1, none⟩) (by simp)).trans (ch_new wr 0 0 t _ rfl).2, (hb.frozen (p := ⟨wr.heap.size, 0, none⟩) (by simp)).trans (ch_froz wr 0 0 t _ rfl).1, (hb.frozen (p := ⟨wr.heap.size, 1, none⟩) (by simp)).trans (ch_froz wr 0 0 t _ rfl).2⟩
theorem after_alloc1 {wr w1 : World} {t : TypeId} (hb : Below (wr.alloc (.cells #[.int .i64 0, .int .i64 0] t)).drew.heap.size (wr.alloc (.cells #[.int .i64 0, .int .i64 0] t)).drew w1) :
    Hid (Below wr.heap.size wr w1) ∧ w1.cell? ⟨wr.heap.size, 0, none⟩ = some (.int .i64 0) ∧ w1.cell? ⟨wr.heap.size, 1, none⟩ = some (.int .i64 0) ∧ w1.frozen? ⟨wr.heap.size, 0, none⟩ = false ∧ w1.frozen? ⟨wr.heap.size, 1, none⟩ = false :=
  after_alloc (t := t) (Below.trans (Below.refl _ _).drew hb)
theorem ch_put {w : World} {g : Nat} {u0 u1 : Value} (h0 : w.cell? ⟨g, 0, none⟩ = some u0) (h1 : w.cell? ⟨g, 1, none⟩ = some u1) (x y : Int) :
    ((w.setCell ⟨g, 0, none⟩ (.int .i64 x)).setCell ⟨g, 1, none⟩ (.int .i64 y)).cell? ⟨g, 0, none⟩ = some (.int .i64 x) ∧ ((w.setCell ⟨g, 0, none⟩ (.int .i64 x)).setCell ⟨g, 1, none⟩ (.int .i64 y)).cell? ⟨g, 1, none⟩ = some (.int .i64 y) := by
  have n01 : (⟨g, 1, none⟩ : Addr) ≠ ⟨g, 0, none⟩ := by simp
  have n10 : (⟨g, 0, none⟩ : Addr) ≠ ⟨g, 1, none⟩ := by simp
  exact ⟨by rw [World.cell?_setCell_other _ _ _ _ n01, World.cell?_setCell_same _ _ _ h0], World.cell?_setCell_same _ _ _ ((World.cell?_setCell_other _ _ _ _ n10).trans h1)⟩
end Go.Proofs.YtjgkignnfkbeaaaTro

/-
  SmoothOf of the program, where a sequential body stands for nearestTo.
-/
namespace Go.Proofs.YtjgkignnfkbeaaaTro
open Go.RowKit
set_option linter.unusedVariables false
set_option maxRecDepth 20000

/-- the first j choices -/
def chL (D : Nat → Nat) : Nat → List (Int × Int)
  | 0 => []
  | j + 1 => chL D j ++ [(((j + 1 : Nat) : Int), (D (j + 1) : Int))]
theorem chL_len (D : Nat → Nat) : ∀ j, (chL D j).length = j
  | 0 => rfl
  | j + 1 => by unfold chL; rw [List.length_append, chL_len D j]; rfl
theorem chL_at (D : Nat → Nat) : ∀ j i, i < j → (chL D j).getD i (0, 0) = (((i + 1 : Nat) : Int), (D (i + 1) : Int))
  | j + 1, i, h => by
    unfold chL
    rw [List.getD_eq_getElem?_getD]
    by_cases q : i < j
    · rw [List.getElem?_append_left (by rw [chL_len]; exact q), ← List.getD_eq_getElem?_getD, chL_at D j i q]
    · obtain rfl : i = j := by omega
      rw [List.getElem?_append_right (by rw [chL_len]; exact Nat.le_refl _), chL_len]; simp
theorem prF_small {n : Nat} {L M : List Int} (h : farTo n L (rotL M 0) L.length < n * n) : ∀ j, (prF n L M (j + 1)).1 < n * n
  | 0 => by rw [prF_yes (j := 0) h]; exact h
  | j + 1 => by
    have ih := prF_small h j
    by_cases q : farTo n L (rotL M (j + 1)) L.length < (prF n L M (j + 1)).1
    · rw [prF_yes (j := j + 1) q]; exact Nat.lt_trans q ih
    · rw [prF_no (j := j + 1) q]; exact ih
theorem smD_lt {N : Nat} {s : Int} (h : Tic.Valid (N : Int) s) (h0 : s ≠ 0) (h3 : 3 ≤ N) : smD (N : Int) s 1 < N * N := by
  have hV := voices_shf h h0 1
  have hp : 0 < (tonesTo s.toNat N).length := by
    obtain ⟨h1, h2, h3, h4⟩ := h
    rw [Int.toNat_natCast] at h4
    exact len_pos (by omega) (by omega)
  have hle := tonesTo_le s.toNat N
  unfold smD stubP
  rw [Int.toNat_natCast]
  generalize tonesTo s.toNat N = L at *
  generalize tonesTo _ N = M
  have hfar := farTo_le (n := N) (by omega) L (rotL M 0) L.length
  have hmul := Nat.mul_le_mul_right N hle
  have hnn : 0 < N * N := Nat.mul_pos (by omega) (by omega)
  rw [show L.length = L.length - 1 + 1 by omega]
  exact prF_small (by omega) _
set_option maxHeartbeats 2000000 in
theorem iSmoothOf_yes (n s : Int) (w : World) (h : Tic.Valid n s) (h0 : s ≠ 0) : Calls Tro.prog 32 #[.int .i64 n, .int .i64 s] w (Gives2 ((smP n s).1 : Int) ((smP n s).2 : Int) w) := by
  have HV : Hid (∀ w, Calls Tro.prog 22 #[.int .i64 n, .int .i64 s] w fun e w' => e = .returned (.bool true) ∧ w = w') := Lib.hid (fun w => implValid_yes _ _ w h)
  have g1 := h.1
  have g2 := h.2.1
  have hne : (s == 0) = false := beq_eq_false_iff_ne.2 h0
  have HS : Hid (∀ (t : Nat) w, t < n.toNat → Calls Tro.prog 57 #[.agg #[.int .i64 n, .int .i64 s], .int .i64 (t : Int)] w fun e w' => e = .returned (.agg #[.int .i64 n, .int .i64 (Tic.shf n.toNat (t : Int) s.toNat : Int)]) ∧ Below w.heap.size w w') := Lib.hid (fun t w ht => mshift_any n s t w h ⟨by omega, by omega⟩)
  have HP : Hid (∀ (t : Nat) w, t < n.toNat → Calls Tro.prog 42 #[.agg #[.int .i64 n, .int .i64 s], .agg #[.int .i64 n, .int .i64 (Tic.shf n.toNat (t : Int) s.toNat : Int)]] w fun e w' => ∃ p : Nat, e = .returned (.agg #[.int .i64 (p : Int), .int .i64 (smD n s t : Int)]) ∧ Below w.heap.size w w') := Lib.hid (fun t w ht => (stub_any n s _ w (voices_shf h h0 t)).mono (fun e w' ⟨h1, h2⟩ => ⟨_, h1, h2⟩))
  obtain ⟨N, rfl⟩ := Int.eq_ofNat_of_zero_le (show 0 ≤ n by omega)
  unfold smP
  rw [Int.toNat_natCast] at *
  have HF : Hid (smD (N : Int) s 1 < N * N) := Lib.hid (smD_lt h h0 (by have := h.1; omega))
  generalize smD (N : Int) s = D at *
  have HR : Hid (nrT ((1 : Int), (D 1 : Int)) (fun i => (((i + 2 : Nat) : Int), (D (i + 2) : Int))) (N - 2) = (((smF D (N * N) (N - 1)).1 : Int), ((smF D (N * N) (N - 1)).2 : Int))) := Lib.hid (by
    have := nrT_smF HF.out (N - 2)
    rw [show N - 2 + 1 = N - 1 by omega] at this
    exact this)
  generalize smF D (N * N) (N - 1) = R at *
  clear HF h
  go_enter Tro.func32, Tro.ntmps32
  go_wp2_with fail
  refine (HV.out _).mono ?_; rintro e w1 ⟨rfl, rfl⟩
  go_wp2
  obtain ⟨x0, x1⟩ := ch_new w (N : Int) s 47 _ rfl
  have hb0 := (Below.refl w.heap.size w).alloc (Nat.le_refl _) (.cells #[.int .i64 (N : Int), .int .i64 s] 47)
  have hz0 : (w.alloc (.cells #[.int .i64 (N : Int), .int .i64 s] 47)).heap.size = w.heap.size + 1 := by simp
  generalize w.alloc (.cells #[.int .i64 (N : Int), .int .i64 s] 47) = W0 at *
  have HB0 := Lib.hid hb0
  have HX : Hid (∀ W, Below (w.heap.size + 1) W0 W → W.cell? ⟨w.heap.size, 0, none⟩ = some (.int .i64 (N : Int)) ∧ W.cell? ⟨w.heap.size, 1, none⟩ = some (.int .i64 s)) := Lib.hid (fun W hW => ⟨(hW.cell (p := ⟨w.heap.size, 0, none⟩) (by show w.heap.size < _; omega)).trans x0, (hW.cell (p := ⟨w.heap.size, 1, none⟩) (by show w.heap.size < _; omega)).trans x1⟩)
  have HZ0 := Lib.hid hz0
  clear x0 x1 hb0 hz0
  go_loopw [7, 8] (fun t7 t8 wr => ∃ j : Nat, j + 1 ≤ N ∧ t8 = .int .i64 ((j : Int) + 1) ∧ Hid (Chs wr (w.heap.size + 1) t7 (chL D j)) ∧ Hid (Below (w.heap.size + 1) W0 wr)) (fun _ t8 _ => N - (intOf t8).toNat)
  case atStart => exact ⟨0, by omega, rfl, Chs.nil _ _, by rw [← HZ0.out]; exact Below.refl _ _⟩
  case round =>
    obtain ⟨j, hj, rfl, HCH, HBJ⟩ := hrel
    by_cases hlt : j + 1 < N
    · have HSJ := Lib.hid (fun w => HS.out (j + 1) w hlt)
      have HPJ := Lib.hid (fun w => HP.out (j + 1) w hlt)
      have HNX : Hid (chL D (j + 1) = chL D j ++ [(((j : Int) + 1), (D (j + 1) : Int))]) := Lib.hid (by show _ ++ _ = _; rw [show ((j + 1 : Nat) : Int) = (j : Int) + 1 by omega])
      have HLN : Hid ((chL D j).length < 64) := Lib.hid (by rw [chL_len]; omega)
      have ej : ((j + 1 : Nat) : Int) = (j : Int) + 1 := by omega
      rw [ej] at HSJ HPJ
      generalize Tic.shf N ((j : Int) + 1) s.toNat = S at *
      generalize D (j + 1) = d at *
      generalize chL D j = L at *
      have hj1 : (j : Int) + 1 < (N : Int) := by omega
      have k1 := IntWalk.i64_in ((j : Int) + 1 + 1) (by omega)
      go_upto_region 8 with fail
      have hk0 : Below wr.heap.size wr wr := Below.refl _ _
      have HC : Hid (∀ W, Below wr.heap.size wr W → W.cell? ⟨w.heap.size, 0, none⟩ = some (.int .i64 (N : Int)) ∧ W.cell? ⟨w.heap.size, 1, none⟩ = some (.int .i64 s)) := Lib.hid (fun W hW => HX.out W (HBJ.out.trans (hW.mono (by have := HBJ.out.size; have := HZ0.out; omega))))
      have hzr : w.heap.size + 1 ≤ wr.heap.size := by have := HBJ.out.size; have := HZ0.out; omega
      go_region_held3 (fun W => W.cell? ⟨w.heap.size, 0, none⟩ = some (.int .i64 (N : Int)) ∧ W.cell? ⟨w.heap.size, 1, none⟩ = some (.int .i64 s))
        (first | exact HX.out _ (by first | exact HK6.out | exact HK6.out.drew) | exact HC.out _ (by first | exact hk0 | exact hk0.drew | exact hk0.alloc hk0.size _ | exact (hk0.alloc hk0.size _).drew))
        (first
          | (go_at_call 57; refine (HSJ.out _).mono ?_; rintro e w1 ⟨rfl, hb⟩; replace hk0 : Below wr.heap.size wr w1 := (by first | exact grow1 hk0 hb | exact grow0 hk0 hb); clear hb)
          | (go_at_call 42; refine (HPJ.out _).mono ?_; rintro e w1 ⟨pp, rfl, hb⟩; have hfl := far_of (pp : Int) (d : Int); replace hk0 : Below wr.heap.size wr w1 := (by first | exact grow1 hk0 hb | exact grow0 hk0 hb); clear hb)
          | (refine step_app_ch (by rfl) _ _ (by rfl) (w.heap.size + 1) W0 u7 L (by rfl) w1.heap.size 1 ((j : Int) + 1, (d : Int)) (by rfl) ?_ ?_ ?_ ?_ ?_ ?_; exact HBJ.out.trans ((hk0.alloc hk0.size _).mono hzr); exact (HCH.out.kept hk0).kept ((Below.refl _ _).alloc (Nat.le_refl _) _); exact ch_new _ _ _ _ _ rfl; exact HLN.out; (have := hk0.size; simp; omega); (intro v6 w6 hr6 hk6 hf6; have HR6 := Lib.hid hr6; have HK6 := Lib.hid hk6; clear hk6 hr6 hf6))
          | fail)
      go_wp2
      go_roundw
      case rel => exact ⟨j + 1, by omega, by go_num, by rw [HNX.out]; exact HR6, HK6⟩
      case measure => simp [intOf]; omega
    · obtain ⟨g, cap, rfl, hg, hgl, hcap, hcell⟩ := HCH.out.cases (by rw [chL_len]; omega)
      rw [chL_len] at hcap hcell ⊢
      have hE : N - 2 = j - 1 := by omega
      have hnl : ¬ ((j : Int) + 1 < (N : Int)) := by omega
      have hc1 : ¬ cap = 1 := by omega
      have hc2 : (1 : Int) ≤ (cap : Int) := by omega
      have hc3 : (j : Int) ≤ (cap : Int) := by omega
      have hc4 : (1 : Int) ≤ (j : Int) := by omega
      have hc5 : (0 : Int) < (j : Int) := by omega
      have hc6 : 0 < j := by omega
      have hc7 : ¬ j = 0 := by omega
      have hc8 : 1 ≤ j := by omega
      have HCL : Hid (∀ W, Below wr.heap.size wr W → W.cell? ⟨g, 0, none⟩ = some (.int .i64 1) ∧ W.cell? ⟨g, 1, none⟩ = some (.int .i64 (D 1 : Int))) := Lib.hid (fun W hW => by
        obtain ⟨h1, h2⟩ := hcell 0 (by omega)
        rw [chL_at D j 0 (by omega)] at h1 h2
        exact ⟨(hW.cell (p := ⟨g, 0, none⟩) hgl).trans (by simpa using h1), (hW.cell (p := ⟨g, 1, none⟩) hgl).trans (by simpa using h2)⟩)
      have HNE : Hid (∀ W, Below wr.heap.size wr W → Calls Tro.prog 58 #[.agg #[.int .i64 1, .int .i64 (D 1 : Int)], .slice (some ⟨g, 2, none⟩) (j - 1) (cap - 1)] W fun e w' => e = .returned (.agg #[.int .i64 (R.1 : Int), .int .i64 (R.2 : Int)]) ∧ Below W.heap.size W w') := Lib.hid (fun W hW => by
        have := nearest_any ((1 : Int), (D 1 : Int)) (fun i => (((i + 2 : Nat) : Int), (D (i + 2) : Int))) (j - 1) (cap - 1) g 2 W (by omega) (by omega) (Nat.lt_of_lt_of_le hgl hW.size) (fun i hi => by
          obtain ⟨h1, h2⟩ := hcell (i + 1) (by omega)
          rw [chL_at D j (i + 1) (by omega)] at h1 h2
          refine ⟨(hW.cell (p := ⟨g, 2 + i * 2, none⟩) hgl).trans ?_, (hW.cell (p := ⟨g, 2 + i * 2 + 1, none⟩) hgl).trans ?_⟩
          · rw [show 2 + i * 2 = (i + 1) * 2 by omega]; exact h1
          · rw [show 2 + i * 2 + 1 = (i + 1) * 2 + 1 by omega]; exact h2)
        have hr := HR.out
        rw [hE] at hr
        rw [hr] at this
        exact this)
      have HBW := Lib.hid (HB0.out.trans (HBJ.out.mono (by omega)))
      have hzr : w.heap.size ≤ wr.heap.size := HBW.out.size
      clear hcell HCH HBJ HX HR HS HP HV hE
      go_upto_region 9 with fail
      have hk0 : Below wr.heap.size wr wr := Below.refl _ _
      go_region_held3 (fun W => W.cell? ⟨g, 0, none⟩ = some (.int .i64 1) ∧ W.cell? ⟨g, 1, none⟩ = some (.int .i64 (D 1 : Int)))
        (exact HCL.out _ (by first | exact HK1.out | exact HK1.out.drew | exact HK1.out.alloc HK1.out.size _ | exact (HK1.out.setCell (p := ⟨wr.heap.size, 0, none⟩) (Nat.le_refl _) _).setCell (p := ⟨wr.heap.size, 1, none⟩) (Nat.le_refl _) _ | exact hk0 | exact hk0.drew | exact hk0.alloc hk0.size _ | exact (hk0.alloc hk0.size _).drew))
        (first
          | (go_at_call 58; refine (HNE.out _ (by first | exact hk0.alloc hk0.size _ | exact (hk0.alloc hk0.size _).drew)).mono ?_; rintro e w1 ⟨rfl, hb⟩; obtain ⟨HK1, z0, z1, y0, y1⟩ := (by first | exact after_alloc1 hb | exact after_alloc hb); clear hb)
          | (go_at_call 58; refine (HNE.out _ (by first | exact hk0 | exact hk0.drew)).mono ?_; rintro e w1 ⟨rfl, hb⟩; have HK1 : Hid (Below wr.heap.size wr w1) := Lib.hid (by first | exact grow1 hk0 hb | exact grow0 hk0 hb); clear hb)
          | fail)
      · obtain ⟨e0, e1⟩ := ch_new w1 (R.1 : Int) (R.2 : Int) 49 _ rfl
        have HBB := Lib.hid (HBW.out.trans ((HK1.out.alloc HK1.out.size (.cells #[.int .i64 (R.1 : Int), .int .i64 (R.2 : Int)] 49)).mono hzr))
        generalize World.alloc _ _ = W9 at *
        go_wp2
        go_quiet (fail)
        go_wp2
        go_ret2
        exact ⟨rfl, below_dn HBB.out _⟩
      all_goals
        obtain ⟨e0, e1⟩ := ch_put z0 z1 (R.1 : Int) (R.2 : Int)
        have HBB := Lib.hid (HBW.out.trans (((HK1.out.setCell (p := ⟨wr.heap.size, 0, none⟩) (Nat.le_refl _) (.int .i64 (R.1 : Int))).setCell (p := ⟨wr.heap.size, 1, none⟩) (Nat.le_refl _) (.int .i64 (R.2 : Int))).mono hzr))
        generalize World.setCell _ _ _ = W9 at *
        go_wp2
        go_quiet (fail)
        go_wp2
        go_ret2
        exact ⟨rfl, below_dn HBB.out _⟩
end Go.Proofs.YtjgkignnfkbeaaaTro

/-
  Lists of numbers: two ascending lists with the same members are one; a list without doubles, sorted, is the ascending list of its members.
-/
namespace Go.Proofs.YtjgkignnfkbeaaaTro

/-- two ascending lists with the same members are one -/
theorem asc_ext : ∀ (L M : List Int), L.Pairwise (· < ·) → M.Pairwise (· < ·) → (∀ y, y ∈ L ↔ y ∈ M) → L = M
  | [], [], _, _, _ => rfl
  | [], b :: M, _, _, h => by have := (h b).2 (by simp); cases this
  | a :: L, [], _, _, h => by have := (h a).1 (by simp); cases this
  | a :: L, b :: M, hL, hM, h => by
    obtain ⟨l1, l2⟩ := List.pairwise_cons.1 hL
    obtain ⟨m1, m2⟩ := List.pairwise_cons.1 hM
    have e : a = b := by
      rcases List.mem_cons.1 ((h a).1 (by simp)) with h1 | h1
      · exact h1
      · rcases List.mem_cons.1 ((h b).2 (by simp)) with h2 | h2
        · exact h2.symm
        · have := m1 _ h1
          have := l1 _ h2
          omega
    subst e
    congr 1
    refine asc_ext L M l2 m2 fun y => ?_
    have hy := h y
    simp only [List.mem_cons] at hy
    constructor
    · intro q
      rcases hy.1 (.inr q) with r | r
      · subst r; have := l1 _ q; omega
      · exact r
    · intro q
      rcases hy.2 (.inr q) with r | r
      · subst r; have := m1 _ q; omega
      · exact r
theorem asc_of_sorted {L : List Int} (hs : L.Pairwise fun x y => decide (x ≤ y) = true) (hn : L.Nodup) : L.Pairwise (· < ·) := by
  refine List.Pairwise.imp₂ (fun a b h1 h2 => ?_) hs hn
  have h1' := of_decide_eq_true h1
  omega
/-- a list without doubles, sorted, is the ascending list of its members -/
theorem sort_eq {L M : List Int} (hn : L.Nodup) (hM : M.Pairwise (· < ·)) (h : ∀ y, y ∈ L ↔ y ∈ M) : (L.mergeSort fun x y => decide (x ≤ y)) = M := by
  refine asc_ext _ _ (asc_of_sorted ?_ ?_) hM ?_
  · exact List.pairwise_mergeSort (fun a b c h1 h2 => by simp at *; omega) (fun a b => by simp; omega) L
  · exact (List.mergeSort_perm L _).nodup_iff.2 hn
  · intro y; rw [(List.mergeSort_perm L _).mem_iff]; exact h y

end Go.Proofs.YtjgkignnfkbeaaaTro

/-
  Plain mathematics of near sets: one tone a step away; the program's list, sorted, is the model's.
-/
namespace Go.Proofs.YtjgkignnfkbeaaaTro.Tic

/-- the bits of a that are not in b -/
def nd (a b : Nat) : Nat := a ^^^ (a &&& b)
theorem nd_bit (a b i : Nat) : (nd a b).testBit i = (a.testBit i && !b.testBit i) := by
  unfold nd
  rw [Nat.testBit_xor, Nat.testBit_and]
  cases a.testBit i <;> cases b.testBit i <;> rfl
theorem nd_le (a b : Nat) : nd a b ≤ a := by
  refine Nat.le_of_testBit ?_
  intro i hi
  rw [nd_bit] at hi
  revert hi
  cases a.testBit i <;> simp
theorem nd_lt {a b n : Nat} (h : a < n) : nd a b < n := Nat.lt_of_le_of_lt (nd_le a b) h

def up (n x : Nat) : Nat := if x + 1 = n then 0 else x + 1
def dn (n x : Nat) : Nat := if x = 0 then n - 1 else x - 1
theorem up_lt {n x : Nat} (h : x < n) : up n x < n := by unfold up; split <;> omega
theorem dn_lt {n x : Nat} (h : x < n) : dn n x < n := by unfold dn; split <;> omega
theorem up_emod {n x : Nat} (h : x < n) : (((x : Int) + 1) % (n : Int)).toNat = up n x := by
  unfold up
  split
  · rename_i e
    have : (x : Int) + 1 = n := by omega
    rw [this, Int.emod_self]; rfl
  · rw [Int.emod_eq_of_lt (by omega) (by omega)]; omega
theorem dn_emod {n x : Nat} (h : x < n) : (((x : Int) - 1) % (n : Int)).toNat = dn n x := by
  unfold dn
  split
  · rename_i e
    subst e
    have : ((0 : Nat) : Int) - 1 = ((n : Int) - 1) + n * (-1) := by omega
    rw [this, Int.add_mul_emod_self_left, Int.emod_eq_of_lt (by omega) (by omega)]; omega
  · rw [Int.emod_eq_of_lt (by omega) (by omega)]; omega
theorem up_dn {n x y : Nat} (hx : x < n) (hy : y < n) : x = up n y ↔ y = dn n x := by
  unfold up dn
  constructor <;> intro h <;> split at h <;> split <;> omega
theorem up_ne_dn {n x : Nat} (h3 : 3 ≤ n) (_ : x < n) : up n x ≠ dn n x := by
  unfold up dn
  split <;> split <;> omega
theorem mvd_up {n x : Nat} (h : x < n) : mvd n 1 1 x = up n x := by
  unfold mvd
  rw [← up_emod h]
  congr 2
  omega

theorem wt_nought : ∀ f v, v < 2 ^ f → wt f v = 0 → v = 0
  | 0, v, h, _ => by simp at h; omega
  | f + 1, v, h, e => by
    unfold wt at e
    have := wt_nought f (v / 2) (by rw [Nat.pow_succ] at h; omega) (by omega)
    omega
theorem wt_one : ∀ f v, v < 2 ^ f → wt f v = 1 → ∃ i, i < f ∧ v = 2 ^ i
  | 0, v, h, e => by simp [wt] at e
  | f + 1, v, h, e => by
    unfold wt at e
    rw [Nat.pow_succ] at h
    rcases (show v % 2 = 1 ∨ v % 2 = 0 by omega) with h1 | h1
    · have := wt_nought f (v / 2) (by omega) (by omega)
      exact ⟨0, by omega, by rw [Nat.pow_zero]; omega⟩
    · obtain ⟨i, hi, e2⟩ := wt_one f (v / 2) (by omega) (by omega)
      exact ⟨i + 1, by omega, by rw [Nat.pow_succ]; omega⟩
theorem wt_pow : ∀ i, i < 12 → wt 12 (2 ^ i) = 1 := by decide +kernel
theorem pow_inj2 {i j : Nat} (h : 2 ^ i = 2 ^ j) : i = j := by
  have : (2 ^ i).testBit j = true := by rw [h, Nat.testBit_two_pow]; simp
  rw [Nat.testBit_two_pow] at this
  exact of_decide_eq_true this
theorem shf_pow {n x : Nat} (h : x < n) : shf n 1 (2 ^ x) = 2 ^ up n x := by
  refine Nat.eq_of_testBit_eq fun i => ?_
  have := img_testBit (mvd n 1 1) (2 ^ x) i n
  rw [Nat.testBit_two_pow]
  cases hc : (shf n 1 (2 ^ x)).testBit i with
  | true =>
    obtain ⟨x', h1, h2, h3⟩ := this.1 hc
    rw [Nat.testBit_two_pow] at h2
    have h4 := of_decide_eq_true h2
    subst h4
    rw [mvd_up h] at h3
    simp [h3]
  | false =>
    by_cases e : up n x = i
    · have h5 : (shf n 1 (2 ^ x)).testBit i = true := this.2 ⟨x, h, by rw [Nat.testBit_two_pow]; simp, by rw [mvd_up h]; exact e⟩
      rw [h5] at hc; cases hc
    · simp [e]

/-- S with the tone x moved to y -/
def mv1 (S x y : Nat) : Nat := nd S (2 ^ x) ||| 2 ^ y
theorem mv1_bit (S x y i : Nat) : (mv1 S x y).testBit i = ((S.testBit i && !decide (x = i)) || decide (y = i)) := by
  unfold mv1
  rw [Nat.testBit_or, nd_bit, Nat.testBit_two_pow, Nat.testBit_two_pow]
theorem mv1_out {S x y : Nat} (hx : S.testBit x = true) (hy : S.testBit y = false) : nd S (mv1 S x y) = 2 ^ x := by
  refine Nat.eq_of_testBit_eq fun i => ?_
  rw [nd_bit, mv1_bit, Nat.testBit_two_pow]
  by_cases e1 : x = i
  · subst e1
    have : y ≠ x := by rintro rfl; rw [hx] at hy; cases hy
    simp [hx, this]
  · by_cases e2 : y = i
    · subst e2; simp [hy, e1]
    · simp [e1, e2]
theorem mv1_in {S x y : Nat} (_ : S.testBit x = true) (hy : S.testBit y = false) : nd (mv1 S x y) S = 2 ^ y := by
  refine Nat.eq_of_testBit_eq fun i => ?_
  rw [nd_bit, mv1_bit, Nat.testBit_two_pow]
  by_cases e2 : y = i
  · subst e2; simp [hy]
  · cases S.testBit i <;> simp [e2]
theorem mv1_of {S m x y : Nat} (h1 : nd S m = 2 ^ x) (h2 : nd m S = 2 ^ y) : S.testBit x = true ∧ S.testBit y = false ∧ m.testBit y = true ∧ m = mv1 S x y := by
  have b1 : ∀ i, (S.testBit i && !m.testBit i) = decide (x = i) := fun i => by rw [← nd_bit, h1, Nat.testBit_two_pow]
  have b2 : ∀ i, (m.testBit i && !S.testBit i) = decide (y = i) := fun i => by rw [← nd_bit, h2, Nat.testBit_two_pow]
  have hx := b1 x
  have hy := b2 y
  simp at hx hy
  refine ⟨hx.1, hy.2, hy.1, Nat.eq_of_testBit_eq fun i => ?_⟩
  rw [mv1_bit]
  have c1 := b1 i
  have c2 := b2 i
  by_cases e1 : x = i <;> by_cases e2 : y = i <;> simp [e1, e2] at c1 c2 ⊢
  · rw [c1.1] at c2; simp at c2
  · exact c1.2
  · exact c2.1
  · revert c1 c2
    cases S.testBit i <;> cases m.testBit i <;> simp
theorem mv1_lt {S x y n : Nat} (hS : S < 2 ^ n) (hy : y < n) : mv1 S x y < 2 ^ n :=
  Nat.or_lt_two_pow (nd_lt hS) (Nat.pow_lt_pow_right (by omega) hy)

/-- the model's test -/
def isNear (n S m : Nat) : Bool := decide (wt 12 (nd S m) = 1 ∧ wt 12 (nd m S) = 1 ∧ (shf n 1 (nd S m) = nd m S ∨ shf n 1 (nd m S) = nd S m))
theorem isNear_iff {n S m : Nat} (h12 : n ≤ 12) (hS : S < 2 ^ n) (hm : m < 2 ^ n) :
    isNear n S m = true ↔ ∃ x y, x < n ∧ y < n ∧ S.testBit x = true ∧ S.testBit y = false ∧ (y = up n x ∨ y = dn n x) ∧ m = mv1 S x y := by
  have h2 : 2 ^ n ≤ 2 ^ 12 := Nat.pow_le_pow_right (by omega) h12
  constructor
  · intro h
    obtain ⟨h3, h4, h5⟩ := of_decide_eq_true h
    obtain ⟨x, _, e1⟩ := wt_one 12 _ (Nat.lt_of_lt_of_le (nd_lt hS) h2) h3
    obtain ⟨y, _, e2⟩ := wt_one 12 _ (Nat.lt_of_lt_of_le (nd_lt hm) h2) h4
    obtain ⟨hx, hy, hmy, e⟩ := mv1_of e1 e2
    have hxn : x < n := by
      have := Nat.ge_two_pow_of_testBit hx
      exact (Nat.pow_lt_pow_iff_right (by omega : 1 < 2)).1 (Nat.lt_of_le_of_lt this hS)
    have hyn : y < n := by
      have := Nat.ge_two_pow_of_testBit hmy
      exact (Nat.pow_lt_pow_iff_right (by omega : 1 < 2)).1 (Nat.lt_of_le_of_lt this hm)
    refine ⟨x, y, hxn, hyn, hx, hy, ?_, e⟩
    rw [e1, e2, shf_pow hxn, shf_pow hyn] at h5
    rcases h5 with h5 | h5
    · exact .inl (pow_inj2 h5).symm
    · exact .inr ((up_dn hxn hyn).1 (pow_inj2 h5).symm)
  · rintro ⟨x, y, hxn, hyn, hx, hy, h5, rfl⟩
    unfold isNear
    rw [mv1_out hx hy, mv1_in hx hy, wt_pow x (by omega), wt_pow y (by omega), shf_pow hxn, shf_pow hyn]
    refine decide_eq_true ⟨rfl, rfl, ?_⟩
    rcases h5 with rfl | h5
    · exact .inl rfl
    · exact .inr (by rw [← (up_dn hxn hyn).2 h5])

/-- the near sets below m, ascending -/
def nearTo (n S : Nat) : Nat → List Int
  | 0 => []
  | m + 1 => if isNear n S m then nearTo n S m ++ [(m : Int)] else nearTo n S m
theorem nearTo_le (n S : Nat) : ∀ m, (nearTo n S m).length ≤ m
  | 0 => Nat.le_refl _
  | m + 1 => by unfold nearTo; have := nearTo_le n S m; split <;> simp <;> omega
theorem nearTo_yes {n S m : Nat} (h : isNear n S m = true) : nearTo n S (m + 1) = nearTo n S m ++ [(m : Int)] := by conv => lhs; unfold nearTo; rw [if_pos h]
theorem nearTo_no {n S m : Nat} (h : isNear n S m = false) : nearTo n S (m + 1) = nearTo n S m := by conv => lhs; unfold nearTo; rw [if_neg (by simp [h])]
theorem nearTo_mem (n S : Nat) (v : Int) : ∀ k, (v ∈ nearTo n S k ↔ ∃ m : Nat, m < k ∧ isNear n S m = true ∧ v = (m : Int))
  | 0 => by simp [nearTo]
  | k + 1 => by
    have ih := nearTo_mem n S v k
    cases h : isNear n S k
    · rw [nearTo_no h, ih]
      constructor
      · rintro ⟨m, h1, h2, h3⟩; exact ⟨m, by omega, h2, h3⟩
      · rintro ⟨m, h1, h2, h3⟩
        by_cases e : m = k
        · subst e; rw [h] at h2; cases h2
        · exact ⟨m, by omega, h2, h3⟩
    · rw [nearTo_yes h, List.mem_append, ih]
      constructor
      · rintro (⟨m, h1, h2, h3⟩ | h1)
        · exact ⟨m, by omega, h2, h3⟩
        · exact ⟨k, by omega, h, by simpa using h1⟩
      · rintro ⟨m, h1, h2, h3⟩
        by_cases e : m = k
        · subst e; exact .inr (by simp [h3])
        · exact .inl ⟨m, by omega, h2, h3⟩
theorem nearTo_asc (n S : Nat) : ∀ k, (nearTo n S k).Pairwise (· < ·)
  | 0 => List.Pairwise.nil
  | k + 1 => by
    have ih := nearTo_asc n S k
    cases h : isNear n S k
    · rw [nearTo_no h]; exact ih
    · rw [nearTo_yes h, List.pairwise_append]
      refine ⟨ih, List.pairwise_singleton _ _, fun a ha b hb => ?_⟩
      obtain ⟨m, h1, _, rfl⟩ := (nearTo_mem n S a k).1 ha
      simp at hb
      omega

/-- what the program adds for the tone x: the one below, then the one above -/
def near1 (n S x : Nat) : List Int :=
  (if S.testBit (dn n x) then [] else [(mv1 S x (dn n x) : Int)]) ++ (if S.testBit (up n x) then [] else [(mv1 S x (up n x) : Int)])
theorem near1_le (n S x : Nat) : (near1 n S x).length ≤ 2 := by
  unfold near1; split <;> split <;> simp
/-- .. for the tones below k -/
def nearL (n S : Nat) : Nat → List Int
  | 0 => []
  | k + 1 => if S.testBit k then nearL n S k ++ near1 n S k else nearL n S k
theorem nearL_le (n S : Nat) : ∀ k, (nearL n S k).length ≤ 2 * k
  | 0 => Nat.le_refl _
  | k + 1 => by unfold nearL; have := nearL_le n S k; have := near1_le n S k; split <;> simp <;> omega
theorem near1_mem {n S x : Nat} {v : Int} : v ∈ near1 n S x ↔ ∃ y, S.testBit y = false ∧ (y = up n x ∨ y = dn n x) ∧ v = (mv1 S x y : Int) := by
  unfold near1
  rw [List.mem_append]
  constructor
  · rintro (h | h) <;> split at h <;> simp at h
    · rename_i e; exact ⟨dn n x, by simpa using e, .inr rfl, h⟩
    · rename_i e; exact ⟨up n x, by simpa using e, .inl rfl, h⟩
  · rintro ⟨y, h1, rfl | rfl, rfl⟩
    · right; simp [h1]
    · left; simp [h1]
theorem nearL_mem (n S : Nat) (v : Int) : ∀ k, (v ∈ nearL n S k ↔ ∃ x y : Nat, x < k ∧ S.testBit x = true ∧ S.testBit y = false ∧ (y = up n x ∨ y = dn n x) ∧ v = (mv1 S x y : Int))
  | 0 => by simp [nearL]
  | k + 1 => by
    have ih := nearL_mem n S v k
    unfold nearL
    split
    · rename_i hb
      rw [List.mem_append, ih, near1_mem]
      constructor
      · rintro (⟨x, y, h1, h2⟩ | ⟨y, h1⟩)
        · exact ⟨x, y, by omega, h2⟩
        · exact ⟨k, y, by omega, hb, h1⟩
      · rintro ⟨x, y, h1, h2, h3⟩
        by_cases e : x = k
        · subst e; exact .inr ⟨y, h3⟩
        · exact .inl ⟨x, y, by omega, h2, h3⟩
    · rename_i hb
      rw [ih]
      constructor
      · rintro ⟨x, y, h1, h2⟩; exact ⟨x, y, by omega, h2⟩
      · rintro ⟨x, y, h1, h2, h3⟩
        by_cases e : x = k
        · subst e; exact absurd h2 hb
        · exact ⟨x, y, by omega, h2, h3⟩
theorem mv1_inj {S x y x' y' : Nat} (hx : S.testBit x = true) (hy : S.testBit y = false) (hx' : S.testBit x' = true) (hy' : S.testBit y' = false) (e : mv1 S x y = mv1 S x' y') : x = x' ∧ y = y' := by
  have h1 := mv1_out hx hy
  have h2 := mv1_in hx hy
  rw [e] at h1 h2
  rw [mv1_out hx' hy'] at h1
  rw [mv1_in hx' hy'] at h2
  exact ⟨(pow_inj2 h1).symm, (pow_inj2 h2).symm⟩
theorem nearL_nodup {n S : Nat} (h3 : 3 ≤ n) : ∀ k, k ≤ n → (nearL n S k).Nodup
  | 0, _ => List.nodup_nil
  | k + 1, hk => by
    have ih := nearL_nodup (S := S) h3 k (by omega)
    unfold nearL
    split
    · rename_i hb
      rw [List.nodup_append]
      refine ⟨ih, ?_, ?_⟩
      · unfold near1
        split <;> split <;> simp
        rename_i e1 e2
        intro e
        exact up_ne_dn h3 (by omega) (mv1_inj hb (by simpa using e1) hb (by simpa using e2) (Int.ofNat.inj e)).2.symm
      · intro a ha b hb2 e
        subst e
        obtain ⟨x, y, h1, h2, h3, _, rfl⟩ := (nearL_mem n S a k).1 ha
        obtain ⟨y', h4, _, e⟩ := near1_mem.1 hb2
        have := (mv1_inj h2 h3 hb h4 (Int.ofNat.inj e)).1
        omega
    · exact ih
theorem near_sorted {n S : Nat} (h3 : 3 ≤ n) (h12 : n ≤ 12) (hS : S < 2 ^ n) : ((nearL n S n).mergeSort fun x y => decide (x ≤ y)) = nearTo n S (2 ^ n) := by
  refine sort_eq (nearL_nodup h3 n (Nat.le_refl _)) (nearTo_asc _ _ _) fun v => ?_
  rw [nearL_mem, nearTo_mem]
  constructor
  · rintro ⟨x, y, hx, h1, h2, h4, rfl⟩
    have hy : y < n := by
      rcases h4 with rfl | rfl
      · exact up_lt hx
      · exact dn_lt hx
    exact ⟨_, mv1_lt hS hy, (isNear_iff h12 hS (mv1_lt hS hy)).2 ⟨x, y, hx, hy, h1, h2, h4, rfl⟩, rfl⟩
  · rintro ⟨m, hm, h, rfl⟩
    obtain ⟨x, y, hx, hy, h1, h2, h4, rfl⟩ := (isNear_iff h12 hS hm).1 h
    exact ⟨x, y, hx, h1, h2, h4, rfl⟩

end Go.Proofs.YtjgkignnfkbeaaaTro.Tic
