/-
  Plain mathematics of sets of tones as numbers: images of sets, shifts and turns, the rest round a circle. No program in sight.
-/
import Derived.WalkKit
import Derived.Test.YtjgkignnfkbeaaaProg
import Derived.WalkSpells
import Derived.Lib.Hide
import Derived.Below
import Derived.StillTailTactics
import Derived.Deep.QuietTactic
import Derived.BigQuiet
import Derived.Laws.OwnMore
import Derived.WalkSmall
import Derived.Maps.AppendAt
import Derived.Deep.RegionHeld3
import Derived.Laws.BitsAllLaws
namespace Go.Proofs.Ytjgkignnfkbeaaa.Tic

theorem or_pow_add {a i : Nat} (h : a.testBit i = false) : a ||| 2 ^ i = a + 2 ^ i := by
  have hq : a = 2 ^ (i + 1) * (a / 2 ^ (i + 1)) + a % 2 ^ (i + 1) := (Nat.div_add_mod a _).symm
  have hr : a % 2 ^ (i + 1) < 2 ^ i := by
    rw [Nat.testBit_eq_decide_div_mod_eq] at h
    have h2 : a / 2 ^ i % 2 = 0 := by have := of_decide_eq_false h; omega
    rw [Nat.pow_succ, Nat.mod_mul, h2]
    have := Nat.mod_lt a (Nat.two_pow_pos i)
    omega
  generalize a / 2 ^ (i + 1) = q at *
  generalize a % 2 ^ (i + 1) = r at *
  subst hq
  have e1 : 2 ^ (i + 1) * q + r = 2 ^ (i + 1) * q ||| r := Nat.two_pow_add_eq_or_of_lt (by rw [Nat.pow_succ]; omega) q
  have e2 : 2 ^ i * 1 + r = 2 ^ i * 1 ||| r := Nat.two_pow_add_eq_or_of_lt hr 1
  have e3 : 2 ^ (i + 1) * q + (2 ^ i * 1 + r) = 2 ^ (i + 1) * q ||| (2 ^ i * 1 + r) := Nat.two_pow_add_eq_or_of_lt (by rw [Nat.pow_succ]; omega) q
  rw [e1, Nat.or_assoc, Nat.or_comm r, ← Nat.mul_one (2 ^ i), ← e2, ← e3, ← e1]
  omega

/-- the image of the first k bits of s under f -/
def img (f : Nat → Nat) (s : Nat) : Nat → Nat
  | 0 => 0
  | k + 1 => if s.testBit k then img f s k ||| 2 ^ f k else img f s k

theorem img_no (f : Nat → Nat) {s k : Nat} (h : s.testBit k = false) : img f s (k + 1) = img f s k := by unfold img; rw [if_neg (by simp [h])]; cases k <;> rfl
theorem img_yes (f : Nat → Nat) {s k : Nat} (h : s.testBit k = true) : img f s (k + 1) = img f s k ||| 2 ^ f k := by conv => lhs; unfold img; rw [if_pos h]

theorem img_testBit (f : Nat → Nat) (s y : Nat) : ∀ k, (img f s k).testBit y = true ↔ ∃ x, x < k ∧ s.testBit x = true ∧ f x = y
  | 0 => by simp [img]
  | k + 1 => by
    have ih := img_testBit f s y k
    unfold img
    by_cases h : s.testBit k = true
    · rw [if_pos h, Nat.testBit_or, Nat.testBit_two_pow]
      simp only [Bool.or_eq_true, decide_eq_true_eq, ih]
      constructor
      · rintro (⟨x, hx, hs, hf⟩ | hf)
        · exact ⟨x, by omega, hs, hf⟩
        · exact ⟨k, by omega, h, hf⟩
      · rintro ⟨x, hx, hs, hf⟩
        by_cases e : x = k
        · subst e; exact Or.inr hf
        · exact Or.inl ⟨x, by omega, hs, hf⟩
    · rw [if_neg h, ih]
      constructor
      · rintro ⟨x, hx, hs, hf⟩; exact ⟨x, by omega, hs, hf⟩
      · rintro ⟨x, hx, hs, hf⟩
        by_cases e : x = k
        · subst e; exact absurd hs h
        · exact ⟨x, by omega, hs, hf⟩

theorem img_lt (f : Nat → Nat) (s n k : Nat) (hf : ∀ x, x < k → f x < n) : img f s k < 2 ^ n := by
  apply Nat.lt_pow_two_of_testBit
  intro i hi
  cases h : (img f s k).testBit i with
  | false => rfl
  | true =>
    obtain ⟨x, hx, _, e⟩ := (img_testBit f s i k).1 h
    have := hf x hx
    omega

def sumImg (f : Nat → Nat) (s : Nat) : Nat → Nat
  | 0 => 0
  | k + 1 => if s.testBit k then sumImg f s k + 2 ^ f k else sumImg f s k

theorem sumImg_eq (f : Nat → Nat) (s n : Nat) (inj : ∀ x y, x < n → y < n → f x = f y → x = y) : ∀ k, k ≤ n → sumImg f s k = img f s k
  | 0, _ => rfl
  | k + 1, hk => by
    have ih := sumImg_eq f s n inj k (by omega)
    unfold sumImg img
    by_cases h : s.testBit k = true
    · rw [if_pos h, if_pos h, ih, or_pow_add]
      cases e : (img f s k).testBit (f k) with
      | false => rfl
      | true =>
        obtain ⟨x, hx, _, e⟩ := (img_testBit f s _ k).1 e
        have := inj x k (by omega) (by omega) e
        omega
    · rw [if_neg h, if_neg h, ih]

/-- the tone way * x + t round the circle -/
def mvd (n : Nat) (way t : Int) (x : Nat) : Nat := ((t + way * x) % (n : Int)).toNat

theorem mvd_lt {n : Nat} (h : 0 < n) (way t : Int) (x : Nat) : mvd n way t x < n := by
  unfold mvd
  have h1 := Int.emod_nonneg (t + way * x) (b := (n : Int)) (by omega)
  have h2 := Int.emod_lt_of_pos (t + way * x) (b := (n : Int)) (by omega)
  omega
/-- t + x round a circle of n -/
def rot (n : Nat) (t : Int) (x : Nat) : Nat := ((t + x) % (n : Int)).toNat
/-- t - x round a circle of n -/
def trn (n : Nat) (t : Int) (x : Nat) : Nat := ((t - x) % (n : Int)).toNat

theorem rot_lt {n : Nat} (h : 0 < n) (t : Int) (x : Nat) : rot n t x < n := by
  unfold rot
  have h1 := Int.emod_nonneg (t + x) (b := (n : Int)) (by omega)
  have h2 := Int.emod_lt_of_pos (t + x) (b := (n : Int)) (by omega)
  omega
theorem trn_lt {n : Nat} (h : 0 < n) (t : Int) (x : Nat) : trn n t x < n := by
  unfold trn
  have h1 := Int.emod_nonneg (t - x) (b := (n : Int)) (by omega)
  have h2 := Int.emod_lt_of_pos (t - x) (b := (n : Int)) (by omega)
  omega
theorem emod_eq_of {n : Nat} (h : 0 < n) {a b : Int} (e : (a % (n : Int)).toNat = (b % (n : Int)).toNat) : a % (n : Int) = b % (n : Int) := by
  have h1 := Int.emod_nonneg a (b := (n : Int)) (by omega)
  have h2 := Int.emod_nonneg b (b := (n : Int)) (by omega)
  omega
theorem sub_of_emod {n : Nat} {a b : Int} (e : a % (n : Int) = b % (n : Int)) (h : 0 < n) (h1 : a - b < n) (h2 : b - a < n) : a = b := by
  have d1 := Int.mul_ediv_add_emod a n
  have d2 := Int.mul_ediv_add_emod b n
  have hm : (n : Int) * (a / n) - n * (b / n) = (n : Int) * (a / n - b / n) := by rw [Int.mul_sub]
  have : a / (n : Int) - b / n = 0 := by
    rcases Int.lt_trichotomy (a / (n : Int) - b / n) 0 with g | g | g
    · have : (n : Int) * (a / n - b / n) ≤ n * (-1) := Int.mul_le_mul_of_nonneg_left (by omega) (by omega)
      omega
    · exact g
    · have : (n : Int) * 1 ≤ n * (a / n - b / n) := Int.mul_le_mul_of_nonneg_left (by omega) (by omega)
      omega
  rw [this] at hm
  omega
theorem rot_inj {n : Nat} (h : 0 < n) (t : Int) : ∀ x y, x < n → y < n → rot n t x = rot n t y → x = y := by
  intro x y hx hy e
  have := sub_of_emod (emod_eq_of h e) h (by omega) (by omega)
  omega
theorem trn_inj {n : Nat} (h : 0 < n) (t : Int) : ∀ x y, x < n → y < n → trn n t x = trn n t y → x = y := by
  intro x y hx hy e
  have := sub_of_emod (emod_eq_of h e) h (by omega) (by omega)
  omega
/-- Go's (x%n + n) % n -/
theorem mvd_inj {n : Nat} (h : 0 < n) (way t : Int) (hw : way = 1 ∨ way = -1) : ∀ x y, x < n → y < n → mvd n way t x = mvd n way t y → x = y := by
  intro x y hx hy e
  have := sub_of_emod (emod_eq_of h e) h (by rcases hw with rfl | rfl <;> omega) (by rcases hw with rfl | rfl <;> omega)
  rcases hw with rfl | rfl <;> omega
theorem sumImg_no (f : Nat → Nat) {s k : Nat} (h : s.testBit k = false) : sumImg f s (k + 1) = sumImg f s k := by conv => lhs; unfold sumImg; rw [if_neg (by simp [h])]
theorem sumImg_yes (f : Nat → Nat) {s k : Nat} (h : s.testBit k = true) : sumImg f s (k + 1) = sumImg f s k + 2 ^ f k := by conv => lhs; unfold sumImg; rw [if_pos h]
theorem sum_mvd_lt {n : Nat} (h : 0 < n) (h2 : n ≤ 12) (way t : Int) (hw : way = 1 ∨ way = -1) (s : Nat) {k : Nat} (hk : k ≤ n) : sumImg (mvd n way t) s k < 4096 := by
  rw [sumImg_eq _ s n (mvd_inj h way t hw) k hk]
  have h1 := img_lt (mvd n way t) s n k (fun x _ => mvd_lt h _ _ x)
  have h3 : 2 ^ n ≤ 2 ^ 12 := Nat.pow_le_pow_right (by omega) h2
  omega
/-- the set shifted by t -/
def shf (n : Nat) (t : Int) (s : Nat) : Nat := img (mvd n 1 t) s n
/-- the set turned by t -/
def tur (n : Nat) (t : Int) (s : Nat) : Nat := img (mvd n (-1) t) s n
theorem shf_lt {n : Nat} (h : 0 < n) (t : Int) (s : Nat) : shf n t s < 2 ^ n := img_lt _ _ _ _ (fun x _ => mvd_lt h _ _ x)
theorem tur_lt {n : Nat} (h : 0 < n) (t : Int) (s : Nat) : tur n t s < 2 ^ n := img_lt _ _ _ _ (fun x _ => mvd_lt h _ _ x)
theorem sum_shf {n : Nat} (h : 0 < n) (t : Int) (s : Nat) : sumImg (mvd n 1 t) s n = shf n t s := sumImg_eq _ s n (mvd_inj h 1 t (.inl rfl)) n (Nat.le_refl _)
theorem sum_tur {n : Nat} (h : 0 < n) (t : Int) (s : Nat) : sumImg (mvd n (-1) t) s n = tur n t s := sumImg_eq _ s n (mvd_inj h (-1) t (.inr rfl)) n (Nat.le_refl _)
theorem go_round_mod {n : Nat} (h : 0 < n) (a : Int) : (a.tmod (n : Int) + n).tmod n = a % (n : Int) := by
  have hn : (0 : Int) < n := by omega
  have l1 := Int.lt_tmod_of_pos a hn
  rw [Int.tmod_eq_emod_of_nonneg (by omega), Int.add_emod_right]
  have e : a.tmod n = a - n * (a.tdiv n) := Int.tmod_def a n
  rw [e, Int.sub_emod, Int.mul_emod_right]
  simp

theorem go_round_emod {n a : Int} : (a.tmod n + n) % n = a % n := by
  rw [Int.add_emod_right, Int.tmod_def, Int.sub_emod, Int.mul_emod_right]
  simp

/-- the number of bits of s, at most f of them -/
def wt : Nat → Nat → Nat
  | 0, _ => 0
  | f + 1, s => s % 2 + wt f (s / 2)
theorem wt_zero : ∀ f, wt f 0 = 0
  | 0 => rfl
  | f + 1 => by unfold wt; rw [wt_zero f]
theorem wt_le : ∀ f s, wt f s ≤ f
  | 0, _ => Nat.le_refl _
  | f + 1, s => by unfold wt; have := wt_le f (s / 2); omega

/-- a bit as a number -/
def bitI (s j : Nat) : Int := if s.testBit j then 1 else 0
theorem bitI_eq (s j : Nat) : bitI s j = (((s / 2 ^ j % 2 : Nat)) : Int) := by
  unfold bitI
  rw [Nat.testBit_eq_decide_div_mod_eq]
  have := Nat.mod_lt (s / 2 ^ j) (y := 2) (by omega)
  by_cases h : s / 2 ^ j % 2 = 1
  · simp [h]
  · have h0 : s / 2 ^ j % 2 = 0 := by omega
    simp [h0]
theorem bitI_true {s j : Nat} (h : s.testBit j = true) : bitI s j = 1 := by simp [bitI, h]
theorem bitI_false {s j : Nat} (h : s.testBit j = false) : bitI s j = 0 := by simp [bitI, h]
theorem div_bd (s p : Nat) : 0 ≤ (s : Int) / (p : Int) ∧ (s : Int) / (p : Int) ≤ s := by
  rw [← Int.natCast_ediv]
  exact ⟨Int.natCast_nonneg _, Int.ofNat_le.2 (Nat.div_le_self s p)⟩

/-- a set of tones of a circle of n -/
def Valid (n s : Int) : Prop := 3 ≤ n ∧ n ≤ 12 ∧ 0 ≤ s ∧ s < ((2 ^ n.toNat : Nat) : Int)
/-- a shift -/
def Turn (t : Int) : Prop := -50 ≤ t ∧ t ≤ 50
theorem pow_le_12 {n : Int} (h : n ≤ 12) : 2 ^ n.toNat ≤ 4096 := by
  have : 2 ^ n.toNat ≤ 2 ^ 12 := Nat.pow_le_pow_right (by omega) (by omega)
  simpa using this
theorem Valid.lt {n s : Int} (h : Valid n s) : s < 4096 := by
  have := pow_le_12 h.2.1
  have := h.2.2.2
  omega

theorem shf_lt12 {n s : Int} (h : Valid n s) (t : Int) : shf n.toNat t s.toNat < 4096 := by
  have h1 := shf_lt (n := n.toNat) (by have := h.1; omega) t s.toNat
  have h2 := pow_le_12 h.2.1
  omega
theorem tur_lt12 {n s : Int} (h : Valid n s) (t : Int) : tur n.toNat t s.toNat < 4096 := by
  have h1 := tur_lt (n := n.toNat) (by have := h.1; omega) t s.toNat
  have h2 := pow_le_12 h.2.1
  omega
theorem Valid.cast {n s : Int} (h : Valid n s) : s = (s.toNat : Int) := (Int.toNat_of_nonneg h.2.2.1).symm
theorem Valid.nat {n s : Int} (h : Valid n s) : s.toNat < 4096 := by have := h.lt; omega

theorem pow_split (n k : Nat) (h : k ≤ n) : 2 ^ (n - k) * 2 ^ k = 2 ^ n := by
  rw [← Nat.pow_add]; congr 1; omega
theorem pow_le_62 {k : Nat} (h : k ≤ 62) : 2 ^ k ≤ 4611686018427387904 := by
  have : 2 ^ k ≤ 2 ^ 62 := Nat.pow_le_pow_right (by omega) h
  simpa using this

end Go.Proofs.Ytjgkignnfkbeaaa.Tic

/-
  Contracts of the small functions on numbers: powers of 2, bits, weights, rests, ranges, valid circles and shifts.
-/
namespace Go.Proofs.Ytjgkignnfkbeaaa
open Go.RowKit
set_option linter.unusedVariables false

theorem ret_int {k : IntKind} {a b : Int} (h : a = b) : Ending.returned (.int k a) = .returned (.int k b) := by rw [h]
theorem ret_bool {a b : Bool} (h : a = b) : Ending.returned (.bool a) = .returned (.bool b) := by rw [h]

theorem power_any (n : Int) (w : World) (h0 : 0 ≤ n) (h1 : n ≤ 61) :
    Calls Try.prog 65 #[.int .i64 n] w fun e w' => e = .returned (.int .i64 ((2 ^ n.toNat : Nat) : Int)) ∧ w = w' := by
  obtain ⟨N, rfl⟩ := Int.eq_ofNat_of_zero_le h0
  rw [Int.toNat_natCast]
  have HN := Lib.hid (Tic.pow_le_62 (k := N) (by omega))
  go_enter Try.func65, Try.ntmps65
  go_wp2
  go_loop [0, 3] (fun t0 t3 => ∃ k P : Nat, k ≤ N ∧ t0 = .int .i64 k ∧ t3 = .int .i64 P ∧ Hid (P * 2 ^ k = 2 ^ N)) (fun t0 _ => (intOf t0).toNat)
  case atStart => exact ⟨N, 1, Nat.le_refl _, rfl, rfl, Nat.one_mul _⟩
  case round =>
    obtain ⟨k, P, hk, rfl, rfl, hP⟩ := hrel
    by_cases hlt : 0 < k
    · have hb : P ≤ 2305843009213693952 := by
        have h2 : 2 ≤ 2 ^ k := by
          have := Nat.pow_le_pow_right (n := 2) (by omega) hlt
          simpa using this
        have h3 := hP.out
        have h4 := HN.out
        have h5 : P * 2 ≤ P * 2 ^ k := Nat.mul_le_mul_left _ h2
        omega
      go_wp2
      go_round
      case rel =>
        refine ⟨k - 1, 2 * P, by omega, ?_, ?_, ?_⟩
        · have : ((k : Int) - 1) = ((k - 1 : Nat) : Int) := by omega
          rw [this]
        · have : (2 * (P : Int)) = ((2 * P : Nat) : Int) := by omega
          rw [this]
        · have h3 := hP.out
          show 2 * P * 2 ^ (k - 1) = 2 ^ N
          rw [← h3]
          obtain ⟨j, rfl⟩ : ∃ j, k = j + 1 := ⟨k - 1, by omega⟩
          simp only [Nat.add_sub_cancel, Nat.pow_succ]
          rw [Nat.mul_comm 2 P, Nat.mul_assoc, Nat.mul_comm 2]
      case measure => simp [intOf]; omega
    · have : k = 0 := by omega
      subst this
      go_wp2
      go_ret
      have h3 := hP.out
      exact ⟨ret_int (congrArg Int.ofNat (by rw [← h3, Nat.pow_zero, Nat.mul_one])), rfl⟩

theorem bit_any (x j : Int) (w : World) (h0 : 0 ≤ x) (hx : x ≤ 1000000) (h1 : 0 ≤ j) (h2 : j ≤ 61) :
    Calls Try.prog 70 #[.int .i64 x, .int .i64 j] w fun e w' => e = .returned (.int .i64 (Tic.bitI x.toNat j.toNat)) ∧ w = w' := by
  obtain ⟨s, rfl⟩ := Int.eq_ofNat_of_zero_le h0
  have hp : 1 ≤ 2 ^ j.toNat := Nat.one_le_two_pow
  have hpl := Tic.pow_le_62 (k := j.toNat) (by omega)
  have HB := Lib.hid (Tic.bitI_eq s j.toNat)
  generalize hg : 2 ^ j.toNat = p at hp hpl
  have HG := Lib.hid hg
  clear hg
  obtain ⟨hq0, hq1⟩ := Tic.div_bd s p
  go_enter Try.func70, Try.ntmps70
  go_wp2_with (go_at_call 65; refine (power_any _ _ h1 h2).mono ?_; rintro e w' ⟨rfl, rfl⟩; rw [HG.out])
  go_ret
  refine ⟨ret_int ?_, rfl⟩
  rw [Int.toNat_natCast, HB.out, HG.out]
  rfl

theorem bit_yes (x j : Int) (S k : Nat) (w : World) (hx : x = S) (hS : S < 4096) (hj : j = k) (hk : k ≤ 12) (h : S.testBit k = true) :
    Calls Try.prog 70 #[.int .i64 x, .int .i64 j] w fun e w' => e = .returned (.int .i64 1) ∧ w = w' := by
  subst hx hj
  exact (bit_any S k w (by omega) (by omega) (by omega) (by omega)).mono fun e w' ⟨h1, h2⟩ => ⟨h1.trans (ret_int (Tic.bitI_true h)), h2⟩
theorem bit_no (x j : Int) (S k : Nat) (w : World) (hx : x = S) (hS : S < 4096) (hj : j = k) (hk : k ≤ 12) (h : S.testBit k = false) :
    Calls Try.prog 70 #[.int .i64 x, .int .i64 j] w fun e w' => e = .returned (.int .i64 0) ∧ w = w' := by
  subst hx hj
  exact (bit_any S k w (by omega) (by omega) (by omega) (by omega)).mono fun e w' ⟨h1, h2⟩ => ⟨h1.trans (ret_int (Tic.bitI_false h)), h2⟩

theorem weight_any (x : Int) (w : World) (h0 : 0 ≤ x) (hx : x < 4096) :
    Calls Try.prog 64 #[.int .i64 x] w fun e w' => e = .returned (.int .i64 (Tic.wt 12 x.toNat : Int)) ∧ w = w' := by
  obtain ⟨s, rfl⟩ := Int.eq_ofNat_of_zero_le h0
  rw [Int.toNat_natCast]
  have hle := Tic.wt_le 12 s
  go_enter Try.func64, Try.ntmps64
  go_wp2
  go_loop [0, 3] (fun t0 t3 => ∃ f r c : Nat, f ≤ 12 ∧ c ≤ 12 ∧ r ≤ 4095 ∧ r < 2 ^ f ∧ t0 = .int .i64 r ∧ t3 = .int .i64 c ∧ Hid (c + Tic.wt f r = Tic.wt 12 s)) (fun t0 _ => (intOf t0).toNat)
  case atStart => exact ⟨12, s, 0, by omega, by omega, by omega, by omega, rfl, rfl, Nat.zero_add _⟩
  case round =>
    obtain ⟨f, r, c, hf, hc, hr', hr, rfl, rfl, hP⟩ := hrel
    by_cases hlt : 0 < r
    · obtain ⟨g, rfl⟩ : ∃ g, f = g + 1 := ⟨f - 1, by
        cases f with
        | zero => simp at hr; omega
        | succ f => omega⟩
      have h3 : c + (r % 2 + Tic.wt g (r / 2)) = Tic.wt 12 s := hP.out
      have hm : c + r % 2 ≤ 12 := by omega
      have H3 := Lib.hid h3
      clear h3
      rw [Nat.pow_succ] at hr
      go_wp2
      go_round
      case rel => exact ⟨g, r / 2, c + r % 2, by omega, by omega, by omega, by omega, by go_num, by go_num, by have := H3.out; show c + r % 2 + Tic.wt g (r / 2) = Tic.wt 12 s; omega⟩
      case measure => simp [intOf]; omega
    · have : r = 0 := by omega
      subst this
      go_wp2
      go_ret
      have h3 := hP.out
      rw [Tic.wt_zero] at h3
      exact ⟨ret_int (by omega), rfl⟩

theorem rest_any (x n : Int) (w : World) (h0 : -1000 ≤ x) (hx : x ≤ 1000) (h1 : 1 ≤ n) (h2 : n ≤ 1000) :
    Calls Try.prog 78 #[.int .i64 x, .int .i64 n] w fun e w' => e = .returned (.int .i64 (x % n)) ∧ w = w' := by
  have H := Lib.hid (Tic.go_round_emod (a := x) (n := n))
  have l1 := Int.lt_tmod_of_pos x (show 0 < n by omega)
  have l2 := Int.tmod_lt_of_pos x (show 0 < n by omega)
  go_enter Try.func78, Try.ntmps78
  go_wp2
  go_ret
  exact ⟨ret_int H.out, rfl⟩

theorem roundCircle_any (n x : Int) (w : World) (h0 : -1000 ≤ x) (hx : x ≤ 1000) (h1 : 1 ≤ n) (h2 : n ≤ 1000) :
    Calls Try.prog 73 #[.int .i64 n, .int .i64 x] w fun e w' => e = .returned (.int .i64 (x % n)) ∧ w = w' := by
  have H := Lib.hid (Tic.go_round_emod (a := x) (n := n))
  have l1 := Int.lt_tmod_of_pos x (show 0 < n by omega)
  have l2 := Int.tmod_lt_of_pos x (show 0 < n by omega)
  go_enter Try.func73, Try.ntmps73
  go_wp2
  go_ret
  exact ⟨ret_int H.out, rfl⟩

theorem inRange_yes (n a b : Int) (w : World) (h1 : a ≤ n) (h2 : n ≤ b) :
    Calls Try.prog 77 #[.int .i64 n, .int .i64 a, .int .i64 b] w fun e w' => e = .returned (.bool true) ∧ w = w' := by
  go_enter Try.func77, Try.ntmps77
  go_wp2
  go_ret
  exact ⟨rfl, rfl⟩
theorem inRange_no (n a b : Int) (w : World) (h : n < a ∨ b < n) :
    Calls Try.prog 77 #[.int .i64 n, .int .i64 a, .int .i64 b] w fun e w' => e = .returned (.bool false) ∧ w = w' := by
  by_cases h1 : n < a
  · go_enter Try.func77, Try.ntmps77
    go_wp2
    go_ret
    exact ⟨rfl, rfl⟩
  · have h2 : b < n := by omega
    clear h
    go_enter Try.func77, Try.ntmps77
    go_wp2
    go_ret
    exact ⟨ret_bool (decide_eq_false (by omega)), rfl⟩

theorem validSet_yes (n s : Int) (w : World) (h : Tic.Valid n s) :
    Calls Try.prog 52 #[.int .i64 n, .int .i64 s] w fun e w' => e = .returned (.bool true) ∧ w = w' := by
  obtain ⟨h1, h2, h3, h4⟩ := h
  have hp := Tic.pow_le_12 h2
  have hp1 : 1 ≤ 2 ^ n.toNat := Nat.one_le_two_pow
  generalize hg : 2 ^ n.toNat = p at h4 hp hp1
  have HG := Lib.hid hg
  clear hg
  go_enter Try.func52, Try.ntmps52
  go_wp2_with fail
  refine (inRange_yes _ _ _ _ h1 h2).mono ?_; rintro e w' ⟨rfl, rfl⟩
  go_wp2_with fail
  refine (power_any _ _ (by omega) (by omega)).mono ?_; rintro e w' ⟨rfl, rfl⟩; rw [HG.out]
  go_wp2_with fail
  refine (inRange_yes _ _ _ _ h3 (by omega)).mono ?_; rintro e w' ⟨rfl, rfl⟩
  go_wp2_with fail
  go_ret
  exact ⟨rfl, rfl⟩
theorem validSet_no (n s : Int) (w : World) (h : ¬ Tic.Valid n s) :
    Calls Try.prog 52 #[.int .i64 n, .int .i64 s] w fun e w' => e = .returned (.bool false) ∧ w = w' := by
  by_cases h1 : n < 3 ∨ 12 < n
  · go_enter Try.func52, Try.ntmps52
    go_wp2_with fail
    refine (inRange_no _ _ _ _ h1).mono ?_; rintro e w' ⟨rfl, rfl⟩
    go_wp2_with fail
    go_ret
    exact ⟨rfl, rfl⟩
  · have h2 : 3 ≤ n ∧ n ≤ 12 := by omega
    obtain ⟨h2, h3⟩ := h2
    have hp := Tic.pow_le_12 h3
    have hp1 : 1 ≤ 2 ^ n.toNat := Nat.one_le_two_pow
    have h4 : s < 0 ∨ ((2 ^ n.toNat : Nat) : Int) ≤ s := by
      unfold Tic.Valid at h
      omega
    clear h h1
    generalize hg : 2 ^ n.toNat = p at h4 hp hp1
    have HG := Lib.hid hg
    have H4 := Lib.hid h4
    clear hg h4
    go_enter Try.func52, Try.ntmps52
    go_wp2_with fail
    refine (inRange_yes _ _ _ _ h2 h3).mono ?_; rintro e w' ⟨rfl, rfl⟩
    go_wp2_with fail
    refine (power_any _ _ (by omega) (by omega)).mono ?_; rintro e w' ⟨rfl, rfl⟩; rw [HG.out]
    go_wp2_with fail
    refine (inRange_no _ _ _ _ (by have := H4.out; omega)).mono ?_; rintro e w' ⟨rfl, rfl⟩
    go_wp2_with fail
    go_ret
    exact ⟨rfl, rfl⟩

theorem circle_yes (n : Int) (w : World) (h1 : 3 ≤ n) (h2 : n ≤ 12) :
    Calls Try.prog 54 #[.int .i64 n] w fun e w' => e = .returned (.bool true) ∧ w = w' := by
  go_enter Try.func54, Try.ntmps54
  go_wp2
  go_ret
  exact ⟨rfl, rfl⟩
theorem circle_no (n : Int) (w : World) (h : n < 3 ∨ 12 < n) :
    Calls Try.prog 54 #[.int .i64 n] w fun e w' => e = .returned (.bool false) ∧ w = w' := by
  by_cases h1 : n < 3
  · clear h
    go_enter Try.func54, Try.ntmps54
    go_wp2
    go_ret
    exact ⟨rfl, rfl⟩
  · have h2 : 12 < n := by omega
    clear h
    go_enter Try.func54, Try.ntmps54
    go_wp2
    go_ret
    exact ⟨ret_bool (decide_eq_false (by omega)), rfl⟩
theorem shiftOk_yes (t : Int) (w : World) (h : Tic.Turn t) :
    Calls Try.prog 60 #[.int .i64 t] w fun e w' => e = .returned (.bool true) ∧ w = w' := by
  obtain ⟨h1, h2⟩ := h
  go_enter Try.func60, Try.ntmps60
  go_wp2
  go_ret
  exact ⟨rfl, rfl⟩
theorem shiftOk_no (t : Int) (w : World) (h : ¬ Tic.Turn t) :
    Calls Try.prog 60 #[.int .i64 t] w fun e w' => e = .returned (.bool false) ∧ w = w' := by
  have h : t < -50 ∨ 50 < t := by unfold Tic.Turn at h; omega
  by_cases h1 : t < -50
  · clear h
    go_enter Try.func60, Try.ntmps60
    go_wp2
    go_ret
    exact ⟨rfl, rfl⟩
  · have h2 : 50 < t := by omega
    clear h
    go_enter Try.func60, Try.ntmps60
    go_wp2
    go_ret
    exact ⟨ret_bool (decide_eq_false (by omega)), rfl⟩

theorem wrap_nat {P : Nat} (h : P ≤ 4611686018427387904) : wrap64 (P : Int) = P := IntWalk.wrap64_in _ (by omega)
theorem wrap_pow {k : Nat} (h : k ≤ 61) : wrap64 ((2 : Int) ^ k) = ((2 ^ k : Nat) : Int) := by
  have e : (2 : Int) ^ k = ((2 ^ k : Nat) : Int) := by rw [Int.natCast_pow]; rfl
  rw [e]
  exact wrap_nat (Tic.pow_le_62 (by omega))

theorem ofInt_i64 (a : Nat) (ha : a < 4611686018427387904) : (BitVec.ofInt 64 (a : Int)).toNat = a := by
  rw [BitVec.ofInt_natCast, BitVec.toNat_ofNat]; exact Nat.mod_eq_of_lt (by omega)
theorem i64_and_nat (a b : Nat) (ha : a < 4611686018427387904) (hb : b < 4611686018427387904) : bits .and .i64 (a : Int) (b : Int) = ((a &&& b : Nat) : Int) := by
  have hx : a &&& b < 2 ^ 62 := Nat.and_lt_two_pow _ (by omega)
  show IntKind.i64.wrap ((BitVec.ofInt 64 (a : Int) &&& BitVec.ofInt 64 (b : Int)).toNat : Int) = _
  rw [BitVec.toNat_and, ofInt_i64 a ha, ofInt_i64 b hb]
  exact IntWalk.i64_in _ (by omega)
theorem i64_or_nat (a b : Nat) (ha : a < 4611686018427387904) (hb : b < 4611686018427387904) : bits .or .i64 (a : Int) (b : Int) = ((a ||| b : Nat) : Int) := by
  have hx : a ||| b < 2 ^ 62 := Nat.or_lt_two_pow (by omega) (by omega)
  show IntKind.i64.wrap ((BitVec.ofInt 64 (a : Int) ||| BitVec.ofInt 64 (b : Int)).toNat : Int) = _
  rw [BitVec.toNat_or, ofInt_i64 a ha, ofInt_i64 b hb]
  exact IntWalk.i64_in _ (by omega)
/-- s >> x & 1 == 1 -/
theorem has_bits (s x : Nat) (hs : s < 4096) : (bits .and .i64 ((s : Int) / (2 : Int) ^ x) 1 == 1) = s.testBit x := by
  have e : (2 : Int) ^ x = ((2 ^ x : Nat) : Int) := by rw [Int.natCast_pow]; rfl
  have hd : s / 2 ^ x < 4611686018427387904 := by have := Nat.div_le_self s (2 ^ x); omega
  rw [e, ← Int.natCast_ediv]
  have := i64_and_nat (s / 2 ^ x) 1 hd (by omega)
  rw [show ((1 : Nat) : Int) = 1 from rfl] at this
  rw [this, Nat.and_one_is_mod, Nat.testBit_eq_decide_div_mod_eq]
  have := Nat.mod_lt (s / 2 ^ x) (y := 2) (by omega)
  by_cases h : s / 2 ^ x % 2 = 1
  · simp [h]
  · have h0 : s / 2 ^ x % 2 = 0 := by omega
    simp [h0]

theorem implValid_yes (n s : Int) (w : World) (h : Tic.Valid n s) :
    Calls Try.prog 22 #[.int .i64 n, .int .i64 s] w fun e w' => e = .returned (.bool true) ∧ w = w' := by
  have h4 := Lib.hid h.2.2.2
  obtain ⟨h1, h2, h3, _⟩ := h
  have HW := Lib.hid (wrap_pow (k := n.toNat) (by omega))
  go_enter Try.func22, Try.ntmps22
  go_wp2_with fail
  refine (circle_yes _ _ h1 h2).mono ?_; rintro e w' ⟨rfl, rfl⟩
  go_wp2_with fail
  go_ret
  exact ⟨ret_bool (by rw [HW.out]; exact decide_eq_true h4.out), rfl⟩
theorem implValid_no (n s : Int) (w : World) (h : ¬ Tic.Valid n s) :
    Calls Try.prog 22 #[.int .i64 n, .int .i64 s] w fun e w' => e = .returned (.bool false) ∧ w = w' := by
  by_cases h1 : n < 3 ∨ 12 < n
  · go_enter Try.func22, Try.ntmps22
    go_wp2_with fail
    refine (circle_no _ _ h1).mono ?_; rintro e w' ⟨rfl, rfl⟩
    go_wp2_with fail
    go_ret
    exact ⟨rfl, rfl⟩
  · have h2 : 3 ≤ n ∧ n ≤ 12 := by omega
    obtain ⟨h2, h3⟩ := h2
    have h4 : s < 0 ∨ ((2 ^ n.toNat : Nat) : Int) ≤ s := by
      unfold Tic.Valid at h
      omega
    clear h h1
    have HW := Lib.hid (wrap_pow (k := n.toNat) (by omega))
    by_cases h5 : s < 0
    · clear h4
      go_enter Try.func22, Try.ntmps22
      go_wp2_with fail
      refine (circle_yes _ _ h2 h3).mono ?_; rintro e w' ⟨rfl, rfl⟩
      go_wp2_with fail
      go_ret
      exact ⟨rfl, rfl⟩
    · have h6 : ((2 ^ n.toNat : Nat) : Int) ≤ s := by omega
      have H6 := Lib.hid h6
      clear h4 h6
      go_enter Try.func22, Try.ntmps22
      go_wp2_with fail
      refine (circle_yes _ _ h2 h3).mono ?_; rintro e w' ⟨rfl, rfl⟩
      go_wp2_with fail
      go_ret
      exact ⟨ret_bool (by rw [HW.out]; exact decide_eq_false (by have := H6.out; omega)), rfl⟩


end Go.Proofs.Ytjgkignnfkbeaaa

/-
  Contracts of shifts and turns of sets: the program's own methods and the model's loops; both are the image of a set under a map of tones.
-/
namespace Go.Proofs.Ytjgkignnfkbeaaa
open Go.RowKit
set_option linter.unusedVariables false

theorem bcell {W w1 : World} (hb : Below W.heap.size W w1) : (∀ b o, b < W.heap.size → w1.cell? ⟨b, o, none⟩ = W.cell? ⟨b, o, none⟩) ∧ (∀ b o, b < W.heap.size → w1.frozen? ⟨b, o, none⟩ = W.frozen? ⟨b, o, none⟩) :=
  ⟨fun b o h => hb.cell (p := ⟨b, o, none⟩) h, fun b o h => hb.frozen (p := ⟨b, o, none⟩) h⟩

theorem has_any (n s x : Int) (w : World) (h0 : 0 ≤ s) (hs : s < 4096) (hx : 0 ≤ x) (hx2 : x ≤ 12) :
    Calls Try.prog 71 #[.agg #[.int .i64 n, .int .i64 s], .int .i64 x] w fun e w' => e = .returned (.bool (s.toNat.testBit x.toNat)) ∧ Below w.heap.size w w' := by
  obtain ⟨S, rfl⟩ := Int.eq_ofNat_of_zero_le h0
  have HB := Lib.hid (has_bits S x.toNat (by omega))
  go_enter Try.func71, Try.ntmps71
  go_wp2
  go_ret
  exact ⟨ret_bool HB.out, (Below.refl _ _).alloc (Nat.le_refl _) _⟩

theorem has_yes (n s : Int) (S k : Nat) (w : World) (hs : s = S) (hS : S < 4096) (hk : k ≤ 12) (h : S.testBit k = true) :
    Calls Try.prog 71 #[.agg #[.int .i64 n, .int .i64 s], .int .i64 k] w fun e w' => e = .returned (.bool true) ∧ Below w.heap.size w w' := by
  subst hs
  exact (has_any n S k w (by omega) (by omega) (by omega) (by omega)).mono fun e w' ⟨h1, h2⟩ => ⟨h1.trans (ret_bool h), h2⟩
theorem has_no (n s : Int) (S k : Nat) (w : World) (hs : s = S) (hS : S < 4096) (hk : k ≤ 12) (h : S.testBit k = false) :
    Calls Try.prog 71 #[.agg #[.int .i64 n, .int .i64 s], .int .i64 k] w fun e w' => e = .returned (.bool false) ∧ Below w.heap.size w w' := by
  subst hs
  exact (has_any n S k w (by omega) (by omega) (by omega) (by omega)).mono fun e w' ⟨h1, h2⟩ => ⟨h1.trans (ret_bool h), h2⟩

theorem way_bd {way : Int} {k : Nat} (h1 : -1 ≤ way) (h2 : way ≤ 1) (hk : k ≤ 12) : -12 ≤ way * k := by
  rcases (show way = -1 ∨ way = 0 ∨ way = 1 by omega) with rfl | rfl | rfl <;> omega
theorem way_bd2 {way : Int} {k : Nat} (h1 : -1 ≤ way) (h2 : way ≤ 1) (hk : k ≤ 12) : way * k ≤ 12 := by
  rcases (show way = -1 ∨ way = 0 ∨ way = 1 by omega) with rfl | rfl | rfl <;> omega
theorem or_pow {S k : Nat} (hS : S < 4096) (hk : k ≤ 12) : bits .or .i64 (S : Int) (wrap64 ((2 : Int) ^ k)) = ((S ||| 2 ^ k : Nat) : Int) := by
  rw [wrap_pow (by omega)]
  have : 2 ^ k ≤ 2 ^ 12 := Nat.pow_le_pow_right (by omega) hk
  exact i64_or_nat _ _ (by omega) (by omega)
theorem still_of {P : Program} {f : Nat} {args : Array Value} {w : World} {v : Value} (h : Calls P f args w fun e w' => e = .returned v ∧ w = w') : Calls P f args w fun e w' => e = .returned v ∧ w' = w :=
  h.mono fun _ _ ⟨a, b⟩ => ⟨a, b.symm⟩

/-- a world in which a new pair of cells is written -/
theorem pair_back {w : World} {b : Nat} {x y u v : Value} (r0 : w.cell? ⟨b, 0, none⟩ = some u) (r1 : w.cell? ⟨b, 1, none⟩ = some v) :
    ((w.setCell ⟨b, 0, none⟩ x).setCell ⟨b, 1, none⟩ y).cell? ⟨b, 0, none⟩ = some x ∧ ((w.setCell ⟨b, 0, none⟩ x).setCell ⟨b, 1, none⟩ y).cell? ⟨b, 1, none⟩ = some y := by
  constructor
  · rw [World.cell?_setCell_other _ _ _ _ (by simp)]; exact World.cell?_setCell_same _ _ _ r0
  · refine World.cell?_setCell_same _ _ _ (u := v) ?_
    rw [World.cell?_setCell_other _ _ _ _ (by simp)]; exact r1
theorem emod_bd (x n : Int) (h : 1 ≤ n) : 0 ≤ x % n ∧ x % n < n := ⟨Int.emod_nonneg x (by omega), Int.emod_lt_of_pos x (by omega)⟩
set_option maxRecDepth 20000 in
theorem with_any (n s x : Int) (w : World) (g1 : 1 ≤ n) (g2 : n ≤ 12) (g3 : 0 ≤ s) (g4 : s < 4096) (h1 : -1000 ≤ x) (h2 : x ≤ 1000) :
    Calls Try.prog 75 #[.agg #[.int .i64 n, .int .i64 s], .int .i64 x] w fun e w' => e = .returned (.agg #[.int .i64 n, .int .i64 ((s.toNat ||| 2 ^ (x % n).toNat : Nat) : Int)]) ∧ Below w.heap.size w w' := by
  obtain ⟨S, rfl⟩ := Int.eq_ofNat_of_zero_le g3
  rw [Int.toNat_natCast]
  obtain ⟨m1, m2⟩ := emod_bd x n g1
  have HW := Lib.hid (or_pow (S := S) (k := (x % n).toNat) (by omega) (by omega))
  go_enter Try.func75, Try.ntmps75
  go_wp2
  have c0 : ((w.alloc (.cells #[.int .i64 n, .int .i64 S] 47)).alloc (.cells #[.int .i64 0, .int .i64 0] 47)).cell? ⟨w.heap.size, 0, none⟩ = some (.int .i64 n) := by go_simp
  have c1 : ((w.alloc (.cells #[.int .i64 n, .int .i64 S] 47)).alloc (.cells #[.int .i64 0, .int .i64 0] 47)).cell? ⟨w.heap.size, 1, none⟩ = some (.int .i64 S) := by go_simp
  have c2 : ((w.alloc (.cells #[.int .i64 n, .int .i64 S] 47)).alloc (.cells #[.int .i64 0, .int .i64 0] 47)).frozen? ⟨w.heap.size, 1, none⟩ = false := by go_simp
  have r0 : ((w.alloc (.cells #[.int .i64 n, .int .i64 S] 47)).alloc (.cells #[.int .i64 0, .int .i64 0] 47)).cell? ⟨w.heap.size + 1, 0, none⟩ = some (.int .i64 0) := by go_simp
  have r1 : ((w.alloc (.cells #[.int .i64 n, .int .i64 S] 47)).alloc (.cells #[.int .i64 0, .int .i64 0] 47)).cell? ⟨w.heap.size + 1, 1, none⟩ = some (.int .i64 0) := by go_simp
  have q0 : ((w.alloc (.cells #[.int .i64 n, .int .i64 S] 47)).alloc (.cells #[.int .i64 0, .int .i64 0] 47)).frozen? ⟨w.heap.size + 1, 0, none⟩ = false := by go_simp
  have q1 : ((w.alloc (.cells #[.int .i64 n, .int .i64 S] 47)).alloc (.cells #[.int .i64 0, .int .i64 0] 47)).frozen? ⟨w.heap.size + 1, 1, none⟩ = false := by go_simp
  have hbel : Below w.heap.size w ((w.alloc (.cells #[.int .i64 n, .int .i64 S] 47)).alloc (.cells #[.int .i64 0, .int .i64 0] 47)) := ((Below.refl _ _).alloc (Nat.le_refl _) _).alloc (by simp) _
  generalize (w.alloc (.cells #[.int .i64 n, .int .i64 S] 47)).alloc (.cells #[.int .i64 0, .int .i64 0] 47) = W at c0 c1 c2 r0 r1 q0 q1 hbel ⊢
  refine wp_region_still_tail 9 (by kernel_rfl) (by kernel_rfl) ?_
  simp only [List.take_succ_cons, List.take_zero, List.drop_succ_cons, List.drop_zero]
  still_step
  still_step
  still_step
  still_step
  still_step
  still_call (still_of (roundCircle_any _ _ _ (by omega) (by omega) (by omega) (by omega)))
  still_step
  still_step
  still_step
  refine wpStill_nil ?_
  change wpList _ _ _ _ _ W.drew
  go_wp2
  rw [HW.out]
  obtain ⟨e1, e2⟩ := pair_back (w := W.setCell ⟨w.heap.size, 1, none⟩ (.int .i64 ((S ||| 2 ^ (x % n).toNat : Nat) : Int))) (x := .int .i64 n) (y := .int .i64 ((S ||| 2 ^ (x % n).toNat : Nat) : Int)) ((World.cell?_setCell_other _ _ _ _ (by simp)).trans r0) ((World.cell?_setCell_other _ _ _ _ (by simp)).trans r1)
  refine bodyPost_ret (v := .agg #[.int .i64 n, .int .i64 ((S ||| 2 ^ (x % n).toNat : Nat) : Int)]) (by simp [results, Try.results75, go_sem, e1, e2]) rfl ⟨rfl, ?_⟩
  exact (((hbel.setCell (by simp) _).setCell (by simp) _).setCell (by simp) _).drew
set_option maxRecDepth 20000 in
theorem moved_any (n s way t : Int) (w : World) (hv : Tic.Valid n s) (h1 : -1 ≤ way) (h2 : way ≤ 1) (h3 : -50 ≤ t) (h4 : t ≤ 50) :
    Calls Try.prog 79 #[.agg #[.int .i64 n, .int .i64 s], .int .i64 way, .int .i64 t] w fun e w' => e = .returned (.agg #[.int .i64 n, .int .i64 (Tic.img (Tic.mvd n.toNat way t) s.toNat n.toNat : Int)]) ∧ Below w.heap.size w w' := by
  have hlt := hv.lt
  obtain ⟨g1, g2, g3, _⟩ := hv
  obtain ⟨N, rfl⟩ := Int.eq_ofNat_of_zero_le (show 0 ≤ n by omega)
  obtain ⟨S, rfl⟩ := Int.eq_ofNat_of_zero_le g3
  rw [Int.toNat_natCast, Int.toNat_natCast]
  go_enter Try.func79, Try.ntmps79
  go_wp2
  go_loopw [8, 14] (fun t8 t14 wr => ∃ k : Nat, k ≤ N ∧ t14 = .int .i64 k ∧
      wr.cell? ⟨w.heap.size, 0, none⟩ = some (.int .i64 N) ∧ wr.cell? ⟨w.heap.size, 1, none⟩ = some (.int .i64 S) ∧
      wr.cell? ⟨w.heap.size + 1, 0, none⟩ = some (.int .i64 0) ∧ wr.cell? ⟨w.heap.size + 1, 1, none⟩ = some (.int .i64 0) ∧
      wr.frozen? ⟨w.heap.size + 1, 0, none⟩ = false ∧ wr.frozen? ⟨w.heap.size + 1, 1, none⟩ = false ∧
      wr.cell? ⟨w.heap.size + 1 + 1, 0, none⟩ = some (.int .i64 N) ∧ wr.cell? ⟨w.heap.size + 1 + 1, 1, none⟩ = some (.int .i64 (Tic.img (Tic.mvd N way t) S k : Int)) ∧
      wr.frozen? ⟨w.heap.size + 1 + 1, 1, none⟩ = false ∧ wr.frozen? ⟨w.heap.size + 1 + 1, 0, none⟩ = false ∧
      w.heap.size + 1 + 1 < wr.heap.size ∧ Below w.heap.size w wr) (fun _ t14 _ => N - (intOf t14).toNat)
  case atStart =>
    refine ⟨0, Nat.zero_le _, rfl, ?_, ?_, ?_, ?_, ?_, ?_, ?_, ?_, ?_, ?_, ?_, ?_⟩
    all_goals first | exact (((Below.refl _ _).alloc (Nat.le_refl _) _).alloc (by simp) _).alloc (by simp; omega) _ | go_simp
    rfl
  case round =>
    obtain ⟨k, hk, rfl, a0, a1, r0, r1, q0, q1, b0, b1, p1, p2, hz, hbel⟩ := hrel
    by_cases hlt2 : k < N
    · cases hbit : S.testBit k with
      | false =>
        have HB := Lib.hid hbit
        clear hbit
        go_wp2_with fail
        refine (has_no _ _ S k _ rfl (by omega) (by omega) HB.out).mono ?_; rintro e w1 ⟨rfl, hb1⟩
        obtain ⟨hc, hf⟩ := bcell hb1
        have hz1 := hb1.size
        go_wp2
        go_roundw
        case rel =>
          refine ⟨k + 1, by omega, by go_num, ?_, ?_, ?_, ?_, ?_, ?_, ?_, ?_, ?_, ?_, ?_, ?_⟩
          all_goals first | (rw [hc _ _ (by omega)]; assumption) | (rw [hf _ _ (by omega)]; assumption) | omega | exact hbel.trans (hb1.mono (by omega)) | (rw [hc _ _ (by omega), Tic.img_no _ HB.out]; assumption)
        case measure => simp [intOf]; omega
      | true =>
        have HB := Lib.hid hbit
        clear hbit
        go_wp2_with fail
        refine (has_yes _ _ S k _ rfl (by omega) (by omega) HB.out).mono ?_; rintro e w1 ⟨rfl, hb1⟩
        obtain ⟨hc, hf⟩ := bcell hb1
        have hz1 := hb1.size
        go_wp2_with fail
        have d0 : w1.cell? ⟨w.heap.size, 0, none⟩ = some (.int .i64 N) := by rw [hc _ _ (by omega)]; exact a0
        have d1 : w1.cell? ⟨w.heap.size, 1, none⟩ = some (.int .i64 S) := by rw [hc _ _ (by omega)]; exact a1
        have e0 : w1.cell? ⟨w.heap.size + 1, 0, none⟩ = some (.int .i64 0) := by rw [hc _ _ (by omega)]; exact r0
        have e1 : w1.cell? ⟨w.heap.size + 1, 1, none⟩ = some (.int .i64 0) := by rw [hc _ _ (by omega)]; exact r1
        have g0 : w1.frozen? ⟨w.heap.size + 1, 0, none⟩ = false := by rw [hf _ _ (by omega)]; exact q0
        have g1 : w1.frozen? ⟨w.heap.size + 1, 1, none⟩ = false := by rw [hf _ _ (by omega)]; exact q1
        have l0 : w1.cell? ⟨w.heap.size + 1 + 1, 0, none⟩ = some (.int .i64 N) := by rw [hc _ _ (by omega)]; exact b0
        have l1 : w1.cell? ⟨w.heap.size + 1 + 1, 1, none⟩ = some (.int .i64 (Tic.img (Tic.mvd N way t) S k : Int)) := by rw [hc _ _ (by omega)]; exact b1
        have l2 : w1.frozen? ⟨w.heap.size + 1 + 1, 1, none⟩ = false := by rw [hf _ _ (by omega)]; exact p1
        have l3 : w1.frozen? ⟨w.heap.size + 1 + 1, 0, none⟩ = false := by rw [hf _ _ (by omega)]; exact p2
        have hbel1 : Below w.heap.size w w1 := hbel.trans (hb1.mono (by omega))
        have hz2 : w.heap.size + 1 + 1 < w1.heap.size := by omega
        clear hc hf hz1 hb1 a0 a1 r0 r1 q0 q1 b0 b1 p1 p2 hz hbel
        have hw1 := way_bd (k := k) h1 h2 (by omega)
        have hw2 := way_bd2 (k := k) h1 h2 (by omega)
        have hs1 := IntWalk.wrap64_in (way * k) (by omega)
        have hs2 := IntWalk.wrap64_in (t + way * k) (by omega)
        have hi1 : Tic.img (Tic.mvd N way t) S k < 4096 := by have := Tic.img_lt (Tic.mvd N way t) S 12 k (fun x _ => by have := Tic.mvd_lt (n := N) (by omega) way t x; omega); omega
        rw [hs1, hs2]
        clear hs1 hs2
        refine (with_any _ _ _ _ (by omega) (by omega) (by omega) (by omega) (by omega) (by omega)).mono ?_; rintro e w2 ⟨rfl, hb2⟩
        rw [Int.toNat_natCast, show Tic.img (Tic.mvd N way t) S k ||| 2 ^ ((t + way * k) % (N : Int)).toNat = Tic.img (Tic.mvd N way t) S (k + 1) from (Tic.img_yes _ HB.out).symm]
        obtain ⟨hc2, hf2⟩ := bcell hb2
        have s0 := (hc2 _ 0 (by omega)).trans d0
        have s1 := (hc2 _ 1 (by omega)).trans d1
        have t0 := (hc2 _ 0 (by omega)).trans e0
        have t1 := (hc2 _ 1 (by omega)).trans e1
        have u0 := (hf2 _ 0 (by omega)).trans g0
        have u1 := (hf2 _ 1 (by omega)).trans g1
        have v0 := (hc2 _ 0 (by omega)).trans l0
        have v1 := (hc2 _ 1 (by omega)).trans l1
        have v2 := (hf2 _ 1 (by omega)).trans l2
        have v3 := (hf2 _ 0 (by omega)).trans l3
        have hz3 := hb2.size
        have hbel2 := hbel1.trans (hb2.mono (by omega))
        clear hc2 hf2 d0 d1 e0 e1 g0 g1 l0 l1 l2 l3 hb2 hbel1
        go_wp2
        obtain ⟨y0, y1⟩ := pair_back (x := .int .i64 N) (y := .int .i64 (Tic.img (Tic.mvd N way t) S (k + 1) : Int)) v0 v1
        go_roundw
        case rel =>
          refine ⟨k + 1, by omega, by go_num, ?_, ?_, ?_, ?_, ?_, ?_, y0, y1, ?_, ?_, ?_, ?_⟩
          all_goals try simp only [World.frozen?_setCell]
          all_goals first | assumption | (rw [World.cell?_setCell_other _ _ _ _ (by simp), World.cell?_setCell_other _ _ _ _ (by simp)]; assumption) | exact (hbel2.setCell (by simp; omega) _).setCell (by simp; omega) _ | (simp; omega)
        case measure => simp [intOf]; omega
    · have : k = N := by omega
      subst this
      go_wp2
      refine bodyPost_ret (v := .agg #[.int .i64 k, .int .i64 (Tic.img (Tic.mvd k way t) S k : Int)]) ?_ rfl ⟨rfl, ?_⟩
      · have e1 := World.cell?_setCell_same wr ⟨w.heap.size + 1, 0, none⟩ (.int .i64 k) r0
        have e2 : ((wr.setCell ⟨w.heap.size + 1, 0, none⟩ (.int .i64 k)).setCell ⟨w.heap.size + 1, 1, none⟩ (.int .i64 (Tic.img (Tic.mvd k way t) S k : Int))).cell? ⟨w.heap.size + 1, 0, none⟩ = some (.int .i64 k) := by
          rw [World.cell?_setCell_other _ _ _ _ (by simp)]; exact e1
        have e3 : ((wr.setCell ⟨w.heap.size + 1, 0, none⟩ (.int .i64 k)).setCell ⟨w.heap.size + 1, 1, none⟩ (.int .i64 (Tic.img (Tic.mvd k way t) S k : Int))).cell? ⟨w.heap.size + 1, 1, none⟩ = some (.int .i64 (Tic.img (Tic.mvd k way t) S k : Int)) := by
          refine World.cell?_setCell_same _ _ _ (u := .int .i64 0) ?_
          rw [World.cell?_setCell_other _ _ _ _ (by simp)]; exact r1
        simp [results, Try.results79, go_sem, e2, e3]
      · exact (hbel.setCell (by simp) _).setCell (by simp) _
theorem tones_of (a b : Int) (w : World) : (Instr.field 47 (.agg #[.int .i64 a, .int .i64 b]) 1).run Try.prog w = .ok (.int .i64 b) w := by kernel_rfl
theorem mshift_any (n s t : Int) (w : World) (hv : Tic.Valid n s) (ht : Tic.Turn t) :
    Calls Try.prog 57 #[.agg #[.int .i64 n, .int .i64 s], .int .i64 t] w fun e w' => e = .returned (.agg #[.int .i64 n, .int .i64 (Tic.img (Tic.mvd n.toNat 1 t) s.toNat n.toNat : Int)]) ∧ Below w.heap.size w w' := by
  go_enter Try.func57, Try.ntmps57
  go_wp2_with fail
  refine (moved_any _ _ _ _ _ hv (by omega) (by omega) ht.1 ht.2).mono ?_; rintro e w1 ⟨rfl, hb⟩
  obtain ⟨hc, hf⟩ := bcell hb
  have r0 : w1.cell? ⟨w.heap.size + 1, 0, none⟩ = some (.int .i64 0) := by rw [hc _ _ (by simp)]; go_simp
  have r1 : w1.cell? ⟨w.heap.size + 1, 1, none⟩ = some (.int .i64 0) := by rw [hc _ _ (by simp)]; go_simp
  have q0 : w1.frozen? ⟨w.heap.size + 1, 0, none⟩ = false := by rw [hf _ _ (by simp)]; go_simp
  have q1 : w1.frozen? ⟨w.heap.size + 1, 1, none⟩ = false := by rw [hf _ _ (by simp)]; go_simp
  clear hc hf
  go_wp2_with fail
  obtain ⟨e1, e2⟩ := pair_back (x := .int .i64 n) (y := .int .i64 (Tic.img (Tic.mvd n.toNat 1 t) s.toNat n.toNat : Int)) r0 r1
  refine bodyPost_ret (v := .agg #[.int .i64 n, .int .i64 (Tic.img (Tic.mvd n.toNat 1 t) s.toNat n.toNat : Int)]) (by simp [results, Try.results57, go_sem, e1, e2]) rfl ⟨rfl, ?_⟩
  exact (((((Below.refl _ _).alloc (Nat.le_refl _) _).alloc (by simp) _).trans (hb.mono (by simp; omega))).setCell (by simp) _).setCell (by simp) _

end Go.Proofs.Ytjgkignnfkbeaaa

/-
  Slices of whole numbers that a call made: their rows, kept and written; the contracts of the laws' helpers eqIntS, markIntS, heldIntS.
-/
namespace Go.Proofs.Ytjgkignnfkbeaaa
open Go.RowKit
set_option linter.unusedVariables false

/-- the slice v, made from block B on, holds the numbers L -/
def Row (w : World) (B : Nat) (v : Value) (L : List Int) : Prop := w.ownsRow B 3 1 v L.length (L.map (Value.int .i64)) ∧ L.length ≤ 1048576

theorem Row.kept {w w' : World} {B : Nat} {v : Value} {L : List Int} (h : Row w B v L) (hb : Below w.heap.size w w') : Row w' B v L :=
  ⟨h.1.kept (row := none) ⟨hb.os, hb.tape, hb.output, hb.size, fun k hk _ => hb.block k hk⟩ (by cases v.ownBlock <;> simp), h.2⟩
theorem Row.mono {w : World} {B B' : Nat} {v : Value} {L : List Int} (h : Row w B v L) (hB : B' ≤ B) : Row w B' v L := by
  obtain ⟨⟨h1, h2⟩, h3⟩ := h
  refine ⟨⟨h1, ?_⟩, h3⟩
  rcases h2 with h2 | ⟨g, cap, cur, e, hg, r⟩
  · exact .inl h2
  · exact .inr ⟨g, cap, cur, e, by omega, r⟩
theorem Row.cases {w : World} {B : Nat} {v : Value} {L : List Int} (h : Row w B v L) : (v = .slice none 0 0 ∧ L = []) ∨
    ∃ g cap, v = .slice (some ⟨g, 0, none⟩) L.length cap ∧ B ≤ g ∧ g < w.heap.size ∧ (∀ i, i < L.length → w.cell? ⟨g, i, none⟩ = some (.int .i64 (L.getD i 0))) ∧ (∀ i, w.frozen? ⟨g, i, none⟩ = false) := by
  obtain ⟨h1, h3⟩ := h
  have h1' := h1
  rcases h1.2 with ⟨e, hn⟩ | ⟨g, cap, cur, e, hg, hh, r⟩
  · exact .inl ⟨e, List.eq_nil_of_length_eq_zero hn⟩
  · subst e
    refine .inr ⟨g, cap, rfl, hg, (Array.getElem?_eq_some_iff.1 hh).1, fun i hi => ?_, fun i => h1.frozenAt i⟩
    rw [h1.cellAt i (by omega), List.getElem?_map, List.getElem?_eq_getElem hi]
    simp [List.getD_eq_getElem?_getD, List.getElem?_eq_getElem hi]
theorem Row.set {w : World} {B g cap : Nat} {L : List Int} (h : Row w B (.slice (some ⟨g, 0, none⟩) L.length cap) L) (j : Nat) (x : Int) :
    Row (w.setCell ⟨g, j, none⟩ (.int .i64 x)) B (.slice (some ⟨g, 0, none⟩) L.length cap) (L.set j x) ∧ w.grownBy (w.setCell ⟨g, j, none⟩ (.int .i64 x)) (some g) := by
  obtain ⟨h1, h2⟩ := h.1.stored j (.int .i64 x)
  refine ⟨⟨?_, by simpa using h.2⟩, h2⟩
  rw [List.map_set, List.length_set]
  exact h1
theorem Row.far {w w' : World} {B : Nat} {v : Value} {L : List Int} (h : Row w B v L) {g : Nat} (hg : w.grownBy w' (some g)) (hB : ∀ k, v.ownBlock = some k → k < g) : Row w' B v L := by
  refine ⟨h.1.kept hg ?_, h.2⟩
  cases e : v.ownBlock with
  | none => exact .inl rfl
  | some k => right; intro e2; have := hB k e; injection e2 with e2; omega

set_option maxHeartbeats 400000 in
theorem eqIntS_same (v1 v2 : Value) (B1 B2 : Nat) (L : List Int) (w : World) (h1 : Row w B1 v1 L) (h2 : Row w B2 v2 L) :
    Calls Try.prog 36 #[v1, v2] w fun e w' => e = .returned (.bool true) ∧ Below w.heap.size w w' := by
  by_cases hL : L = []
  · subst hL
    rcases h1.cases with ⟨rfl, _⟩ | ⟨g1, c1, rfl, _⟩ <;> rcases h2.cases with ⟨rfl, _⟩ | ⟨g2, c2, rfl, _⟩
    all_goals
      go_enter Try.func36, Try.ntmps36
      go_wp2
      refine wp_loop_rounds 1 ?_
      rw [rounds_succ]
      go_wp2
      go_ret
      exact ⟨rfl, Below.refl _ _⟩
  · have hl : 0 < L.length := List.length_pos_iff.2 hL
    have hl2 := h1.2
    rcases h1.cases with ⟨_, e⟩ | ⟨g1, c1, rfl, _, hg1, hc1, _⟩
    · exact absurd e hL
    rcases h2.cases with ⟨_, e⟩ | ⟨g2, c2, rfl, _, hg2, hc2, _⟩
    · exact absurd e hL
    generalize hn : L.length = n at hl hl2 hc1 hc2
    have HC1 := Lib.hid hc1
    have HC2 := Lib.hid hc2
    clear hn hc1 hc2 h1 h2 hL
    go_enter Try.func36, Try.ntmps36
    go_wp2
    go_loopw [5] (fun t5 wr => ∃ k : Nat, k ≤ n ∧ t5 = .int .i64 k ∧ Below w.heap.size w wr) (fun t5 _ => n - (intOf t5).toNat)
    case atStart => exact ⟨0, Nat.zero_le _, rfl, Below.refl _ _⟩
    case round =>
      obtain ⟨k, hk, rfl, hbel⟩ := hrel
      by_cases hlt2 : k < n
      · have d1 := (hbel.cell (p := ⟨g1, k, none⟩) hg1).trans (HC1.out k hlt2)
        have d2 := (hbel.cell (p := ⟨g2, k, none⟩) hg2).trans (HC2.out k hlt2)
        have hi0 : (0 : Int) ≤ (k : Int) := by omega
        have hi1 : (k : Int) < (n : Int) := by omega
        go_wp2
        go_region
        all_goals
          go_wp2
          go_roundw
          case rel => exact ⟨k + 1, by omega, by go_num, hbel.drew⟩
          case measure => simp [intOf]; omega
      · have : k = n := by omega
        subst this
        go_wp2
        go_ret
        exact ⟨rfl, hbel⟩

theorem Row.low {w w' : World} {B B0 : Nat} {v : Value} {L : List Int} (h : Row w B0 v L) (hb : Below B w w') (hlt : ∀ k, v.ownBlock = some k → k < B) : Row w' B0 v L := by
  obtain ⟨⟨h1, h2⟩, h3⟩ := h
  refine ⟨⟨h1, ?_⟩, h3⟩
  rcases h2 with h2 | ⟨g, cap, cur, e, hg, hh, r⟩
  · exact .inl h2
  · subst e
    exact .inr ⟨g, cap, cur, rfl, hg, (hb.block g (hlt g rfl)).trans hh, r⟩
theorem Row.lt {w : World} {B : Nat} {v : Value} {L : List Int} (h : Row w B v L) : ∀ k, v.ownBlock = some k → B ≤ k ∧ k < w.heap.size := h.1.lt

/-- the first i numbers are q, q + 1, and so on -/
def markTo (q : Int) (L : List Int) : Nat → List Int
  | 0 => L
  | i + 1 => (markTo q L i).set i (q + i)
theorem markTo_length (q : Int) (L : List Int) : ∀ i, (markTo q L i).length = L.length
  | 0 => rfl
  | i + 1 => by unfold markTo; rw [List.length_set, markTo_length q L i]
theorem markTo_getD (q : Int) (L : List Int) : ∀ i, i ≤ L.length → ∀ j, j < i → (markTo q L i).getD j 0 = q + j
  | 0, _, j, h => by omega
  | i + 1, hi, j, h => by
    unfold markTo
    have hl := markTo_length q L i
    rw [List.getD_eq_getElem?_getD, List.getElem?_set]
    by_cases e : i = j
    · subst e; rw [if_pos rfl, if_pos (by omega)]; rfl
    · rw [if_neg e, ← List.getD_eq_getElem?_getD]; exact markTo_getD q L i (by omega) j (by omega)

def Marked (q : Int) (M : List Int) : Prop := ∀ j, j < M.length → M.getD j 0 = q + j
theorem marked_all (q : Int) (L : List Int) : Marked q (markTo q L L.length) := fun j hj => markTo_getD q L L.length (Nat.le_refl _) j (by rw [markTo_length] at hj; exact hj)

def Marks (B : Nat) (v : Value) (L : List Int) (q : Int) (w : World) (e : Ending) (w' : World) : Prop :=
  e = .returned (.int .i64 (q + L.length)) ∧ Row w' B v (markTo q L L.length) ∧ Below B w w'

theorem markIntS_any (v : Value) (B : Nat) (L : List Int) (q : Int) (w : World) (h1 : Row w B v L) (hB : B ≤ w.heap.size) (hq0 : 0 ≤ q) (hq1 : q ≤ 1000000) :
    Calls Try.prog 37 #[v, .int .i64 q] w (Marks B v L q w) := by
  have hl2 := h1.2
  rcases h1.cases with ⟨rfl, rfl⟩ | ⟨g1, c1, rfl, hBg, hg1, hc1, hf1⟩
  · go_enter Try.func37, Try.ntmps37
    go_wp2
    refine wp_loop_rounds 1 ?_
    rw [rounds_succ]
    go_wp2
    go_ret
    exact ⟨ret_int (by simp), h1, Below.refl _ _⟩
  · generalize hn : L.length = n at hl2 hc1 h1
    have HN := Lib.hid hn
    have HR : Hid (Row w B (.slice (some ⟨g1, 0, none⟩) n c1) L) := h1
    clear hn hc1 hf1 h1
    go_enter Try.func37, Try.ntmps37
    go_wp2
    go_loopw [1, 5] (fun t1 t5 wr => ∃ k : Nat, k ≤ n ∧ t5 = .int .i64 k ∧ t1 = .int .i64 (q + k) ∧ Hid (Row wr B (.slice (some ⟨g1, 0, none⟩) n c1) (markTo q L k)) ∧ Below B w wr) (fun _ t5 _ => n - (intOf t5).toNat)
    case atStart => exact ⟨0, Nat.zero_le _, rfl, by simp, HR, Below.refl _ _⟩
    case round =>
      obtain ⟨k, hk, rfl, rfl, HR2, hbel⟩ := hrel
      have hr : Row wr B (.slice (some ⟨g1, 0, none⟩) (markTo q L k).length c1) (markTo q L k) := by rw [markTo_length, HN.out]; exact HR2.out
      by_cases hlt2 : k < n
      · obtain ⟨d1, f1⟩ : (∃ u, wr.cell? ⟨g1, k, none⟩ = some u) ∧ wr.frozen? ⟨g1, k, none⟩ = false := by
          rcases hr.cases with ⟨e, _⟩ | ⟨g, c, e, _, _, hc, hf⟩
          · cases e
          · simp only [Value.slice.injEq, Option.some.injEq, Addr.mk.injEq, and_true, true_and] at e
            obtain ⟨rfl, rfl⟩ := e
            exact ⟨⟨_, hc k (by rw [markTo_length, HN.out]; exact hlt2)⟩, hf k⟩
        obtain ⟨u, d1⟩ := d1
        have hset := hr.set k (q + k)
        have HS : Hid (Row (wr.setCell ⟨g1, k, none⟩ (.int .i64 (q + k))) B (.slice (some ⟨g1, 0, none⟩) n c1) (markTo q L (k + 1))) := by
          have := hset.1
          rw [markTo_length, HN.out] at this
          exact this
        clear hr hset HR2
        go_wp2
        all_goals
          go_roundw
          case rel => exact ⟨k + 1, by omega, by go_num, by go_num, HS, hbel.setCell hBg _⟩
          case measure => simp [intOf]; omega
      · have : k = n := by omega
        subst this
        clear hr
        go_wp2
        go_ret
        refine ⟨ret_int (by rw [HN.out]), ?_, hbel⟩
        rw [HN.out]; exact HR2.out

theorem heldIntS_any (v : Value) (B : Nat) (M : List Int) (q : Int) (w : World) (h1 : Row w B v M) (hm : Marked q M) (hq0 : 0 ≤ q) (hq1 : q ≤ 1000000) :
    Calls Try.prog 38 #[v, .int .i64 q] w fun e w' => e = .returned (.int .i64 (q + M.length)) ∧ w = w' := by
  have hl2 := h1.2
  rcases h1.cases with ⟨rfl, rfl⟩ | ⟨g1, c1, rfl, hBg, hg1, hc1, hf1⟩
  · go_enter Try.func38, Try.ntmps38
    go_wp2
    refine wp_loop_rounds 1 ?_
    rw [rounds_succ]
    go_wp2
    go_ret
    exact ⟨ret_int (by simp), rfl⟩
  · generalize hn : M.length = n at hl2 hc1
    have HC : Hid (∀ j, j < n → w.cell? ⟨g1, j, none⟩ = some (.int .i64 (q + j))) := fun j hj => by rw [hc1 j hj, hm j (by omega)]
    clear hn hc1 hf1 h1 hm
    go_enter Try.func38, Try.ntmps38
    go_wp2
    go_loop [1, 5] (fun t1 t5 => ∃ k : Nat, k ≤ n ∧ t5 = .int .i64 k ∧ t1 = .int .i64 (q + k)) (fun _ t5 => n - (intOf t5).toNat)
    case atStart => exact ⟨0, Nat.zero_le _, rfl, by simp⟩
    case round =>
      obtain ⟨k, hk, rfl, rfl⟩ := hrel
      by_cases hlt2 : k < n
      · have d1 := HC.out k hlt2
        go_wp2
        go_round
        case rel => exact ⟨k + 1, by omega, by go_num, by go_num⟩
        case measure => simp [intOf]; omega
      · have : k = n := by omega
        subst this
        go_wp2
        go_ret
        exact ⟨rfl, rfl⟩
theorem held_marked (v : Value) (B : Nat) (L : List Int) (q : Int) (w : World) (h1 : Row w B v (markTo q L L.length)) (hq0 : 0 ≤ q) (hq1 : q ≤ 1000000) :
    Calls Try.prog 38 #[v, .int .i64 q] w fun e w' => e = .returned (.int .i64 (q + L.length)) ∧ w = w' :=
  (heldIntS_any v B _ q w h1 (marked_all q L) hq0 hq1).mono fun e w' ⟨h1, h2⟩ => ⟨h1.trans (ret_int (by rw [markTo_length])), h2⟩
end Go.Proofs.Ytjgkignnfkbeaaa

/-
  Contracts of TonesOf, of the program and of the model.
-/
namespace Go.Proofs.Ytjgkignnfkbeaaa
open Go.RowKit
set_option linter.unusedVariables false

theorem info_int : (Try.prog.info? 3).map (fun i => (i.zero, i.size, i.bytes)) = some (some (.int .i64 0), 1, 8) := by kernel_rfl

/-- the tones of s below k, ascending -/
def tonesTo (s : Nat) : Nat → List Int
  | 0 => []
  | k + 1 => if s.testBit k then tonesTo s k ++ [(k : Int)] else tonesTo s k
theorem tonesTo_le (s : Nat) : ∀ k, (tonesTo s k).length ≤ k
  | 0 => Nat.le_refl _
  | k + 1 => by unfold tonesTo; have := tonesTo_le s k; split <;> simp <;> omega
theorem tonesTo_yes {s k : Nat} (h : s.testBit k = true) : tonesTo s (k + 1) = tonesTo s k ++ [(k : Int)] := by conv => lhs; unfold tonesTo; rw [if_pos h]
theorem tonesTo_no {s k : Nat} (h : s.testBit k = false) : tonesTo s (k + 1) = tonesTo s k := by conv => lhs; unfold tonesTo; rw [if_neg (by simp [h])]

/-- a fresh slice of the numbers L; nothing that was there is written -/
def Gives (L : List Int) (w : World) (e : Ending) (w' : World) : Prop := ∃ v, e = .returned v ∧ Row w' w.heap.size v L ∧ Below w.heap.size w w'

theorem Row.alloc {w : World} {B : Nat} {v : Value} {L : List Int} (h : Row w B v L) (o : Obj) : Row (w.alloc o) B v L := ⟨h.1.alloc o, h.2⟩

theorem Row.mono2 {w : World} {B B' : Nat} {v : Value} {L : List Int} (h : Row w B v L) (hB : ∀ b, v.ownBlock = some b → B' ≤ b) : Row w B' v L := by
  obtain ⟨⟨h1, h2⟩, h3⟩ := h
  refine ⟨⟨h1, ?_⟩, h3⟩
  rcases h2 with h2 | ⟨g, cap, cur, e, hg, r⟩
  · exact .inl h2
  · exact .inr ⟨g, cap, cur, e, hB g (by rw [e]; rfl), r⟩

theorem wpList_append_int {ops : Array Oper} {rest : List Oper} {o : Oper} {a : Act} {Q : Exit → Act → World → Prop} {w : World} (hgd : o.guard = none) (s x : Operand)
    (ho : o.op = .call { callee := .builtin .append, args := #[s, x], argTypes := #[25, 25] })
    (B : Nat) (v : Value) (L : List Int) (hs : a.eval s = v) (hrow : Row w B v L) (g c : Nat) (y : Int) (hx : a.eval x = .slice (some ⟨g, 0, none⟩) 1 c)
    (hc : w.cell? ⟨g, 0, none⟩ = some (.int .i64 y)) (hlen : L.length < 4096) (hB : B ≤ w.heap.size)
    (h : ∀ v' w', Row w' B v' (L ++ [y]) → Below B w w' → wpList Try.prog ops Q rest (a.put o.dst v') w') : wpList Try.prog ops Q (o :: rest) a w := by
  obtain ⟨i0, hi, hz0, hz1, hz2⟩ := info_parts info_int
  refine wpList_append_own w hgd s x 25 ho B 3 i0 (.int .i64 0) 1 8 Try.underlying25 hi hz0 hz1 hz2 rfl (by decide) v L.length _ hs hrow.1 ⟨g, 0, none⟩ 1 c [.int .i64 y] hx rfl ?_ ?_ ?_ ?_ hB ?_
  · intro j u hj
    match j, hj with
    | 0, hj => simp at hj; subst hj; simpa [Addr.add] using hc
  · intro u hu; simp at hu; subst hu; rfl
  · unfold maxLen; omega
  · omega
  · intro v' w' hown hg _
    refine h v' w' ⟨?_, by simp; omega⟩ ((Below.refl B w).grown hg hB fun k hk => (hrow.lt k hk).1)
    rw [List.map_append, List.length_append]
    exact hown

/-- .. telling also which block is written: the row's own, or a new one -/
theorem wpList_append_row {ops : Array Oper} {rest : List Oper} {o : Oper} {a : Act} {Q : Exit → Act → World → Prop} {w : World} (hgd : o.guard = none) (s x : Operand)
    (ho : o.op = .call { callee := .builtin .append, args := #[s, x], argTypes := #[25, 25] })
    (B : Nat) (v : Value) (L : List Int) (hs : a.eval s = v) (hrow : Row w B v L) (g c : Nat) (y : Int) (hx : a.eval x = .slice (some ⟨g, 0, none⟩) 1 c)
    (hc : w.cell? ⟨g, 0, none⟩ = some (.int .i64 y)) (hlen : L.length < 4096) (hB : B ≤ w.heap.size)
    (h : ∀ v' w', Row w' B v' (L ++ [y]) → Below B w w' → w.grownBy w' v.ownBlock → (v'.ownBlock = v.ownBlock ∨ v'.ownBlock = some w.heap.size) → wpList Try.prog ops Q rest (a.put o.dst v') w') : wpList Try.prog ops Q (o :: rest) a w := by
  obtain ⟨i0, hi, hz0, hz1, hz2⟩ := info_parts info_int
  refine wpList_append_own_at w hgd s x 25 ho B 3 i0 (.int .i64 0) 1 8 Try.underlying25 hi hz0 hz1 hz2 rfl (by decide) v L.length _ hs hrow.1 ⟨g, 0, none⟩ 1 c [.int .i64 y] hx rfl ?_ ?_ ?_ ?_ hB ?_
  · intro j u hj
    match j, hj with
    | 0, hj => simp at hj; subst hj; simpa [Addr.add] using hc
  · intro u hu; simp at hu; subst hu; rfl
  · unfold maxLen; omega
  · omega
  · intro v' w' hown hg _ hv
    refine h v' w' ⟨?_, by simp; omega⟩ ((Below.refl B w).grown hg hB fun k hk => (hrow.lt k hk).1) hg hv
    rw [List.map_append, List.length_append]
    exact hown

set_option maxHeartbeats 400000 in
theorem stones_any (n s : Int) (w : World) (hv : Tic.Valid n s) :
    Calls Try.prog 46 #[.int .i64 n, .int .i64 s] w (Gives (tonesTo s.toNat n.toNat) w) := by
  have hlt := hv.lt
  obtain ⟨g1, g2, g3, _⟩ := hv
  obtain ⟨N, rfl⟩ := Int.eq_ofNat_of_zero_le (show 0 ≤ n by omega)
  obtain ⟨S, rfl⟩ := Int.eq_ofNat_of_zero_le g3
  rw [Int.toNat_natCast, Int.toNat_natCast]
  go_enter Try.func46, Try.ntmps46
  go_wp2
  go_loopw [5, 6] (fun t5 t6 wr => ∃ k : Nat, k ≤ N ∧ t6 = .int .i64 k ∧ Hid (Row wr w.heap.size t5 (tonesTo S k)) ∧ Below w.heap.size w wr) (fun _ t6 _ => N - (intOf t6).toNat)
  case atStart => exact ⟨0, Nat.zero_le _, rfl, ⟨World.ownsRow_made w #[] 0 (Nat.le_refl _) (by decide) rfl, Nat.zero_le _⟩, (Below.refl _ _).alloc (Nat.le_refl _) _⟩
  case round =>
    obtain ⟨k, hk, rfl, HR, hbel⟩ := hrel
    have hl := tonesTo_le S k
    have hs := hbel.size
    by_cases hlt2 : k < N
    · cases hbit : S.testBit k with
      | false =>
        have HB := Lib.hid hbit
        clear hbit
        go_wp2_with fail
        refine (bit_no _ _ S k _ rfl (by omega) rfl (by omega) HB.out).mono ?_; rintro e w1 ⟨rfl, rfl⟩
        go_wp2
        go_roundw
        case rel => exact ⟨k + 1, by omega, by go_num, by rw [tonesTo_no HB.out]; exact HR, hbel⟩
        case measure => simp [intOf]; omega
      | true =>
        have HB := Lib.hid hbit
        clear hbit
        go_wp2_with fail
        refine (bit_yes _ _ S k _ rfl (by omega) rfl (by omega) HB.out).mono ?_; rintro e w1 ⟨rfl, rfl⟩
        go_wp2_with (at_builtin; refine wpList_append_int rfl _ _ rfl w.heap.size _ (tonesTo S k) rfl (HR.out.alloc _) wr.heap.size 1 k rfl ?c1 ?c2 ?c3 ?_)
        case c1 => go_simp
        case c2 => omega
        case c3 => simp; omega
        intro v' w1 hrow hb1
        have HR1 := Lib.hid hrow
        clear hrow
        go_wp2
        go_roundw
        case rel => exact ⟨k + 1, by omega, by go_num, by rw [tonesTo_yes HB.out]; exact HR1, (hbel.alloc hs _).trans hb1⟩
        case measure => simp [intOf]; omega
    · have : k = N := by omega
      subst this
      go_wp2
      go_ret
      exact ⟨_, rfl, HR, hbel⟩


theorem Row.nil (w : World) (B : Nat) : Row w B (.slice none 0 0) [] := ⟨World.ownsRow_nil _ _ _ _, Nat.zero_le _⟩

set_option maxHeartbeats 400000 in
theorem list_any (n s : Int) (w : World) (hv : Tic.Valid n s) :
    Calls Try.prog 47 #[.agg #[.int .i64 n, .int .i64 s]] w (Gives (tonesTo s.toNat n.toNat) w) := by
  have hlt := hv.lt
  obtain ⟨g1, g2, g3, _⟩ := hv
  obtain ⟨N, rfl⟩ := Int.eq_ofNat_of_zero_le (show 0 ≤ n by omega)
  obtain ⟨S, rfl⟩ := Int.eq_ofNat_of_zero_le g3
  rw [Int.toNat_natCast, Int.toNat_natCast]
  go_enter Try.func47, Try.ntmps47
  go_wp2
  go_loopw [3, 4, 7] (fun t3 t4 t7 wr => ∃ k : Nat, k ≤ N ∧ t7 = .int .i64 k ∧ Hid (Row wr w.heap.size t3 (tonesTo S k)) ∧
    wr.cell? ⟨w.heap.size, 0, none⟩ = some (.int .i64 N) ∧ wr.cell? ⟨w.heap.size, 1, none⟩ = some (.int .i64 S) ∧ w.heap.size < wr.heap.size ∧ Hid (∀ b, t3.ownBlock = some b → w.heap.size < b) ∧ Below w.heap.size w wr) (fun _ _ t7 _ => N - (intOf t7).toNat)
  case atStart =>
    refine ⟨0, Nat.zero_le _, rfl, Row.nil _ _, ?_, ?_, ?_, ?_, (Below.refl _ _).alloc (Nat.le_refl _) _⟩
    · go_simp
    · go_simp
    · simp
    · intro b hb; cases hb
  case round =>
    obtain ⟨k, hk, rfl, HR, a0, a1, hz, HO, hbel⟩ := hrel
    have hl := tonesTo_le S k
    by_cases hlt2 : k < N
    · cases hbit : S.testBit k with
      | false =>
        have HB := Lib.hid hbit
        clear hbit
        go_wp2_with fail
        refine (has_no _ _ S k _ rfl (by omega) (by omega) HB.out).mono ?_; rintro e w1 ⟨rfl, hb1⟩
        have d0 := (hb1.cell (p := ⟨w.heap.size, 0, none⟩) hz).trans a0
        have d1 := (hb1.cell (p := ⟨w.heap.size, 1, none⟩) hz).trans a1
        have HR1 := Lib.hid (HR.out.kept hb1)
        have hz1 := hb1.size
        have hbel1 := hbel.trans (hb1.mono (by omega))
        clear a0 a1 hb1
        go_wp2
        go_roundw
        case rel => exact ⟨k + 1, by omega, by go_num, by rw [tonesTo_no HB.out]; exact HR1, d0, d1, by omega, HO, hbel1⟩
        case measure => simp [intOf]; omega
      | true =>
        have HB := Lib.hid hbit
        clear hbit
        go_wp2_with fail
        refine (has_yes _ _ S k _ rfl (by omega) (by omega) HB.out).mono ?_; rintro e w1 ⟨rfl, hb1⟩
        have d0 := (hb1.cell (p := ⟨w.heap.size, 0, none⟩) hz).trans a0
        have d1 := (hb1.cell (p := ⟨w.heap.size, 1, none⟩) hz).trans a1
        have HR1 := Lib.hid ((HR.out.kept hb1).mono2 (B' := w.heap.size + 1) HO.out)
        have hz1 := hb1.size
        have hbel1 := hbel.trans (hb1.mono (by omega))
        clear a0 a1 hb1
        go_wp2_with (at_builtin; refine wpList_append_int rfl _ _ rfl (w.heap.size + 1) _ (tonesTo S k) rfl (HR1.out.alloc _) w1.heap.size 1 k rfl ?c1 ?c2 ?c3 ?_)
        case c1 => go_simp
        case c2 => omega
        case c3 => simp; omega
        intro v' w2 hrow hb1
        have hs1 := hbel1.size
        have HO2 : Hid (∀ b, v'.ownBlock = some b → w.heap.size < b) := fun b hb => (hrow.lt b hb).1
        have HR2 := Lib.hid (hrow.mono (B' := w.heap.size) (by omega))
        clear hrow
        have hz2 := hb1.size
        simp at hz2
        have hbX : Below (w.heap.size + 1) w1 w2 := ((Below.refl (w.heap.size + 1) w1).alloc (by omega) _).trans hb1
        have x0 := (hbX.cell (p := ⟨w.heap.size, 0, none⟩) (by simp)).trans d0
        have x1 := (hbX.cell (p := ⟨w.heap.size, 1, none⟩) (by simp)).trans d1
        have hbel2 : Below w.heap.size w w2 := hbel1.trans (hbX.mono (by omega))
        clear d0 d1 hb1 hbX
        go_wp2
        go_roundw
        case rel => exact ⟨k + 1, by omega, by go_num, by rw [tonesTo_yes HB.out]; exact HR2, x0, x1, by omega, HO2, hbel2⟩
        case measure => simp [intOf]; omega
    · have : k = N := by omega
      subst this
      go_wp2
      go_ret
      exact ⟨_, rfl, HR, hbel⟩


theorem iTonesOf_yes (n s : Int) (w : World) (hv : Tic.Valid n s) :
    Calls Try.prog 16 #[.int .i64 n, .int .i64 s] w (Gives (tonesTo s.toNat n.toNat) w) := by
  go_enter Try.func16, Try.ntmps16
  go_wp2_with fail
  refine (implValid_yes _ _ _ hv).mono ?_; rintro e w1 ⟨rfl, rfl⟩
  go_wp2_with fail
  refine (list_any _ _ _ hv).mono ?_; rintro e w1 ⟨v, rfl, hr, hb⟩
  go_wp2_with fail
  go_ret
  exact ⟨v, rfl, hr, hb⟩
theorem iTonesOf_no (n s : Int) (w : World) (hv : ¬ Tic.Valid n s) :
    Calls Try.prog 16 #[.int .i64 n, .int .i64 s] w (Gives [] w) := by
  go_enter Try.func16, Try.ntmps16
  go_wp2_with fail
  refine (implValid_no _ _ _ hv).mono ?_; rintro e w1 ⟨rfl, rfl⟩
  go_wp2_with fail
  go_ret
  exact ⟨_, rfl, Row.nil _ _, Below.refl _ _⟩

theorem set_far {w : World} {a b : Addr} {v : Value} (h : a.block ≠ b.block) : (w.setCell a v).cell? b = w.cell? b := World.cell?_setCell_other _ _ _ _ (fun e => h (by rw [e]))
theorem Row.shape {w : World} {B g n cap : Nat} {L : List Int} (h : Row w B (.slice (some ⟨g, 0, none⟩) n cap) L) : L.length = n ∧ B ≤ g ∧ g < w.heap.size ∧ (∀ i, i < n → w.cell? ⟨g, i, none⟩ = some (.int .i64 (L.getD i 0))) ∧ (∀ i, w.frozen? ⟨g, i, none⟩ = false) := by
  rcases h.cases with ⟨e, _⟩ | ⟨g', c', e, hB, hg, hc, hf⟩
  · cases e
  · simp only [Value.slice.injEq, Option.some.injEq, Addr.mk.injEq, and_true] at e
    obtain ⟨rfl, rfl, rfl⟩ := e
    exact ⟨rfl, hB, hg, hc, hf⟩
theorem Row.capge {w : World} {B g n cap : Nat} {L : List Int} (h : Row w B (.slice (some ⟨g, 0, none⟩) n cap) L) : n ≤ cap ∧ cap ≤ maxLen := by
  rcases h.1.2 with ⟨e, _⟩ | ⟨g', c', cur, e, _, _, h1, h2, _⟩
  · cases e
  · simp only [Value.slice.injEq, Option.some.injEq, Addr.mk.injEq, and_true] at e
    obtain ⟨rfl, rfl, rfl⟩ := e
    exact ⟨h1, h2⟩
theorem tonesTo_at (S : Nat) : ∀ N i, i < (tonesTo S N).length → ∃ y, y < N ∧ S.testBit y = true ∧ (tonesTo S N).getD i 0 = (y : Int) ∧ (tonesTo S y).length = i
  | 0, i, h => by simp [tonesTo] at h
  | N + 1, i, h => by
    cases hb : S.testBit N with
    | false =>
      rw [tonesTo_no hb] at h ⊢
      obtain ⟨y, h1, h2⟩ := tonesTo_at S N i h
      exact ⟨y, by omega, h2⟩
    | true =>
      rw [tonesTo_yes hb] at h ⊢
      by_cases hi : i < (tonesTo S N).length
      · obtain ⟨y, h1, h2, h3, h4⟩ := tonesTo_at S N i hi
        refine ⟨y, by omega, h2, ?_, h4⟩
        rw [List.getD_eq_getElem?_getD, List.getElem?_append_left hi, ← List.getD_eq_getElem?_getD]
        exact h3
      · have : i = (tonesTo S N).length := by simp at h; omega
        subst this
        exact ⟨N, by omega, hb, by simp [List.getD_eq_getElem?_getD], rfl⟩
theorem tonesTo_mono (S a : Nat) : ∀ b, a ≤ b → (tonesTo S a).length ≤ (tonesTo S b).length
  | 0, h => by rw [Nat.le_zero.1 h]; exact Nat.le_refl _
  | b + 1, h => by
    by_cases e : a = b + 1
    · rw [e]; exact Nat.le_refl _
    · have := tonesTo_mono S a b (by omega)
      cases hb : S.testBit b with
      | false => rw [tonesTo_no hb]; exact this
      | true => rw [tonesTo_yes hb]; simp; omega
theorem tonesTo_next {S y : Nat} (h : S.testBit y = true) : (tonesTo S (y + 1)).length = (tonesTo S y).length + 1 := by rw [tonesTo_yes h]; simp

end Go.Proofs.Ytjgkignnfkbeaaa

/-
  Lists of whole numbers that came in, and their copies.
-/
namespace Go.Proofs.Ytjgkignnfkbeaaa
open Go.RowKit
set_option linter.unusedVariables false

/-- what came in as a list of numbers -/
def Came (w : World) (v : Value) (L : List Int) : Prop := ∃ p m, v = .slice p L.length m ∧ L.length ≤ m ∧ m ≤ maxLen ∧
  (L.length = 0 ∨ ∃ b o, p = some ⟨b, o, none⟩ ∧ b < w.heap.size ∧ ∀ i, i < L.length → w.cell? ⟨b, o + i, none⟩ = some (.int .i64 (L.getD i 0)))
theorem Came.kept {w w' : World} {v : Value} {L : List Int} (h : Came w v L) (hb : Below w.heap.size w w') : Came w' v L := by
  obtain ⟨p, m, e, h1, h2, h3⟩ := h
  refine ⟨p, m, e, h1, h2, ?_⟩
  rcases h3 with h3 | ⟨b, o, e2, h4, h5⟩
  · exact .inl h3
  · exact .inr ⟨b, o, e2, Nat.lt_of_lt_of_le h4 hb.size, fun i hi => (hb.cell (p := ⟨b, o + i, none⟩) h4).trans (h5 i hi)⟩
theorem came_nil (w : World) : Came w (.slice none 0 0) [] := ⟨none, 0, rfl, Nat.le_refl _, Nat.zero_le _, .inl rfl⟩
theorem came_row {w : World} {x : Addr} {len cap : Nat} {z : List Int} (hl : len ≤ cap) (hm : cap ≤ maxLen) (hz : z.length = cap) (hcell : ∀ i, i < z.length → w.cell? (x.add i) = some (.int .i64 (z.getD i 0))) : Came w (.slice (some x) len cap) (z.take len) := by
  have hlen : (z.take len).length = len := by rw [List.length_take]; omega
  refine ⟨some x, cap, by rw [hlen], by omega, hm, ?_⟩
  by_cases h0 : len = 0
  · exact .inl (by omega)
  · obtain ⟨b, off, spot⟩ := x
    have hc := hcell 0 (by omega)
    have hspot : spot = none := by simpa [Addr.add] using World.cell?_spot hc
    subst hspot
    have hb : b < w.heap.size := by simpa [Addr.add] using World.block_lt_of_cell? w _ hc
    refine .inr ⟨b, off, rfl, hb, fun i hi => ?_⟩
    have h1 := (show (⟨b, off + i, none⟩ : Addr) = (⟨b, off, none⟩ : Addr).add i by unfold Addr.add; split <;> simp_all) ▸ hcell i (by omega)
    rw [h1]
    rw [List.getD_eq_getElem?_getD, List.getD_eq_getElem?_getD, List.getElem?_take_of_lt (by omega)]

/-- numbers as a list of n -/
def zeros (n : Nat) : List Int := List.replicate n 0
/-- a list whose first k are those of L, and the others 0 -/
def part (L : List Int) (k : Nat) : List Int := L.take k ++ zeros (L.length - k)
theorem part_length (L : List Int) {k : Nat} (h : k ≤ L.length) : (part L k).length = L.length := by simp [part, zeros]; omega
theorem part_all (L : List Int) : part L L.length = L := by simp [part, zeros]
theorem part_set {L : List Int} {k : Nat} (h : k < L.length) : (part L k).set k (L.getD k 0) = part L (k + 1) := by
  have hk : (L.take k).length = k := by rw [List.length_take]; omega
  unfold part zeros
  rw [List.set_append_right _ _ (by omega), hk, Nat.sub_self]
  rw [show L.length - k = (L.length - (k + 1)) + 1 by omega, List.replicate_succ, List.set_cons_zero]
  rw [List.take_succ_eq_append_getElem h, List.append_assoc]
  simp [List.getD_eq_getElem?_getD, List.getElem?_eq_getElem h]

theorem wpList_make_zeros {ops : Array Oper} {rest : List Oper} {o : Oper} {a : Act} {Q : Exit → Act → World → Prop} {w : World} (hg : o.guard = none) (l c : Operand) (hop : o.op = Op.makeSlice 25 l c)
    (B : Nat) (X Y : Int) (m : Nat) (hl : a.eval l = .int .i64 X) (hc : a.eval c = .int .i64 Y) (hX : X = (m : Int)) (hY : Y = (m : Int)) (hm : m ≤ 1048576) (hB : B ≤ w.heap.size)
    (hK : ∀ w', Row w' B (.slice (some ⟨w.heap.size, 0, none⟩) m m) (zeros m) → Below w.heap.size w w' → wpList Try.prog ops Q rest (a.put o.dst (.slice (some ⟨w.heap.size, 0, none⟩) m m)) w') :
    wpList Try.prog ops Q (o :: rest) a w := by
  obtain ⟨i0, hi, hz0, hz1, hz2⟩ := info_parts info_int
  refine wpList_make_full w hg l c 25 hop B 3 i0 (.int .i64 0) 1 Try.underlying25 hi hz0 hz1 .i64 .i64 X Y m hl hc hX hY (by rw [hz2]; omega) (by unfold maxLen; omega) hB ?_
  intro w' hown hgr
  refine hK w' ⟨?_, by simp [zeros]; exact hm⟩ ((Below.refl _ _).grown hgr (Nat.le_refl _) (fun k hk => by cases hk))
  rw [show (zeros m).length = m by simp [zeros], show (zeros m).map (Value.int .i64) = List.replicate m (Value.int .i64 0) by simp [zeros]]
  have : (madeCells (Value.int .i64 0).cells (m * 1)).toList = List.replicate m (Value.int .i64 0) := by
    rw [Nat.mul_one]; exact toList_madeCells_one _ _
  rw [this] at hown
  exact hown

theorem grownBy_set {w v : World} {g : Nat} (h : w.grownBy v (some g)) (j : Nat) (u : Value) : w.grownBy (v.setCell ⟨g, j, none⟩ u) (some g) :=
  ⟨h.os, h.tape, h.output, by simpa using h.size, fun k hk hne => (Below.heap_setCell v ⟨g, j, none⟩ u k (fun e => hne (by rw [e]))).trans (h.block k hk hne)⟩
theorem Row.besides {w w' : World} {B : Nat} {v : Value} {L : List Int} (h : Row w B v L) {row : Option Nat} (hg : w.grownBy w' row) (hB : ∀ k, v.ownBlock = some k → row ≠ some k) : Row w' B v L := by
  refine ⟨h.1.kept hg ?_, h.2⟩
  cases e : v.ownBlock with
  | none => exact .inl rfl
  | some k => right; intro e2; exact hB k e e2.symm
/-- markIntS writes no other block -/
theorem markIntS_only (v : Value) (B : Nat) (L : List Int) (q : Int) (w : World) (h1 : Row w B v L) (hq0 : 0 ≤ q) (hq1 : q ≤ 1000000) :
    Calls Try.prog 37 #[v, .int .i64 q] w fun e w' => e = .returned (.int .i64 (q + L.length)) ∧ w.grownBy w' v.ownBlock := by
  have hl2 := h1.2
  rcases h1.cases with ⟨rfl, rfl⟩ | ⟨g1, c1, rfl, hBg, hg1, hc1, hf1⟩
  · go_enter Try.func37, Try.ntmps37
    go_wp2
    refine wp_loop_rounds 1 ?_
    rw [rounds_succ]
    go_wp2
    go_ret
    exact ⟨ret_int (by simp), ⟨rfl, rfl, rfl, Nat.le_refl _, fun _ _ _ => rfl⟩⟩
  · generalize hn : L.length = n at hl2 hc1 h1
    have HN := Lib.hid hn
    have HR : Hid (Row w B (.slice (some ⟨g1, 0, none⟩) n c1) L) := h1
    clear hn hc1 hf1 h1
    go_enter Try.func37, Try.ntmps37
    go_wp2
    go_loopw [1, 5] (fun t1 t5 wr => ∃ k : Nat, k ≤ n ∧ t5 = .int .i64 k ∧ t1 = .int .i64 (q + k) ∧ Hid (Row wr B (.slice (some ⟨g1, 0, none⟩) n c1) (markTo q L k)) ∧ Hid (w.grownBy wr (some g1))) (fun _ t5 _ => n - (intOf t5).toNat)
    case atStart => exact ⟨0, Nat.zero_le _, rfl, by simp, HR, Lib.hid ⟨rfl, rfl, rfl, Nat.le_refl _, fun _ _ _ => rfl⟩⟩
    case round =>
      obtain ⟨k, hk, rfl, rfl, HR2, hbel⟩ := hrel
      have hr : Row wr B (.slice (some ⟨g1, 0, none⟩) (markTo q L k).length c1) (markTo q L k) := by rw [markTo_length, HN.out]; exact HR2.out
      by_cases hlt2 : k < n
      · obtain ⟨d1, f1⟩ : (∃ u, wr.cell? ⟨g1, k, none⟩ = some u) ∧ wr.frozen? ⟨g1, k, none⟩ = false := by
          rcases hr.cases with ⟨e, _⟩ | ⟨g, c, e, _, _, hc, hf⟩
          · cases e
          · simp only [Value.slice.injEq, Option.some.injEq, Addr.mk.injEq, and_true, true_and] at e
            obtain ⟨rfl, rfl⟩ := e
            exact ⟨⟨_, hc k (by rw [markTo_length, HN.out]; exact hlt2)⟩, hf k⟩
        obtain ⟨u, d1⟩ := d1
        have hset := hr.set k (q + k)
        have HS : Hid (Row (wr.setCell ⟨g1, k, none⟩ (.int .i64 (q + k))) B (.slice (some ⟨g1, 0, none⟩) n c1) (markTo q L (k + 1))) := by
          have := hset.1
          rw [markTo_length, HN.out] at this
          exact this
        have HG := Lib.hid (grownBy_set hbel.out k (.int .i64 (q + k)))
        clear hr hset HR2 hbel
        go_wp2
        all_goals
          go_roundw
          case rel => exact ⟨k + 1, by omega, by go_num, by go_num, HS, HG⟩
          case measure => simp [intOf]; omega
      · have : k = n := by omega
        subst this
        clear hr
        go_wp2
        go_ret
        exact ⟨rfl, hbel.out⟩
end Go.Proofs.Ytjgkignnfkbeaaa

/-
  Cells written into a row's block, and rows told by their block.
-/
namespace Go.Proofs.Ytjgkignnfkbeaaa
open Go.RowKit
set_option linter.unusedVariables false

/-- an array in which some values are written from o on -/
def putA (cur : Array Value) : Nat → List Value → Array Value
  | _, [] => cur
  | o, v :: r => putA (cur.setIfInBounds o v) (o + 1) r
theorem putA_size : ∀ (vs : List Value) (cur : Array Value) (o : Nat), (putA cur o vs).size = cur.size
  | [], _, _ => rfl
  | v :: r, cur, o => by unfold putA; rw [putA_size r]; simp
theorem putA_at : ∀ (vs : List Value) (cur : Array Value) (o j : Nat), o + vs.length ≤ cur.size → (putA cur o vs)[j]? = if o ≤ j ∧ j < o + vs.length then vs[j - o]? else cur[j]?
  | [], cur, o, j, _ => by
    rw [if_neg (by simp only [List.length_nil]; omega)]; rfl
  | v :: r, cur, o, j, h => by
    have hl : o + r.length + 1 ≤ cur.size := by simpa [Nat.add_assoc] using h
    unfold putA
    rw [putA_at r _ (o + 1) j (by simp; omega)]
    simp only [List.length_cons]
    by_cases h1 : o + 1 ≤ j ∧ j < o + 1 + r.length
    · rw [if_pos h1, if_pos (by omega), show j - o = (j - (o + 1)) + 1 by omega]
      simp
    · rw [if_neg h1, Array.getElem?_setIfInBounds]
      by_cases h2 : o = j
      · subst h2
        rw [if_pos rfl, if_pos (by omega), if_pos (by omega)]
        simp
      · rw [if_neg h2, if_neg (by omega)]
theorem heap_setCells (b : Nat) (t : TypeId) : ∀ (vs : List Value) (o : Nat) (cur : Array Value) (w : World), w.heap[b]? = some (.cells cur t (0, 0)) → (w.setCells b o vs).heap[b]? = some (.cells (putA cur o vs) t (0, 0))
  | [], _, _, _, h => h
  | v :: r, o, cur, w, h => by
    unfold World.setCells putA
    exact heap_setCells b t r (o + 1) _ _ (heap_setCell_same w b o cur t v h)
theorem below_put {B b : Nat} (hb : B ≤ b) : ∀ (vs : List Value) (o : Nat) {a w : World}, Below B a w → Below B a (w.setCells b o vs)
  | [], _, _, _, h => h
  | v :: r, o, _, _, h => below_put hb r (o + 1) (h.setCell hb _)

theorem one_int (x : Int) : (Value.int .i64 x).oneCell' = true := rfl
theorem ones_list (L : List Int) : ∀ v ∈ L.map (Value.int .i64), v.oneCell' = true := by
  intro v hv
  obtain ⟨x, _, rfl⟩ := List.mem_map.1 hv
  rfl

/-- a row out of its block -/
theorem Row.of {w : World} {B g cap : Nat} {cur : Array Value} {L : List Int} (hB : B ≤ g) (hh : w.heap[g]? = some (.cells cur 3 (0, 0))) (hc : L.length ≤ cap) (hm : cap ≤ maxLen) (hs : cur.size = cap) (hl : L.length ≤ 4096)
    (ht : ∀ j, j < L.length → cur[j]? = (L.map (Value.int .i64))[j]?) : Row w B (.slice (some ⟨g, 0, none⟩) L.length cap) L := by
  refine ⟨⟨by simp, .inr ⟨g, cap, cur, rfl, hB, hh, hc, hm, by omega, ?_⟩⟩, by omega⟩
  apply List.ext_getElem?
  intro j
  rw [List.getElem?_take]
  by_cases hj : j < L.length
  · rw [if_pos (by omega), ← ht j hj]; simp
  · rw [if_neg (by omega), List.getElem?_eq_none (by simp; omega)]
theorem Row.block {w : World} {B g n cap : Nat} {L : List Int} (h : Row w B (.slice (some ⟨g, 0, none⟩) n cap) L) : n = L.length ∧ B ≤ g ∧ g < w.heap.size ∧ n ≤ cap ∧ cap ≤ maxLen ∧
    ∃ cur, w.heap[g]? = some (.cells cur 3 (0, 0)) ∧ cur.size = cap ∧ ∀ j, j < L.length → cur[j]? = (L.map (Value.int .i64))[j]? := by
  rcases h.1.2 with ⟨e, _⟩ | ⟨g', cap', cur, e, hg, hh, h1, h2, h3, h4⟩
  · cases e
  · simp only [Value.slice.injEq, Option.some.injEq, Addr.mk.injEq, and_true] at e
    obtain ⟨rfl, rfl, rfl⟩ := e
    refine ⟨rfl, hg, (Array.getElem?_eq_some_iff.1 hh).1, h1, h2, cur, hh, by omega, fun j hj => ?_⟩
    rw [← h4, List.getElem?_take, if_pos (by omega)]
    simp
end Go.Proofs.Ytjgkignnfkbeaaa

/-
  Two lists put behind each other: the program's joined, of slices that may begin inside their row.
-/
namespace Go.Proofs.Ytjgkignnfkbeaaa
open Go.RowKit
set_option linter.unusedVariables false

theorem copy_none {w : World} (ty : TypeId) (d a : Option Addr) (dl dc c : Nat) :
    (Builtin.copy_ #[25, 25] ty #[.slice d dl dc, .slice a 0 c]).run Try.prog w = .ok (goInt 0) w := by
  obtain ⟨i0, hi, hz0, hz1, hz2⟩ := info_parts info_int
  cases d <;> cases a <;> simp [Builtin.copy_, run_underlying Try.underlying25, sizeOf, typeInfo, hi, Builtin.lenOf, Builtin.firstCells, storeCells, goInt, loadCells, loadCellsFrom]

theorem copy_came {w : World} {vx : Value} {M : List Int} (h : Came w vx M) (ty : TypeId) (g o dl dc : Nat) (cur : Array Value) (hg : w.heap[g]? = some (.cells cur 3 (0, 0))) (hdl : M.length ≤ dl) (hc : o + M.length ≤ cur.size) :
    (Builtin.copy_ #[25, 25] ty #[.slice (some ⟨g, o, none⟩) dl dc, vx]).run Try.prog w = .ok (goInt M.length) (w.setCells g o (M.map (Value.int .i64))) := by
  have hsz : (Try.prog.info? 3).map (·.size) = some 1 := by
    obtain ⟨i0, hi, hz0, hz1, hz2⟩ := info_parts info_int
    rw [hi]; simp [hz1]
  obtain ⟨p, m, rfl, _, _, h3⟩ := h
  rcases h3 with h0 | ⟨b, o', rfl, _, hcx⟩
  · obtain rfl := List.eq_nil_of_length_eq_zero h0
    have := copy_none (w := w) ty (some ⟨g, o, none⟩) p dl dc m
    simpa [World.setCells, goInt] using this
  · have hlen : (M.map (Value.int .i64)).length = M.length := by simp
    have key : (Builtin.copy_ #[25, 25] ty #[.slice (some ⟨g, o, none⟩) dl dc, .slice (some ⟨b, o', none⟩) M.length m]).run Try.prog w = .ok (goInt (M.map (Value.int .i64)).length) (w.setCells g o (M.map (Value.int .i64))) := by
     refine run_copy_cells w _ _ ty 3 g o dl dc ⟨b, o', none⟩ M.length m (M.map (Value.int .i64)) Try.underlying25 hsz ?_ ?_ ?_ ?_ (ones_list M)
     · rw [hlen]; simp only [Nat.min_def]; split <;> omega
     · intro j v hj
       have hj2 : j < M.length := by have := (List.getElem?_eq_some_iff.1 hj).1; simpa using this
       rw [show (⟨b, o', none⟩ : Addr).add j = ⟨b, o' + j, none⟩ by unfold Addr.add; split <;> simp_all, hcx j hj2]
       rw [List.getElem?_map, List.getElem?_eq_getElem hj2] at hj
       rw [List.getD_eq_getElem?_getD, List.getElem?_eq_getElem hj2]
       simpa using hj
     · intro j hj
       rw [hlen] at hj
       rw [cell_of_row w g (o + j) cur 3 (0, 0) hg, Array.getElem?_eq_getElem (by omega)]; rfl
     · intro j hj
       exact frozen_of_row w g (o + j) cur 3 hg
    rw [hlen] at key
    exact key
theorem Came.lens {w : World} {v : Value} {L : List Int} (h : Came w v L) : ∃ a c, v = .slice a L.length c := by
  obtain ⟨p, m, e, _⟩ := h
  exact ⟨p, m, e⟩
set_option maxHeartbeats 1000000 in
set_option maxRecDepth 20000 in
theorem joined_came (v1 v2 : Value) (L M : List Int) (w : World) (h1 : Came w v1 L) (h2 : Came w v2 M) (hl : L.length + M.length ≤ 4096) :
    Calls Try.prog 68 #[v1, v2] w (Gives (L ++ M) w) := by
  obtain ⟨a1, c1, rfl⟩ := h1.lens
  obtain ⟨a2, c2, rfl⟩ := h2.lens
  have H1 := Lib.hid h1
  have H2 := Lib.hid h2
  clear h1 h2
  have hs1 := IntWalk.i64_in ((L.length : Int) + (M.length : Int)) (by omega)
  go_enter Try.func68, Try.ntmps68
  go_wp2_with (at_make; refine wpList_make_zeros rfl _ _ rfl w.heap.size _ _ (L.length + M.length) rfl rfl ?c1 ?c2 ?c3 (Nat.le_refl _) ?_)
  case c1 => omega
  case c2 => omega
  case c3 => omega
  intro w1 hrow hb1
  obtain ⟨-, -, hg2, -, -, cur, hh, hcs, hat⟩ := hrow.block
  have hcp1 := fun ty : TypeId => copy_came (H1.out.kept hb1) ty w.heap.size 0 (L.length + M.length) (L.length + M.length) cur hh (by omega) (by omega)
  obtain ⟨W2, hW2⟩ : ∃ W2, W2 = w1.setCells w.heap.size 0 (L.map (Value.int .i64)) := ⟨_, rfl⟩
  have hb2 : Below w.heap.size w W2 := by rw [hW2]; exact below_put (Nat.le_refl _) _ _ hb1
  have hh2 : W2.heap[w.heap.size]? = some (.cells (putA cur 0 (L.map (Value.int .i64))) 3 (0, 0)) := by rw [hW2]; exact heap_setCells _ _ _ _ _ _ hh
  rw [← hW2] at hcp1
  have hcp2 := fun ty : TypeId => copy_came (H2.out.kept hb2) ty w.heap.size L.length M.length M.length _ hh2 (by omega) (by rw [putA_size]; omega)
  have HW2 := Lib.hid hW2
  have HR : Hid (Row (W2.setCells w.heap.size L.length (M.map (Value.int .i64))) w.heap.size (.slice (some ⟨w.heap.size, 0, none⟩) (L.length + M.length) (L.length + M.length)) (L ++ M)) := Lib.hid (by
    have := Row.of (L := L ++ M) (cap := L.length + M.length) (Nat.le_refl _) (heap_setCells _ _ (M.map (Value.int .i64)) L.length _ _ hh2) (by simp) (by unfold maxLen; omega) (by rw [putA_size, putA_size]; exact hcs) (by simp; omega) (fun j hj => by
      rw [List.length_append] at hj
      rw [putA_at _ _ _ _ (by rw [putA_size]; simp; omega), putA_at _ _ _ _ (by simp; omega), List.map_append]
      by_cases hj1 : j < L.length
      · rw [if_neg (by simp; omega), if_pos (by simp; omega), List.getElem?_append_left (by simpa using hj1)]; rfl
      · rw [if_pos (by simp; omega), List.getElem?_append_right (by simp; omega)]; simp)
    rwa [List.length_append] at this)
  have HB : Hid (Below w.heap.size w (W2.setCells w.heap.size L.length (M.map (Value.int .i64)))) := Lib.hid (below_put (Nat.le_refl _) _ _ hb2)
  clear hs1 hrow hW2 hat hcs hh hh2 hb1 hb2
  have hlm : (L.length : Int) ≤ (L.length : Int) + (M.length : Int) := by omega
  by_cases hM : M = []
  · subst hM
    have hcn := fun (ty : TypeId) (d : Option Addr) (dl dc : Nat) (W : World) => copy_none (w := W) ty d a2 dl dc c2
    clear hcp2
    simp only [List.length_nil, Nat.add_zero, List.append_nil] at hcp1 HR ⊢
    have HR2 : Row W2 w.heap.size (.slice (some ⟨w.heap.size, 0, none⟩) L.length L.length) L := HR.out
    have HB2 : Below w.heap.size w W2 := HB.out
    go_wp2
    go_ret
    exact ⟨_, rfl, by rw [List.append_nil]; exact HR2, HB2⟩
  · have hM1 : ¬ M.length = 0 := fun e => hM (List.eq_nil_of_length_eq_zero e)
    clear hM
    go_wp2
    go_ret
    exact ⟨_, rfl, HR.out, HB.out⟩

end Go.Proofs.Ytjgkignnfkbeaaa

/-
  How far two tones are apart.
-/
namespace Go.Proofs.Ytjgkignnfkbeaaa
open Go.RowKit
set_option linter.unusedVariables false

/-- how far two tones are apart, the shorter way round -/
def Tic.apt (n x y : Nat) : Nat := min ((y + n - x) % n) (n - (y + n - x) % n)
theorem Tic.apt_lt {n x y : Nat} (h : x < y) (hy : y < n) : Tic.apt n x y = min (y - x) (n - (y - x)) := by
  unfold Tic.apt
  rw [show y + n - x = (y - x) + n by omega, Nat.add_mod_right, Nat.mod_eq_of_lt (by omega)]
theorem apart_any (N x y : Nat) (w : World) (h1 : 1 ≤ N) (h2 : N ≤ 12) (hx : x < N) (hy : y < N) :
    Calls Try.prog 89 #[.int .i64 N, .int .i64 x, .int .i64 y] w fun e w' => e = .returned (.int .i64 (Tic.apt N x y : Int)) ∧ w = w' := by
  have he : ((y : Int) - (x : Int)) % (N : Int) = (((y + N - x) % N : Nat) : Int) := by
    rw [Int.natCast_emod, show ((y + N - x : Nat) : Int) = ((y : Int) - x) + N by omega, Int.add_emod_right]
  have hlt : (y + N - x) % N < N := Nat.mod_lt _ (by omega)
  have HD : Hid (Tic.apt N x y = min ((y + N - x) % N) (N - (y + N - x) % N)) := rfl
  generalize (y + N - x) % N = u at *
  have HE := Lib.hid he
  clear he
  go_enter Try.func89, Try.ntmps89
  go_wp2_with fail
  refine (roundCircle_any _ _ _ (by omega) (by omega) (by omega) (by omega)).mono ?_; rintro e w1 ⟨rfl, rfl⟩
  rw [HE.out]
  go_wp2
  all_goals
    go_ret
    exact ⟨ret_int (by rw [HD.out]; omega), rfl⟩
theorem sapart_any (N x y : Nat) (w : World) (h1 : 1 ≤ N) (h2 : N ≤ 12) (hx : x < N) (hy : y < N) :
    Calls Try.prog 69 #[.int .i64 N, .int .i64 x, .int .i64 y] w fun e w' => e = .returned (.int .i64 (Tic.apt N x y : Int)) ∧ w = w' := by
  have he : ((y : Int) - (x : Int)) % (N : Int) = (((y + N - x) % N : Nat) : Int) := by
    rw [Int.natCast_emod, show ((y + N - x : Nat) : Int) = ((y : Int) - x) + N by omega, Int.add_emod_right]
  have hlt : (y + N - x) % N < N := Nat.mod_lt _ (by omega)
  have HD : Hid (Tic.apt N x y = min ((y + N - x) % N) (N - (y + N - x) % N)) := rfl
  generalize (y + N - x) % N = u at *
  have HE := Lib.hid he
  clear he
  go_enter Try.func69, Try.ntmps69
  go_wp2_with fail
  refine (rest_any _ _ _ (by omega) (by omega) (by omega) (by omega)).mono ?_; rintro e w1 ⟨rfl, rfl⟩
  rw [HE.out]
  go_wp2
  all_goals
    go_ret
    exact ⟨ret_int (by rw [HD.out]; omega), rfl⟩
theorem Tic.apt_le {n x y : Nat} (hn : 1 ≤ n) : 2 * Tic.apt n x y ≤ n := by
  unfold Tic.apt
  have := Nat.mod_lt (y + n - x) (y := n) (by omega)
  omega
end Go.Proofs.Ytjgkignnfkbeaaa

/-
  Memory that grows from call to call.
-/
namespace Go.Proofs.Ytjgkignnfkbeaaa
open Go.RowKit
set_option linter.unusedVariables false

theorem grow1 {a b d : World} (h : Below a.heap.size a b) (k : Below b.drew.heap.size b.drew d) : Below a.heap.size a d := h.drew.trans (k.mono h.size)
theorem grow0 {a b d : World} (h : Below a.heap.size a b) (k : Below b.heap.size b d) : Below a.heap.size a d := h.trans (k.mono h.size)
theorem below_dn {w w' : World} {B : Nat} (h : Below B w w') (q : Nat) : Below B w (w'.drewN q) := ⟨h.os, h.tape, h.output, h.size, fun k hk => h.block k hk⟩
end Go.Proofs.Ytjgkignnfkbeaaa

/-
  Contracts of the program's listFrom, far, nearest.
-/
namespace Go.Proofs.Ytjgkignnfkbeaaa
open Go.RowKit
set_option linter.unusedVariables false
set_option maxRecDepth 20000

/-- a list, from a place on, and then what is ahead of it -/
def rotL (M : List Int) (j : Nat) : List Int := M.drop j ++ M.take j
theorem rotL_len (M : List Int) {j : Nat} (h : j ≤ M.length) : (rotL M j).length = M.length := by simp [rotL]; omega
theorem rotL_at (M : List Int) {i j : Nat} (hj : j < M.length) (hi : i < M.length) : (rotL M j).getD i 0 = M.getD ((i + j) % M.length) 0 := by
  unfold rotL
  rw [List.getD_eq_getElem?_getD, List.getD_eq_getElem?_getD]
  congr 1
  by_cases h : i < M.length - j
  · rw [List.getElem?_append_left (by simp; omega), List.getElem?_drop, Nat.mod_eq_of_lt (by omega), Nat.add_comm]
  · rw [List.getElem?_append_right (by simp; omega), List.length_drop]
    have e : (i + j) % M.length = i + j - M.length := by rw [Nat.mod_eq_sub_mod (by omega), Nat.mod_eq_of_lt (by omega)]
    rw [e, List.getElem?_take_of_lt (by omega)]
    congr 1; omega
theorem Row.lenz {w : World} {B : Nat} {v : Value} {L : List Int} (h : Row w B v L) : ∃ a c, v = .slice a L.length c := by
  rcases h.cases with ⟨e, e2⟩ | ⟨g, cap, e, _⟩
  · exact ⟨none, 0, by rw [e, e2]; rfl⟩
  · exact ⟨_, _, e⟩
/-- tones of a circle of n -/
def Ton (n : Nat) (L : List Int) : Prop := ∀ i, i < L.length → ∃ x : Nat, x < n ∧ L.getD i 0 = (x : Int)
theorem ton_tones (s n : Nat) : Ton n (tonesTo s n) := fun i hi => by
  obtain ⟨y, h1, _, h2, _⟩ := tonesTo_at s n i hi
  exact ⟨y, h1, h2⟩
theorem ton_rot {n : Nat} {M : List Int} (h : Ton n M) {j : Nat} (hj : j < M.length) : Ton n (rotL M j) := fun i hi => by
  rw [rotL_len M (by omega)] at hi
  rw [rotL_at M hj hi]
  exact h _ (Nat.mod_lt _ (by omega))
/-- how far the first i tones are from some goals -/
def farTo (n : Nat) (L M : List Int) : Nat → Nat
  | 0 => 0
  | i + 1 => farTo n L M i + Tic.apt n (L.getD i 0).toNat (M.getD i 0).toNat
theorem farTo_le {n : Nat} (hn : 1 ≤ n) (L M : List Int) : ∀ i, 2 * farTo n L M i ≤ i * n
  | 0 => by simp [farTo]
  | i + 1 => by
    have h1 := farTo_le hn L M i
    have h2 := Tic.apt_le (n := n) (x := (L.getD i 0).toNat) (y := (M.getD i 0).toNat) hn
    unfold farTo
    rw [Nat.add_mul, Nat.one_mul]; omega
set_option maxHeartbeats 400000 in
theorem listFrom_any (n s : Int) (i : Nat) (w : World) (hv : Tic.Valid n s) (hi : i < (tonesTo s.toNat n.toNat).length) :
    Calls Try.prog 43 #[.agg #[.int .i64 n, .int .i64 s], .int .i64 (i : Int)] w (Gives (rotL (tonesTo s.toNat n.toNat) i) w) := by
  have hl := tonesTo_le s.toNat n.toNat
  have hn12 : n.toNat ≤ 12 := by have := hv.2.1; omega
  have HL := Lib.hid (fun w => list_any n s w hv)
  generalize tonesTo s.toNat n.toNat = M at *
  have hbx := (Below.refl w.heap.size w).alloc (Nat.le_refl _) (.cells #[.int .i64 n, .int .i64 s] 47)
  have hs1 : (w.alloc (.cells #[.int .i64 n, .int .i64 s] 47)).heap.size = w.heap.size + 1 := by simp
  go_enter Try.func43, Try.ntmps43
  go_wp2_with fail
  refine (HL.out _).mono ?_; rintro e w1 ⟨v, rfl, hr, hb⟩
  have HB := Lib.hid (hbx.trans (hb.mono (by omega)))
  have hz := HB.out.size
  rcases hr.cases with ⟨rfl, rfl⟩ | ⟨g, cap, rfl, _, hg, hc, _⟩
  · simp at hi
  have hcap := hr.capge
  generalize hm : M.length = m at *
  have hci : ¬ cap = i := by omega
  have hi1 : (i : Int) ≤ (m : Int) := by omega
  have hi2 : (m : Int) ≤ (cap : Int) := by omega
  have hi3 : (i : Int) ≤ (cap : Int) := by omega
  have hi4 : i ≤ m := by omega
  have hi5 : i ≤ cap := by omega
  have H1 : Hid (∀ W, Below w1.heap.size w1 W → Came W (.slice (some ⟨g, i, none⟩) (m - i) (cap - i)) (M.drop i)) := Lib.hid (fun W hW => by
    refine ⟨some ⟨g, i, none⟩, cap - i, by rw [List.length_drop, hm], by rw [List.length_drop, hm]; omega, by have := hcap.2; omega, .inr ⟨g, i, rfl, by have := hW.size; omega, fun j hj => ?_⟩⟩
    rw [List.length_drop, hm] at hj
    refine (hW.cell (p := ⟨g, i + j, none⟩) hg).trans ((hc (i + j) (by omega)).trans ?_)
    rw [List.getD_eq_getElem?_getD, List.getD_eq_getElem?_getD, List.getElem?_drop])
  have H2 : Hid (∀ W, Below w1.heap.size w1 W → Came W (.slice (some ⟨g, 0, none⟩) i cap) (M.take i)) := Lib.hid (fun W hW => by
    refine ⟨some ⟨g, 0, none⟩, cap, by rw [List.length_take, hm, Nat.min_eq_left hi4], by rw [List.length_take, hm, Nat.min_eq_left hi4]; omega, hcap.2, .inr ⟨g, 0, rfl, by have := hW.size; omega, fun j hj => ?_⟩⟩
    rw [List.length_take, hm] at hj
    rw [Nat.zero_add]
    refine (hW.cell (p := ⟨g, j, none⟩) hg).trans ((hc j (by omega)).trans ?_)
    rw [List.getD_eq_getElem?_getD, List.getD_eq_getElem?_getD, List.getElem?_take_of_lt (by omega)])
  have HJ := Lib.hid (fun W hW => joined_came _ _ _ _ W (H1.out W hW) (H2.out W hW) (by rw [List.length_drop, List.length_take]; omega))
  have hk0 : Below w1.heap.size w1 w1 := Below.refl _ _
  clear hr hb hbx hc H1 H2 HL
  go_wp2_with fail
  go_region_held3 (fun _ => True) (trivial)
    (first | (go_at_call 68; refine (HJ.out _ (by first | exact hk0 | exact hk0.drew)).mono ?_; rintro e w2 ⟨u, rfl, hu, hb2⟩) | fail)
  have HU := Lib.hid (hu.mono (show w.heap.size ≤ _ from hz))
  have HB2 := Lib.hid (HB.out.trans ((hk0.drew.trans hb2).mono hz))
  clear hu hb2 hk0
  go_wp2
  go_ret
  exact ⟨_, rfl, HU.out, HB2.out⟩
set_option maxHeartbeats 800000 in
theorem far_any (n s : Int) (v : Value) (B : Nat) (M : List Int) (w : World) (hv : Tic.Valid n s) (hr : Row w B v M) (hlen : M.length = (tonesTo s.toNat n.toNat).length) (hM : Ton n.toNat M) :
    Calls Try.prog 84 #[.agg #[.int .i64 n, .int .i64 s], v] w fun e w' => e = .returned (.int .i64 (farTo n.toNat (tonesTo s.toNat n.toNat) M M.length : Int)) ∧ Below w.heap.size w w' := by
  have hl := tonesTo_le s.toNat n.toNat
  have g1 := hv.1
  have g2 := hv.2.1
  have HL := Lib.hid (fun w => list_any n s w hv)
  have hT := ton_tones s.toNat n.toNat
  generalize tonesTo s.toNat n.toNat = L at *
  obtain ⟨N, rfl⟩ := Int.eq_ofNat_of_zero_le (show 0 ≤ n by omega)
  rw [Int.toNat_natCast] at *
  have HF := Lib.hid (farTo_le (n := N) (by omega) L M)
  have HST : Hid (∀ i, farTo N L M (i + 1) = farTo N L M i + Tic.apt N (L.getD i 0).toNat (M.getD i 0).toNat) := Lib.hid (fun i => rfl)
  have HT := Lib.hid hT
  have HTM := Lib.hid hM
  have hbx := (Below.refl w.heap.size w).alloc (Nat.le_refl _) (.cells #[.int .i64 (N : Int), .int .i64 s] 47)
  have hs1 : (w.alloc (.cells #[.int .i64 (N : Int), .int .i64 s] 47)).heap.size = w.heap.size + 1 := by simp
  have hx0 : (w.alloc (.cells #[.int .i64 (N : Int), .int .i64 s] 47)).cell? ⟨w.heap.size, 0, none⟩ = some (.int .i64 (N : Int)) := by rw [World.cell?_alloc_at _ _ _ _ rfl]; rfl
  have hf0 : farTo N L M 0 = 0 := rfl
  obtain ⟨m, hm⟩ : ∃ m, m = M.length := ⟨_, rfl⟩
  rw [← hm] at hlen ⊢
  have HM := Lib.hid hm
  clear hT hM
  go_enter Try.func84, Try.ntmps84
  go_wp2_with fail
  refine (HL.out _).mono ?_; rintro e w1 ⟨u, rfl, hu, hb⟩
  have hx := (hb.cell (p := ⟨w.heap.size, 0, none⟩) (by show w.heap.size < _; omega)).trans hx0
  have HB := Lib.hid (hbx.trans (hb.mono (by omega)))
  have hz := HB.out.size
  have hzx : w.heap.size < w1.heap.size := by have := hb.size; omega
  have hr1 := hr.kept (hbx.trans (hb.mono (by omega)))
  have hl2 := hr1.2
  have HR : Hid (0 < m → ∃ g c, v = .slice (some ⟨g, 0, none⟩) m c ∧ g < w1.heap.size ∧ ∀ i, i < m → w1.cell? ⟨g, i, none⟩ = some (.int .i64 (M.getD i 0))) := Lib.hid (fun h0 => by
    rcases hr1.cases with ⟨_, e⟩ | ⟨g, c, e, _, h2, h3, _⟩
    · rw [e] at hm; simp at hm; omega
    · exact ⟨g, c, by rw [e, ← hm], h2, fun i hi => h3 i (by omega)⟩)
  obtain ⟨p, cp, rfl⟩ := hu.lenz
  have HU : Hid (0 < m → ∃ g, p = some ⟨g, 0, none⟩ ∧ g < w1.heap.size ∧ ∀ i, i < m → w1.cell? ⟨g, i, none⟩ = some (.int .i64 (L.getD i 0))) := Lib.hid (fun h0 => by
    rcases hu.cases with ⟨_, e⟩ | ⟨g, c, e, _, h2, h3, _⟩
    · rw [e] at hlen; simp at hlen; omega
    · simp only [Value.slice.injEq, true_and] at e
      exact ⟨g, e.1, h2, fun i hi => h3 i (by omega)⟩)
  rw [← hlen]
  clear hr hr1 hu hb hbx hm hx0
  go_wp2
  go_loopw [5, 11] (fun t5 t11 wr => ∃ i : Nat, i ≤ m ∧ t11 = .int .i64 i ∧ t5 = .int .i64 (farTo N L M i : Int) ∧ Hid (Below w1.heap.size w1 wr)) (fun _ t11 _ => m - (intOf t11).toNat)
  case atStart => exact ⟨0, Nat.zero_le _, rfl, by rw [hf0]; rfl, Below.refl _ _⟩
  case round =>
    obtain ⟨i, hi, rfl, rfl, HBI⟩ := hrel
    by_cases hlt : i < m
    · obtain ⟨g, c, rfl, hg, hc⟩ := HR.out (by omega)
      obtain ⟨gu, rfl, hgu, hcu⟩ := HU.out (by omega)
      obtain ⟨x, hx1, ex⟩ := HT.out i (by omega)
      obtain ⟨y, hy1, ey⟩ := HTM.out i (by rw [← HM.out]; exact hlt)
      have c0 := (HBI.out.cell (p := ⟨g, i, none⟩) hg).trans (hc i hlt)
      have c1 := (HBI.out.cell (p := ⟨gu, i, none⟩) hgu).trans (hcu i hlt)
      have c2 := (HBI.out.cell (p := ⟨w.heap.size, 0, none⟩) hzx).trans hx
      have hst := HST.out i
      have hfl := HF.out i
      rw [ex, ey, Int.toNat_natCast, Int.toNat_natCast] at hst
      rw [ey] at c0
      rw [ex] at c1
      have hap := Tic.apt_le (n := N) (x := x) (y := y) (by omega)
      have HA := Lib.hid (fun w => apart_any N x y w (by omega) (by omega) hx1 hy1)
      have hin : i * N ≤ 1048576 * 12 := Nat.mul_le_mul (by omega) (by omega)
      have hfb : farTo N L M i ≤ 12582912 := by omega
      have HSTE := Lib.hid hst
      clear hc hcu ex ey hst hfl hin
      generalize farTo N L M i = f at *
      generalize Tic.apt N x y = q at *
      have i1 : (i : Int) < (m : Int) := by omega
      have i0 : (0 : Int) ≤ (i : Int) := by omega
      have hq1 := IntWalk.i64_in ((f : Int) + (q : Int)) (by omega)
      go_wp2_with fail
      go_quiet ((go_at_call 89; exact Calls.quiet_of_same (still_of (HA.out _))))
      have HB2 : Hid (Below w1.heap.size w1 (wr.drewN nq)) := Lib.hid (below_dn HBI.out nq)
      go_wp2
      go_roundw
      case rel => exact ⟨i + 1, by omega, by go_num, by rw [HSTE.out]; exact congrArg (Value.int .i64) (by omega), HB2⟩
      case measure => simp [intOf]; omega
    · obtain rfl : i = m := by omega
      go_wp2
      go_ret
      exact ⟨rfl, HB.out.trans (HBI.out.mono hz)⟩
end Go.Proofs.Ytjgkignnfkbeaaa

/-
  Contracts of ShiftSet, TurnSet and OthersOf, of the program and of the model.
-/
namespace Go.Proofs.Ytjgkignnfkbeaaa
open Go.RowKit

theorem sshift_any (n s t : Int) (w : World) (hv : Tic.Valid n s) (ht : Tic.Turn t) :
    Calls Try.prog 59 #[.int .i64 n, .int .i64 s, .int .i64 t] w fun e w' => e = .returned (.int .i64 (Tic.shf n.toNat t s.toNat : Int)) ∧ w = w' := by
  have hlt := hv.lt
  obtain ⟨g1, g2, g3, _⟩ := hv
  obtain ⟨h3, h4⟩ := ht
  obtain ⟨N, rfl⟩ := Int.eq_ofNat_of_zero_le (show 0 ≤ n by omega)
  obtain ⟨S, rfl⟩ := Int.eq_ofNat_of_zero_le g3
  rw [Int.toNat_natCast, Int.toNat_natCast]
  have HF := Lib.hid (Tic.sum_shf (n := N) (by omega) t S)
  go_enter Try.func59, Try.ntmps59
  go_wp2
  go_loop [7, 8] (fun t7 t8 => ∃ k : Nat, k ≤ N ∧ t8 = .int .i64 k ∧ t7 = .int .i64 (Tic.sumImg (Tic.mvd N 1 t) S k : Int)) (fun _ t8 => N - (intOf t8).toNat)
  case atStart => exact ⟨0, Nat.zero_le _, rfl, rfl⟩
  case round =>
    obtain ⟨k, hk, rfl, rfl⟩ := hrel
    have hb := Tic.sum_mvd_lt (n := N) (by omega) (by omega) 1 t (.inl rfl) S hk
    by_cases hlt2 : k < N
    · cases hbit : S.testBit k with
      | false =>
        have HB := Lib.hid hbit
        clear hbit
        go_wp2_with fail
        refine (bit_no _ _ S k _ rfl (by omega) rfl (by omega) HB.out).mono ?_; rintro e w1 ⟨rfl, rfl⟩
        go_wp2
        go_round
        case rel => exact ⟨k + 1, by omega, by go_num, by rw [Tic.sumImg_no _ HB.out]⟩
        case measure => simp [intOf]; omega
      | true =>
        have HB := Lib.hid hbit
        clear hbit
        have hm1 := Int.emod_nonneg (k + t) (b := (N : Int)) (by omega)
        have hm2 := Int.emod_lt_of_pos (k + t) (b := (N : Int)) (by omega)
        have hp : 2 ^ ((k + t) % (N : Int)).toNat ≤ 4096 := Tic.pow_le_12 (by omega)
        go_wp2_with fail
        refine (bit_yes _ _ S k _ rfl (by omega) rfl (by omega) HB.out).mono ?_; rintro e w1 ⟨rfl, rfl⟩
        go_wp2_with fail
        refine (rest_any _ _ _ (by omega) (by omega) (by omega) (by omega)).mono ?_; rintro e w1 ⟨rfl, rfl⟩
        go_wp2_with fail
        refine (power_any _ _ (by omega) (by omega)).mono ?_; rintro e w1 ⟨rfl, rfl⟩
        generalize hg : 2 ^ ((k + t) % (N : Int)).toNat = p at hp
        have HG := Lib.hid hg
        clear hg
        go_wp2
        go_round
        case rel =>
          refine ⟨k + 1, by omega, by go_num, ?_⟩
          rw [Tic.sumImg_yes _ HB.out, ← HG.out]
          rw [show Tic.mvd N 1 t k = ((k + t) % (N : Int)).toNat by unfold Tic.mvd; rw [Int.one_mul, Int.add_comm]]
          rfl
        case measure => simp [intOf]; omega
    · have : k = N := by omega
      subst this
      go_wp2
      go_ret
      exact ⟨ret_int (by rw [HF.out]), rfl⟩

theorem sturn_any (n s t : Int) (w : World) (hv : Tic.Valid n s) (ht : Tic.Turn t) :
    Calls Try.prog 63 #[.int .i64 n, .int .i64 s, .int .i64 t] w fun e w' => e = .returned (.int .i64 (Tic.tur n.toNat t s.toNat : Int)) ∧ w = w' := by
  have hlt := hv.lt
  obtain ⟨g1, g2, g3, _⟩ := hv
  obtain ⟨h3, h4⟩ := ht
  obtain ⟨N, rfl⟩ := Int.eq_ofNat_of_zero_le (show 0 ≤ n by omega)
  obtain ⟨S, rfl⟩ := Int.eq_ofNat_of_zero_le g3
  rw [Int.toNat_natCast, Int.toNat_natCast]
  have HF := Lib.hid (Tic.sum_tur (n := N) (by omega) t S)
  go_enter Try.func63, Try.ntmps63
  go_wp2
  go_loop [7, 8] (fun t7 t8 => ∃ k : Nat, k ≤ N ∧ t8 = .int .i64 k ∧ t7 = .int .i64 (Tic.sumImg (Tic.mvd N (-1) t) S k : Int)) (fun _ t8 => N - (intOf t8).toNat)
  case atStart => exact ⟨0, Nat.zero_le _, rfl, rfl⟩
  case round =>
    obtain ⟨k, hk, rfl, rfl⟩ := hrel
    have hb := Tic.sum_mvd_lt (n := N) (by omega) (by omega) (-1) t (.inr rfl) S hk
    by_cases hlt2 : k < N
    · cases hbit : S.testBit k with
      | false =>
        have HB := Lib.hid hbit
        clear hbit
        go_wp2_with fail
        refine (bit_no _ _ S k _ rfl (by omega) rfl (by omega) HB.out).mono ?_; rintro e w1 ⟨rfl, rfl⟩
        go_wp2
        go_round
        case rel => exact ⟨k + 1, by omega, by go_num, by rw [Tic.sumImg_no _ HB.out]⟩
        case measure => simp [intOf]; omega
      | true =>
        have HB := Lib.hid hbit
        clear hbit
        have hm1 := Int.emod_nonneg (t - k) (b := (N : Int)) (by omega)
        have hm2 := Int.emod_lt_of_pos (t - k) (b := (N : Int)) (by omega)
        have hp : 2 ^ ((t - k) % (N : Int)).toNat ≤ 4096 := Tic.pow_le_12 (by omega)
        go_wp2_with fail
        refine (bit_yes _ _ S k _ rfl (by omega) rfl (by omega) HB.out).mono ?_; rintro e w1 ⟨rfl, rfl⟩
        go_wp2_with fail
        refine (rest_any _ _ _ (by omega) (by omega) (by omega) (by omega)).mono ?_; rintro e w1 ⟨rfl, rfl⟩
        go_wp2_with fail
        refine (power_any _ _ (by omega) (by omega)).mono ?_; rintro e w1 ⟨rfl, rfl⟩
        generalize hg : 2 ^ ((t - k) % (N : Int)).toNat = p at hp
        have HG := Lib.hid hg
        clear hg
        go_wp2
        go_round
        case rel =>
          refine ⟨k + 1, by omega, by go_num, ?_⟩
          rw [Tic.sumImg_yes _ HB.out, ← HG.out]
          rw [show Tic.mvd N (-1) t k = ((t - k) % (N : Int)).toNat by unfold Tic.mvd; rw [Int.neg_one_mul, Int.sub_eq_add_neg]]
          rfl
        case measure => simp [intOf]; omega
    · have : k = N := by omega
      subst this
      go_wp2
      go_ret
      exact ⟨ret_int (by rw [HF.out]), rfl⟩

theorem iShiftSet_yes (n s t : Int) (w : World) (hv : Tic.Valid n s) (ht : Tic.Turn t) :
    Calls Try.prog 34 #[.int .i64 n, .int .i64 s, .int .i64 t] w fun e w' => e = .returned (.int .i64 (Tic.shf n.toNat t s.toNat : Int)) ∧ Below w.heap.size w w' := by
  have hfd := tones_of
  go_enter Try.func34, Try.ntmps34
  go_wp2_with fail
  refine (implValid_yes _ _ _ hv).mono ?_; rintro e w1 ⟨rfl, rfl⟩
  go_wp2_with fail
  refine (shiftOk_yes _ _ ht).mono ?_; rintro e w1 ⟨rfl, rfl⟩
  go_wp2_with fail
  refine (mshift_any _ _ _ _ hv ht).mono ?_; rintro e w1 ⟨rfl, hb⟩
  go_wp2_with fail
  go_ret
  exact ⟨rfl, hb⟩
theorem iShiftSet_no (n s t : Int) (w : World) (h : ¬ (Tic.Valid n s ∧ Tic.Turn t)) :
    Calls Try.prog 34 #[.int .i64 n, .int .i64 s, .int .i64 t] w fun e w' => e = .returned (.int .i64 (-1)) ∧ w = w' := by
  by_cases hv : Tic.Valid n s
  · have ht : ¬ Tic.Turn t := fun ht => h ⟨hv, ht⟩
    clear h
    go_enter Try.func34, Try.ntmps34
    go_wp2_with fail
    refine (implValid_yes _ _ _ hv).mono ?_; rintro e w1 ⟨rfl, rfl⟩
    go_wp2_with fail
    refine (shiftOk_no _ _ ht).mono ?_; rintro e w1 ⟨rfl, rfl⟩
    go_wp2_with fail
    go_ret
    exact ⟨rfl, rfl⟩
  · clear h
    go_enter Try.func34, Try.ntmps34
    go_wp2_with fail
    refine (implValid_no _ _ _ hv).mono ?_; rintro e w1 ⟨rfl, rfl⟩
    go_wp2_with fail
    go_ret
    exact ⟨rfl, rfl⟩

end Go.Proofs.Ytjgkignnfkbeaaa

/-
  The library's count of bits in six steps, for numbers below 4096. No program in sight.
-/
namespace Go.Proofs.Ytjgkignnfkbeaaa
open Go.RowKit

/-! The six steps of the count -/
def o1 (x : Int) : Int := IntKind.u64.wrap (bits .and .u64 (x / 2) 6148914691236517205 + bits .and .u64 x 6148914691236517205)
def o2 (x : Int) : Int := IntKind.u64.wrap (bits .and .u64 (x / 4) 3689348814741910323 + bits .and .u64 x 3689348814741910323)
def o3 (x : Int) : Int := bits .and .u64 (IntKind.u64.wrap (x / 16 + x)) 1085102592571150095
def o4 (x : Int) : Int := IntKind.u64.wrap (x + x / 256)
def o5 (x : Int) : Int := IntKind.u64.wrap (x + x / 65536)
def o6 (x : Int) : Int := IntKind.u64.wrap (x + x / 4294967296)
def oAll (x : Int) : Int := bits .and .i64 (wrap64 (o6 (o5 (o4 (o3 (o2 (o1 x))))))) 127
theorem ones_dec : ∀ a : Fin 64, ∀ b : Fin 64, oAll ((64 * a.val + b.val : Nat) : Int) = (Tic.wt 12 (64 * a.val + b.val) : Int) := by decide +kernel
theorem ones_all {X : Nat} (h : X < 4096) : oAll (X : Int) = (Tic.wt 12 X : Int) := by
  have := ones_dec ⟨X / 64, by omega⟩ ⟨X % 64, by omega⟩
  rw [show 64 * (X / 64) + X % 64 = X by omega] at this
  exact this

theorem ones_long {X : Nat} (h : X < 4096) : bits .and .i64 (wrap64 (o6 (o5 (o4 (o3 (o2 (o1 (X : Int)))))))) 127 = (Tic.wt 12 X : Int) := ones_all h

end Go.Proofs.Ytjgkignnfkbeaaa

/-
  Contracts of the library's count of bits, for numbers below 4096, and of the methods others, common and count.
-/
namespace Go.Proofs.Ytjgkignnfkbeaaa
open Go.RowKit
set_option linter.unusedVariables false

set_option maxRecDepth 20000 in
theorem ones64_any (x : Int) (X : Nat) (w : World) (hx : x = X) (hX : X < 4096) :
    Calls Try.prog 88 #[.int .u64 x] w fun e w' => e = .returned (.int .i64 (Tic.wt 12 X : Int)) ∧ w = w' := by
  subst hx
  have HO := Lib.hid (ones_long hX)
  go_enter Try.func88, Try.ntmps88
  go_wp2
  go_ret
  refine ⟨ret_int ?_, rfl⟩
  have h := HO.out
  unfold o6 o5 o4 o3 o2 o1 at h
  exact h
theorem ones_any (x : Int) (X : Nat) (w : World) (hx : x = X) (hX : X < 4096) :
    Calls Try.prog 82 #[.int .u64 x] w fun e w' => e = .returned (.int .i64 (Tic.wt 12 X : Int)) ∧ w = w' := by
  subst hx
  go_enter Try.func82, Try.ntmps82
  go_wp2_with fail
  refine (ones64_any _ X _ rfl hX).mono ?_; rintro e w1 ⟨rfl, rfl⟩
  go_wp2_with fail
  go_ret
  exact ⟨rfl, rfl⟩

theorem others_num {n s : Int} (hv : Tic.Valid n s) : wrap64 (wrap64 (wrap64 ((2 : Int) ^ n.toNat) - 1) - s) = ((2 ^ n.toNat : Nat) : Int) - 1 - s := by
  obtain ⟨g1, g2, g3, g4⟩ := hv
  have hp := Tic.pow_le_12 g2
  have hp1 : 1 ≤ 2 ^ n.toNat := Nat.one_le_two_pow
  rw [wrap_pow (by omega)]
  generalize 2 ^ n.toNat = p at g4 hp hp1
  rw [IntWalk.wrap64_in ((p : Int) - 1) (by omega)]
  exact IntWalk.wrap64_in _ (by omega)


theorem u64_small {P : Nat} (h : P < 4096) : IntKind.u64.wrap (P : Int) = P := by rw [IntKind.wrap_u64]; omega
theorem count_any (n s : Int) (S : Nat) (w : World) (h1 : s = S) (h3 : S < 4096) :
    Calls Try.prog 66 #[.agg #[.int .i64 n, .int .i64 s]] w fun e w' => e = .returned (.int .i64 (Tic.wt 12 S : Int)) ∧ Below w.heap.size w w' := by
  subst h1
  go_enter Try.func66, Try.ntmps66
  go_wp2_with fail
  refine (ones_any _ S _ rfl h3).mono ?_; rintro e w1 ⟨rfl, rfl⟩
  go_wp2_with fail
  go_ret
  exact ⟨rfl, (Below.refl _ _).alloc (Nat.le_refl _) _⟩


end Go.Proofs.Ytjgkignnfkbeaaa

/-
  The contract of the program's validVoices.
-/
namespace Go.Proofs.Ytjgkignnfkbeaaa
open Go.RowKit
set_option linter.unusedVariables false
set_option maxRecDepth 20000

theorem tones_half (s : Nat) : ∀ k, (tonesTo s (k + 1)).length = s % 2 + (tonesTo (s / 2) k).length
  | 0 => by
    cases h : s.testBit 0 with
    | true =>
      rw [tonesTo_yes h]
      have := Nat.testBit_zero s ▸ h
      simp [tonesTo] at this ⊢; omega
    | false =>
      rw [tonesTo_no h]
      have := Nat.testBit_zero s ▸ h
      simp [tonesTo] at this ⊢; omega
  | k + 1 => by
    have ih := tones_half s k
    have e : s.testBit (k + 1) = (s / 2).testBit k := Nat.testBit_succ ..
    cases h : s.testBit (k + 1) with
    | true => rw [tonesTo_yes h, tonesTo_yes (e.symm.trans h)]; simp; omega
    | false => rw [tonesTo_no h, tonesTo_no (e.symm.trans h)]; exact ih
theorem wt_tones : ∀ f s, Tic.wt f s = (tonesTo s f).length
  | 0, s => rfl
  | f + 1, s => by rw [tones_half, ← wt_tones f (s / 2)]; rfl
theorem tones_past {s n : Nat} (hs : s < 2 ^ n) : ∀ d, tonesTo s (n + d) = tonesTo s n
  | 0 => rfl
  | d + 1 => by
    have h : s.testBit (n + d) = false := Nat.testBit_lt_two_pow (Nat.lt_of_lt_of_le hs (Nat.pow_le_pow_right (by decide) (by omega)))
    rw [← Nat.add_assoc, tonesTo_no h]
    exact tones_past hs d
theorem wt_len {n B : Int} (hB : Tic.Valid n B) : Tic.wt 12 B.toNat = (tonesTo B.toNat n.toNat).length := by
  obtain ⟨h1, h2, h3, h4⟩ := hB
  rw [wt_tones, ← tones_past (s := B.toNat) (n := n.toNat) (by omega) (12 - n.toNat), show n.toNat + (12 - n.toNat) = 12 by omega]
/-- voices may go from A to B -/
def Voices (n A B : Int) : Prop := Tic.Valid n A ∧ Tic.Valid n B ∧ A ≠ 0 ∧ Tic.wt 12 A.toNat = Tic.wt 12 B.toNat
instance (n A B : Int) : Decidable (Voices n A B) := by unfold Voices Tic.Valid; exact inferInstance
def vv (n A B : Int) : Bool := decide (Voices n A B)
theorem vv_yes {n A B : Int} (h : Voices n A B) : vv n A B = true := decide_eq_true h
theorem vv_no {n A B : Int} (h : ¬ Voices n A B) : vv n A B = false := decide_eq_false h
theorem of_vv {n A B : Int} (h : vv n A B = true) : Voices n A B := of_decide_eq_true h
set_option maxHeartbeats 400000 in
theorem validVoices_any (n A B : Int) (w : World) : Calls Try.prog 41 #[.int .i64 n, .int .i64 A, .int .i64 B] w fun e w' => e = .returned (.bool (vv n A B)) ∧ Below w.heap.size w w' := by
  rcases Classical.em (Tic.Valid n A) with hA | hA
  · rcases Classical.em (Tic.Valid n B) with hB | hB
    · by_cases h0 : A = 0
      · rw [vv_no (fun h => h.2.2.1 h0)]
        subst h0
        go_enter Try.func41, Try.ntmps41
        go_wp2_with fail
        refine (implValid_yes _ _ _ hA).mono ?_; rintro e w1 ⟨rfl, rfl⟩
        go_wp2_with fail
        refine (implValid_yes _ _ _ hB).mono ?_; rintro e w1 ⟨rfl, rfl⟩
        go_wp2_with fail
        go_ret
        exact ⟨rfl, Below.refl _ _⟩
      · have hAl := hA.lt
        have hBl := hB.lt
        have a0 := hA.2.2.1
        have b0 := hB.2.2.1
        have hne : (A == 0) = false := beq_eq_false_iff_ne.2 h0
        have HV : Hid (vv n A B = (((Tic.wt 12 A.toNat : Nat) : Int) == ((Tic.wt 12 B.toNat : Nat) : Int))) := Lib.hid (by
          by_cases hw : Tic.wt 12 A.toNat = Tic.wt 12 B.toNat
          · rw [vv_yes ⟨hA, hB, h0, hw⟩, hw]; simp
          · rw [vv_no (fun h => hw h.2.2.2)]; symm; exact beq_eq_false_iff_ne.2 (fun e => hw (by omega)))
        go_enter Try.func41, Try.ntmps41
        go_wp2_with fail
        refine (implValid_yes _ _ _ hA).mono ?_; rintro e w1 ⟨rfl, rfl⟩
        go_wp2_with fail
        refine (implValid_yes _ _ _ hB).mono ?_; rintro e w1 ⟨rfl, rfl⟩
        go_wp2_with fail
        refine (count_any n A A.toNat _ (by omega) (by omega)).mono ?_; rintro e w1 ⟨rfl, hb1⟩
        go_wp2_with fail
        refine (count_any n B B.toNat _ (by omega) (by omega)).mono ?_; rintro e w2 ⟨rfl, hb2⟩
        have HB := Lib.hid (hb1.trans (hb2.mono hb1.size))
        clear hb1 hb2
        generalize Tic.wt 12 A.toNat = p at *
        generalize Tic.wt 12 B.toNat = q at *
        go_wp2_with fail
        go_ret
        exact ⟨ret_bool HV.out.symm, HB.out⟩
    · rw [vv_no (fun h => hB h.2.1)]
      go_enter Try.func41, Try.ntmps41
      go_wp2_with fail
      refine (implValid_yes _ _ _ hA).mono ?_; rintro e w1 ⟨rfl, rfl⟩
      go_wp2_with fail
      refine (implValid_no _ _ _ hB).mono ?_; rintro e w1 ⟨rfl, rfl⟩
      go_wp2_with fail
      go_ret
      exact ⟨rfl, Below.refl _ _⟩
  · rw [vv_no (fun h => hA h.1)]
    go_enter Try.func41, Try.ntmps41
    go_wp2_with fail
    refine (implValid_no _ _ _ hA).mono ?_; rintro e w1 ⟨rfl, rfl⟩
    go_wp2_with fail
    go_ret
    exact ⟨rfl, Below.refl _ _⟩
end Go.Proofs.Ytjgkignnfkbeaaa
