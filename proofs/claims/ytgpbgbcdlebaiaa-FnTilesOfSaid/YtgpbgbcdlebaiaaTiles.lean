/-
  Contract of the program's tiles: the search goes on from each set of voices, and back by goto, until it has found all.
-/
import Derived.Test.YtgpbgbcdlebaiaaSearch3
import Derived.Test.YtgpbgbcdlebaiaaFindNum
import Derived.Test.YtgpbgbcdlebaiaaSortRow
import Derived.ScopeJumps
import Derived.WalkMore
namespace Go.Proofs.Ytgpbgbcdlebaiaa
open Go.RowKit Go.Maps
set_option linter.unusedVariables false

/-- what voices at T leave out -/
def mq (N A T : Nat) : Nat → Bool := fun t => !(Tic.un N A T N).testBit t
theorem fit_iff {N A T s : Nat} (h : 0 < N) : fitB N A s (mq N A T) = true ↔ Tic.un N A T N &&& Tic.shf N s A = 0 := by
  rw [fitB_iff]
  constructor
  · intro h1
    apply Nat.eq_of_testBit_eq
    intro t
    rw [Nat.zero_testBit, Nat.testBit_and]
    by_cases ht : t < N
    · cases e : (Tic.shf N s A).testBit t with
      | false => simp
      | true =>
        have := h1 t ht e
        unfold mq at this
        simp at this; simp [this]
    · rw [Tic.bit_big (Tic.un_lt h A T N) (by omega)]; rfl
  · intro h1 t ht e
    have h2 : (Tic.un N A T N &&& Tic.shf N s A).testBit t = false := by rw [h1]; exact Nat.zero_testBit t
    rw [Nat.testBit_and, e, Bool.and_true] at h2
    unfold mq; rw [h2]; rfl
theorem mq_next {N A T s t : Nat} (hT : T < 2 ^ s) (hs : s < N) : (mq N A T t && !(Tic.shf N s A).testBit t) = mq N A (T ||| 2 ^ s) t := by
  unfold mq
  rw [(Tic.un_next N A hT hs).1, Nat.testBit_or, Bool.not_or]
theorem mq_back {N A T l t : Nat} (hT : T < 2 ^ (l + 1)) (hb : T.testBit l = true) (hl : l < N) (hok : Tic.okk N A T N = true) : (mq N A T t || (Tic.shf N l A).testBit t) = mq N A (T % 2 ^ l) t := by
  have e : T = T % 2 ^ l ||| 2 ^ l := by rw [← Tic.mod_succ_yes hb, Nat.mod_eq_of_lt hT]
  have hU : T % 2 ^ l < 2 ^ l := Nat.mod_lt _ (Nat.two_pow_pos l)
  generalize T % 2 ^ l = U at e hU
  subst e
  obtain ⟨n1, n2⟩ := Tic.un_next N A hU hl
  rw [hok] at n2
  have n3 := (Bool.and_eq_true _ _).mp n2.symm
  have n4 : (Tic.un N A U N &&& Tic.shf N l A).testBit t = false := by rw [beq_iff_eq.1 n3.2]; exact Nat.zero_testBit t
  unfold mq
  rw [n1, Nat.testBit_or]
  rw [Nat.testBit_and] at n4
  generalize (Tic.un N A U N).testBit t = x at n4 ⊢
  generalize (Tic.shf N l A).testBit t = y at n4 ⊢
  revert n4
  cases x <;> cases y <;> simp
theorem mq_zero (N A t : Nat) : mq N A 0 t = true := by
  unfold mq
  rw [(Tic.un_top N A (b := 0) (k := 0) (by omega) (Nat.zero_le N)).1]
  show (!(0 : Nat).testBit t) = true
  rw [Nat.zero_testBit]; rfl
theorem mq_none {N A T : Nat} (h : 0 < N) : nq (mq N A T) N = 0 ↔ Tic.un N A T N = 2 ^ N - 1 := by
  rw [nq_none]
  constructor
  · intro h1
    apply Nat.eq_of_testBit_eq
    intro t
    rw [Nat.testBit_two_pow_sub_one]
    by_cases ht : t < N
    · have := h1 t ht
      unfold mq at this
      simp at this; simp [this, ht]
    · rw [Tic.bit_big (Tic.un_lt h A T N) (by omega)]; simp [ht]
  · intro h1 t ht
    unfold mq
    rw [h1, Nat.testBit_two_pow_sub_one]; simp [ht]
theorem top_bit {T n : Nat} (h0 : T ≠ 0) (h : T < 2 ^ n) : ∃ l, l < n ∧ T < 2 ^ (l + 1) ∧ T.testBit l = true := by
  induction n with
  | zero => omega
  | succ n ih =>
    by_cases h1 : T < 2 ^ n
    · obtain ⟨l, a, b⟩ := ih h1
      exact ⟨l, by omega, b⟩
    · exact ⟨n, by omega, h, Nat.testBit_of_two_pow_le_and_two_pow_add_one_gt (by omega) h⟩
theorem found_len {N : Nat} (h : 0 < N) (A : Nat) : (Tic.found N A).length ≤ 2 ^ (N - 1) := by
  have := Tic.tlTo_len N A (2 ^ (N - 1))
  rw [← Tic.found_sorted h A, List.length_mergeSort] at this
  exact this

/-- where the search stands: voices at T, the tones from s on to be tried, O found so far -/
def At (N A s T : Nat) (O : List Int) (m : Nat) : Prop :=
  T < 2 ^ s ∧ Tic.okk N A T N = true ∧ ((s = 0 ∧ T = 0 ∧ O = [] ∧ Tic.zF N A (N - 1) 1 1 ≤ m) ∨ (1 ≤ s ∧ T.testBit 0 = true ∧ O ++ (Tic.fF N A (N - s) T s ++ Tic.fP N A (N - 1) T) = Tic.found N A ∧ Tic.zF N A (N - s) T s + Tic.zP N A (N - 1) T ≤ m))
theorem At.start {N A : Nat} (h : 0 < N) : At N A 0 0 [] (Tic.zF N A (N - 1) 1 1) :=
  ⟨by omega, (Tic.un_top N A (b := 0) (k := 0) (by omega) (Nat.zero_le N)).2, .inl ⟨rfl, rfl, rfl, Nat.le_refl _⟩⟩
theorem At.yes {N A s T m : Nat} {O : List Int} (h : At N A s T O m) (hs : s < N) (hf : Tic.un N A T N &&& Tic.shf N s A = 0) : At N A (s + 1) (T ||| 2 ^ s) O m := by
  obtain ⟨h1, h2, h3⟩ := h
  have hn := Tic.un_next N A h1 hs
  refine ⟨Tic.or_lt h1, by rw [hn.2, h2, hf]; rfl, .inr ?_⟩
  rcases h3 with ⟨rfl, rfl, rfl, h4⟩ | ⟨h4, h5, h6, h7⟩
  · refine ⟨by omega, by decide, ?_, ?_⟩
    · rw [show 0 ||| 2 ^ 0 = 1 by decide, (Tic.fP_one N A (N - 1)).1]
      simp [Tic.found]
    · rw [show 0 ||| 2 ^ 0 = 1 by decide, (Tic.fP_one N A (N - 1)).2]
      simpa using h4
  · obtain ⟨f, hf2⟩ : ∃ f, N - s = f + 1 := ⟨N - s - 1, by omega⟩
    have hf3 : N - (s + 1) = f := by omega
    have hp := Tic.fP_next N A h1 h4 hs
    rw [hf3] at hp ⊢
    rw [hf2] at h6 h7
    unfold Tic.fF at h6
    unfold Tic.zF at h7
    rw [if_pos hf] at h6 h7
    refine ⟨by omega, ?_, ?_, ?_⟩
    · rw [Nat.testBit_or, h5]; rfl
    · rw [hp.1, ← h6]; simp [List.append_assoc]
    · rw [hp.2]; omega
theorem At.no {N A s T m : Nat} {O : List Int} (h : At N A s T O m) (hs : s < N) (hf : ¬ Tic.un N A T N &&& Tic.shf N s A = 0) : At N A (s + 1) T O m := by
  obtain ⟨h1, h2, h3⟩ := h
  have h8 : T < 2 ^ (s + 1) := Nat.lt_of_lt_of_le h1 (Nat.pow_le_pow_right (by omega) (by omega))
  rcases h3 with ⟨rfl, rfl, rfl, h4⟩ | ⟨h4, h5, h6, h7⟩
  · exfalso
    apply hf
    rw [(Tic.un_top N A (b := 0) (k := 0) (by omega) (Nat.zero_le N)).1]
    simp [Tic.un]
  · obtain ⟨f, hf2⟩ : ∃ f, N - s = f + 1 := ⟨N - s - 1, by omega⟩
    have hf3 : N - (s + 1) = f := by omega
    rw [hf2] at h6 h7
    unfold Tic.fF at h6
    unfold Tic.zF at h7
    rw [if_neg hf] at h6 h7
    exact ⟨h8, h2, .inr ⟨by omega, h5, by rw [hf3]; exact h6, by rw [hf3]; omega⟩⟩
/-- what is found at the end of a way -/
def endL (N A T : Nat) (O : List Int) : List Int := if Tic.un N A T N = 2 ^ N - 1 then O ++ [(T : Int)] else O
theorem At.ends {N A T m : Nat} {O : List Int} (h : At N A N T O m) (hN : 0 < N) : T < 2 ^ N ∧ T.testBit 0 = true ∧ Tic.okk N A T N = true ∧ endL N A T O ++ Tic.fP N A (N - 1) T = Tic.found N A ∧ Tic.zP N A (N - 1) T + 1 ≤ m := by
  obtain ⟨h1, h2, h3⟩ := h
  rcases h3 with ⟨h3, _⟩ | ⟨h4, h5, h6, h7⟩
  · omega
  · rw [Nat.sub_self] at h6 h7
    unfold Tic.fF at h6
    unfold Tic.zF at h7
    refine ⟨h1, h5, h2, ?_, by omega⟩
    unfold endL
    split
    · rename_i e
      rw [if_pos e] at h6
      rw [← h6]; simp [List.append_assoc]
    · rename_i e
      rw [if_neg e] at h6
      simpa using h6
theorem At.back {N A T m l : Nat} {O' : List Int} (hT : T < 2 ^ (l + 1)) (hb : T.testBit l = true) (hl0 : 0 < l) (hl : l < N) (h0 : T.testBit 0 = true) (hok : Tic.okk N A T N = true) (h6 : O' ++ Tic.fP N A (N - 1) T = Tic.found N A) (h7 : Tic.zP N A (N - 1) T ≤ m) : At N A (l + 1) (T % 2 ^ l) O' m := by
  have hp := Tic.fP_back N A hT hb hl0 hl
  have hm := Tic.un_mod N A (b := T) (k := l) (m := N) (by omega)
  refine ⟨Nat.lt_of_lt_of_le (Nat.mod_lt _ (Nat.two_pow_pos l)) (Nat.pow_le_pow_right (by omega) (by omega)), by rw [hm.2]; exact Tic.okk_le (by omega) hok, .inr ⟨by omega, ?_, ?_, ?_⟩⟩
  · rw [Nat.testBit_mod_two_pow, h0]; simp [hl0]
  · rw [← hp.1]; exact h6
  · rw [← hp.2]; exact h7
theorem Srch.low {w w' : World} {p b N A T B : Nat} {q : Nat → Bool} (h : Srch w p b N A T q) (hb : Below B w w') (hp : p < B) (hbB : b < B) : Srch w' p b N A T q := by
  obtain ⟨⟨c0, c1, c2, c3, c4, f2, f3⟩, hp1, hne, hm⟩ := h
  have e1 := hb.block p hp
  have e2 := hb.block b hbB
  have hc : ∀ o, w'.cell? ⟨p, o, none⟩ = w.cell? ⟨p, o, none⟩ := fun o => by unfold World.cell?; simp only [e1]
  have hf : ∀ o, w'.frozen? ⟨p, o, none⟩ = w.frozen? ⟨p, o, none⟩ := fun o => by unfold World.frozen?; simp only [e1]
  refine ⟨⟨(hc _).trans c0, (hc _).trans c1, (hc _).trans c2, (hc _).trans c3, (hc _).trans c4, (hf _).trans f2, (hf _).trans f3⟩, Nat.lt_of_lt_of_le hp1 hb.size, hne, ?_⟩
  obtain ⟨D, ⟨es, clock, hh, r⟩, h2⟩ := hm
  exact ⟨D, ⟨es, clock, e2.trans hh, r⟩, h2⟩

/-- how far the search is from its end, read off the memory -/
noncomputable def muT (N A : Nat) (a : Act) (w : World) : Nat :=
  match a.tmps.getD 4 undef with
  | .pointer (some ad) => (match w.cell? ⟨ad.block, 3, none⟩ with
    | some (.int _ T) => Tic.zF N A (N - (intOf (a.tmps.getD 5 undef)).toNat) T.toNat (intOf (a.tmps.getD 5 undef)).toNat + Tic.zP N A (N - 1) T.toNat
    | _ => 0)
  | _ => 0
/-- what holds at each jump back -/
def Back (N A : Nat) (w wr : World) (p b B s T : Nat) (v : Value) (O : List Int) : Prop :=
  s ≤ N ∧ At N A s T O (Tic.zF N A (N - s) T s + Tic.zP N A (N - 1) T) ∧ Srch wr p b N A T (mq N A T) ∧ w.heap.size < p ∧ w.heap.size < b ∧ p < B ∧ b < B ∧ B ≤ wr.heap.size ∧ Row wr B v O ∧ wr.cell? ⟨w.heap.size, 0, none⟩ = some (.int .i64 N) ∧ Below w.heap.size w wr

theorem muT_eq {N A p s T : Nat} {a : Act} {w : World} (h4 : a.tmps.getD 4 undef = .pointer (some ⟨p, 0, none⟩)) (h5 : a.tmps.getD 5 undef = .int .i64 (s : Int)) (hc : w.cell? ⟨p, 3, none⟩ = some (.int .i64 (T : Int))) : muT N A a w = Tic.zF N A (N - s) T s + Tic.zP N A (N - 1) T := by
  unfold muT
  rw [h4, h5]
  simp only [hc]
  simp [intOf]
set_option maxRecDepth 20000 in
set_option maxHeartbeats 4000000 in
theorem tiles_any (N A : Nat) (w : World) (hv : Tic.Valid N A) :
    Calls Try.prog 64 #[.agg #[.int .i64 N, .int .i64 A]] w (Gives (Tic.tlTo N A (2 ^ (N - 1))) w) := by
  have HV := Lib.hid hv
  have g1 := hv.1
  have g2 := hv.2.1
  have HN0 : Hid (0 < N) := Lib.hid (by omega)
  have hp12 : 2 ^ (N - 1) ≤ 2 ^ 11 := Nat.pow_le_pow_right (by omega) (by omega)
  have hpN := Tic.pow_le_12 g2
  rw [Int.toNat_natCast] at hpN
  have HFS := Lib.hid (Tic.found_sorted (n := N) (by omega) A)
  have HFL := Lib.hid (Nat.le_trans (found_len (N := N) (by omega) A) hp12)
  clear hv hp12
  go_enter Try.func64, Try.ntmps64
  go_wp2
  refine wp_scope_jumps 0 (fun a' wr => ∃ (p b B s T : Nat) (v : Value) (O : List Int) (u6 u7 u8 u9 u10 u11 u12 u13 u14 u15 u16 u17 u18 u19 u20 u21 u22 u23 u24 u25 u26 u27 u28 u29 u30 u31 u32 u33 u34 u35 u36 u37 u38 u39 u40 u41 u42 u43 : Value), a' = { tmps := #[.agg #[.int .i64 N, .int .i64 A], .pointer (some ⟨w.heap.size, 0, none⟩), .slice none 0 0, v, .pointer (some ⟨p, 0, none⟩), .int .i64 s, u6, u7, u8, u9, u10, u11, u12, u13, u14, u15, u16, u17, u18, u19, u20, u21, u22, u23, u24, u25, u26, u27, u28, u29, u30, u31, u32, u33, u34, u35, u36, u37, u38, u39, u40, u41, u42, u43], defers := [] } ∧ Back N A w wr p b B s T v O) (muT N A) rfl ?_ ?_
  · go_wp2_with fail
    refine (newSearch_any N A _ (by omega)).mono ?_; rintro e wr ⟨p, b, rfl, hp0, hb0, hs1, hb1⟩
    simp only [World.size_alloc] at hp0 hb0
    have hpB : p < wr.heap.size := hs1.2.1
    have hbB : b < wr.heap.size := hs1.2.2.2.lt
    have HSR : Hid (Srch wr p b N A 0 (mq N A 0)) := Lib.hid (hs1.congr fun t _ => (mq_zero N A t).symm)
    have HC : Hid (wr.cell? ⟨w.heap.size, 0, none⟩ = some (.int .i64 N)) := Lib.hid ((hb1.cell (p := ⟨w.heap.size, 0, none⟩) (by simp)).trans (by go_simp))
    have HB : Hid (Below w.heap.size w wr) := Lib.hid (((Below.refl _ _).alloc (Nat.le_refl _) _).trans (hb1.mono (by simp)))
    have HAT := Lib.hid (At.start (A := A) HN0.out)
    obtain ⟨B, hBe⟩ : ∃ B, B = wr.heap.size := ⟨_, rfl⟩
    rw [← hBe] at hpB hbB
    have hB : B ≤ wr.heap.size := by omega
    obtain ⟨O, hO⟩ : ∃ O : List Int, O = [] := ⟨_, rfl⟩
    rw [← hO] at HAT
    have HR : Hid (Row wr B (.slice none 0 0) O) := Lib.hid (by rw [hO]; exact Row.nil _ _)
    obtain ⟨v, hv⟩ : ∃ v, v = Value.slice none 0 0 := ⟨_, rfl⟩
    clear hs1 hb1 hBe hO
    go_wp2
    try go_step3
    try go_wp2
    rw [← hv] at HR
    subst hv
    obtain ⟨m, hm⟩ : ∃ m, m = Tic.zF N A (N - 1) 1 1 := ⟨_, rfl⟩
    rw [← hm] at HAT
    go_loopw [5] (fun t5 wr => ∃ s T : Nat, s ≤ N ∧ t5 = .int .i64 s ∧ Hid (At N A s T O m) ∧ Hid (Srch wr p b N A T (mq N A T)) ∧ B ≤ wr.heap.size ∧ Hid (Row wr B (.slice none 0 0) O) ∧ Hid (wr.cell? ⟨w.heap.size, 0, none⟩ = some (.int .i64 N)) ∧ Hid (Below w.heap.size w wr)) (fun t5 _ => N - (intOf t5).toNat)
    case atStart => exact ⟨0, 0, by omega, rfl, HAT, HSR, hB, HR, HC, HB⟩
    case round =>
      clear HAT HSR hB HR HC HB
      obtain ⟨s, T, hsN, rfl, HAT, HSR, hB, HR, HC, HB⟩ := hrel
      have c0 := HC.out
      by_cases hs : s < N
      · cases hf : fitB N A s (mq N A T) with
        | false =>
          have HF := Lib.hid hf
          have hn : ¬ Tic.un N A T N &&& Tic.shf N s A = 0 := fun e => by rw [(fit_iff HN0.out).2 e] at hf; cases hf
          have HA2 := Lib.hid (HAT.out.no hs hn)
          clear hf hn
          go_wp2_with fail
          refine (fits_any p b N A T s _ _ HV.out hs HSR.out).mono ?_; rintro e w1 ⟨rfl, hb1⟩
          rw [HF.out]
          have HS1 := Lib.hid (HSR.out.kept hb1)
          have HR1 := Lib.hid (HR.out.kept hb1)
          have HC1 := Lib.hid ((hb1.cell (p := ⟨w.heap.size, 0, none⟩) (by show w.heap.size < wr.heap.size; omega)).trans c0)
          have HB1 := Lib.hid (HB.out.trans (hb1.mono HB.out.size))
          have hsz := hb1.size
          clear hb1 HSR HR HC HB c0
          go_wp2
          go_roundw
          case rel => exact ⟨s + 1, T, by omega, by go_num, HA2, HS1, by omega, HR1, HC1, HB1⟩
          case measure => simp [intOf]; omega
        | true =>
          have HF := Lib.hid hf
          have hn := (fit_iff HN0.out).1 hf
          have HA2 := Lib.hid (HAT.out.yes hs hn)
          have hT : T < 2 ^ N := Nat.lt_of_lt_of_le HAT.out.1 (Nat.pow_le_pow_right (by omega) (by omega))
          have HMQ := Lib.hid (fun t (ht : t < N) => mq_next (N := N) (A := A) (t := t) HAT.out.1 hs)
          clear hf hn
          go_wp2_with fail
          refine (fits_any p b N A T s _ _ HV.out hs HSR.out).mono ?_; rintro e w1 ⟨rfl, hb1⟩
          rw [HF.out]
          have HS1 := Lib.hid (HSR.out.kept hb1)
          have HR1 := Lib.hid (HR.out.kept hb1)
          have HC1 := Lib.hid ((hb1.cell (p := ⟨w.heap.size, 0, none⟩) (by show w.heap.size < wr.heap.size; omega)).trans c0)
          have HB1 := Lib.hid (HB.out.trans (hb1.mono HB.out.size))
          have hsz := hb1.size
          clear hb1 HSR HR HC HB c0
          go_wp2_with fail
          refine (begin_any p b N A T s _ _ HV.out hs hT HS1.out).mono ?_; rintro e w2 ⟨rfl, hs2, hk2⟩
          have HS2 := Lib.hid (hs2.congr HMQ.out)
          have HR2 := Lib.hid (hk2.row HR1.out (fun e => by have := (HR1.out.lt _ e).1; omega) (fun e => by have := (HR1.out.lt _ e).1; omega))
          have HC2 : Hid (w2.cell? ⟨w.heap.size, 0, none⟩ = some (.int .i64 N)) := Lib.hid (by
            have e := hk2.2 w.heap.size (by omega) (by omega) (by omega)
            have e2 := HC1.out
            unfold World.cell? at e2 ⊢
            rw [e]; exact e2)
          have HB2 := Lib.hid (Keeps.below HB1.out hk2 (by omega) (by omega) HB1.out.size)
          have hsz2 := hk2.1.size
          clear hs2 hk2 HS1 HR1 HC1 HB1
          go_wp2
          go_roundw
          case rel => exact ⟨s + 1, T ||| 2 ^ s, by omega, by go_num, HA2, HS2, by omega, HR2, HC2, HB2⟩
          case measure => simp [intOf]; omega
      · obtain rfl : s = N := by omega
        obtain ⟨e1, e2, e3, e4, e5⟩ := HAT.out.ends HN0.out
        have HE2 := Lib.hid e2
        have HE3 := Lib.hid e3
        have HE4 := Lib.hid e4
        have hT0 : T ≠ 0 := fun e => by rw [e] at e2; simp at e2
        obtain ⟨l, hl, hl2, hl3⟩ := top_bit hT0 e1
        have HGB := Lib.hid (fun W (h : Srch W p b s A T (mq s A T)) => goBack_any p b s A T l _ W HV.out hl hl2 hl3 h)
        have HMB := Lib.hid (fun t (ht : t < s) => mq_back (t := t) hl2 hl3 hl e3)
        have HL2 := Lib.hid hl2
        have HL3 := Lib.hid hl3
        have hlen := fun ty => HSR.out.2.2.2.len ty
        have c3 := HSR.out.1.2.2.2.1
        have c4 := HSR.out.1.2.2.2.2.1
        clear e2 e3 e4 hl2 hl3 HAT hs
        by_cases hfull : Tic.un s A T s = 2 ^ s - 1
        · have hnq := (mq_none HN0.out).2 hfull
          rw [hnq] at hlen
          have HE : Hid (endL s A T O = O ++ [(T : Int)]) := Lib.hid (if_pos hfull)
          rw [HE.out] at HE4
          have hol : O.length + 1 ≤ 2 ^ 11 := by
            have h9 := HFL.out
            rw [← HE4.out] at h9
            simp at h9; omega
          clear hnq hfull HE
          go_wp2_with (at_builtin; refine wpList_append_int rfl _ _ rfl B _ O rfl (HR.out.alloc _) wr.heap.size 1 T rfl ?c1 ?c2 ?c3 ?_)
          case c1 => go_simp
          case c2 => omega
          case c3 => simp; omega
          intro v2 w2 hrow hb2
          have hb3 : Below B wr w2 := ((Below.refl B wr).alloc hB _).trans hb2
          have HR2 := Lib.hid hrow
          have HS2 := Lib.hid (HSR.out.low hb3 hpB hbB)
          have hC2 : w2.cell? ⟨w.heap.size, 0, none⟩ = some (.int .i64 s) := (hb3.cell (p := ⟨w.heap.size, 0, none⟩) (by show w.heap.size < B; omega)).trans c0
          have HB2 := Lib.hid (HB.out.trans (hb3.mono (by omega)))
          have hsz2 := hb3.size
          obtain ⟨O2, hO2⟩ : ∃ O2, O2 = O ++ [(T : Int)] := ⟨_, rfl⟩
          rw [← hO2] at HR2 HE4
          clear hrow hb2 hb3 hO2 HR HSR HC HB c0 c3 c4 hlen hol
          have HS9 := HS2.out
          go_wp2_with fail
          refine (HGB.out _ HS9).mono ?_; rintro e w3 ⟨rfl, hs3, hk3⟩
          have HS3 := Lib.hid (hs3.congr HMB.out)
          have HR3 := Lib.hid (hk3.row HR2.out (fun e => by have := (HR2.out.lt _ e).1; omega) (fun e => by have := (HR2.out.lt _ e).1; omega))
          have HC3 : Hid (w3.cell? ⟨w.heap.size, 0, none⟩ = some (.int .i64 s)) := Lib.hid (by
            have e := hk3.2 w.heap.size (by omega) (by omega) (by omega)
            have e2 := hC2
            unfold World.cell? at e2 ⊢
            rw [e]; exact e2)
          have HB3 := Lib.hid (Keeps.below HB2.out hk3 (by omega) (by omega) HB2.out.size)
          have hsz3 := hk3.1.size
          clear HS9 hs3 hk3 HS2 HR2 hC2 HB2
          by_cases hl0 : 0 < l
          · have hback := Tic.fP_back s A HL2.out HL3.out hl0 hl
            have HAB := Lib.hid (At.back HL2.out HL3.out hl0 hl HE2.out HE3.out HE4.out (Nat.le_of_eq hback.2))
            have hzb := hback.2
            clear hback
            generalize T % 2 ^ l = T2 at HAB HS3 hzb
            go_wp2
            try go_step3
            exact ⟨rfl, p, b, B, l + 1, T2, v2, O2, _, _, _, _, _, _, _, _, _, _, _, _, _, _, _, _, _, _, _, _, _, _, _, _, _, _, _, _, _, _, _, _, _, _, _, _, _, _, rfl, by omega, HAB.out, HS3.out, by omega, by omega, hpB, hbB, by omega, HR3.out, HC3.out, HB3.out⟩
          · obtain rfl : l = 0 := by omega
            have hT1 : T = 1 := by have := HL2.out; omega
            have HFO : Hid (O2 = Tic.found s A) := Lib.hid (by
              have h9 := HE4.out
              rw [hT1, (Tic.fP_one s A (s - 1)).1, List.append_nil] at h9
              exact h9)
            clear hT1
            go_wp2_with fail
            refine (sort_row _ B O2 _ HR3.out).mono ?_; rintro e w4 ⟨rfl, hr4, hg4⟩
            rw [HFO.out, HFS.out] at hr4
            have HG : Hid (Gives (Tic.tlTo s A (2 ^ (s - 1))) w (.returned v2) w4) := Lib.hid ⟨_, rfl, hr4.mono (by omega), HB3.out.grown hg4 HB3.out.size (fun k hk => by have := (HR3.out.lt k hk).1; omega)⟩
            clear hr4 hg4
            go_wp2
            simp only [Exit.jump]
            go_ret
            exact HG.out
        · have hnq : ¬ nq (mq s A T) s = 0 := fun e => hfull ((mq_none HN0.out).1 e)
          have HE : Hid (endL s A T O = O) := Lib.hid (if_neg hfull)
          rw [HE.out] at HE4
          have hnl := nq_le (mq s A T) s
          generalize nq (mq s A T) s = z at hlen hnq hnl
          have hz : ((z : Int) == 0) = false := by rw [beq_eq_false_iff_ne]; omega
          have HR2 := HR
          have HS2 := HSR
          have hC2 := c0
          have HB2 := HB
          have hsz2 := Nat.le_refl wr.heap.size
          obtain ⟨O2, hO2⟩ : ∃ O2, O2 = O := ⟨_, rfl⟩
          rw [← hO2] at HR2 HE4
          clear hfull HE HR HSR HC HB c0 c3 hO2
          have HS9 := HS2.out
          go_wp2_with fail
          refine (HGB.out _ HS9).mono ?_; rintro e w3 ⟨rfl, hs3, hk3⟩
          have HS3 := Lib.hid (hs3.congr HMB.out)
          have HR3 := Lib.hid (hk3.row HR2.out (fun e => by have := (HR2.out.lt _ e).1; omega) (fun e => by have := (HR2.out.lt _ e).1; omega))
          have HC3 : Hid (w3.cell? ⟨w.heap.size, 0, none⟩ = some (.int .i64 s)) := Lib.hid (by
            have e := hk3.2 w.heap.size (by omega) (by omega) (by omega)
            have e2 := hC2
            unfold World.cell? at e2 ⊢
            rw [e]; exact e2)
          have HB3 := Lib.hid (Keeps.below HB2.out hk3 (by omega) (by omega) HB2.out.size)
          have hsz3 := hk3.1.size
          clear HS9 hs3 hk3 HS2 HR2 hC2 HB2
          by_cases hl0 : 0 < l
          · have hback := Tic.fP_back s A HL2.out HL3.out hl0 hl
            have HAB := Lib.hid (At.back HL2.out HL3.out hl0 hl HE2.out HE3.out HE4.out (Nat.le_of_eq hback.2))
            have hzb := hback.2
            clear hback
            generalize T % 2 ^ l = T2 at HAB HS3 hzb
            go_wp2
            try go_step3
            exact ⟨rfl, p, b, B, l + 1, T2, .slice none 0 0, O2, _, _, _, _, _, _, _, _, _, _, _, _, _, _, _, _, _, _, _, _, _, _, _, _, _, _, _, _, _, _, _, _, _, _, _, _, _, _, rfl, by omega, HAB.out, HS3.out, by omega, by omega, hpB, hbB, by omega, HR3.out, HC3.out, HB3.out⟩
          · obtain rfl : l = 0 := by omega
            have hT1 : T = 1 := by have := HL2.out; omega
            have HFO : Hid (O2 = Tic.found s A) := Lib.hid (by
              have h9 := HE4.out
              rw [hT1, (Tic.fP_one s A (s - 1)).1, List.append_nil] at h9
              exact h9)
            clear hT1
            go_wp2_with fail
            refine (sort_row _ B O2 _ HR3.out).mono ?_; rintro e w4 ⟨rfl, hr4, hg4⟩
            rw [HFO.out, HFS.out] at hr4
            have HG : Hid (Gives (Tic.tlTo s A (2 ^ (s - 1))) w (.returned (.slice none 0 0)) w4) := Lib.hid ⟨_, rfl, hr4.mono (by omega), HB3.out.grown hg4 HB3.out.size (fun k hk => by have := (HR3.out.lt k hk).1; omega)⟩
            clear hr4 hg4
            go_wp2
            simp only [Exit.jump]
            go_ret
            exact HG.out

  · rintro a' wr ⟨p, b, B, s0, T0, v, O, u6, u7, u8, u9, u10, u11, u12, u13, u14, u15, u16, u17, u18, u19, u20, u21, u22, u23, u24, u25, u26, u27, u28, u29, u30, u31, u32, u33, u34, u35, u36, u37, u38, u39, u40, u41, u42, u43, rfl, hs0, HAT0, HSR0, hp0, hb0, hpB, hbB, hB, HR0, HC0, HB0⟩
    have HAT := Lib.hid HAT0
    have HSR := Lib.hid HSR0
    have HR := Lib.hid HR0
    have HC := Lib.hid HC0
    have HB := Lib.hid HB0
    have HMU := Lib.hid HSR0.1.2.2.2.1
    clear HAT0 HSR0 HR0 HC0 HB0
    go_wp2
    obtain ⟨m, hm⟩ : ∃ m, m = Tic.zF N A (N - s0) T0 s0 + Tic.zP N A (N - 1) T0 := ⟨_, rfl⟩
    rw [← hm] at HAT
    go_loopw [5] (fun t5 wr => ∃ s T : Nat, s ≤ N ∧ t5 = .int .i64 s ∧ Hid (At N A s T O m) ∧ Hid (Srch wr p b N A T (mq N A T)) ∧ B ≤ wr.heap.size ∧ Hid (Row wr B v O) ∧ Hid (wr.cell? ⟨w.heap.size, 0, none⟩ = some (.int .i64 N)) ∧ Hid (Below w.heap.size w wr)) (fun t5 _ => N - (intOf t5).toNat)
    case atStart => exact ⟨s0, T0, by omega, rfl, HAT, HSR, hB, HR, HC, HB⟩
    case round =>
      clear HAT HSR hB HR HC HB
      obtain ⟨s, T, hsN, rfl, HAT, HSR, hB, HR, HC, HB⟩ := hrel
      have c0 := HC.out
      by_cases hs : s < N
      · cases hf : fitB N A s (mq N A T) with
        | false =>
          have HF := Lib.hid hf
          have hn : ¬ Tic.un N A T N &&& Tic.shf N s A = 0 := fun e => by rw [(fit_iff HN0.out).2 e] at hf; cases hf
          have HA2 := Lib.hid (HAT.out.no hs hn)
          clear hf hn
          go_wp2_with fail
          refine (fits_any p b N A T s _ _ HV.out hs HSR.out).mono ?_; rintro e w1 ⟨rfl, hb1⟩
          rw [HF.out]
          have HS1 := Lib.hid (HSR.out.kept hb1)
          have HR1 := Lib.hid (HR.out.kept hb1)
          have HC1 := Lib.hid ((hb1.cell (p := ⟨w.heap.size, 0, none⟩) (by show w.heap.size < wr.heap.size; omega)).trans c0)
          have HB1 := Lib.hid (HB.out.trans (hb1.mono HB.out.size))
          have hsz := hb1.size
          clear hb1 HSR HR HC HB c0
          go_wp2
          go_roundw
          case rel => exact ⟨s + 1, T, by omega, by go_num, HA2, HS1, by omega, HR1, HC1, HB1⟩
          case measure => simp [intOf]; omega
        | true =>
          have HF := Lib.hid hf
          have hn := (fit_iff HN0.out).1 hf
          have HA2 := Lib.hid (HAT.out.yes hs hn)
          have hT : T < 2 ^ N := Nat.lt_of_lt_of_le HAT.out.1 (Nat.pow_le_pow_right (by omega) (by omega))
          have HMQ := Lib.hid (fun t (ht : t < N) => mq_next (N := N) (A := A) (t := t) HAT.out.1 hs)
          clear hf hn
          go_wp2_with fail
          refine (fits_any p b N A T s _ _ HV.out hs HSR.out).mono ?_; rintro e w1 ⟨rfl, hb1⟩
          rw [HF.out]
          have HS1 := Lib.hid (HSR.out.kept hb1)
          have HR1 := Lib.hid (HR.out.kept hb1)
          have HC1 := Lib.hid ((hb1.cell (p := ⟨w.heap.size, 0, none⟩) (by show w.heap.size < wr.heap.size; omega)).trans c0)
          have HB1 := Lib.hid (HB.out.trans (hb1.mono HB.out.size))
          have hsz := hb1.size
          clear hb1 HSR HR HC HB c0
          go_wp2_with fail
          refine (begin_any p b N A T s _ _ HV.out hs hT HS1.out).mono ?_; rintro e w2 ⟨rfl, hs2, hk2⟩
          have HS2 := Lib.hid (hs2.congr HMQ.out)
          have HR2 := Lib.hid (hk2.row HR1.out (fun e => by have := (HR1.out.lt _ e).1; omega) (fun e => by have := (HR1.out.lt _ e).1; omega))
          have HC2 : Hid (w2.cell? ⟨w.heap.size, 0, none⟩ = some (.int .i64 N)) := Lib.hid (by
            have e := hk2.2 w.heap.size (by omega) (by omega) (by omega)
            have e2 := HC1.out
            unfold World.cell? at e2 ⊢
            rw [e]; exact e2)
          have HB2 := Lib.hid (Keeps.below HB1.out hk2 (by omega) (by omega) HB1.out.size)
          have hsz2 := hk2.1.size
          clear hs2 hk2 HS1 HR1 HC1 HB1
          go_wp2
          go_roundw
          case rel => exact ⟨s + 1, T ||| 2 ^ s, by omega, by go_num, HA2, HS2, by omega, HR2, HC2, HB2⟩
          case measure => simp [intOf]; omega
      · obtain rfl : s = N := by omega
        obtain ⟨e1, e2, e3, e4, e5⟩ := HAT.out.ends HN0.out
        have HE2 := Lib.hid e2
        have HE3 := Lib.hid e3
        have HE4 := Lib.hid e4
        have hT0 : T ≠ 0 := fun e => by rw [e] at e2; simp at e2
        obtain ⟨l, hl, hl2, hl3⟩ := top_bit hT0 e1
        have HGB := Lib.hid (fun W (h : Srch W p b s A T (mq s A T)) => goBack_any p b s A T l _ W HV.out hl hl2 hl3 h)
        have HMB := Lib.hid (fun t (ht : t < s) => mq_back (t := t) hl2 hl3 hl e3)
        have HL2 := Lib.hid hl2
        have HL3 := Lib.hid hl3
        have hlen := fun ty => HSR.out.2.2.2.len ty
        have c3 := HSR.out.1.2.2.2.1
        have c4 := HSR.out.1.2.2.2.2.1
        clear e2 e3 e4 hl2 hl3 HAT hs
        by_cases hfull : Tic.un s A T s = 2 ^ s - 1
        · have hnq := (mq_none HN0.out).2 hfull
          rw [hnq] at hlen
          have HE : Hid (endL s A T O = O ++ [(T : Int)]) := Lib.hid (if_pos hfull)
          rw [HE.out] at HE4
          have hol : O.length + 1 ≤ 2 ^ 11 := by
            have h9 := HFL.out
            rw [← HE4.out] at h9
            simp at h9; omega
          clear hnq hfull HE
          go_wp2_with (at_builtin; refine wpList_append_int rfl _ _ rfl B _ O rfl (HR.out.alloc _) wr.heap.size 1 T rfl ?c1 ?c2 ?c3 ?_)
          case c1 => go_simp
          case c2 => omega
          case c3 => simp; omega
          intro v2 w2 hrow hb2
          have hb3 : Below B wr w2 := ((Below.refl B wr).alloc hB _).trans hb2
          have HR2 := Lib.hid hrow
          have HS2 := Lib.hid (HSR.out.low hb3 hpB hbB)
          have hC2 : w2.cell? ⟨w.heap.size, 0, none⟩ = some (.int .i64 s) := (hb3.cell (p := ⟨w.heap.size, 0, none⟩) (by show w.heap.size < B; omega)).trans c0
          have HB2 := Lib.hid (HB.out.trans (hb3.mono (by omega)))
          have hsz2 := hb3.size
          obtain ⟨O2, hO2⟩ : ∃ O2, O2 = O ++ [(T : Int)] := ⟨_, rfl⟩
          rw [← hO2] at HR2 HE4
          clear hrow hb2 hb3 hO2 HR HSR HC HB c0 c3 c4 hlen hol
          have HS9 := HS2.out
          go_wp2_with fail
          refine (HGB.out _ HS9).mono ?_; rintro e w3 ⟨rfl, hs3, hk3⟩
          have HS3 := Lib.hid (hs3.congr HMB.out)
          have HR3 := Lib.hid (hk3.row HR2.out (fun e => by have := (HR2.out.lt _ e).1; omega) (fun e => by have := (HR2.out.lt _ e).1; omega))
          have HC3 : Hid (w3.cell? ⟨w.heap.size, 0, none⟩ = some (.int .i64 s)) := Lib.hid (by
            have e := hk3.2 w.heap.size (by omega) (by omega) (by omega)
            have e2 := hC2
            unfold World.cell? at e2 ⊢
            rw [e]; exact e2)
          have HB3 := Lib.hid (Keeps.below HB2.out hk3 (by omega) (by omega) HB2.out.size)
          have hsz3 := hk3.1.size
          clear HS9 hs3 hk3 HS2 HR2 hC2 HB2
          by_cases hl0 : 0 < l
          · have hback := Tic.fP_back s A HL2.out HL3.out hl0 hl
            have HAB := Lib.hid (At.back HL2.out HL3.out hl0 hl HE2.out HE3.out HE4.out (Nat.le_of_eq hback.2))
            have hzb := hback.2
            clear hback
            generalize T % 2 ^ l = T2 at HAB HS3 hzb
            go_wp2
            try go_step3
            refine ⟨rfl, ⟨p, b, B, l + 1, T2, v2, O2, _, _, _, _, _, _, _, _, _, _, _, _, _, _, _, _, _, _, _, _, _, _, _, _, _, _, _, _, _, _, _, _, _, _, _, _, _, _, rfl, by omega, HAB.out, HS3.out, by omega, by omega, hpB, hbB, by omega, HR3.out, HC3.out, HB3.out⟩, ?_⟩
            rw [muT_eq rfl rfl HMU.out, muT_eq (s := l + 1) rfl rfl HS3.out.1.2.2.2.1]
            omega
          · obtain rfl : l = 0 := by omega
            have hT1 : T = 1 := by have := HL2.out; omega
            have HFO : Hid (O2 = Tic.found s A) := Lib.hid (by
              have h9 := HE4.out
              rw [hT1, (Tic.fP_one s A (s - 1)).1, List.append_nil] at h9
              exact h9)
            clear hT1
            go_wp2_with fail
            refine (sort_row _ B O2 _ HR3.out).mono ?_; rintro e w4 ⟨rfl, hr4, hg4⟩
            rw [HFO.out, HFS.out] at hr4
            have HG : Hid (Gives (Tic.tlTo s A (2 ^ (s - 1))) w (.returned v2) w4) := Lib.hid ⟨_, rfl, hr4.mono (by omega), HB3.out.grown hg4 HB3.out.size (fun k hk => by have := (HR3.out.lt k hk).1; omega)⟩
            clear hr4 hg4
            go_wp2
            simp only [Exit.jump]
            go_ret
            exact HG.out
        · have hnq : ¬ nq (mq s A T) s = 0 := fun e => hfull ((mq_none HN0.out).1 e)
          have HE : Hid (endL s A T O = O) := Lib.hid (if_neg hfull)
          rw [HE.out] at HE4
          have hnl := nq_le (mq s A T) s
          generalize nq (mq s A T) s = z at hlen hnq hnl
          have hz : ((z : Int) == 0) = false := by rw [beq_eq_false_iff_ne]; omega
          have HR2 := HR
          have HS2 := HSR
          have hC2 := c0
          have HB2 := HB
          have hsz2 := Nat.le_refl wr.heap.size
          obtain ⟨O2, hO2⟩ : ∃ O2, O2 = O := ⟨_, rfl⟩
          rw [← hO2] at HR2 HE4
          clear hfull HE HR HSR HC HB c0 c3 hO2
          have HS9 := HS2.out
          go_wp2_with fail
          refine (HGB.out _ HS9).mono ?_; rintro e w3 ⟨rfl, hs3, hk3⟩
          have HS3 := Lib.hid (hs3.congr HMB.out)
          have HR3 := Lib.hid (hk3.row HR2.out (fun e => by have := (HR2.out.lt _ e).1; omega) (fun e => by have := (HR2.out.lt _ e).1; omega))
          have HC3 : Hid (w3.cell? ⟨w.heap.size, 0, none⟩ = some (.int .i64 s)) := Lib.hid (by
            have e := hk3.2 w.heap.size (by omega) (by omega) (by omega)
            have e2 := hC2
            unfold World.cell? at e2 ⊢
            rw [e]; exact e2)
          have HB3 := Lib.hid (Keeps.below HB2.out hk3 (by omega) (by omega) HB2.out.size)
          have hsz3 := hk3.1.size
          clear HS9 hs3 hk3 HS2 HR2 hC2 HB2
          by_cases hl0 : 0 < l
          · have hback := Tic.fP_back s A HL2.out HL3.out hl0 hl
            have HAB := Lib.hid (At.back HL2.out HL3.out hl0 hl HE2.out HE3.out HE4.out (Nat.le_of_eq hback.2))
            have hzb := hback.2
            clear hback
            generalize T % 2 ^ l = T2 at HAB HS3 hzb
            go_wp2
            try go_step3
            refine ⟨rfl, ⟨p, b, B, l + 1, T2, v, O2, _, _, _, _, _, _, _, _, _, _, _, _, _, _, _, _, _, _, _, _, _, _, _, _, _, _, _, _, _, _, _, _, _, _, _, _, _, _, rfl, by omega, HAB.out, HS3.out, by omega, by omega, hpB, hbB, by omega, HR3.out, HC3.out, HB3.out⟩, ?_⟩
            rw [muT_eq rfl rfl HMU.out, muT_eq (s := l + 1) rfl rfl HS3.out.1.2.2.2.1]
            omega
          · obtain rfl : l = 0 := by omega
            have hT1 : T = 1 := by have := HL2.out; omega
            have HFO : Hid (O2 = Tic.found s A) := Lib.hid (by
              have h9 := HE4.out
              rw [hT1, (Tic.fP_one s A (s - 1)).1, List.append_nil] at h9
              exact h9)
            clear hT1
            go_wp2_with fail
            refine (sort_row _ B O2 _ HR3.out).mono ?_; rintro e w4 ⟨rfl, hr4, hg4⟩
            rw [HFO.out, HFS.out] at hr4
            have HG : Hid (Gives (Tic.tlTo s A (2 ^ (s - 1))) w (.returned v) w4) := Lib.hid ⟨_, rfl, hr4.mono (by omega), HB3.out.grown hg4 HB3.out.size (fun k hk => by have := (HR3.out.lt k hk).1; omega)⟩
            clear hr4 hg4
            go_wp2
            simp only [Exit.jump]
            go_ret
            exact HG.out

end Go.Proofs.Ytgpbgbcdlebaiaa
