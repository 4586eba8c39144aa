/-
  Contract of the program's IntoOctave.
-/
import Derived.Test.YtpcbplademohnaaDoorInto
namespace Go.Proofs.YtpcbplademohnaaDoor
open Go.RowKit
set_option linter.unusedVariables false
set_option maxRecDepth 20000

theorem iInto_len (v : Value) (B : Nat) (L : List Int) (w : World) (hr : Row w B v L) (h : ¬ L.length = 3) :
    Calls Tryd.prog 16 #[v] w (GivesOk [] false w) := by
  have HC := Lib.hid (powersIn_no v B L w hr h)
  unfold pwV at HC
  clear hr h
  go_enter Tryd.func16, Tryd.ntmps16
  go_wp2_with fail
  refine HC.out.mono ?_; rintro e w1 ⟨rfl, hb⟩
  have hB := hb.trans (((Below.refl w1.heap.size w1).alloc (Nat.le_refl _) (.cells #[.int .i64 0, .int .i64 0, .int .i64 0] 41)).mono hb.size)
  clear hb
  go_wp2
  go_ret2
  exact ⟨_, rfl, Row.nil _ _, hB⟩
set_option maxHeartbeats 800000 in
theorem iInto_three (v : Value) (B : Nat) (a b c : Int) (w : World) (hl : Limits w) (hp : Primes w) (hr : Row w B v [a, b, c]) :
    Calls Tryd.prog 16 #[v] w (GivesInto (into [a, b, c]) w) := by
  have HC := Lib.hid (powersIn_any v B a b c w hl hr)
  have HP := Lib.hid hp
  have HL := Lib.hid hl
  clear hr hl hp
  by_cases h : Tic.Pws a b c
  · rw [decide_eq_true h] at HC
    have h35 := h.p35
    have HW := Lib.hid (fun w hw => within_any a b c w hw ⟨h.1, h.2.1⟩ h35)
    have HV := Lib.hid (fun w hw => pvalid_any (Tic.oct b c) b c w hw)
    have hpd : decide (Tic.Pws (Tic.oct b c) b c) = decide (-24 ≤ Tic.oct b c ∧ Tic.oct b c ≤ 24) := decide_eq_decide.2 ⟨fun hh => ⟨hh.1, hh.2.1⟩, fun hh => ⟨hh.1, hh.2, h35⟩⟩
    rw [hpd] at HV
    have HI : Hid (into [a, b, c] = if -24 ≤ Tic.oct b c ∧ Tic.oct b c ≤ 24 then some [Tic.oct b c, b, c] else none) := Lib.hid (by
      by_cases h1 : -24 ≤ Tic.oct b c ∧ Tic.oct b c ≤ 24
      · rw [if_pos h1, into_yes h h1]
      · rw [if_neg h1, into_out h1])
    generalize hO : into [a, b, c] = O at HI ⊢
    have HS := Lib.hid (fun w => plist_any (Tic.oct b c) b c w)
    clear hpd h35 h hO
    unfold rtO rtV at HW
    unfold pwV at HC HW HV HS
    generalize (Tic.rup (Tic.oct b c) b c : Int) = x at HW
    generalize (Tic.rdn (Tic.oct b c) b c : Int) = y at HW
    generalize Tic.oct b c = o at *
    by_cases h1 : -24 ≤ o ∧ o ≤ 24
    · rw [if_pos h1] at HI
      rw [decide_eq_true h1] at HV
      clear h1
      go_enter Tryd.func16, Tryd.ntmps16
      go_wp2_with fail
      refine HC.out.mono ?_; rintro e w1 ⟨rfl, hb⟩
      have hb1 := (Below.refl w1.heap.size w1).alloc (Nat.le_refl _) (.cells #[.int .i64 a, .int .i64 b, .int .i64 c] 41)
      have hB := hb.trans (hb1.mono hb.size)
      have HB1 := Lib.hid hB
      have HP1 := Lib.hid (HP.out.kept hB)
      have HL1 := Lib.hid (HL.out.kept hB)
      obtain ⟨p0, p1, p2, _⟩ := Pw3.new w1 a b c 41
      clear hb hb1 hB
      go_wp2_with fail
      generalize w1.alloc (.cells #[.int .i64 a, .int .i64 b, .int .i64 c] 41) = W1 at *
      refine (HW.out _ HP1.out).mono ?_; rintro e w2 ⟨rfl, hb⟩
      have hb1 := (Below.refl w2.heap.size w2).alloc (Nat.le_refl _) (.cells #[.int .i64 o, .int .i64 b, .int .i64 c, .int .i64 x, .int .i64 y] 43)
      have hB := hb.trans (hb1.mono hb.size)
      have HB2 := Lib.hid (HB1.out.trans (hB.mono HB1.out.size))
      have HL2 := Lib.hid (HL1.out.kept hB)
      have HR := Lib.hid (Rt.new w2 o b c x y 43)
      obtain ⟨r0, r1, r2, r3, r4, _⟩ := HR.out
      clear hb hb1 hB HB1 HP1 HL1 p0 p1 p2
      go_wp2_with fail
      generalize w2.alloc (.cells #[.int .i64 o, .int .i64 b, .int .i64 c, .int .i64 x, .int .i64 y] 43) = W2 at *
      clear r0 r1 r2 r3 r4
      refine (HV.out _ HL2.out).mono ?_; rintro e w3 ⟨rfl, hb⟩
      have HB3 := Lib.hid (HB2.out.trans (hb.mono HB2.out.size))
      have HR3 := Lib.hid (HR.out.kept hb HR.out.lt)
      obtain ⟨r0, r1, r2, r3, r4, _⟩ := HR3.out
      clear hb HB2 HR
      go_wp2_with fail
      refine (HS.out _).mono ?_; rintro e w4 ⟨v4, rfl, hrow, hb⟩
      have HG : Hid (GivesInto O w (.returned (.tuple #[v4, .bool true])) w4) := by
        rw [HI.out]
        exact ⟨_, rfl, hrow.mono HB3.out.size, HB3.out.trans (hb.mono HB3.out.size)⟩
      clear hb hrow HB3 HR3
      go_wp2
      go_ret2
      exact HG.out
    · rw [if_neg h1] at HI
      rw [decide_eq_false h1] at HV
      clear h1
      go_enter Tryd.func16, Tryd.ntmps16
      go_wp2_with fail
      refine HC.out.mono ?_; rintro e w1 ⟨rfl, hb⟩
      have hb1 := (Below.refl w1.heap.size w1).alloc (Nat.le_refl _) (.cells #[.int .i64 a, .int .i64 b, .int .i64 c] 41)
      have hB := hb.trans (hb1.mono hb.size)
      have HB1 := Lib.hid hB
      have HP1 := Lib.hid (HP.out.kept hB)
      have HL1 := Lib.hid (HL.out.kept hB)
      obtain ⟨p0, p1, p2, _⟩ := Pw3.new w1 a b c 41
      clear hb hb1 hB
      go_wp2_with fail
      generalize w1.alloc (.cells #[.int .i64 a, .int .i64 b, .int .i64 c] 41) = W1 at *
      refine (HW.out _ HP1.out).mono ?_; rintro e w2 ⟨rfl, hb⟩
      have hb1 := (Below.refl w2.heap.size w2).alloc (Nat.le_refl _) (.cells #[.int .i64 o, .int .i64 b, .int .i64 c, .int .i64 x, .int .i64 y] 43)
      have hB := hb.trans (hb1.mono hb.size)
      have HB2 := Lib.hid (HB1.out.trans (hB.mono HB1.out.size))
      have HL2 := Lib.hid (HL1.out.kept hB)
      have HR := Lib.hid (Rt.new w2 o b c x y 43)
      obtain ⟨r0, r1, r2, r3, r4, _⟩ := HR.out
      clear hb hb1 hB HB1 HP1 HL1 p0 p1 p2
      go_wp2_with fail
      generalize w2.alloc (.cells #[.int .i64 o, .int .i64 b, .int .i64 c, .int .i64 x, .int .i64 y] 43) = W2 at *
      clear r0 r1 r2 r3 r4
      refine (HV.out _ HL2.out).mono ?_; rintro e w3 ⟨rfl, hb⟩
      have HB3 := Lib.hid (HB2.out.trans (hb.mono HB2.out.size))
      clear hb HB2 HR
      go_wp2
      go_ret2
      rw [HI.out]
      exact ⟨_, rfl, Row.nil _ _, HB3.out⟩
  · rw [into_no (fun ⟨x, y, z, e, hx⟩ => by simp only [List.cons.injEq, and_true] at e; obtain ⟨rfl, rfl, rfl⟩ := e; exact h hx)]
    rw [decide_eq_false h] at HC
    clear h
    unfold pwV at HC
    go_enter Tryd.func16, Tryd.ntmps16
    go_wp2_with fail
    refine HC.out.mono ?_; rintro e w1 ⟨rfl, hb⟩
    have hB := hb.trans (((Below.refl w1.heap.size w1).alloc (Nat.le_refl _) (.cells #[.int .i64 a, .int .i64 b, .int .i64 c] 41)).mono hb.size)
    clear hb
    go_wp2
    go_ret2
    exact ⟨_, rfl, Row.nil _ _, hB⟩
theorem iInto_all (v : Value) (B : Nat) (L : List Int) (w : World) (hl : Limits w) (hp : Primes w) (hr : Row w B v L) :
    Calls Tryd.prog 16 #[v] w (GivesInto (into L) w) := by
  by_cases h3 : L.length = 3
  · obtain ⟨a, b, c, rfl⟩ := three_of_len h3
    exact iInto_three v B a b c w hl hp hr
  · rw [into_no (fun ⟨x, y, z, e, hx⟩ => h3 (by rw [e]; rfl))]
    exact iInto_len v B L w hr h3
theorem sInto_all (v : Value) (B : Nat) (L : List Int) (w : World) (hr : Row w B v L) :
    Calls Tryd.prog 38 #[v] w (GivesInto (into L) w) := by
  by_cases h : PwsL L
  · obtain ⟨a, b, c, rfl, hp⟩ := h
    exact sInto_yes v B a b c w hr hp
  · rw [into_no h]
    exact sInto_no v B L w hr h
end Go.Proofs.YtpcbplademohnaaDoor
