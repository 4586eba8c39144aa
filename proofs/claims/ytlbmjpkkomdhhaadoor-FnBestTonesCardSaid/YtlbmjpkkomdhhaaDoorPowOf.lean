/-
  Contracts of PowersOf: a number divided by a prime, of the program.
-/
import Derived.Test.YtlbmjpkkomdhhaaDoorInto
import Derived.Test.YtlbmjpkkomdhhaaDoorPowNum
namespace Go.Proofs.YtlbmjpkkomdhhaaDoor
open Go.RowKit
set_option linter.unusedVariables false
set_option maxRecDepth 20000

theorem num_int {u : Int} (h : 1 ≤ u ∧ u ≤ 1000000) : Tic.Num u.toNat := ⟨by omega, by omega⟩
theorem rem_yes {u p : Nat} (h : u % p = 0) : ((u : Int) % (p : Int) == 0) = true := by rw [← Int.natCast_emod, h]; rfl
theorem rem_no {u p : Nat} (h : ¬ u % p = 0) : ((u : Int) % (p : Int) == 0) = false := by
  rw [← Int.natCast_emod, beq_eq_false_iff_ne]; omega
theorem quot_cast (u p : Nat) : (u : Int) / (p : Int) = ((u / p : Nat) : Int) := (Int.natCast_ediv u p).symm

set_option maxHeartbeats 400000 in
theorem divided_any (x p : Nat) (w : World) (hx : Tic.Num x) (hp : 2 ≤ p) (hp5 : p ≤ 5) :
    Calls Tryd.prog 49 #[.int .i64 x, .int .i64 p] w fun e w' => e = .returned (.tuple #[.int .i64 (Tic.vp p x : Int), .int .i64 (Tic.lf p x : Int)]) ∧ w = w' := by
  have h19 := (Tic.lf_num hp _ x rfl hx).2.2.2
  have HN := Lib.hid hx
  generalize hV : Tic.vp p x = V at h19 ⊢
  generalize hL : Tic.lf p x = L
  have HV := Lib.hid hV
  have HL := Lib.hid hL
  clear hV hL
  have hxx := hx.2
  clear hx
  have hp0 : ¬ p = 0 := by omega
  go_enter Tryd.func49, Tryd.ntmps49
  go_wp2
  go_loop [0, 6] (fun t0 t6 => ∃ y k : Nat, Hid (Tic.Num y) ∧ k ≤ V ∧ y ≤ 1000000 ∧ t0 = .int .i64 y ∧ t6 = .int .i64 k ∧ Hid (k + Tic.vp p y = V) ∧ Hid (Tic.lf p y = L)) (fun t0 _ => (intOf t0).toNat)
  case atStart => exact ⟨x, 0, HN, Nat.zero_le _, hxx, rfl, rfl, Lib.hid (by rw [HV.out]; omega), HL⟩
  case round =>
    obtain ⟨y, k, hn, hk, hy, rfl, rfl, hv, hl⟩ := hrel
    by_cases hd : y % p = 0
    · have hq := rem_yes hd
      have hc := quot_cast y p
      obtain ⟨e1, e2⟩ := Tic.vp_yes hp hn.out hd
      have hN2 := hn.out.quot hp hd
      have hv2 := hv.out
      rw [e1] at hv2
      have hl2 := hl.out
      rw [e2] at hl2
      have hlt : y / p < y := Nat.div_lt_self hn.out.1 (by omega)
      have hy2 : y / p ≤ 1000000 := by omega
      have hk2 : k + 1 ≤ V := by omega
      have HN2 := Lib.hid hN2
      have HV2 := Lib.hid hv2
      have HL2 := Lib.hid hl2
      clear hd e1 e2 hN2 hv2 hl2
      generalize y / p = z at *
      go_wp2
      go_round
      case rel => exact ⟨z, k + 1, HN2, hk2, hy2, rfl, by go_num, Lib.hid (by have := HV2.out; omega), HL2⟩
      case measure => simp [intOf]; omega
    · have hq := rem_no hd
      obtain ⟨e1, e2⟩ := Tic.vp_no (p := p) hd
      have hv2 := hv.out
      rw [e1] at hv2
      have hl2 := hl.out
      rw [e2] at hl2
      obtain rfl : k = V := by omega
      obtain rfl : y = L := hl2
      clear hd e1 e2
      go_wp2
      go_ret2
      exact ⟨rfl, rfl⟩
theorem validNum_any (n : Int) (w : World) : Calls Tryd.prog 48 #[.int .i64 n] w fun e w' => e = .returned (.bool (decide (1 ≤ n ∧ n ≤ 1000000))) ∧ w = w' := by
  by_cases h1 : 1 ≤ n
  · by_cases h2 : n ≤ 1000000
    · rw [decide_eq_true ⟨h1, h2⟩]
      go_enter Tryd.func48, Tryd.ntmps48
      go_wp2
      go_ret
      exact ⟨rfl, rfl⟩
    · rw [decide_eq_false (fun h => h2 h.2)]
      go_enter Tryd.func48, Tryd.ntmps48
      go_wp2
      go_ret
      exact ⟨rfl, rfl⟩
  · rw [decide_eq_false (fun h => h1 h.1)]
    go_enter Tryd.func48, Tryd.ntmps48
    go_wp2
    go_ret
    exact ⟨rfl, rfl⟩
/-- what PowersOf tells -/
def tolds (u d : Int) : Option (List Int) := if 1 ≤ u ∧ u ≤ 1000000 ∧ 1 ≤ d ∧ d ≤ 1000000 ∧ Tic.Told u.toNat d.toNat then some [Tic.pwa u.toNat d.toNat, Tic.pwb u.toNat d.toNat, Tic.pwc u.toNat d.toNat] else none
theorem tolds_no {u d : Int} (h : ¬ (1 ≤ u ∧ u ≤ 1000000 ∧ 1 ≤ d ∧ d ≤ 1000000)) : tolds u d = none := by unfold tolds; rw [if_neg (fun hh => h ⟨hh.1, hh.2.1, hh.2.2.1, hh.2.2.2.1⟩)]
theorem tolds_num {u d : Nat} (h1 : Tic.Num u) (h2 : Tic.Num d) : tolds u d = if Tic.Told u d then some [Tic.pwa u d, Tic.pwb u d, Tic.pwc u d] else none := by
  unfold tolds
  rw [Int.toNat_natCast, Int.toNat_natCast]
  obtain ⟨a1, a2⟩ := h1
  obtain ⟨b1, b2⟩ := h2
  by_cases h : Tic.Told u d
  · rw [if_pos ⟨by omega, by omega, by omega, by omega, h⟩, if_pos h]
  · rw [if_neg (fun hh => h hh.2.2.2.2), if_neg h]
theorem iPowers_bad (u d : Int) (w : World) (h : ¬ (1 ≤ u ∧ u ≤ 1000000 ∧ 1 ≤ d ∧ d ≤ 1000000)) :
    Calls Tryd.prog 15 #[.int .i64 u, .int .i64 d] w (GivesOk [] false w) := by
  have H1 := Lib.hid (fun w => validNum_any u w)
  have H2 := Lib.hid (fun w => validNum_any d w)
  by_cases h1 : 1 ≤ u ∧ u ≤ 1000000
  · rw [decide_eq_true h1] at H1
    rw [decide_eq_false (fun hh => h ⟨h1.1, h1.2, hh.1, hh.2⟩)] at H2
    clear h h1
    go_enter Tryd.func15, Tryd.ntmps15
    go_wp2_with fail
    refine (H1.out _).mono ?_; rintro e w' ⟨rfl, rfl⟩
    go_wp2_with fail
    refine (H2.out _).mono ?_; rintro e w' ⟨rfl, rfl⟩
    go_wp2
    go_ret2
    exact ⟨_, rfl, Row.nil _ _, Below.refl _ _⟩
  · rw [decide_eq_false h1] at H1
    clear h h1
    go_enter Tryd.func15, Tryd.ntmps15
    go_wp2_with fail
    refine (H1.out _).mono ?_; rintro e w' ⟨rfl, rfl⟩
    go_wp2
    go_ret2
    exact ⟨_, rfl, Row.nil _ _, Below.refl _ _⟩
set_option maxRecDepth 20000 in
set_option maxHeartbeats 1000000 in
theorem iPowers_num (u d : Nat) (w : World) (hl : Limits w) (hp : Primes w) (h1 : Tic.Num u) (h2 : Tic.Num d) :
    Calls Tryd.prog 15 #[.int .i64 u, .int .i64 d] w (GivesInto (tolds u d) w) := by
  have HOY : Hid (Tic.lft u = Tic.lft d ∧ Tic.Pws (Tic.pwa u d) (Tic.pwb u d) (Tic.pwc u d) → tolds u d = some [Tic.pwa u d, Tic.pwb u d, Tic.pwc u d]) := Lib.hid (fun h => (tolds_num h1 h2).trans (if_pos (show Tic.Told u d from h)))
  have HON : Hid (¬ (Tic.lft u = Tic.lft d ∧ Tic.Pws (Tic.pwa u d) (Tic.pwb u d) (Tic.pwc u d)) → tolds u d = none) := Lib.hid (fun h => (tolds_num h1 h2).trans (if_neg (show ¬ Tic.Told u d from h)))
  obtain ⟨a1, a2, a3, a4, -, a5, a6, a7⟩ := Tic.num_parts h1
  obtain ⟨b1, b2, b3, b4, -, b5, b6, b7⟩ := Tic.num_parts h2
  have D1 := Lib.hid (fun w => divided_any u 2 w h1 (by omega) (by omega))
  have D2 := Lib.hid (fun w => divided_any (Tic.lf 2 u) 3 w a1 (by omega) (by omega))
  have D3 := Lib.hid (fun w => divided_any (Tic.lf 3 (Tic.lf 2 u)) 5 w a2 (by omega) (by omega))
  have E1 := Lib.hid (fun w => divided_any d 2 w h2 (by omega) (by omega))
  have E2 := Lib.hid (fun w => divided_any (Tic.lf 2 d) 3 w b1 (by omega) (by omega))
  have E3 := Lib.hid (fun w => divided_any (Tic.lf 3 (Tic.lf 2 d)) 5 w b2 (by omega) (by omega))
  have V1 := Lib.hid (fun w => validNum_any u w)
  have V2 := Lib.hid (fun w => validNum_any d w)
  rw [decide_eq_true ⟨by have := h1.1; omega, by have := h1.2; omega⟩] at V1
  rw [decide_eq_true ⟨by have := h2.1; omega, by have := h2.2; omega⟩] at V2
  unfold Tic.pwa Tic.pwb Tic.pwc Tic.lft at HOY HON
  unfold Tic.lft at a3 a4 b3 b4
  change Hid (∀ w, Calls _ _ _ w fun e w' => e = .returned (.tuple #[.int .i64 (Tic.v2 u : Int), _]) ∧ w = w') at D1
  change Hid (∀ w, Calls _ _ _ w fun e w' => e = .returned (.tuple #[.int .i64 (Tic.v3 u : Int), _]) ∧ w = w') at D2
  change Hid (∀ w, Calls _ _ _ w fun e w' => e = .returned (.tuple #[.int .i64 (Tic.v5 u : Int), _]) ∧ w = w') at D3
  change Hid (∀ w, Calls _ _ _ w fun e w' => e = .returned (.tuple #[.int .i64 (Tic.v2 d : Int), _]) ∧ w = w') at E1
  change Hid (∀ w, Calls _ _ _ w fun e w' => e = .returned (.tuple #[.int .i64 (Tic.v3 d : Int), _]) ∧ w = w') at E2
  change Hid (∀ w, Calls _ _ _ w fun e w' => e = .returned (.tuple #[.int .i64 (Tic.v5 d : Int), _]) ∧ w = w') at E3
  have hu0 := h1.2
  have hd0 := h2.2
  have hu1 := a1.2
  have hd1 := b1.2
  have hu2 := a2.2
  have hd2 := b2.2
  generalize tolds u d = O at HOY HON ⊢
  clear h1 h2 a1 a2 b1 b2
  generalize Tic.lf 5 (Tic.lf 3 (Tic.lf 2 u)) = u3 at *
  generalize Tic.lf 3 (Tic.lf 2 u) = u2 at *
  generalize Tic.lf 2 u = u1 at *
  generalize Tic.lf 5 (Tic.lf 3 (Tic.lf 2 d)) = d3 at *
  generalize Tic.lf 3 (Tic.lf 2 d) = d2 at *
  generalize Tic.lf 2 d = d1 at *
  generalize Tic.v2 u = x2 at *
  generalize Tic.v3 u = x3 at *
  generalize Tic.v5 u = x5 at *
  generalize Tic.v2 d = y2 at *
  generalize Tic.v3 d = y3 at *
  generalize Tic.v5 d = y5 at *
  have hb := (Below.refl w.heap.size w).alloc (Nat.le_refl _) (.cells #[.int .i64 0, .int .i64 0, .int .i64 0] 52)
  obtain ⟨l0, l1, l2⟩ := hp.kept hb
  have HL := Lib.hid (hl.kept ((Below.refl w.heap.size w).alloc (Nat.le_refl _) (.cells #[.int .i64 ((x2 : Int) - y2), .int .i64 ((x3 : Int) - y3), .int .i64 ((x5 : Int) - y5)] 52)))
  obtain ⟨r0, r1, r2⟩ := prime_at w
  clear hb hl hp
  go_enter Tryd.func15, Tryd.ntmps15
  go_wp2_with fail
  refine (V1.out _).mono ?_; rintro e w' ⟨rfl, rfl⟩
  go_wp2_with fail
  refine (V2.out _).mono ?_; rintro e w' ⟨rfl, rfl⟩
  go_wp2
  clear l0 l1 l2
  refine wp_loop_rounds 4 ?_
  rw [rounds_succ]
  go_wp2_with fail
  refine (D1.out _).mono ?_; rintro e w' ⟨rfl, rfl⟩
  go_wp2_with fail
  refine (E1.out _).mono ?_; rintro e w' ⟨rfl, rfl⟩
  go_wp2
  rw [rounds_succ]
  go_wp2_with fail
  refine (D2.out _).mono ?_; rintro e w' ⟨rfl, rfl⟩
  go_wp2_with fail
  refine (E2.out _).mono ?_; rintro e w' ⟨rfl, rfl⟩
  go_wp2
  rw [rounds_succ]
  go_wp2_with fail
  refine (D3.out _).mono ?_; rintro e w' ⟨rfl, rfl⟩
  go_wp2_with fail
  refine (E3.out _).mono ?_; rintro e w' ⟨rfl, rfl⟩
  go_wp2
  rw [rounds_succ]
  have HP := Lib.hid (Pw3.new w ((x2 : Int) - y2) ((x3 : Int) - y3) ((x5 : Int) - y5) 52)
  have HB := Lib.hid ((Below.refl w.heap.size w).alloc (Nat.le_refl _) (.cells #[.int .i64 ((x2 : Int) - y2), .int .i64 ((x3 : Int) - y3), .int .i64 ((x5 : Int) - y5)] 52))
  generalize w.alloc (.cells #[.int .i64 ((x2 : Int) - y2), .int .i64 ((x3 : Int) - y3), .int .i64 ((x5 : Int) - y5)] 52) = W at *
  generalize (x2 : Int) - y2 = a at *
  generalize (x3 : Int) - y3 = b at *
  generalize (x5 : Int) - y5 = c at *
  have HV := Lib.hid (fun w hw => pvalid_any a b c w hw)
  have HS := Lib.hid (fun w => plist_any a b c w)
  unfold pwV at HV HS
  obtain ⟨p0, p1, p2, _⟩ := HP.out
  by_cases hq : u3 = d3
  · subst hq
    by_cases ht : Tic.Pws a b c
    · rw [decide_eq_true ht] at HV
      have HI := Lib.hid (HOY.out ⟨rfl, ht⟩)
      clear ht
      go_wp2_with fail
      refine (HV.out _ HL.out).mono ?_; rintro e w3 ⟨rfl, hb⟩
      have hlt := block_lt_of_cell HP.out.1
      obtain ⟨q0, q1, q2, _⟩ := HP.out.kept hb hlt
      have HB3 := Lib.hid (HB.out.trans (hb.mono HB.out.size))
      clear hb p0 p1 p2
      go_wp2_with fail
      refine (HS.out _).mono ?_; rintro e w4 ⟨v4, rfl, hrow, hb⟩
      have HG : Hid (GivesInto O w (.returned (.tuple #[v4, .bool true])) w4) := by
        rw [HI.out]
        exact ⟨_, rfl, hrow.mono HB3.out.size, HB3.out.trans (hb.mono HB3.out.size)⟩
      clear hb hrow HB3
      go_wp2
      go_ret2
      exact HG.out
    · rw [decide_eq_false ht] at HV
      have HI := Lib.hid (HON.out (fun hh => ht hh.2))
      clear ht
      go_wp2_with fail
      refine (HV.out _ HL.out).mono ?_; rintro e w3 ⟨rfl, hb⟩
      have HB3 := Lib.hid (HB.out.trans (hb.mono HB.out.size))
      clear hb p0 p1 p2
      go_wp2
      go_ret2
      rw [HI.out]
      exact ⟨_, rfl, Row.nil _ _, HB3.out⟩
  · have HI := Lib.hid (HON.out (fun hh => hq hh.1))
    rcases Nat.lt_or_gt_of_ne hq with hq1 | hq1
    all_goals
      clear hq
      go_wp2
      go_ret2
      rw [HI.out]
      exact ⟨_, rfl, Row.nil _ _, HB.out⟩
theorem iPowers_all (u d : Int) (w : World) (hl : Limits w) (hp : Primes w) :
    Calls Tryd.prog 15 #[.int .i64 u, .int .i64 d] w (GivesInto (tolds u d) w) := by
  by_cases h : 1 ≤ u ∧ u ≤ 1000000 ∧ 1 ≤ d ∧ d ≤ 1000000
  · obtain ⟨U, rfl⟩ := Int.eq_ofNat_of_zero_le (show 0 ≤ u by omega)
    obtain ⟨D, rfl⟩ := Int.eq_ofNat_of_zero_le (show 0 ≤ d by omega)
    exact iPowers_num U D w hl hp ⟨by omega, by omega⟩ ⟨by omega, by omega⟩
  · rw [tolds_no h]
    exact iPowers_bad u d w h
end Go.Proofs.YtlbmjpkkomdhhaaDoor
