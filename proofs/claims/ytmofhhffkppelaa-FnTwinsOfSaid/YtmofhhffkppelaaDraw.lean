/-
  Contracts of the drawn arguments: circles, sets, shifts.
-/
import Derived.Test.YtmofhhffkppelaaPick
namespace Go.Proofs.Ytmofhhffkppelaa
open Go.RowKit
set_option linter.unusedVariables false

theorem grown_trans {a b c : World} {r : Option Nat} (h : a.grownBy b r) (k : b.grownBy c r) : a.grownBy c r :=
  ⟨k.os.trans h.os, k.tape.trans h.tape, k.output.trans h.output, Nat.le_trans h.size k.size, fun i hi hr => (k.block i (Nat.lt_of_lt_of_le hi h.size) hr).trans (h.block i hi hr)⟩
theorem grown_alloc (w : World) (o : Obj) (r : Option Nat) : w.grownBy (w.alloc o) r := World.grownBy_alloc w o r
theorem grown_below {w w' : World} {r : Option Nat} (hb : Below w.heap.size w w') : w.grownBy w' r := ⟨hb.os, hb.tape, hb.output, hb.size, fun k hk _ => hb.block k hk⟩
theorem Rd.kept {w w' : World} {B p : Nat} (h : Rd w B p) (hb : Below w.heap.size w w') : Rd w' B p := by
  obtain ⟨x, len, cap, zs, hlen, c0, c1, f1, hB, hb2⟩ := h
  refine ⟨x, len, cap, zs, hlen, (hb.cell (p := ⟨B, 0, none⟩) hB).trans c0, (hb.cell (p := ⟨B, 1, none⟩) hB).trans c1, (hb.frozen (p := ⟨B, 1, none⟩) hB).trans f1, Nat.lt_of_lt_of_le hB hb.size, ?_⟩
  rcases hb2 with hb2 | ⟨g, o, e, hg, hc⟩
  · exact .inl hb2
  · exact .inr ⟨g, o, e, hg, fun i hi => ⟨(hb.cell (p := ⟨g, o + i, none⟩) (Nat.lt_trans hg hB)).trans (hc i hi).1, (hc i hi).2⟩⟩
theorem Rd.alloc {w : World} {B p : Nat} (h : Rd w B p) (o : Obj) : Rd (w.alloc o) B p := h.kept ((Below.refl _ _).alloc (Nat.le_refl _) _)
theorem Rd.lt {w : World} {B p : Nat} (h : Rd w B p) : B < w.heap.size := by obtain ⟨_, _, _, _, _, _, _, _, hB, _⟩ := h; exact hB

/-- a number from lo to hi is drawn, by at most c draws -/
def Dr (lo hi : Int) (c B p : Nat) (w : World) (e : Ending) (w' : World) : Prop :=
  ∃ (y : Int) (p' : Nat), e = .returned (.int .i64 y) ∧ lo ≤ y ∧ y ≤ hi ∧ p' ≤ p + c ∧ Rd w' B p' ∧ w.grownBy w' (some B)

theorem row_lit (w : World) (L : List Int) (hl : L.length ≤ 4096) : Row (w.alloc (.cells (L.map (Value.int .i64)).toArray 3)) w.heap.size (.slice (some ⟨w.heap.size, 0, none⟩) L.length L.length) L := by
  refine ⟨?_, by omega⟩
  have := World.ownsRow_lit (base := w.heap.size) (e := 3) (size := 1) w (L.map (Value.int .i64)).toArray L.length (Nat.le_refl _) (by unfold maxLen; omega) (by simp)
  simpa using this

/-- one of the numbers of a list just written out -/
theorem one_lit (L : List Int) (cs : Array Value) (n : Nat) (lo hi : Int) (B p : Nat) (w : World) (hcs : cs = (L.map (Value.int .i64)).toArray) (hn : n = L.length) (h : Rd w B p) (hp : p ≤ 10000) (hl : L.length ≤ 4096) (hne : L ≠ [])
    (hlo : ∀ y ∈ L, lo ≤ y ∧ y ≤ hi) :
    Calls Try.prog 23 #[.pointer (some ⟨B, 0, none⟩), .slice (some ⟨w.heap.size, 0, none⟩) n n] (w.alloc (.cells cs 3)) (Dr lo hi 1 B p w) := by
  subst hcs hn
  refine (one_any _ _ L B p _ (h.alloc _) hp (row_lit w L hl) ?_ hne hl).mono ?_
  · intro e
    have := h.lt
    simp [Value.ownBlock] at e
    omega
  · rintro e w' ⟨y, hy, rfl, hr, hg⟩
    exact ⟨y, p + 1, rfl, (hlo y hy).1, (hlo y hy).2, by omega, hr, grown_trans (grown_alloc _ _ _) hg⟩

theorem circle_any (B p : Nat) (w : World) (h : Rd w B p) (hp : p ≤ 9000) :
    Calls Try.prog 53 #[.pointer (some ⟨B, 0, none⟩)] w (Dr (-1) 13 2 B p w) := by
  go_enter Try.func53, Try.ntmps53
  go_wp2_with fail
  refine (pick_any _ _ _ _ h (by omega) (by omega) (by omega)).mono ?_; rintro e w1 ⟨r, rfl, h0, h1, _, hrd, hgr⟩
  have HRD := Lib.hid hrd
  have HG := Lib.hid hgr
  clear hrd hgr h1
  by_cases hr : r = 0
  · subst hr
    go_wp2_with fail
    refine (one_lit [2, 13, 0, -1] _ _ (-1) 13 _ _ _ rfl rfl HRD.out (by omega) (by decide) (by decide) (by decide)).mono ?_; rintro e w2 ⟨y, p', rfl, y0, y1, hp', hrd, hgr⟩
    go_wp2_with fail
    go_ret
    exact ⟨y, p', rfl, y0, y1, by omega, hrd, grown_trans HG.out hgr⟩
  · go_wp2_with fail
    refine (one_lit [12, 7, 8, 12, 5, 6, 10, 9, 11, 4, 3] _ _ (-1) 13 _ _ _ rfl rfl HRD.out (by omega) (by decide) (by decide) (by decide)).mono ?_; rintro e w2 ⟨y, p', rfl, y0, y1, hp', hrd, hgr⟩
    go_wp2_with fail
    go_ret
    exact ⟨y, p', rfl, y0, y1, by omega, hrd, grown_trans HG.out hgr⟩

theorem spread_any (n k m : Int) (w : World) (h1 : 1 ≤ n) (h2 : n ≤ 12) (h3 : 1 ≤ k) (h4 : k ≤ 12) (h5 : 0 ≤ m) (h6 : m ≤ 12) :
    Calls Try.prog 65 #[.int .i64 n, .int .i64 k, .int .i64 m] w fun e w' => ∃ y : Int, e = .returned (.int .i64 y) ∧ 0 ≤ y ∧ y ≤ 50000 ∧ w = w' := by
  obtain ⟨N, rfl⟩ := Int.eq_ofNat_of_zero_le (show 0 ≤ n by omega)
  obtain ⟨K, rfl⟩ := Int.eq_ofNat_of_zero_le (show 0 ≤ k by omega)
  obtain ⟨M, rfl⟩ := Int.eq_ofNat_of_zero_le h5
  have HP : Hid (∃ Q : Ending → World → Prop, Q = fun e w' => ∃ y : Int, e = .returned (.int .i64 y) ∧ 0 ≤ y ∧ y ≤ 50000 ∧ w = w') := ⟨_, rfl⟩
  obtain ⟨Q, hQ⟩ := HP.out
  rw [← hQ]
  have HQ := Lib.hid hQ
  clear hQ HP
  go_enter Try.func65, Try.ntmps65
  go_wp2
  go_loop [7, 8] (fun t7 t8 => ∃ i y : Nat, i ≤ K ∧ y ≤ i * 4096 ∧ t8 = .int .i64 i ∧ t7 = .int .i64 y) (fun _ t8 => K - (intOf t8).toNat)
  case atStart => exact ⟨0, 0, by omega, by omega, rfl, rfl⟩
  case round =>
    obtain ⟨i, y, hi, hy, rfl, rfl⟩ := hrel
    by_cases hlt : i < K
    · have a1 : i * N ≤ 144 := by have := Nat.mul_le_mul (show i ≤ 12 by omega) (show N ≤ 12 by omega); omega
      have a2 : (0 : Int) ≤ (i : Int) * (N : Int) := by rw [← Int.natCast_mul]; omega
      have a3 : (i : Int) * (N : Int) ≤ 144 := by rw [← Int.natCast_mul]; omega
      have a4 : 0 ≤ ((i : Int) * (N : Int) + (M : Int)) / (K : Int) := Int.ediv_nonneg (by omega) (by omega)
      have a5 : ((i : Int) * (N : Int) + (M : Int)) / (K : Int) ≤ 200 := by
        have := Int.ediv_le_self (K : Int) (show 0 ≤ (i : Int) * (N : Int) + (M : Int) by omega); omega
      have a6 := Int.emod_nonneg (((i : Int) * (N : Int) + (M : Int)) / (K : Int)) (b := (N : Int)) (by omega)
      have a7 := Int.emod_lt_of_pos (((i : Int) * (N : Int) + (M : Int)) / (K : Int)) (b := (N : Int)) (by omega)
      have hp : 2 ^ (((i : Int) * (N : Int) + (M : Int)) / (K : Int) % (N : Int)).toNat ≤ 4096 := Tic.pow_le_12 (by omega)
      go_wp2_with fail
      refine (power_any _ _ (by omega) (by omega)).mono ?_; rintro e w1 ⟨rfl, rfl⟩
      generalize 2 ^ (((i : Int) * (N : Int) + (M : Int)) / (K : Int) % (N : Int)).toNat = P at hp
      clear a1 a2 a3 a4 a5 a6 a7
      go_wp2
      go_round
      case rel => exact ⟨i + 1, y + P, by omega, by omega, by go_num, by go_num⟩
      case measure => simp [intOf]; omega
    · have : i = K := by omega
      subst this
      go_wp2
      rw [HQ.out]
      exact ⟨y, rfl, by omega, by omega, rfl⟩

theorem power_ex (n : Int) (w : World) (h0 : 0 ≤ n) (h1 : n ≤ 12) :
    Calls Try.prog 46 #[.int .i64 n] w fun e w' => ∃ P : Nat, e = .returned (.int .i64 P) ∧ 1 ≤ P ∧ P ≤ 4096 ∧ w = w' :=
  (power_any n w h0 (by omega)).mono fun e w' ⟨h2, h3⟩ => ⟨_, h2, Nat.one_le_two_pow, Tic.pow_le_12 h1, h3⟩
theorem and_bd {x y : Int} (h0 : 0 ≤ x) (h1 : x ≤ 100000) (h2 : 0 ≤ y) (h3 : y ≤ 100000) : 0 ≤ bits .and .i64 x y ∧ bits .and .i64 x y ≤ x := by
  obtain ⟨a, rfl⟩ := Int.eq_ofNat_of_zero_le h0
  obtain ⟨b, rfl⟩ := Int.eq_ofNat_of_zero_le h2
  rw [i64_and_nat a b (by omega) (by omega)]
  have := Nat.and_le_left (n := a) (m := b)
  omega
/-- a draw of a number, as the walks use it -/
def Pk (n : Int) (B p : Nat) (w : World) (e : Ending) (w' : World) : Prop := ∃ r : Int, e = .returned (.int .i64 r) ∧ 0 ≤ r ∧ r < n ∧ Hid (Rd w' B (p + 1)) ∧ Hid (w.grownBy w' (some B))
theorem pick_pos (n : Int) (B p : Nat) (w : World) (h : Rd w B p) (hp : p ≤ 10000) (hn : 1 ≤ n) (hn2 : n ≤ 100000) :
    Calls Try.prog 43 #[.pointer (some ⟨B, 0, none⟩), .int .i64 n] w (Pk n B p w) :=
  (pick_any n B p w h hp (by omega) hn2).mono fun e w' ⟨r, h1, h2, h3, _, h5, h6⟩ => ⟨r, h1, h2, h3 hn, h5, h6⟩

set_option maxRecDepth 20000 in
set_option maxHeartbeats 2000000 in
theorem setOf_any (n : Int) (B p : Nat) (w : World) (h : Rd w B p) (hp : p ≤ 8000) (hn : -1000 ≤ n) (hn2 : n ≤ 1000) :
    Calls Try.prog 54 #[.pointer (some ⟨B, 0, none⟩), .int .i64 n] w (Dr (-1) 1000000 8 B p w) := by
  have H := Lib.hid h
  clear h
  rcases (show n < 0 ∨ (0 ≤ n ∧ n ≤ 2) ∨ (2 < n ∧ n ≤ 12) ∨ 12 < n by omega) with c | ⟨c, c2⟩ | ⟨c, c2⟩ | c
  all_goals
    go_enter Try.func54, Try.ntmps54
    go_wp2_with fail
    refine (pick_pos _ _ _ _ H.out (by omega) (by omega) (by omega)).mono ?_; rintro e w1 ⟨r0, rfl, h0, h1, H1, G1⟩
    by_cases hr0 : r0 = 0
    · subst hr0
      go_wp2_with fail
      refine (power_ex _ _ (by omega) (by omega)).mono ?_; rintro e w2 ⟨P, rfl, p1, p2, rfl⟩
      go_wp2_with fail
      refine (one_lit [-1, (P : Int), 0] _ _ (-1) 1000000 _ _ _ rfl rfl H1.out (by omega) (by simp) (by simp) ?_).mono ?_
      · intro y hy; simp at hy; omega
      rintro e w2 ⟨y, p', rfl, y0, y1, hp', hrd, hgr⟩
      go_wp2_with fail
      go_ret
      exact ⟨y, p', rfl, y0, y1, by omega, hrd, grown_trans G1.out hgr⟩
    · go_wp2_with fail
      refine (pick_pos _ _ _ _ H1.out (by omega) (by omega) (by omega)).mono ?_; rintro e w2 ⟨r1, rfl, h2, h3, H2, G2⟩
      replace G2 := Lib.hid (grown_trans G1.out G2.out)
      clear H1 G1
      go_wp2_with fail
      refine (pick_pos _ _ _ _ H2.out (by omega) (by omega) (by omega)).mono ?_; rintro e w3 ⟨r2, rfl, h4, h5, H3, G3⟩
      replace G3 := Lib.hid (grown_trans G2.out G3.out)
      clear H2 G2
      go_wp2_with fail
      refine (power_ex _ _ (by omega) (by omega)).mono ?_; rintro e w4 ⟨P, rfl, p1, p2, rfl⟩
      have x0 := Int.emod_nonneg (r1 + 256 * r2) (b := (P : Int)) (by omega)
      have x1 := Int.emod_lt_of_pos (r1 + 256 * r2) (b := (P : Int)) (by omega)
      go_wp2_with fail
      refine (pick_pos _ _ _ _ H3.out (by omega) (by omega) (by omega)).mono ?_; rintro e w5 ⟨r3, rfl, h6, h7, H4, G4⟩
      replace G4 := Lib.hid (grown_trans G3.out G4.out)
      clear H3 G3
      generalize (r1 + 256 * r2) % (P : Int) = x at x0 x1
      rcases (show r3 = 0 ∨ r3 = 1 ∨ (r3 ≠ 0 ∧ r3 ≠ 1) by omega) with c3 | c3 | ⟨c3, c4⟩
      · subst c3
        go_wp2_with fail
        refine (pick_pos _ _ _ _ H4.out (by omega) (by omega) (by omega)).mono ?_; rintro e w6 ⟨r4, rfl, h8, h9, H5, G5⟩
        replace G5 := Lib.hid (grown_trans G4.out G5.out)
        clear H4 G4
        go_wp2_with fail
        refine (pick_pos _ _ _ _ H5.out (by omega) (by omega) (by omega)).mono ?_; rintro e w7 ⟨r5, rfl, h10, h11, H6, G6⟩
        replace G6 := Lib.hid (grown_trans G5.out G6.out)
        clear H5 G5
        obtain ⟨z0, z1⟩ := and_bd (x := x) (y := r4 + 256 * r5) x0 (by omega) (by omega) (by omega)
        go_wp2
        go_ret
        exact ⟨_, _, rfl, by omega, by omega, by omega, H6.out, G6.out⟩
      · subst c3
        first
          | (exfalso; omega)
          | (go_wp2_with fail
             go_ret
             exact ⟨x, _, rfl, by omega, by omega, by omega, H4.out, G4.out⟩)
          | (go_wp2_with fail
             refine (pick_pos _ _ _ _ H4.out (by omega) (by omega) (by omega)).mono ?_; rintro e w6 ⟨r4, rfl, h8, h9, H5, G5⟩
             replace G5 := Lib.hid (grown_trans G4.out G5.out)
             clear H4 G4
             go_wp2_with fail
             refine (pick_pos _ _ _ _ H5.out (by omega) (by omega) (by omega)).mono ?_; rintro e w7 ⟨r5, rfl, h10, h11, H6, G6⟩
             replace G6 := Lib.hid (grown_trans G5.out G6.out)
             clear H5 G5
             go_wp2_with fail
             refine (spread_any _ _ _ _ (by omega) (by omega) (by omega) (by omega) (by omega) (by omega)).mono ?_; rintro e w8 ⟨y, rfl, y0, y1, rfl⟩
             go_wp2_with fail
             go_ret
             exact ⟨y, _, rfl, by omega, by omega, by omega, H6.out, G6.out⟩)
      · go_wp2_with fail
        go_ret
        exact ⟨x, _, rfl, by omega, by omega, by omega, H4.out, G4.out⟩

/-- a circle and a set of its tones are drawn -/
def DrSet (c B p : Nat) (w : World) (e : Ending) (w' : World) : Prop :=
  ∃ (n s : Int) (p' : Nat), e = .returned (.tuple #[.int .i64 n, .int .i64 s]) ∧ -1 ≤ n ∧ n ≤ 13 ∧ -1 ≤ s ∧ s ≤ 1000000 ∧ p' ≤ p + c ∧ Rd w' B p' ∧ w.grownBy w' (some B)
theorem aSet_any (B p : Nat) (w : World) (h : Rd w B p) (hp : p ≤ 7000) :
    Calls Try.prog 36 #[.pointer (some ⟨B, 0, none⟩)] w (DrSet 10 B p w) := by
  go_enter Try.func36, Try.ntmps36
  go_wp2_with fail
  refine (circle_any _ _ _ h (by omega)).mono ?_; rintro e w1 ⟨n, p1, rfl, n0, n1, hp1, hr1, hg1⟩
  have H1 := Lib.hid hr1
  have G1 := Lib.hid hg1
  clear hr1 hg1
  go_wp2_with fail
  refine (setOf_any _ _ _ _ H1.out (by omega) (by omega) (by omega)).mono ?_; rintro e w2 ⟨s, p2, rfl, s0, s1, hp2, hr2, hg2⟩
  have H2 := Lib.hid hr2
  have G2 := Lib.hid (grown_trans G1.out hg2)
  clear hr2 hg2
  go_wp2_with fail
  go_ret2
  exact ⟨n, s, p2, rfl, n0, n1, by omega, s1, by omega, H2.out, G2.out⟩


/-- the arguments of a function of a circle and a set -/
def Two (w : World) (e : Ending) (w' : World) : Prop := ∃ n s : Int, e = .returned (.tuple #[.int .i64 n, .int .i64 s]) ∧ -1 ≤ n ∧ n ≤ 13 ∧ -1 ≤ s ∧ s ≤ 1000000 ∧ Below w.heap.size w w'
/-- the arguments of a function of a circle, a set and a number -/
def Three (w : World) (e : Ending) (w' : World) : Prop := ∃ n s t : Int, e = .returned (.tuple #[.int .i64 n, .int .i64 s, .int .i64 t]) ∧ -1 ≤ n ∧ n ≤ 13 ∧ -1 ≤ s ∧ s ≤ 1000000 ∧ -60 ≤ t ∧ t ≤ 60 ∧ Below w.heap.size w w'
theorem below_grown {w w1 w2 : World} (h : Below w.heap.size w w1) (hg : w1.grownBy w2 (some w.heap.size)) : Below w.heap.size w w2 :=
  h.grown hg h.size (fun k hk => by injection hk with hk; omega)

end Go.Proofs.Ytmofhhffkppelaa
