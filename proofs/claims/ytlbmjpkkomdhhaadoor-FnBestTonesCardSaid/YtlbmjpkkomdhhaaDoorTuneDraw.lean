/-
  What is drawn for the laws of tunings.
-/
import Derived.Test.YtlbmjpkkomdhhaaDoorDraws
import Derived.Test.YtlbmjpkkomdhhaaDoorRatio2
import Derived.Test.YtlbmjpkkomdhhaaDoorInto
import Derived.Test.YtlbmjpkkomdhhaaDoorCame
namespace Go.Proofs.YtlbmjpkkomdhhaaDoor
open Go.RowKit
set_option linter.unusedVariables false
set_option maxRecDepth 20000

theorem Rd.far {w : World} {B p : Nat} (h : Rd w B p) {g : Nat} (hg : B < g) (i : Nat) (u : Value) : Rd (w.setCell ⟨g, i, none⟩ u) B p := by
  obtain ⟨x, len, cap, zs, h0, h1, h2, h3, h4, h5⟩ := h
  refine ⟨x, len, cap, zs, h0, (set_else (by omega)).trans h1, (set_else (by omega)).trans h2, by rw [World.frozen?_setCell]; exact h3, by simpa using h4, ?_⟩
  rcases h5 with h5 | ⟨k, o, e, hk, hc⟩
  · exact .inl h5
  · exact .inr ⟨k, o, e, hk, fun j hj => ⟨(set_else (by omega)).trans (hc j hj).1, (hc j hj).2⟩⟩
/-- a list is drawn -/
def Drl (B p : Nat) (w : World) (e : Ending) (w' : World) : Prop := ∃ (v : Value) (L : List Int) (p' : Nat), e = .returned v ∧ L.length ≤ 3 ∧ p' ≤ p + 5 ∧ Rd w' B p' ∧ Row w' w.heap.size v L ∧ w.grownBy w' (some B)
theorem grown_far {w v : World} {r : Option Nat} (h : w.grownBy v r) {g : Nat} (hg : w.heap.size ≤ g) (j : Nat) (u : Value) : w.grownBy (v.setCell ⟨g, j, none⟩ u) r :=
  ⟨h.os, h.tape, h.output, by simpa using h.size, fun k hk hne => (Below.heap_setCell v ⟨g, j, none⟩ u k (fun e => by simp at e; omega)).trans (h.block k hk hne)⟩
theorem Row.taken {w : World} {B g cap : Nat} {L : List Int} (h : Row w B (.slice (some ⟨g, 0, none⟩) L.length cap) L) {k : Nat} (hk : k ≤ L.length) : Row w B (.slice (some ⟨g, 0, none⟩) k cap) (L.take k) := by
  obtain ⟨⟨h1, h2⟩, h3⟩ := h
  have hlen : (L.take k).length = k := by rw [List.length_take]; omega
  refine ⟨⟨by rw [List.length_map, hlen]; simp, ?_⟩, by omega⟩
  rcases h2 with ⟨h2, _⟩ | ⟨g', cap', cur, e, hg, hh, hn, hm, hs, ht⟩
  · cases h2
  · simp only [Value.slice.injEq, Option.some.injEq, Addr.mk.injEq, and_true, true_and] at e
    obtain ⟨rfl, rfl⟩ := e
    refine .inr ⟨g, cap, cur, by rw [hlen], hg, hh, by omega, hm, hs, ?_⟩
    rw [hlen, Nat.mul_one] at *
    rw [List.map_take, ← ht, List.take_take, Nat.min_eq_left (by omega)]
theorem Row.at3 {w : World} {B g m : Nat} {a b c : Int} (h : Row w B (.slice (some ⟨g, 0, none⟩) 3 m) [a, b, c]) : Pw3 w g a b c := by
  rcases h.cases with ⟨e, _⟩ | ⟨g', m', e, _, _, hc, hf⟩
  · cases e
  · simp only [Value.slice.injEq, Option.some.injEq, Addr.mk.injEq, and_true, true_and] at e
    obtain ⟨rfl, _⟩ := e
    exact ⟨hc 0 (by simp), hc 1 (by simp), hc 2 (by simp), hf 0, hf 1, hf 2⟩
set_option maxRecDepth 20000 in
set_option maxHeartbeats 1000000 in
theorem somePowers_any (B p : Nat) (w : World) (h : Rd w B p) (hp : p ≤ 9000) :
    Calls Tryd.prog 42 #[.pointer (some ⟨B, 0, none⟩)] w (Drl B p w) := by
  have hBw := h.lt
  go_enter Tryd.func42, Tryd.ntmps42
  go_wp2_with fail
  refine (pick_any _ _ _ _ h (by omega) (by omega) (by omega)).mono ?_; rintro e w1 ⟨r1, rfl, a1, a2, _, hrd, hgr⟩
  have H1 := Lib.hid hrd
  have G1 := Lib.hid hgr
  clear hrd hgr h
  have a2 := a2 (by omega)
  go_wp2_with fail
  refine (pick_any _ _ _ _ H1.out (by omega) (by omega) (by omega)).mono ?_; rintro e w2 ⟨r2, rfl, b1, b2, _, hrd, hgr⟩
  have H2 := Lib.hid hrd
  have G2 := Lib.hid (grown_trans G1.out hgr)
  clear hrd hgr H1 G1
  have b2 := b2 (by omega)
  go_wp2_with fail
  refine (pick_any _ _ _ _ H2.out (by omega) (by omega) (by omega)).mono ?_; rintro e w3 ⟨r3, rfl, c1, c2, _, hrd, hgr⟩
  have H3 := Lib.hid (hrd.alloc (.cells #[.int .i64 (r1 - 4), .int .i64 (r2 - 3), .int .i64 (r3 - 2)] 3))
  have hsz := hgr.size
  have hs2 := G2.out.size
  have hg := grown_trans G2.out hgr
  have G3 := Lib.hid (grown_trans hg (grown_alloc w3 (.cells #[.int .i64 (r1 - 4), .int .i64 (r2 - 3), .int .i64 (r3 - 2)] 3) (some B)))
  have HR := Lib.hid (Row.built3 w3 (r1 - 4) (r2 - 3) (r3 - 2) (B := w.heap.size) (by omega))
  have hz3 : (w3.alloc (.cells #[.int .i64 (r1 - 4), .int .i64 (r2 - 3), .int .i64 (r3 - 2)] 3)).heap.size = w3.heap.size + 1 := by simp
  clear hrd hgr H2 G2 hg
  have c2 := c2 (by omega)
  go_wp2_with fail
  generalize w3.alloc (.cells #[.int .i64 (r1 - 4), .int .i64 (r2 - 3), .int .i64 (r3 - 2)] 3) = W at *
  refine (pick_any _ _ _ _ H3.out (by omega) (by omega) (by omega)).mono ?_; rintro e w4 ⟨r4, rfl, d1, d2, _, hrd, hgr⟩
  have d2 := d2 (by omega)
  have H4 := Lib.hid hrd
  have hs4 := hgr.size
  have G4 := Lib.hid (grown_trans G3.out hgr)
  have HR4 := Lib.hid (HR.out.besides hgr (fun k hk => by simp [Value.ownBlock] at hk; simp; omega))
  clear hrd hgr H3 G3 HR
  obtain hr | hr | hr | hr | hr : r4 = 0 ∨ r4 = 1 ∨ r4 = 2 ∨ r4 = 3 ∨ 3 < r4 := by omega
  · subst hr
    go_wp2_with fail
    refine (one_lit [25, -24, 24] _ _ (-24) 25 _ _ _ rfl rfl H4.out (by omega) (by decide) (by decide) (by decide)).mono ?_; rintro e w5 ⟨y, p', rfl, y0, y1, hp', hrd, hgr⟩
    have hs5 := hgr.size
    have HR5 := Lib.hid (HR4.out.besides hgr (fun k hk => by simp [Value.ownBlock] at hk; simp; omega))
    have H5 := Lib.hid (hrd.far (g := w3.heap.size) (by omega) 0 (.int .i64 y))
    have G5 := Lib.hid (grown_far (grown_trans G4.out hgr) (g := w3.heap.size) (by omega) 0 (.int .i64 y))
    obtain ⟨p0, p1, p2, f0, f1, f2⟩ := HR5.out.at3
    have HS := Lib.hid (Row.set (L := [r1 - 4, r2 - 3, r3 - 2]) HR5.out 0 y).1
    clear hrd hgr H4 G4 HR4 HR5
    go_wp2
    go_ret
    exact ⟨_, _, p', rfl, by simp, by omega, H5.out, HS.out, G5.out⟩
  · subst hr
    go_wp2_with fail
    refine (one_lit [13, 12, -12] _ _ (-24) 25 _ _ _ rfl rfl H4.out (by omega) (by decide) (by decide) (by decide)).mono ?_; rintro e w5 ⟨y, p', rfl, y0, y1, hp', hrd, hgr⟩
    have hs5 := hgr.size
    have HR5 := Lib.hid (HR4.out.besides hgr (fun k hk => by simp [Value.ownBlock] at hk; simp; omega))
    have H5 := Lib.hid (hrd.far (g := w3.heap.size) (by omega) 1 (.int .i64 y))
    have G5 := Lib.hid (grown_far (grown_trans G4.out hgr) (g := w3.heap.size) (by omega) 1 (.int .i64 y))
    obtain ⟨p0, p1, p2, f0, f1, f2⟩ := HR5.out.at3
    have HS := Lib.hid (Row.set (L := [r1 - 4, r2 - 3, r3 - 2]) HR5.out 1 y).1
    clear hrd hgr H4 G4 HR4 HR5
    go_wp2
    go_ret
    exact ⟨_, _, p', rfl, by simp, by omega, H5.out, HS.out, G5.out⟩
  · subst hr
    go_wp2_with fail
    refine (one_lit [7, 6, -6] _ _ (-24) 25 _ _ _ rfl rfl H4.out (by omega) (by decide) (by decide) (by decide)).mono ?_; rintro e w5 ⟨y, p', rfl, y0, y1, hp', hrd, hgr⟩
    have hs5 := hgr.size
    have HR5 := Lib.hid (HR4.out.besides hgr (fun k hk => by simp [Value.ownBlock] at hk; simp; omega))
    have H5 := Lib.hid (hrd.far (g := w3.heap.size) (by omega) 2 (.int .i64 y))
    have G5 := Lib.hid (grown_far (grown_trans G4.out hgr) (g := w3.heap.size) (by omega) 2 (.int .i64 y))
    obtain ⟨p0, p1, p2, f0, f1, f2⟩ := HR5.out.at3
    have HS := Lib.hid (Row.set (L := [r1 - 4, r2 - 3, r3 - 2]) HR5.out 2 y).1
    clear hrd hgr H4 G4 HR4 HR5
    go_wp2
    go_ret
    exact ⟨_, _, p', rfl, by simp, by omega, H5.out, HS.out, G5.out⟩
  · subst hr
    have HS := Lib.hid (HR4.out.taken (k := 2) (by simp))
    go_wp2
    go_ret
    exact ⟨_, _, p + 1 + 1 + 1 + 1, rfl, by simp, by omega, H4.out, HS.out, G4.out⟩
  · go_wp2
    go_ret
    exact ⟨_, _, p + 1 + 1 + 1 + 1, rfl, by simp, by omega, H4.out, HR4.out, G4.out⟩
/-- the drawn powers -/
def ListD (w : World) (e : Ending) (w' : World) : Prop := ∃ (v : Value) (L : List Int), e = .returned v ∧ L.length ≤ 3 ∧ Row w' w.heap.size v L ∧ Below w.heap.size w w'
theorem drawRatioOf (x : Option Addr) (len cap : Nat) (w : World) (h : Code w x len cap) : Calls Tryd.prog 11 #[.slice x len cap] w (ListD w) := by
  obtain ⟨zs, h1, h2, h3⟩ := h
  go_enter Tryd.func11, Tryd.ntmps11
  go_wp2_with fail
  refine (newReader_any _ _ _ _ _ h1 h2 h3).mono ?_; rintro e w1 ⟨rfl, hrd, hb, hlt⟩
  have HB := Lib.hid hb
  clear hb
  go_wp2_with fail
  refine (somePowers_any _ _ _ hrd (by omega)).mono ?_; rintro e w2 ⟨v, L, p', rfl, hL, _, _, hrow, hg⟩
  have HG : Hid (ListD w (.returned v) w2) := ⟨v, L, rfl, hL, hrow.mono (by have := HB.out.size; omega), below_grown HB.out hg⟩
  clear hrow hg
  go_wp2_with fail
  go_ret
  exact HG.out
theorem drawIntoOctave (x : Option Addr) (len cap : Nat) (w : World) (h : Code w x len cap) : Calls Tryd.prog 19 #[.slice x len cap] w (ListD w) := by
  obtain ⟨zs, h1, h2, h3⟩ := h
  go_enter Tryd.func19, Tryd.ntmps19
  go_wp2_with fail
  refine (newReader_any _ _ _ _ _ h1 h2 h3).mono ?_; rintro e w1 ⟨rfl, hrd, hb, hlt⟩
  have HB := Lib.hid hb
  clear hb
  go_wp2_with fail
  refine (somePowers_any _ _ _ hrd (by omega)).mono ?_; rintro e w2 ⟨v, L, p', rfl, hL, _, _, hrow, hg⟩
  have HG : Hid (ListD w (.returned v) w2) := ⟨v, L, rfl, hL, hrow.mono (by have := HB.out.size; omega), below_grown HB.out hg⟩
  clear hrow hg
  go_wp2_with fail
  go_ret
  exact HG.out
/-- a number and drawn powers -/
def NumListD (w : World) (e : Ending) (w' : World) : Prop := ∃ (n : Int) (v : Value) (L : List Int), e = .returned (.tuple #[.int .i64 n, v]) ∧ 0 ≤ n ∧ n ≤ 13 ∧ L.length ≤ 3 ∧ Row w' w.heap.size v L ∧ Below w.heap.size w w'
theorem drawStepsBy (x : Option Addr) (len cap : Nat) (w : World) (h : Code w x len cap) : Calls Tryd.prog 22 #[.slice x len cap] w (NumListD w) := by
  obtain ⟨zs, h1, h2, h3⟩ := h
  go_enter Tryd.func22, Tryd.ntmps22
  go_wp2_with fail
  refine (newReader_any _ _ _ _ _ h1 h2 h3).mono ?_; rintro e w1 ⟨rfl, hrd, hb, hlt⟩
  have HB := Lib.hid hb
  clear hb
  go_wp2_with fail
  refine (one_lit [12, 7, 5, 1, 2, 10, 0, 13] _ _ 0 13 _ _ _ rfl rfl hrd (by omega) (by decide) (by decide) (by decide)).mono ?_; rintro e w3 ⟨y, p', rfl, y0, y1, hp', hrd2, hgr⟩
  have HB2 := Lib.hid (below_grown HB.out hgr)
  clear hrd hgr HB
  go_wp2_with fail
  refine (somePowers_any _ _ _ hrd2 (by omega)).mono ?_; rintro e w2 ⟨v, L, p', rfl, hL, _, _, hrow, hg⟩
  have HG : Hid (NumListD w (.returned (.tuple #[.int .i64 y, v])) w2) := ⟨y, v, L, rfl, y0, y1, hL, hrow.mono (by have := HB2.out.size; omega), below_grown HB2.out hg⟩
  clear hrow hg
  go_wp2_with fail
  go_ret2
  exact HG.out
/-- two drawn numbers -/
def TwoD (w : World) (e : Ending) (w' : World) : Prop := ∃ n m : Int, e = .returned (.tuple #[.int .i64 n, .int .i64 m]) ∧ Below w.heap.size w w'
set_option maxHeartbeats 400000 in
theorem drawPowersOf (x : Option Addr) (len cap : Nat) (w : World) (h : Code w x len cap) : Calls Tryd.prog 17 #[.slice x len cap] w (TwoD w) := by
  obtain ⟨zs, h1, h2, h3⟩ := h
  go_enter Tryd.func17, Tryd.ntmps17
  go_wp2_with fail
  refine (newReader_any _ _ _ _ _ h1 h2 h3).mono ?_; rintro e w1 ⟨rfl, hrd, hb, hlt⟩
  have HB := Lib.hid hb
  clear hb
  go_wp2_with fail
  refine (somePowers_any _ _ _ hrd (by omega)).mono ?_; rintro e w2 ⟨v, L, p', rfl, hL, hp', hrd2, hrow, hg⟩
  have HB2 := Lib.hid (below_grown HB.out hg)
  have HR := Lib.hid hrow
  clear hrd hrow hg HB
  by_cases hp : PwsL L
  · obtain ⟨a, b, c, rfl, hpw⟩ := hp
    have HPW := Lib.hid hpw
    clear hpw
    go_wp2_with fail
    refine (sValidP_yes _ _ _ _ _ _ HR.out HPW.out).mono ?_; rintro e w3 ⟨rfl, rfl⟩
    go_wp2_with fail
    refine (pick_any _ _ _ _ hrd2 (by omega) (by omega) (by omega)).mono ?_; rintro e w4 ⟨r, rfl, r0, r1, _, hrd3, hgr⟩
    have hrl := HR.out.lt
    have HR4 := Lib.hid (HR.out.besides hgr (fun k hk e => by have h5 := hrl k hk; simp at e; omega))
    have HB4 := Lib.hid (below_grown HB2.out hgr)
    clear hgr HR HB2 hrd2
    by_cases hr0 : 0 < r
    · have HX := Lib.hid (sratioOf_any _ _ a b c w4 HR4.out HPW.out.fit)
      unfold ratV at HX
      generalize (Tic.rup a b c : Int) = X at HX
      generalize (Tic.rdn a b c : Int) = Y at HX
      go_wp2_with fail
      refine HX.out.mono ?_; rintro e w5 ⟨rfl, hb⟩
      have hB := HB4.out.trans (hb.mono HB4.out.size)
      go_wp2_with fail
      go_ret2
      exact ⟨_, _, rfl, hB⟩
    · have hr1 : r = 0 := by omega
      subst hr1
      go_wp2_with fail
      refine (one_lit [81, 7, 12, 0, 1000000, 1000001, 6] _ _ 0 1000001 _ _ _ rfl rfl hrd3 (by omega) (by decide) (by decide) (by decide)).mono ?_; rintro e w5 ⟨y, q', rfl, y0, y1, hq', hrd4, hgr⟩
      have HB5 := Lib.hid (below_grown HB4.out hgr)
      clear hgr HB4
      go_wp2_with fail
      refine (one_lit [80, 1, 9, -1, 64, 4] _ _ (-1) 80 _ _ _ rfl rfl hrd4 (by omega) (by decide) (by decide) (by decide)).mono ?_; rintro e w6 ⟨z, q2', rfl, z0, z1, hq2', hrd5, hgr⟩
      have hB := below_grown HB5.out hgr
      go_wp2_with fail
      go_ret2
      exact ⟨_, _, rfl, hB⟩
  · have HPW := Lib.hid hp
    clear hp
    go_wp2_with fail
    refine (sValidP_no _ _ _ _ HR.out HPW.out).mono ?_; rintro e w3 ⟨rfl, rfl⟩
    go_wp2_with fail
    refine (one_lit [81, 7, 12, 0, 1000000, 1000001, 6] _ _ 0 1000001 _ _ _ rfl rfl hrd2 (by omega) (by decide) (by decide) (by decide)).mono ?_; rintro e w5 ⟨y, q', rfl, y0, y1, hq', hrd4, hgr⟩
    have HB5 := Lib.hid (below_grown HB2.out hgr)
    clear hgr HB2
    go_wp2_with fail
    refine (one_lit [80, 1, 9, -1, 64, 4] _ _ (-1) 80 _ _ _ rfl rfl hrd4 (by omega) (by decide) (by decide) (by decide)).mono ?_; rintro e w6 ⟨z, q2', rfl, z0, z1, hq2', hrd5, hgr⟩
    have hB := below_grown HB5.out hgr
    go_wp2_with fail
    go_ret2
    exact ⟨_, _, rfl, hB⟩
/-- a number of tones -/
def OneD (w : World) (e : Ending) (w' : World) : Prop := ∃ n : Int, e = .returned (.int .i64 n) ∧ 0 ≤ n ∧ n ≤ 13 ∧ Below w.heap.size w w'
theorem manyTones_any (B p : Nat) (w : World) (h : Rd w B p) (hp : p ≤ 9000) : Calls Tryd.prog 60 #[.pointer (some ⟨B, 0, none⟩)] w (Dr 0 13 1 B p w) := by
  go_enter Tryd.func60, Tryd.ntmps60
  go_wp2_with fail
  refine (one_lit [7, 12, 5, 4, 8, 3, 2, 1, 10, 0, 13] _ _ 0 13 _ _ _ rfl rfl h (by omega) (by decide) (by decide) (by decide)).mono ?_; rintro e w3 ⟨y, p', rfl, y0, y1, hp', hrd2, hgr⟩
  go_wp2_with fail
  go_ret
  exact ⟨y, p', rfl, y0, y1, hp', hrd2, hgr⟩
theorem drawLeftOf (x : Option Addr) (len cap : Nat) (w : World) (h : Code w x len cap) : Calls Tryd.prog 26 #[.slice x len cap] w (OneD w) := by
  obtain ⟨zs, h1, h2, h3⟩ := h
  go_enter Tryd.func26, Tryd.ntmps26
  go_wp2_with fail
  refine (newReader_any _ _ _ _ _ h1 h2 h3).mono ?_; rintro e w1 ⟨rfl, hrd, hb, hlt⟩
  have HB := Lib.hid hb
  clear hb
  go_wp2_with fail
  refine (manyTones_any _ _ _ hrd (by omega)).mono ?_; rintro e w2 ⟨n, p', rfl, n0, n1, _, _, hg⟩
  have hB := below_grown HB.out hg
  go_wp2_with fail
  go_ret
  exact ⟨n, rfl, n0, n1, hB⟩
theorem drawBestTones (x : Option Addr) (len cap : Nat) (w : World) (h : Code w x len cap) : Calls Tryd.prog 29 #[.slice x len cap] w (OneD w) := by
  obtain ⟨zs, h1, h2, h3⟩ := h
  go_enter Tryd.func29, Tryd.ntmps29
  go_wp2_with fail
  refine (newReader_any _ _ _ _ _ h1 h2 h3).mono ?_; rintro e w1 ⟨rfl, hrd, hb, hlt⟩
  have HB := Lib.hid hb
  clear hb
  go_wp2_with fail
  refine (manyTones_any _ _ _ hrd (by omega)).mono ?_; rintro e w2 ⟨n, p', rfl, n0, n1, _, _, hg⟩
  have hB := below_grown HB.out hg
  go_wp2_with fail
  go_ret
  exact ⟨n, rfl, n0, n1, hB⟩
theorem drawFifthsOf (x : Option Addr) (len cap : Nat) (w : World) (h : Code w x len cap) : Calls Tryd.prog 34 #[.slice x len cap] w (OneD w) := by
  obtain ⟨zs, h1, h2, h3⟩ := h
  go_enter Tryd.func34, Tryd.ntmps34
  go_wp2_with fail
  refine (newReader_any _ _ _ _ _ h1 h2 h3).mono ?_; rintro e w1 ⟨rfl, hrd, hb, hlt⟩
  have HB := Lib.hid hb
  clear hb
  go_wp2_with fail
  refine (manyTones_any _ _ _ hrd (by omega)).mono ?_; rintro e w2 ⟨n, p', rfl, n0, n1, _, _, hg⟩
  have hB := below_grown HB.out hg
  go_wp2_with fail
  go_ret
  exact ⟨n, rfl, n0, n1, hB⟩
theorem drawGapsBetween (x : Option Addr) (len cap : Nat) (w : World) (h : Code w x len cap) : Calls Tryd.prog 39 #[.slice x len cap] w (OneD w) := by
  obtain ⟨zs, h1, h2, h3⟩ := h
  go_enter Tryd.func39, Tryd.ntmps39
  go_wp2_with fail
  refine (newReader_any _ _ _ _ _ h1 h2 h3).mono ?_; rintro e w1 ⟨rfl, hrd, hb, hlt⟩
  have HB := Lib.hid hb
  clear hb
  go_wp2_with fail
  refine (manyTones_any _ _ _ hrd (by omega)).mono ?_; rintro e w2 ⟨n, p', rfl, n0, n1, _, _, hg⟩
  have hB := below_grown HB.out hg
  go_wp2_with fail
  go_ret
  exact ⟨n, rfl, n0, n1, hB⟩
end Go.Proofs.YtlbmjpkkomdhhaaDoor
