/-
  What is drawn for the laws of tunings.
-/
import Derived.Test.YtpcbplademohnaaDoorDraws
import Derived.Test.YtpcbplademohnaaDoorRatio2
import Derived.Test.YtpcbplademohnaaDoorInto
import Derived.Test.YtpcbplademohnaaDoorCame
namespace Go.Proofs.YtpcbplademohnaaDoor
open Go.RowKit
set_option linter.unusedVariables false
set_option maxRecDepth 20000

theorem Rd.far {w : World} {B p : Nat} (h : Rd w B p) {g : Nat} (hg : B < g) (i : Nat) (u : Value) : Rd (w.setCell ⟨g, i, none⟩ u) B p := by
  obtain ⟨x, len, cap, zs, h0, h1, h2, h3, h4, h5⟩ := h
  refine ⟨x, len, cap, zs, h0, (set_else (by omega)).trans h1, (set_else (by omega)).trans h2, by rw [World.frozen?_setCell]; exact h3, by simpa using h4, ?_⟩
  rcases h5 with h5 | ⟨k, o, e, hk, hc⟩
  · exact .inl h5
  · exact .inr ⟨k, o, e, hk, fun j hj => ⟨(set_else (by omega)).trans (hc j hj).1, (hc j hj).2⟩⟩
/-- a list is drawn -/
def Drl (B p : Nat) (w : World) (e : Ending) (w' : World) : Prop := ∃ (v : Value) (L : List Int) (p' : Nat), e = .returned v ∧ L.length ≤ 3 ∧ p' ≤ p + 5 ∧ Rd w' B p' ∧ Row w' w.heap.size v L ∧ w.grownBy w' (some B)
theorem grown_far {w v : World} {r : Option Nat} (h : w.grownBy v r) {g : Nat} (hg : w.heap.size ≤ g) (j : Nat) (u : Value) : w.grownBy (v.setCell ⟨g, j, none⟩ u) r :=
  ⟨h.os, h.tape, h.output, by simpa using h.size, fun k hk hne => (Below.heap_setCell v ⟨g, j, none⟩ u k (fun e => by simp at e; omega)).trans (h.block k hk hne)⟩
theorem Row.taken {w : World} {B g cap : Nat} {L : List Int} (h : Row w B (.slice (some ⟨g, 0, none⟩) L.length cap) L) {k : Nat} (hk : k ≤ L.length) : Row w B (.slice (some ⟨g, 0, none⟩) k cap) (L.take k) := by
  obtain ⟨⟨h1, h2⟩, h3⟩ := h
  have hlen : (L.take k).length = k := by rw [List.length_take]; omega
  refine ⟨⟨by rw [List.length_map, hlen]; simp, ?_⟩, by omega⟩
  rcases h2 with ⟨h2, _⟩ | ⟨g', cap', cur, e, hg, hh, hn, hm, hs, ht⟩
  · cases h2
  · simp only [Value.slice.injEq, Option.some.injEq, Addr.mk.injEq, and_true, true_and] at e
    obtain ⟨rfl, rfl⟩ := e
    refine .inr ⟨g, cap, cur, by rw [hlen], hg, hh, by omega, hm, hs, ?_⟩
    rw [hlen, Nat.mul_one] at *
    rw [List.map_take, ← ht, List.take_take, Nat.min_eq_left (by omega)]
theorem Row.at3 {w : World} {B g m : Nat} {a b c : Int} (h : Row w B (.slice (some ⟨g, 0, none⟩) 3 m) [a, b, c]) : Pw3 w g a b c := by
  rcases h.cases with ⟨e, _⟩ | ⟨g', m', e, _, _, hc, hf⟩
  · cases e
  · simp only [Value.slice.injEq, Option.some.injEq, Addr.mk.injEq, and_true] at e
    obtain ⟨rfl, _⟩ := e
    exact ⟨hc 0 (by simp), hc 1 (by simp), hc 2 (by simp), hf 0, hf 1, hf 2⟩
/-- the drawn powers -/
def ListD (w : World) (e : Ending) (w' : World) : Prop := ∃ (v : Value) (L : List Int), e = .returned v ∧ L.length ≤ 3 ∧ Row w' w.heap.size v L ∧ Below w.heap.size w w'
/-- a number of tones -/
def OneD (w : World) (e : Ending) (w' : World) : Prop := ∃ n : Int, e = .returned (.int .i64 n) ∧ 0 ≤ n ∧ n ≤ 13 ∧ Below w.heap.size w w'
theorem manyTones_any (B p : Nat) (w : World) (h : Rd w B p) (hp : p ≤ 9000) : Calls Tryd.prog 33 #[.pointer (some ⟨B, 0, none⟩)] w (Dr 0 13 1 B p w) := by
  go_enter Tryd.func33, Tryd.ntmps33
  go_wp2_with fail
  refine (one_lit [7, 12, 5, 4, 8, 3, 2, 1, 10, 0, 13] _ _ 0 13 _ _ _ rfl rfl h (by omega) (by decide) (by decide) (by decide)).mono ?_; rintro e w3 ⟨y, p', rfl, y0, y1, hp', hrd2, hgr⟩
  go_wp2_with fail
  go_ret
  exact ⟨y, p', rfl, y0, y1, hp', hrd2, hgr⟩
theorem drawFifthsOf (x : Option Addr) (len cap : Nat) (w : World) (h : Code w x len cap) : Calls Tryd.prog 14 #[.slice x len cap] w (OneD w) := by
  obtain ⟨zs, h1, h2, h3⟩ := h
  go_enter Tryd.func14, Tryd.ntmps14
  go_wp2_with fail
  refine (newReader_any _ _ _ _ _ h1 h2 h3).mono ?_; rintro e w1 ⟨rfl, hrd, hb, hlt⟩
  have HB := Lib.hid hb
  clear hb
  go_wp2_with fail
  refine (manyTones_any _ _ _ hrd (by omega)).mono ?_; rintro e w2 ⟨n, p', rfl, n0, n1, _, _, hg⟩
  have hB := below_grown HB.out hg
  go_wp2_with fail
  go_ret
  exact ⟨n, rfl, n0, n1, hB⟩
theorem drawGapsBetween (x : Option Addr) (len cap : Nat) (w : World) (h : Code w x len cap) : Calls Tryd.prog 20 #[.slice x len cap] w (OneD w) := by
  obtain ⟨zs, h1, h2, h3⟩ := h
  go_enter Tryd.func20, Tryd.ntmps20
  go_wp2_with fail
  refine (newReader_any _ _ _ _ _ h1 h2 h3).mono ?_; rintro e w1 ⟨rfl, hrd, hb, hlt⟩
  have HB := Lib.hid hb
  clear hb
  go_wp2_with fail
  refine (manyTones_any _ _ _ hrd (by omega)).mono ?_; rintro e w2 ⟨n, p', rfl, n0, n1, _, _, hg⟩
  have hB := below_grown HB.out hg
  go_wp2_with fail
  go_ret
  exact ⟨n, rfl, n0, n1, hB⟩
end Go.Proofs.YtpcbplademohnaaDoor
