/-
  Contracts of the drawn arguments: circles, sets, shifts.
-/
import Derived.Test.YtpcbplademohnaaDoorPick
namespace Go.Proofs.YtpcbplademohnaaDoor
open Go.RowKit
set_option linter.unusedVariables false

theorem grown_trans {a b c : World} {r : Option Nat} (h : a.grownBy b r) (k : b.grownBy c r) : a.grownBy c r :=
  ⟨k.os.trans h.os, k.tape.trans h.tape, k.output.trans h.output, Nat.le_trans h.size k.size, fun i hi hr => (k.block i (Nat.lt_of_lt_of_le hi h.size) hr).trans (h.block i hi hr)⟩
theorem grown_alloc (w : World) (o : Obj) (r : Option Nat) : w.grownBy (w.alloc o) r := World.grownBy_alloc w o r
theorem grown_below {w w' : World} {r : Option Nat} (hb : Below w.heap.size w w') : w.grownBy w' r := ⟨hb.os, hb.tape, hb.output, hb.size, fun k hk _ => hb.block k hk⟩
theorem Rd.kept {w w' : World} {B p : Nat} (h : Rd w B p) (hb : Below w.heap.size w w') : Rd w' B p := by
  obtain ⟨x, len, cap, zs, hlen, c0, c1, f1, hB, hb2⟩ := h
  refine ⟨x, len, cap, zs, hlen, (hb.cell (p := ⟨B, 0, none⟩) hB).trans c0, (hb.cell (p := ⟨B, 1, none⟩) hB).trans c1, (hb.frozen (p := ⟨B, 1, none⟩) hB).trans f1, Nat.lt_of_lt_of_le hB hb.size, ?_⟩
  rcases hb2 with hb2 | ⟨g, o, e, hg, hc⟩
  · exact .inl hb2
  · exact .inr ⟨g, o, e, hg, fun i hi => ⟨(hb.cell (p := ⟨g, o + i, none⟩) (Nat.lt_trans hg hB)).trans (hc i hi).1, (hc i hi).2⟩⟩
theorem Rd.alloc {w : World} {B p : Nat} (h : Rd w B p) (o : Obj) : Rd (w.alloc o) B p := h.kept ((Below.refl _ _).alloc (Nat.le_refl _) _)
theorem Rd.lt {w : World} {B p : Nat} (h : Rd w B p) : B < w.heap.size := by obtain ⟨_, _, _, _, _, _, _, _, hB, _⟩ := h; exact hB

/-- a number from lo to hi is drawn, by at most c draws -/
def Dr (lo hi : Int) (c B p : Nat) (w : World) (e : Ending) (w' : World) : Prop :=
  ∃ (y : Int) (p' : Nat), e = .returned (.int .i64 y) ∧ lo ≤ y ∧ y ≤ hi ∧ p' ≤ p + c ∧ Rd w' B p' ∧ w.grownBy w' (some B)

theorem row_lit (w : World) (L : List Int) (hl : L.length ≤ 4096) : Row (w.alloc (.cells (L.map (Value.int .i64)).toArray 3)) w.heap.size (.slice (some ⟨w.heap.size, 0, none⟩) L.length L.length) L := by
  refine ⟨?_, by omega⟩
  have := World.ownsRow_lit (base := w.heap.size) (e := 3) (size := 1) w (L.map (Value.int .i64)).toArray L.length (Nat.le_refl _) (by unfold maxLen; omega) (by simp)
  simpa using this

/-- one of the numbers of a list just written out -/
theorem one_lit (L : List Int) (cs : Array Value) (n : Nat) (lo hi : Int) (B p : Nat) (w : World) (hcs : cs = (L.map (Value.int .i64)).toArray) (hn : n = L.length) (h : Rd w B p) (hp : p ≤ 10000) (hl : L.length ≤ 4096) (hne : L ≠ [])
    (hlo : ∀ y ∈ L, lo ≤ y ∧ y ≤ hi) :
    Calls Tryd.prog 46 #[.pointer (some ⟨B, 0, none⟩), .slice (some ⟨w.heap.size, 0, none⟩) n n] (w.alloc (.cells cs 3)) (Dr lo hi 1 B p w) := by
  subst hcs hn
  refine (one_any _ _ L B p _ (h.alloc _) hp (row_lit w L hl) ?_ hne hl).mono ?_
  · intro e
    have := h.lt
    simp [Value.ownBlock] at e
    omega
  · rintro e w' ⟨y, hy, rfl, hr, hg⟩
    exact ⟨y, p + 1, rfl, (hlo y hy).1, (hlo y hy).2, by omega, hr, grown_trans (grown_alloc _ _ _) hg⟩



theorem and_bd {x y : Int} (h0 : 0 ≤ x) (h1 : x ≤ 100000) (h2 : 0 ≤ y) (h3 : y ≤ 100000) : 0 ≤ bits .and .i64 x y ∧ bits .and .i64 x y ≤ x := by
  obtain ⟨a, rfl⟩ := Int.eq_ofNat_of_zero_le h0
  obtain ⟨b, rfl⟩ := Int.eq_ofNat_of_zero_le h2
  rw [i64_and_nat a b (by omega) (by omega)]
  have := Nat.and_le_left (n := a) (m := b)
  omega
/-- a draw of a number, as the walks use it -/
def Pk (n : Int) (B p : Nat) (w : World) (e : Ending) (w' : World) : Prop := ∃ r : Int, e = .returned (.int .i64 r) ∧ 0 ≤ r ∧ r < n ∧ Hid (Rd w' B (p + 1)) ∧ Hid (w.grownBy w' (some B))
theorem pick_pos (n : Int) (B p : Nat) (w : World) (h : Rd w B p) (hp : p ≤ 10000) (hn : 1 ≤ n) (hn2 : n ≤ 100000) :
    Calls Tryd.prog 54 #[.pointer (some ⟨B, 0, none⟩), .int .i64 n] w (Pk n B p w) :=
  (pick_any n B p w h hp (by omega) hn2).mono fun e w' ⟨r, h1, h2, h3, _, h5, h6⟩ => ⟨r, h1, h2, h3 hn, h5, h6⟩


/-- a circle and a set of its tones are drawn -/
def DrSet (c B p : Nat) (w : World) (e : Ending) (w' : World) : Prop :=
  ∃ (n s : Int) (p' : Nat), e = .returned (.tuple #[.int .i64 n, .int .i64 s]) ∧ -1 ≤ n ∧ n ≤ 13 ∧ -1 ≤ s ∧ s ≤ 1000000 ∧ p' ≤ p + c ∧ Rd w' B p' ∧ w.grownBy w' (some B)


/-- the arguments of a function of a circle and a set -/
def Two (w : World) (e : Ending) (w' : World) : Prop := ∃ n s : Int, e = .returned (.tuple #[.int .i64 n, .int .i64 s]) ∧ -1 ≤ n ∧ n ≤ 13 ∧ -1 ≤ s ∧ s ≤ 1000000 ∧ Below w.heap.size w w'
/-- the arguments of a function of a circle, a set and a number -/
def Three (w : World) (e : Ending) (w' : World) : Prop := ∃ n s t : Int, e = .returned (.tuple #[.int .i64 n, .int .i64 s, .int .i64 t]) ∧ -1 ≤ n ∧ n ≤ 13 ∧ -1 ≤ s ∧ s ≤ 1000000 ∧ -60 ≤ t ∧ t ≤ 60 ∧ Below w.heap.size w w'
theorem below_grown {w w1 w2 : World} (h : Below w.heap.size w w1) (hg : w1.grownBy w2 (some w.heap.size)) : Below w.heap.size w w2 :=
  h.grown hg h.size (fun k hk => by injection hk with hk; omega)

end Go.Proofs.YtpcbplademohnaaDoor
