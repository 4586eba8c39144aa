/-
  Contracts of the drawers of triads and words of steps.
-/
import Derived.Test.YtjlbgccffpkmiaaDraws
import Derived.Test.YtjlbgccffpkmiaaTriSet
namespace Go.Proofs.Ytjlbgccffpkmiaa
open Go.RowKit
set_option linter.unusedVariables false

theorem aTriad_any (B p : Nat) (w : World) (h : Rd w B p) (hp : p ≤ 9000) :
    Calls Try.prog 15 #[.pointer (some ⟨B, 0, none⟩)] w (Dr (-1) 24 2 B p w) := by
  go_enter Try.func15, Try.ntmps15
  go_wp2_with fail
  refine (pick_pos _ _ _ _ h (by omega) (by omega) (by omega)).mono ?_; rintro e w1 ⟨r, rfl, h0, h1, HRD, HG⟩
  by_cases hr : r = 0
  · subst hr
    go_wp2_with fail
    refine (one_lit [-1, 24] _ _ (-1) 24 _ _ _ rfl rfl HRD.out (by omega) (by decide) (by decide) (by decide)).mono ?_; rintro e w2 ⟨y, p', rfl, y0, y1, hp', hrd, hgr⟩
    go_wp2_with fail
    go_ret
    exact ⟨y, p', rfl, y0, y1, by omega, hrd, grown_trans HG.out hgr⟩
  · go_wp2_with fail
    refine (pick_pos _ _ _ _ HRD.out (by omega) (by omega) (by omega)).mono ?_; rintro e w2 ⟨r2, rfl, h2, h3, HRD2, HG2⟩
    go_wp2_with fail
    go_ret
    exact ⟨r2, _, rfl, by omega, by omega, by omega, HRD2.out, grown_trans HG.out HG2.out⟩

/-- a text of at most M bytes is drawn -/
def DrS (M c B p : Nat) (w : World) (e : Ending) (w' : World) : Prop :=
  ∃ (s : ByteArray) (p' : Nat), e = .returned (.string s) ∧ s.size ≤ M ∧ p' ≤ p + c ∧ Rd w' B p' ∧ w.grownBy w' (some B)
theorem of_lit (L : List ByteArray) (cs : Array Value) (n : Nat) (M : Nat) (B p : Nat) (w : World) (hcs : cs = (L.map Value.string).toArray) (hn : n = L.length) (h : Rd w B p) (hp : p ≤ 10000) (hl : L.length ≤ 100) (hl0 : 0 < L.length) (hM : ∀ s ∈ L, s.size ≤ M) :
    Calls Try.prog 16 #[.pointer (some ⟨B, 0, none⟩), .slice (some ⟨w.heap.size, 0, none⟩) n n] (w.alloc (.cells cs 9)) (DrS M 1 B p w) := by
  subst hcs
  have HB := Lib.hid h.lt
  have HR := Lib.hid (h.alloc (.cells (L.map Value.string).toArray 9))
  have HC : Hid (∀ i, i < L.length → (w.alloc (.cells (L.map Value.string).toArray 9)).cell? ⟨w.heap.size, i, none⟩ = some (.string (L.getD i ByteArray.empty))) := Lib.hid (fun i hi => by
    rw [cell_of_row _ _ _ _ _ _ (heap_alloc_new _ _)]
    simp [List.getD_eq_getElem?_getD, List.getElem?_eq_getElem hi])
  have HM : Hid (∀ i, i < L.length → (L.getD i ByteArray.empty).size ≤ M) := Lib.hid (fun i hi => by
    rw [List.getD_eq_getElem?_getD, List.getElem?_eq_getElem hi]
    exact hM _ (List.getElem_mem _))
  have HG0 := Lib.hid (grown_alloc w (.cells (L.map Value.string).toArray 9) (some B))
  have HLT : Hid (w.heap.size < (w.alloc (.cells (L.map Value.string).toArray 9)).heap.size) := Lib.hid (by simp)
  generalize w.alloc (.cells (L.map Value.string).toArray 9) = W at HR HC HG0 HLT ⊢
  have HN := Lib.hid hn
  clear hM h
  rw [← hn] at hl hl0
  clear hn
  go_enter Try.func16, Try.ntmps16
  go_wp2_with fail
  refine (pick_pos _ _ _ _ HR.out (by omega) (by omega) (by omega)).mono ?_; rintro e w1 ⟨r, rfl, h0, h1, HRD, HG⟩
  obtain ⟨k, rfl⟩ := Int.eq_ofNat_of_zero_le h0
  have hk : k < L.length := by rw [← HN.out]; omega
  have hc : w1.cell? ⟨w.heap.size, k, none⟩ = some (.string (L.getD k ByteArray.empty)) := by
    have hb := HG.out.block w.heap.size HLT.out (fun e => by injection e with e; have := HB.out; omega)
    rw [World.cell?_of_block (a := ⟨w.heap.size, k, none⟩) hb]
    exact HC.out k hk
  have HMK := Lib.hid (HM.out k hk)
  generalize L.getD k ByteArray.empty = s at hc HMK
  clear hk
  go_wp2_with fail
  go_ret
  exact ⟨s, _, rfl, HMK.out, Nat.le_refl _, HRD.out, grown_trans HG0.out HG.out⟩
set_option maxRecDepth 20000 in
theorem aWord_any (B p : Nat) (w : World) (h : Rd w B p) (hp : p ≤ 9000) :
    Calls Try.prog 17 #[.pointer (some ⟨B, 0, none⟩)] w (DrS 20 11 B p w) := by
  go_enter Try.func17, Try.ntmps17
  go_wp2_with fail
  refine (one_lit [2, 3, 1, 4, 6, 8, 0] _ _ 0 8 _ _ _ rfl rfl h (by omega) (by decide) (by decide) (by decide)).mono ?_; rintro e w1 ⟨y, p1, rfl, y0, y1, hp1, hrd, hgr⟩
  have HRD := Lib.hid hrd
  have HG := Lib.hid hgr
  clear hrd hgr h
  obtain ⟨N, rfl⟩ := Int.eq_ofNat_of_zero_le y0
  go_wp2
  go_loopw [3, 4] (fun t3 t4 wr => ∃ (k p2 : Nat) (s : ByteArray), k ≤ 8 ∧ s.size + k ≤ 8 ∧ p2 + k ≤ p + 9 ∧ t4 = .int .i64 k ∧ t3 = .string s ∧ Hid (Rd wr B p2) ∧ Hid (w.grownBy wr (some B))) (fun _ t4 _ => (intOf t4).toNat)
  case atStart => exact ⟨N, p1, ByteArray.empty, by omega, by show 0 + N ≤ 8; omega, by omega, rfl, rfl, HRD, HG⟩
  case round =>
    obtain ⟨k, p2, s, hk, hsk, hpk, rfl, rfl, HR, HG1⟩ := hrel
    by_cases hlt : 0 < k
    · go_wp2_with fail
      refine (of_lit [⟨#[80]⟩, ⟨#[76]⟩, ⟨#[82]⟩] _ _ 1 _ _ _ rfl rfl HR.out (by omega) (by decide) (by decide) (by decide)).mono ?_; rintro e w2 ⟨s2, p3, rfl, hs2, hp3, hr2, hg2⟩
      have HR2 := Lib.hid hr2
      have HG2 := Lib.hid (grown_trans HG1.out hg2)
      clear hr2 hg2
      go_wp2
      go_roundw
      case rel => exact ⟨k - 1, p3, s ++ s2, by omega, by rw [ByteArray.size_append]; omega, by omega, by rw [show ((k : Int) - 1) = ((k - 1 : Nat) : Int) by omega], rfl, HR2, HG2⟩
      case measure => simp [intOf]; omega
    · obtain rfl : k = 0 := by omega
      go_wp2_with fail
      refine (pick_pos _ _ _ _ HR.out (by omega) (by omega) (by omega)).mono ?_; rintro e w2 ⟨r, rfl, h0, h1, HR2, HG2⟩
      replace HG2 := Lib.hid (grown_trans HG1.out HG2.out)
      by_cases hr : r = 0
      · subst hr
        go_wp2_with fail
        refine (of_lit [⟨#[88]⟩, ⟨#[112]⟩, ⟨#[80, 80, 80, 80, 80, 80, 80, 80, 80]⟩] _ _ 9 _ _ _ rfl rfl HR2.out (by omega) (by decide) (by decide) (by decide)).mono ?_; rintro e w3 ⟨s2, p3, rfl, hs2, hp3, hr3, hg3⟩
        have HR3 := Lib.hid hr3
        have HG3 := Lib.hid (grown_trans HG2.out hg3)
        clear hr3 hg3
        go_wp2_with fail
        go_ret
        exact ⟨s ++ s2, p3, rfl, by rw [ByteArray.size_append]; omega, by omega, HR3.out, HG3.out⟩
      · go_wp2_with fail
        go_ret
        exact ⟨s, _, rfl, by omega, by omega, HR2.out, HG2.out⟩

/-- a triad, or a number beside, is drawn -/
def DT (w : World) (e : Ending) (w' : World) : Prop := ∃ t : Int, e = .returned (.int .i64 t) ∧ -1 ≤ t ∧ t ≤ 24 ∧ Below w.heap.size w w'
/-- a set of twelve tones, or a number beside -/
def DTO (w : World) (e : Ending) (w' : World) : Prop := ∃ t : Int, e = .returned (.int .i64 t) ∧ -1 ≤ t ∧ t ≤ 1000000 ∧ Below w.heap.size w w'
/-- a triad and a number -/
def DTK (w : World) (e : Ending) (w' : World) : Prop := ∃ t k : Int, e = .returned (.tuple #[.int .i64 t, .int .i64 k]) ∧ -1 ≤ t ∧ t ≤ 24 ∧ -60 ≤ k ∧ k ≤ 60 ∧ Below w.heap.size w w'
/-- a triad and a text -/
def DTW (w : World) (e : Ending) (w' : World) : Prop := ∃ (t : Int) (s : ByteArray), e = .returned (.tuple #[.int .i64 t, .string s]) ∧ -1 ≤ t ∧ t ≤ 24 ∧ s.size ≤ 20 ∧ Below w.heap.size w w'
theorem drawWayOf (x : Option Addr) (len cap : Nat) (w : World) (h : Code w x len cap) : Calls Try.prog 10 #[.slice x len cap] w (DTK w) := by
  obtain ⟨zs, h1, h2, h3⟩ := h
  go_enter Try.func10, Try.ntmps10
  go_wp2_with fail
  refine (newReader_any _ _ _ _ _ h1 h2 h3).mono ?_; rintro e w1 ⟨rfl, hrd, hb, _⟩
  have HB := Lib.hid hb
  clear hb
  go_wp2_with fail
  refine (aTriad_any _ _ _ hrd (by omega)).mono ?_; rintro e w2 ⟨t, p', rfl, t0, t1, hp', hrd2, hg⟩
  have HR2 := Lib.hid hrd2
  have HG2 := Lib.hid hg
  clear hrd2 hg
  go_wp2_with fail
  refine (aTriad_any _ _ _ HR2.out (by omega)).mono ?_; rintro e w3 ⟨k, p3, rfl, k0, k1, _, _, hg3⟩
  go_wp2_with fail
  go_ret2
  exact ⟨t, k, rfl, t0, t1, by omega, by omega, below_grown HB.out (grown_trans HG2.out hg3)⟩
theorem drawRoundOf (x : Option Addr) (len cap : Nat) (w : World) (h : Code w x len cap) : Calls Try.prog 5 #[.slice x len cap] w (DTW w) := by
  obtain ⟨zs, h1, h2, h3⟩ := h
  go_enter Try.func5, Try.ntmps5
  go_wp2_with fail
  refine (newReader_any _ _ _ _ _ h1 h2 h3).mono ?_; rintro e w1 ⟨rfl, hrd, hb, _⟩
  have HB := Lib.hid hb
  clear hb
  go_wp2_with fail
  refine (pick_pos _ _ _ _ hrd (by omega) (by omega) (by omega)).mono ?_; rintro e w2 ⟨r, rfl, h0, h1, HR1, HG1⟩
  by_cases hr : r = 0
  · subst hr
    go_wp2_with fail
    refine (aTriad_any _ _ _ HR1.out (by omega)).mono ?_; rintro e w2 ⟨t, p', rfl, t0, t1, hp', hrd2, hg⟩
    have HR2 := Lib.hid hrd2
    have HG2 := Lib.hid (grown_trans HG1.out hg)
    clear hrd2 hg
    go_wp2_with fail
    refine (of_lit [⟨#[80, 76]⟩, ⟨#[80, 82]⟩, ⟨#[76, 82]⟩, ⟨#[76, 80]⟩, ⟨#[82, 76]⟩, ⟨#[80, 76, 82]⟩, ⟨#[76]⟩] _ _ 3 _ _ _ rfl rfl HR2.out (by omega) (by decide) (by decide) (by decide)).mono ?_; rintro e w3 ⟨s, p3, rfl, hs, _, _, hg3⟩
    go_wp2_with fail
    go_ret2
    exact ⟨t, s, rfl, t0, t1, by omega, below_grown HB.out (grown_trans HG2.out hg3)⟩
  · go_wp2_with fail
    refine (aTriad_any _ _ _ HR1.out (by omega)).mono ?_; rintro e w2 ⟨t, p', rfl, t0, t1, hp', hrd2, hg⟩
    have HR2 := Lib.hid hrd2
    have HG2 := Lib.hid (grown_trans HG1.out hg)
    clear hrd2 hg
    go_wp2_with fail
    refine (aWord_any _ _ _ HR2.out (by omega)).mono ?_; rintro e w3 ⟨s, p3, rfl, hs, _, _, hg3⟩
    go_wp2_with fail
    go_ret2
    exact ⟨t, s, rfl, t0, t1, hs, below_grown HB.out (grown_trans HG2.out hg3)⟩
end Go.Proofs.Ytjlbgccffpkmiaa
