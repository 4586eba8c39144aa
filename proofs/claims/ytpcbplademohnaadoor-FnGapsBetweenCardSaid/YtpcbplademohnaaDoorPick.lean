/-
  Contracts of the reader of drawn numbers: newReader, pick, one.
-/
import Derived.Test.YtpcbplademohnaaDoorTones
import Derived.Deep.QuietTactic
import Derived.BigQuiet
import Derived.WalkLawsBesides
namespace Go.Proofs.YtpcbplademohnaaDoor
open Go.RowKit
set_option linter.unusedVariables false

/-- a row of bytes that can be read -/
def Bytes (w : World) (x : Option Addr) (len : Nat) (zs : List Int) : Prop :=
  len = 0 ∨ ∃ g o, x = some ⟨g, o, none⟩ ∧ g < w.heap.size ∧ ∀ i, i < len → w.cell? ⟨g, o + i, none⟩ = some (.int .u8 (zs.getD i 0)) ∧ 0 ≤ zs.getD i 0 ∧ zs.getD i 0 ≤ 255

/-- the reader in block B has drawn p numbers -/
def Rd (w : World) (B p : Nat) : Prop := ∃ (x : Option Addr) (len cap : Nat) (zs : List Int), len ≤ 2000 ∧ w.cell? ⟨B, 0, none⟩ = some (.slice x len cap) ∧ w.cell? ⟨B, 1, none⟩ = some (.int .i64 p) ∧ w.frozen? ⟨B, 1, none⟩ = false ∧
  B < w.heap.size ∧ (len = 0 ∨ ∃ g o, x = some ⟨g, o, none⟩ ∧ g < B ∧ ∀ i, i < len → w.cell? ⟨g, o + i, none⟩ = some (.int .u8 (zs.getD i 0)) ∧ 0 ≤ zs.getD i 0 ∧ zs.getD i 0 ≤ 255)

/-- what a draw gives -/
def Picks (n : Int) (B p : Nat) (w : World) (e : Ending) (w' : World) : Prop :=
  ∃ r : Int, e = .returned (.int .i64 r) ∧ 0 ≤ r ∧ (1 ≤ n → r < n) ∧ (n < 1 → r = 0) ∧ Rd w' B (p + 1) ∧ w.grownBy w' (some B)

/-- the reader behind a draw -/
theorem Rd.step {w : World} {B p : Nat} (h : Rd w B p) : Rd (w.setCell ⟨B, 1, none⟩ (.int .i64 ((p : Int) + 1))) B (p + 1) ∧ w.grownBy (w.setCell ⟨B, 1, none⟩ (.int .i64 ((p : Int) + 1))) (some B) := by
  obtain ⟨x, len, cap, zs, hlen, c0, c1, f1, hB, hb⟩ := h
  refine ⟨⟨x, len, cap, zs, hlen, ?_, ?_, by simpa using f1, by simpa using hB, ?_⟩, ⟨rfl, rfl, rfl, by simp, fun k _ hk => heap_setCell_other w ⟨B, 1, none⟩ k _ (fun e => hk (by simp [e]))⟩⟩
  · rw [World.cell?_setCell_other _ _ _ _ (by simp)]; exact c0
  · exact World.cell?_setCell_same _ _ _ c1
  · rcases hb with hb | ⟨g, o, rfl, hg, hcell⟩
    · exact .inl hb
    · refine .inr ⟨g, o, rfl, hg, fun i hi => ?_⟩
      rw [World.cell?_setCell_other _ _ _ _ (by intro e; injection e with e1 e2 e3; omega)]; exact hcell i hi
theorem Rd.drew {w : World} {B p : Nat} (h : Rd w B p) : Rd w.drew B p := h
theorem grown_drew {w w' : World} {r : Option Nat} (h : w.grownBy w' r) : w.grownBy w'.drew r := ⟨h.os, h.tape, h.output, h.size, h.block⟩

theorem i64_xor_nat (a b : Nat) (ha : a < 4611686018427387904) (hb : b < 4611686018427387904) : bits .xor .i64 (a : Int) (b : Int) = ((a ^^^ b : Nat) : Int) := by
  have hx : a ^^^ b < 2 ^ 62 := Nat.xor_lt_two_pow (by omega) (by omega)
  show IntKind.i64.wrap ((BitVec.ofInt 64 (a : Int) ^^^ BitVec.ofInt 64 (b : Int)).toNat : Int) = _
  rw [BitVec.toNat_xor, ofInt_i64 a ha, ofInt_i64 b hb]
  exact IntWalk.i64_in _ (by omega)
theorem xor_bd {X : Int} (h0 : 0 ≤ X) (h1 : X ≤ 100000000) : 0 ≤ bits .xor .i64 X (X / 64) ∧ bits .xor .i64 X (X / 64) ≤ 1000000000 := by
  obtain ⟨N, rfl⟩ := Int.eq_ofNat_of_zero_le h0
  have e : (N : Int) / 64 = ((N / 64 : Nat) : Int) := by omega
  rw [e, i64_xor_nat N (N / 64) (by omega) (by omega)]
  have hx : N ^^^ (N / 64) < 2 ^ 27 := Nat.xor_lt_two_pow (by omega) (by omega)
  omega

set_option maxRecDepth 20000 in
set_option maxHeartbeats 1000000 in
theorem pick_any (n : Int) (B p : Nat) (w : World) (h : Rd w B p) (hp : p ≤ 10000) (hn : -1000 ≤ n) (hn2 : n ≤ 100000) :
    Calls Tryd.prog 54 #[.pointer (some ⟨B, 0, none⟩), .int .i64 n] w (Picks n B p w) := by
  have HS := Lib.hid h.step
  obtain ⟨x, len, cap, zs, hlen, c0, c1, f1, hB, hb⟩ := h
  by_cases hz : n < 1
  · go_enter Tryd.func54, Tryd.ntmps54
    go_wp2
    go_ret
    exact ⟨0, rfl, Int.le_refl _, by omega, fun _ => rfl, HS.out.1, HS.out.2⟩
  · rcases hb with hb | ⟨g, o, rfl, hg, hcell⟩
    · subst hb
      go_enter Tryd.func54, Tryd.ntmps54
      go_wp2
      go_ret
      exact ⟨0, rfl, Int.le_refl _, by omega, fun _ => rfl, HS.out.1, HS.out.2⟩
    · by_cases hl0 : len = 0
      · subst hl0
        go_enter Tryd.func54, Tryd.ntmps54
        go_wp2
        go_ret
        exact ⟨0, rfl, Int.le_refl _, by omega, fun _ => rfl, HS.out.1, HS.out.2⟩
      · by_cases hpl : p < len
        · obtain ⟨h1, h2, h3⟩ := hcell p hpl
          generalize zs.getD p 0 = z at h1 h2 h3
          clear hcell
          go_enter Tryd.func54, Tryd.ntmps54
          go_wp2
          go_ret
          refine ⟨z % n, rfl, Int.emod_nonneg _ (by omega), fun _ => Int.emod_lt_of_pos _ (by omega), fun h => by omega, HS.out.1, HS.out.2⟩
        · obtain ⟨h1, h2, h3⟩ := hcell (p % len) (Nat.mod_lt _ (by omega))
          obtain ⟨h4, h5, h6⟩ := hcell ((p * 7 + 3) % len) (Nat.mod_lt _ (by omega))
          generalize zs.getD (p % len) 0 = z at h1 h2 h3
          generalize zs.getD ((p * 7 + 3) % len) 0 = y at h4 h5 h6
          clear hcell
          have i1 := Int.emod_nonneg (p : Int) (b := (len : Int)) (by omega)
          have i2 := Int.emod_lt_of_pos (p : Int) (b := (len : Int)) (by omega)
          have i3 := Int.emod_nonneg ((p : Int) * 7 + 3) (b := (len : Int)) (by omega)
          have i4 := Int.emod_lt_of_pos ((p : Int) * 7 + 3) (b := (len : Int)) (by omega)
          obtain ⟨i5, i6⟩ := Tic.div_bd p len
          go_enter Tryd.func54, Tryd.ntmps54
          go_wp2
          go_region
          have x0 : 0 ≤ z * 131 + y * 1117 + (p : Int) * 29 + (p : Int) / (len : Int) * 53 := by omega
          have x1 : z * 131 + y * 1117 + (p : Int) * 29 + (p : Int) / (len : Int) * 53 ≤ 100000000 := by omega
          clear i1 i2 i3 i4 i5 i6
          generalize z * 131 + y * 1117 + (p : Int) * 29 + (p : Int) / (len : Int) * 53 = X at x0 x1
          obtain ⟨y0, y1⟩ := xor_bd x0 x1
          go_wp2
          go_ret
          exact ⟨bits .xor .i64 X (X / 64) % n, rfl, Int.emod_nonneg _ (by omega), fun _ => Int.emod_lt_of_pos _ (by omega), fun h => by omega, HS.out.1, grown_drew HS.out.2⟩

/-- the reader was made; nothing that was there is written -/
def Made (w : World) (e : Ending) (w' : World) : Prop := e = .returned (.pointer (some ⟨w.heap.size, 0, none⟩)) ∧ Rd w' w.heap.size 0 ∧ Below w.heap.size w w' ∧ w.heap.size < w'.heap.size

theorem rd_new {w : World} {x : Option Addr} {len cap : Nat} {zs : List Int} {t : TypeId} (hl : len ≤ 2000) (hb : Bytes w x len zs) : Rd (w.alloc (.cells #[.slice x len cap, .int .i64 0] t)) w.heap.size 0 := by
  refine ⟨x, len, cap, zs, hl, ?_, ?_, ?_, by simp, ?_⟩
  · go_simp
  · go_simp
  · go_simp
  · rcases hb with hb | ⟨g, o, rfl, hg, hc⟩
    · exact .inl hb
    · refine .inr ⟨g, o, rfl, hg, fun i hi => ?_⟩
      obtain ⟨h1, h2, h3⟩ := hc i hi
      exact ⟨((Below.refl w.heap.size w).alloc (Nat.le_refl _) _ |>.cell (p := ⟨g, o + i, none⟩) hg).trans h1, h2, h3⟩

theorem newReader_any (x : Option Addr) (len cap : Nat) (zs : List Int) (w : World) (hb : Bytes w x len zs) (hlc : len ≤ cap) (hc : cap ≤ maxLen) :
    Calls Tryd.prog 34 #[.slice x len cap] w (Made w) := by
  unfold maxLen at hc
  by_cases hl : len ≤ 2000
  · have HR := fun t => rd_new (t := t) (cap := cap) hl hb
    have HR := Lib.hid HR
    go_enter Tryd.func34, Tryd.ntmps34
    go_wp2
    go_ret
    exact ⟨rfl, HR.out _, (Below.refl _ _).alloc (Nat.le_refl _) _, by simp⟩
  · have hb2 : Bytes w x 2000 zs := by
      rcases hb with hb | ⟨g, o, rfl, hg, hc⟩
      · omega
      · exact .inr ⟨g, o, rfl, hg, fun i hi => hc i (by omega)⟩
    have HR := fun t => rd_new (t := t) (cap := cap) (Nat.le_refl 2000) hb2
    have HR := Lib.hid HR
    rcases hb with hb | ⟨g, o, rfl, hg, hc⟩
    · omega
    · clear hc
      go_enter Tryd.func34, Tryd.ntmps34
      go_wp2
      go_ret
      exact ⟨rfl, HR.out _, (Below.refl _ _).alloc (Nat.le_refl _) _, by simp⟩

/-- one of the numbers L is drawn -/
def Ones (L : List Int) (B p : Nat) (w : World) (e : Ending) (w' : World) : Prop := ∃ y, y ∈ L ∧ e = .returned (.int .i64 y) ∧ Rd w' B (p + 1) ∧ w.grownBy w' (some B)

theorem one_any (v : Value) (BL : Nat) (L : List Int) (B p : Nat) (w : World) (h : Rd w B p) (hp : p ≤ 10000) (hr : Row w BL v L) (hv : v.ownBlock ≠ some B) (hne : L ≠ []) (hl4 : L.length ≤ 4096) :
    Calls Tryd.prog 46 #[.pointer (some ⟨B, 0, none⟩), v] w (Ones L B p w) := by
  have hl2 := hr.2
  have hl0 : 0 < L.length := List.length_pos_iff.2 hne
  have HK : Hid (∀ w', w.grownBy w' (some B) → Row w' BL v L) := fun w' hg => ⟨hr.1.kept hg (.inr hv), hr.2⟩
  rcases hr.cases with ⟨_, e⟩ | ⟨g, c, rfl, _, hg, hc, _⟩
  · exact absurd e hne
  generalize hn : L.length = n at hl2 hl0 hc hl4
  have HN := Lib.hid hn
  clear hn hc hv hne hr
  go_enter Tryd.func46, Tryd.ntmps46
  go_wp2_with fail
  refine (pick_any _ _ _ _ h hp (by omega) (by omega)).mono ?_; rintro e w1 ⟨r, rfl, h0, h1, _, hrd, hgr⟩
  have h2 := h1 (by omega)
  obtain ⟨R, rfl⟩ := Int.eq_ofNat_of_zero_le h0
  have hRn : R < n := by omega
  have hc1 : w1.cell? ⟨g, R, none⟩ = some (.int .i64 (L.getD R 0)) := by
    rcases (HK.out w1 hgr).cases with ⟨e, _⟩ | ⟨g', c', e, _, _, hc, _⟩
    · cases e
    · simp only [Value.slice.injEq, Option.some.injEq, Addr.mk.injEq, and_true, true_and] at e
      obtain ⟨rfl, _, rfl⟩ := e
      exact hc R (by rw [HN.out]; exact hRn)
  have hmem : L.getD R 0 ∈ L := by
    rw [List.getD_eq_getElem?_getD, List.getElem?_eq_getElem (by rw [HN.out]; exact hRn)]
    exact List.getElem_mem _
  have HM := Lib.hid hmem
  have HRD := Lib.hid hrd
  have HG := Lib.hid hgr
  clear hmem hrd hgr h1
  generalize L.getD R 0 = y at hc1 HM
  go_wp2
  go_ret
  exact ⟨y, HM.out, rfl, HRD.out, HG.out⟩

end Go.Proofs.YtpcbplademohnaaDoor
