/-
  Contracts of the drawers of arguments of SizesOf, SpreadOf and BeatsOf.
-/
import Derived.Test.YtahpjfdecjfpcaaDraws
namespace Go.Proofs.Ytahpjfdecjfpcaa
open Go.RowKit
set_option linter.unusedVariables false

theorem drawBeatsOf (x : Option Addr) (len cap : Nat) (w : World) (h : Code w x len cap) : Calls Try.prog 16 #[.slice x len cap] w (Two w) := by
  obtain ⟨zs, h1, h2, h3⟩ := h
  go_enter Try.func16, Try.ntmps16
  go_wp2_with fail
  refine (newReader_any _ _ _ _ _ h1 h2 h3).mono ?_; rintro e w1 ⟨rfl, hrd, hb, _⟩
  have HB := Lib.hid hb
  clear hb
  go_wp2_with fail
  refine (circle_any _ _ _ hrd (by omega)).mono ?_; rintro e w2 ⟨n, p', rfl, n0, n1, hp, hr, hg⟩
  have HR := Lib.hid hr
  have HG := Lib.hid (below_grown HB.out hg)
  clear hr hg
  by_cases hn : 1 ≤ n
  · go_wp2_with fail
    refine (pick_pos _ _ _ _ HR.out (by omega) (by omega) (by omega)).mono ?_; rintro e w3 ⟨r1, rfl, a0, a1, H1, G1⟩
    go_wp2_with fail
    refine (pick_pos _ _ _ _ H1.out (by omega) (by omega) (by omega)).mono ?_; rintro e w4 ⟨r2, rfl, b0, b1, H2, G2⟩
    replace G2 := Lib.hid (grown_trans G1.out G2.out)
    clear H1 G1
    go_wp2_with fail
    refine (one_lit [1 + r1, 1 + r2, 0, n + 1] _ _ (-1) 60 _ _ _ rfl rfl H2.out (by omega) (by simp) (by simp) ?_).mono ?_
    · intro y hy; simp at hy; omega
    rintro e w5 ⟨k, p2, rfl, k0, k1, hp2, hrd3, hg3⟩
    replace G2 := Lib.hid (grown_trans G2.out hg3)
    have H3 := Lib.hid hrd3
    clear hg3 H2 hrd3
    go_wp2_with fail
    go_ret2
    exact ⟨n, k, rfl, n0, n1, by omega, by omega, below_grown HG.out G2.out⟩
  · go_wp2_with fail
    refine (pick_pos _ _ _ _ HR.out (by omega) (by omega) (by omega)).mono ?_; rintro e w3 ⟨r1, rfl, a0, a1, H1, G1⟩
    go_wp2_with fail
    refine (pick_pos _ _ _ _ H1.out (by omega) (by omega) (by omega)).mono ?_; rintro e w4 ⟨r2, rfl, b0, b1, H2, G2⟩
    replace G2 := Lib.hid (grown_trans G1.out G2.out)
    clear H1 G1
    go_wp2_with fail
    refine (one_lit [1 + r1, 1 + r2, 0, n + 1] _ _ (-1) 60 _ _ _ rfl rfl H2.out (by omega) (by simp) (by simp) ?_).mono ?_
    · intro y hy; simp at hy; omega
    rintro e w5 ⟨k, p2, rfl, k0, k1, hp2, hrd3, hg3⟩
    replace G2 := Lib.hid (grown_trans G2.out hg3)
    have H3 := Lib.hid hrd3
    clear hg3 H2 hrd3
    go_wp2_with fail
    go_ret2
    exact ⟨n, k, rfl, n0, n1, by omega, by omega, below_grown HG.out G2.out⟩
end Go.Proofs.Ytahpjfdecjfpcaa
