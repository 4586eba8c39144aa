/-
  The walk of the law of ways between triads.
-/
import Derived.Test.YtjlbgccffpkmiaaTriDraw
import Derived.Test.YtjlbgccffpkmiaaExact3C
namespace Go.Proofs.Ytjlbgccffpkmiaa
open Go.RowKit
set_option linter.unusedVariables false

theorem str_size (l : List UInt8) : (str l).size = l.length := rfl
theorem bt_str (l : List UInt8) (k : Nat) (h : k < l.length) : Tic.bt (str l) k = (l[k]'h).toNat := by
  unfold Tic.bt
  rw [dif_pos (show k < (str l).size from h)]
  rfl
theorem wlk_str {t : Nat} (ht : t < 24) (l : List UInt8) (hl : ∀ c ∈ l, Tic.Ltr c.toNat) : ∀ k, k ≤ l.length → Tic.wlk t (str l) k = (Tic.wlkN t (l.take k) : Int) ∧ Tic.wlkN t (l.take k) < 24
  | 0, _ => ⟨rfl, ht⟩
  | k + 1, hk => by
    obtain ⟨h1, h2⟩ := wlk_str ht l hl k (by omega)
    have hlt : k < l.length := by omega
    have hm : Tic.Ltr (l[k]'hlt).toNat := hl _ (List.getElem_mem _)
    have e : Tic.wlkN t (l.take (k + 1)) = Tic.stN (Tic.wlkN t (l.take k)) (l[k]'hlt).toNat := by
      rw [List.take_succ_eq_append_getElem hlt]
      unfold Tic.wlkN
      rw [List.foldl_append]
      rfl
    rw [e]
    refine ⟨?_, Tic.stN_lt h2 hm⟩
    show Tic.stp (Tic.wlk t (str l) k) (Tic.bt (str l) k) = _
    rw [h1, bt_str l k hlt]
    exact Tic.stN_eq h2 hm
/-- the shortest way leads there -/
theorem way_leads {a b : Nat} (ha : a < 24) (hb : b < 24) : Tic.Wrd (str (Tic.way a b)) ∧ Tic.wlk a (str (Tic.way a b)) (str (Tic.way a b)).size = b := by
  obtain ⟨h1, h2, _, h4, _⟩ := Tic.way_ok ⟨a, ha⟩ ⟨b, hb⟩
  have hl : ∀ c ∈ Tic.way a b, Tic.Ltr c.toNat := fun c hc => by
    have := List.all_eq_true.1 h1 c hc
    exact of_decide_eq_true this
  refine ⟨⟨Nat.le_trans h4 (by decide), fun k hk => ?_⟩, ?_⟩
  · rw [bt_str _ k hk]; exact hl _ (List.getElem_mem _)
  · have := (wlk_str ha _ hl (Tic.way a b).length (Nat.le_refl _)).1
    rw [List.take_length] at this
    rw [str_size, this]
    exact congrArg Int.ofNat h2

set_option maxRecDepth 20000 in
set_option maxHeartbeats 1000000 in
theorem FnWayOf_walk (x : Option Addr) (len cap : Nat) (w : World) (h : Code w x len cap) :
    Calls Try.prog 4 #[.slice x len cap] w fun e w' => e = .returned (.bool true) ∧ Below w.heap.size w w' := by
  by_cases hl : 1048576 < len
  · go_enter Try.func4, Try.ntmps4
    go_wp2_with fail
    go_ret
    exact ⟨rfl, Below.refl _ _⟩
  · go_enter Try.func4, Try.ntmps4
    go_wp2_with fail
    refine (drawWayOf _ _ _ _ h).mono ?_; rintro e w1 ⟨t, k, rfl, t0, t1, k0, k1, hb⟩
    have HB := Lib.hid hb
    clear hb h hl
    by_cases ht : Tic.Tri t ∧ Tic.Tri k
    · obtain ⟨a, ha, rfl⟩ := Tic.tri_nat ht.1
      obtain ⟨b, hb, rfl⟩ := Tic.tri_nat ht.2
      obtain ⟨hw1, hw2⟩ := way_leads ha hb
      have HC := Lib.hid (fun w => iWalkOf_yes a (str (Tic.way a b)) w ht.1 (Nat.le_trans hw1.1 (by decide)))
      rw [if_pos hw1, hw2] at HC
      obtain ⟨_, _, h3, h4, h5⟩ := Tic.way_ok ⟨a, ha⟩ ⟨b, hb⟩
      have hs1 : (str (Tic.way a b)).size ≤ 5 := h4
      have hs2 : (str (Tic.way b a)).size = (str (Tic.way a b)).size := h3
      have hq : (str (Tic.way a b)).toList.isEmpty = ((a : Int) == (b : Int)) := by
        by_cases e : a = b
        · have e2 : Tic.way a b = [] := h5.2 e
          rw [e2, ByteArray.toList_eq]; subst e; simp [str]
        · have e2 : (str (Tic.way a b)).size ≠ 0 := fun h0 => e (h5.1 (List.eq_nil_of_length_eq_zero h0))
          rw [wrd_pos e2]
          symm
          rw [beq_eq_false_iff_ne]
          exact fun h => e (Int.ofNat.inj h)
      have HI := Lib.hid (fun w => iWayOf_yes a b w ha hb)
      have HJ := Lib.hid (fun w => iWayOf_yes b a w hb ha)
      have HS := Lib.hid (fun w => sWayOf_yes a b w ha hb)
      clear h3 h4 h5 hw1 hw2 ht
      generalize str (Tic.way a b) = u at HC HI HS hs1 hs2 hq
      generalize str (Tic.way b a) = v at HJ hs2
      go_wp2_with fail
      refine (HI.out _).mono ?_; rintro e w2 ⟨rfl, hb2⟩
      replace HB := Lib.hid (HB.out.trans (hb2.mono HB.out.size))
      clear hb2
      go_wp2_with fail
      refine (HS.out _).mono ?_; rintro e w3 ⟨rfl, hb3⟩
      replace HB := Lib.hid (HB.out.trans (hb3.mono HB.out.size))
      clear hb3
      go_wp2_with fail
      refine (HJ.out _).mono ?_; rintro e w4 ⟨rfl, hb4⟩
      replace HB := Lib.hid (HB.out.trans (hb4.mono HB.out.size))
      clear hb4
      go_wp2_with fail
      refine (HC.out _).mono ?_; rintro e w5 ⟨rfl, hb5⟩
      replace HB := Lib.hid (HB.out.trans (hb5.mono HB.out.size))
      clear hb5
      go_wp2_with fail
      go_ret
      exact ⟨rfl, HB.out⟩
    · go_wp2_with fail
      refine (iWayOf_no _ _ _ ht).mono ?_; rintro e w2 ⟨rfl, rfl⟩
      go_wp2_with fail
      refine (sWayOf_no _ _ _ ht).mono ?_; rintro e w2 ⟨rfl, rfl⟩
      go_wp2_with fail
      go_ret
      exact ⟨rfl, HB.out⟩
end Go.Proofs.Ytjlbgccffpkmiaa
