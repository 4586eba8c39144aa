/-
  Contract of the model's numbers of a ratio.
-/
import Derived.Test.YtpcbplademohnaaDoorRatio
namespace Go.Proofs.YtpcbplademohnaaDoor
open Go.RowKit
set_option linter.unusedVariables false
set_option maxRecDepth 20000

/-- six cells hold powers and primes -/
def Six (w W : World) (g : Nat) (a b c : Int) : Prop :=
  (W.cell? ⟨g, 0, none⟩ = some (.int .i64 a) ∧ W.cell? ⟨g, 1, none⟩ = some (.int .i64 b) ∧ W.cell? ⟨g, 2, none⟩ = some (.int .i64 c)) ∧
  (W.cell? ⟨w.heap.size, 0, none⟩ = some (.int .i64 2) ∧ W.cell? ⟨w.heap.size, 1, none⟩ = some (.int .i64 3) ∧ W.cell? ⟨w.heap.size, 2, none⟩ = some (.int .i64 5)) ∧ Below w.heap.size w W
theorem Six.drewN {w W : World} {g : Nat} {a b c : Int} (h : Six w W g a b c) (k : Nat) : Six w (W.drewN k) g a b c := ⟨h.1, h.2.1, below_drewN h.2.2 k⟩
set_option maxHeartbeats 800000 in
theorem sratioOf_any (v : Value) (B : Nat) (a b c : Int) (w : World) (hr : Row w B v [a, b, c]) (h : Fit a b c) :
    Calls Tryd.prog 39 #[v] w fun e w' => e = .returned (ratV a b c) ∧ Below w.heap.size w w' := by
  obtain ⟨g, m, rfl, _, hg, c0, c1, c2⟩ := hr.three
  obtain ⟨h1, h2, h3, h4, h5, h6, h7, h8⟩ := h
  obtain ⟨p1, p2, p3, p4⟩ := rup_parts h7
  obtain ⟨q1, q2, q3, q4⟩ := rup_parts (a := -a) (b := -b) (c := -c) h8
  have T2 := Lib.hid (fun w => times_any 2 a w (by omega) (by omega) (by omega) p1)
  have T3 := Lib.hid (fun w => times_any 3 b w (by omega) (by omega) (by omega) p2)
  have T5 := Lib.hid (fun w => times_any 5 c w (by omega) (by omega) (by omega) p3)
  have U2 := Lib.hid (fun w => times_any 2 (-a) w (by omega) (by omega) (by omega) q1)
  have U3 := Lib.hid (fun w => times_any 3 (-b) w (by omega) (by omega) (by omega) q2)
  have U5 := Lib.hid (fun w => times_any 5 (-c) w (by omega) (by omega) (by omega) q3)
  unfold ratV Tic.rup Tic.rdn
  unfold Fits Tic.rup at h7
  unfold Fits Tic.rdn at h8
  unfold Fits at p1 p2 p3 p4 q1 q2 q3 q4
  have e1 : ((2 ^ a.toNat : Nat) : Int) * ((3 ^ b.toNat : Nat) : Int) = ((2 ^ a.toNat * 3 ^ b.toNat : Nat) : Int) := (Int.natCast_mul _ _).symm
  have e2 : ((2 ^ a.toNat * 3 ^ b.toNat : Nat) : Int) * ((5 ^ c.toNat : Nat) : Int) = ((2 ^ a.toNat * 3 ^ b.toNat * 5 ^ c.toNat : Nat) : Int) := (Int.natCast_mul _ _).symm
  have f1 : ((2 ^ (-a).toNat : Nat) : Int) * ((3 ^ (-b).toNat : Nat) : Int) = ((2 ^ (-a).toNat * 3 ^ (-b).toNat : Nat) : Int) := (Int.natCast_mul _ _).symm
  have f2 : ((2 ^ (-a).toNat * 3 ^ (-b).toNat : Nat) : Int) * ((5 ^ (-c).toNat : Nat) : Int) = ((2 ^ (-a).toNat * 3 ^ (-b).toNat * 5 ^ (-c).toNat : Nat) : Int) := (Int.natCast_mul _ _).symm
  generalize 2 ^ a.toNat * 3 ^ b.toNat * 5 ^ c.toNat = X3 at *
  generalize 2 ^ a.toNat * 3 ^ b.toNat = X2 at *
  generalize 2 ^ a.toNat = X1 at *
  generalize 3 ^ b.toNat = Xb at *
  generalize 5 ^ c.toNat = Xc at *
  generalize 2 ^ (-a).toNat * 3 ^ (-b).toNat * 5 ^ (-c).toNat = Y3 at *
  generalize 2 ^ (-a).toNat * 3 ^ (-b).toNat = Y2 at *
  generalize 2 ^ (-a).toNat = Y1 at *
  generalize 3 ^ (-b).toNat = Yb at *
  generalize 5 ^ (-c).toNat = Yc at *
  have E1 := Lib.hid e1
  have E2 := Lib.hid e2
  have F1 := Lib.hid f1
  have F2 := Lib.hid f2
  clear e1 e2 f1 f2 hr
  go_enter Tryd.func39, Tryd.ntmps39
  go_wp2
  have S0 : Hid (Six w (w.alloc (.cells #[.int .i64 2, .int .i64 3, .int .i64 5] 3)) g a b c) := Lib.hid
    ⟨⟨Lib.cell?_alloc_some _ c0, Lib.cell?_alloc_some _ c1, Lib.cell?_alloc_some _ c2⟩, ⟨by go_simp, by go_simp, by go_simp⟩, (Below.refl _ _).alloc (Nat.le_refl _) _⟩
  generalize w.alloc (.cells #[.int .i64 2, .int .i64 3, .int .i64 5] 3) = W at S0 ⊢
  clear c0 c1 c2 hg
  refine wp_loop_rounds 4 ?_
  rw [rounds_succ]
  obtain ⟨⟨c0, c1, c2⟩, ⟨d0, d1, d2⟩, hb⟩ := S0.out
  go_wp2_with fail
  go_quiet ((go_at_call 49; exact Calls.quiet_of_same (still_of (T2.out _))))
  have S1 := Lib.hid (S0.out.drewN nq)
  clear S0 c0 c1 c2 d0 d1 d2 hb
  generalize W.drewN nq = W at *
  clear nq
  obtain ⟨⟨c0, c1, c2⟩, ⟨d0, d1, d2⟩, hb⟩ := S1.out
  go_wp2_with fail
  go_quiet ((go_at_call 49; exact Calls.quiet_of_same (still_of (U2.out _))))
  have S2 := Lib.hid (S1.out.drewN nq)
  clear S1 c0 c1 c2 d0 d1 d2 hb
  generalize W.drewN nq = W at *
  clear nq
  go_wp2
  rw [rounds_succ]
  obtain ⟨⟨c0, c1, c2⟩, ⟨d0, d1, d2⟩, hb⟩ := S2.out
  have hq := E1.out
  go_wp2_with fail
  go_quiet ((go_at_call 49; exact Calls.quiet_of_same (still_of (T3.out _))))
  clear hq
  have S3 := Lib.hid (S2.out.drewN nq)
  clear S2 c0 c1 c2 d0 d1 d2 hb
  generalize W.drewN nq = W at *
  clear nq
  obtain ⟨⟨c0, c1, c2⟩, ⟨d0, d1, d2⟩, hb⟩ := S3.out
  have hq := F1.out
  go_wp2_with fail
  go_quiet ((go_at_call 49; exact Calls.quiet_of_same (still_of (U3.out _))))
  clear hq
  have S4 := Lib.hid (S3.out.drewN nq)
  clear S3 c0 c1 c2 d0 d1 d2 hb
  generalize W.drewN nq = W at *
  clear nq
  go_wp2
  rw [rounds_succ]
  obtain ⟨⟨c0, c1, c2⟩, ⟨d0, d1, d2⟩, hb⟩ := S4.out
  have hq := E2.out
  go_wp2_with fail
  go_quiet ((go_at_call 49; exact Calls.quiet_of_same (still_of (T5.out _))))
  clear hq
  have S5 := Lib.hid (S4.out.drewN nq)
  clear S4 c0 c1 c2 d0 d1 d2 hb
  generalize W.drewN nq = W at *
  clear nq
  obtain ⟨⟨c0, c1, c2⟩, ⟨d0, d1, d2⟩, hb⟩ := S5.out
  have hq := F2.out
  go_wp2_with fail
  go_quiet ((go_at_call 49; exact Calls.quiet_of_same (still_of (U5.out _))))
  clear hq
  have S6 := Lib.hid (S5.out.drewN nq)
  clear S5 c0 c1 c2 d0 d1 d2 hb
  generalize W.drewN nq = W at *
  clear nq
  go_wp2
  rw [rounds_succ]
  go_wp2
  go_ret2
  exact ⟨rfl, S6.out.2.2⟩
end Go.Proofs.YtpcbplademohnaaDoor
