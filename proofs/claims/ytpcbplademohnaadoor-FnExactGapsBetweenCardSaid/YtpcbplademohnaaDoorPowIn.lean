/-
  Contracts of the program's powers read out of a list, and of RatioOf.
-/
import Derived.Test.YtpcbplademohnaaDoorRatioOf
namespace Go.Proofs.YtpcbplademohnaaDoor
open Go.RowKit
set_option linter.unusedVariables false
set_option maxRecDepth 20000

theorem Pw3.new0 (w : World) (t : TypeId) : Pw3 (w.alloc (.cells #[.int .i64 0, .int .i64 0, .int .i64 0] t)) w.heap.size 0 0 0 := Pw3.new w 0 0 0 t
theorem three_back {w : World} {g : Nat} {a b c a' b' c' : Int} (h : Pw3 w g a b c) :
    Pw3 (((w.setCell ⟨g, 0, none⟩ (.int .i64 a')).setCell ⟨g, 1, none⟩ (.int .i64 b')).setCell ⟨g, 2, none⟩ (.int .i64 c')) g a' b' c' := by
  obtain ⟨h1, h2, h3, f1, f2, f3⟩ := h
  refine ⟨?_, ?_, ?_, ?_, ?_, ?_⟩
  · rw [set_else (by omega), set_else (by omega)]; exact World.cell?_setCell_same _ _ _ h1
  · rw [set_else (by omega)]; exact World.cell?_setCell_same _ _ _ ((set_else (by omega)).trans h2)
  · exact World.cell?_setCell_same _ _ _ ((set_else (by omega)).trans ((set_else (by omega)).trans h3))
  all_goals (simp only [World.frozen?_setCell]; assumption)
theorem powersIn_no (v : Value) (B : Nat) (L : List Int) (w : World) (hr : Row w B v L) (h : ¬ L.length = 3) :
    Calls Tryd.prog 35 #[v] w fun e w' => e = .returned (.tuple #[pwV 0 0 0, .bool false]) ∧ Below w.heap.size w w' := by
  obtain ⟨p, m, rfl⟩ := hr.len
  have hq : ((L.length : Int) == 3) = false := by rw [beq_eq_false_iff_ne]; omega
  unfold pwV
  generalize L.length = n at hq
  clear hr h
  obtain ⟨y0, y1, y2, _⟩ := Pw3.new0 w 41
  go_enter Tryd.func35, Tryd.ntmps35
  go_wp2
  exact bodyPost_ret (v := .tuple #[.agg #[.int .i64 0, .int .i64 0, .int .i64 0], .bool false]) (by simp [results, Tryd.results35, go_sem, y0, y1, y2]) rfl ⟨rfl, (Below.refl _ _).alloc (Nat.le_refl _) _⟩
set_option maxHeartbeats 800000 in
theorem powersIn_any (v : Value) (B : Nat) (a b c : Int) (w : World) (hl : Limits w) (hr : Row w B v [a, b, c]) :
    Calls Tryd.prog 35 #[v] w fun e w' => e = .returned (.tuple #[pwV a b c, .bool (decide (Tic.Pws a b c))]) ∧ Below w.heap.size w w' := by
  obtain ⟨g, m, rfl, _, hg, c0, c1, c2⟩ := hr.three
  have HL := Lib.hid hl
  clear hr hl
  unfold pwV
  have S0 := Lib.hid (Pw3.new0 w 41)
  have HB := Lib.hid ((Below.refl w.heap.size w).alloc (Nat.le_refl _) (.cells #[.int .i64 0, .int .i64 0, .int .i64 0] 41))
  have e0 := Lib.cell?_alloc_some (.cells #[.int .i64 0, .int .i64 0, .int .i64 0] 41) c0
  have e1 := Lib.cell?_alloc_some (.cells #[.int .i64 0, .int .i64 0, .int .i64 0] 41) c1
  have e2 := Lib.cell?_alloc_some (.cells #[.int .i64 0, .int .i64 0, .int .i64 0] 41) c2
  clear c0 c1 c2
  go_enter Tryd.func35, Tryd.ntmps35
  go_wp2_with fail
  have hzz : (w.alloc (.cells #[.int .i64 0, .int .i64 0, .int .i64 0] 41)).heap.size = w.heap.size + 1 := by simp
  generalize w.alloc (.cells #[.int .i64 0, .int .i64 0, .int .i64 0] 41) = W at *
  have i0 := Lib.cell?_alloc_some (.cells #[.int .i64 0, .int .i64 0, .int .i64 0] 41) e0
  have i1 := Lib.cell?_alloc_some (.cells #[.int .i64 0, .int .i64 0, .int .i64 0] 41) e1
  have i2 := Lib.cell?_alloc_some (.cells #[.int .i64 0, .int .i64 0, .int .i64 0] 41) e2
  go_region
  have hP := (Pw3.new W a b c 41).drew
  have hb := (Below.refl W.heap.size W).alloc (Nat.le_refl _) (.cells #[.int .i64 a, .int .i64 b, .int .i64 c] 41)
  have hQ := (S0.out.kept hb (by omega)).drew
  have hB := HB.out.trans ((hb.drew).mono (by omega))
  have hL := HL.out.kept hB
  have hz : (W.alloc (.cells #[.int .i64 a, .int .i64 b, .int .i64 c] 41)).drew.heap.size = w.heap.size + 1 + 1 := by
    show (W.alloc _).heap.size = _
    simp [hzz]
  rw [hzz] at hP
  have HQ := Lib.hid hQ
  have HB2 := Lib.hid hB
  have HL2 := Lib.hid hL
  clear hb hQ hB hL S0 HB HL e0 e1 e2 i0 i1 i2 hzz hg
  generalize (W.alloc (.cells #[.int .i64 a, .int .i64 b, .int .i64 c] 41)).drew = V at *
  have HP := Lib.hid hP
  obtain ⟨p0, p1, p2, _⟩ := hP
  go_wp2_with fail
  have hlt : w.heap.size + 1 < V.heap.size := by omega
  have hlt2 : w.heap.size < V.heap.size := by omega
  obtain ⟨q0, q1, q2, f0, f1, f2⟩ := HQ.out
  go_region_with (go_at_call 37; refine (pvalid_any a b c _ (by exact HL2.out)).mono ?_; rintro e w3 ⟨rfl, hb⟩; have p0' := (hb.cell (p := ⟨w.heap.size + 1, 0, none⟩) hlt).trans p0; have p1' := (hb.cell (p := ⟨w.heap.size + 1, 1, none⟩) hlt).trans p1; have p2' := (hb.cell (p := ⟨w.heap.size + 1, 2, none⟩) hlt).trans p2; have q0' := (hb.cell (p := ⟨w.heap.size, 0, none⟩) hlt2).trans q0; have q1' := (hb.cell (p := ⟨w.heap.size, 1, none⟩) hlt2).trans q1; have q2' := (hb.cell (p := ⟨w.heap.size, 2, none⟩) hlt2).trans q2; have f0' := (hb.frozen (p := ⟨w.heap.size, 0, none⟩) hlt2).trans f0; have f1' := (hb.frozen (p := ⟨w.heap.size, 1, none⟩) hlt2).trans f1; have f2' := (hb.frozen (p := ⟨w.heap.size, 2, none⟩) hlt2).trans f2)
  all_goals
    have hB3 : Below V.heap.size V w3 := by first | exact grow1p (Below.refl _ _) hb | exact grow0p (Below.refl _ _) hb
    have hB4 := HB2.out.trans (hB3.mono (by omega))
    obtain ⟨y0, y1, y2, _⟩ := three_back (a' := a) (b' := b) (c' := c) (show Pw3 w3 w.heap.size 0 0 0 from ⟨q0', q1', q2', f0', f1', f2'⟩)
    have hB5 := ((hB4.setCell (p := ⟨w.heap.size, 0, none⟩) (by simp) (.int .i64 a)).setCell (p := ⟨w.heap.size, 1, none⟩) (by simp) (.int .i64 b)).setCell (p := ⟨w.heap.size, 2, none⟩) (by simp) (.int .i64 c)
    clear hb p0' p1' p2' q0' q1' q2' f0' f1' f2' p0 p1 p2 q0 q1 q2 f0 f1 f2 hB3 hB4
    generalize ((w3.setCell ⟨w.heap.size, 0, none⟩ (.int .i64 a)).setCell ⟨w.heap.size, 1, none⟩ (.int .i64 b)).setCell ⟨w.heap.size, 2, none⟩ (.int .i64 c) = U at *
    go_wp2
    exact bodyPost_ret (v := .tuple #[.agg #[.int .i64 a, .int .i64 b, .int .i64 c], .bool (decide (Tic.Pws a b c))]) (by simp [results, Tryd.results35, go_sem, y0, y1, y2]) rfl ⟨rfl, by first | exact hB5 | exact hB5.drew⟩
set_option maxHeartbeats 800000 in
theorem iRatioOf_any (v : Value) (B : Nat) (a b c : Int) (w : World) (hl : Limits w) (hp : Primes w) (hr : Row w B v [a, b, c]) :
    Calls Tryd.prog 19 #[v] w fun e w' => e = .returned (if Tic.Pws a b c then ratV a b c else .tuple #[.int .i64 0, .int .i64 0]) ∧ Below w.heap.size w w' := by
  have HC := Lib.hid (powersIn_any v B a b c w hl hr)
  have HP := Lib.hid hp
  clear hr hl hp
  by_cases h : Tic.Pws a b c
  · rw [if_pos h]
    rw [decide_eq_true h] at HC
    have HR := Lib.hid (fun W hW => ratio_any a b c W hW h.fit)
    unfold rtV pwV at HR
    unfold ratV
    generalize Tic.rup a b c = x at HR ⊢
    generalize Tic.rdn a b c = y at HR ⊢
    clear h
    unfold pwV at HC
    go_enter Tryd.func19, Tryd.ntmps19
    go_wp2_with fail
    refine HC.out.mono ?_; rintro e w1 ⟨rfl, hb⟩
    have HP1 := Lib.hid (HP.out.kept hb)
    go_wp2_with fail
    refine (HR.out _ (HP1.out.kept ((Below.refl _ _).alloc (Nat.le_refl _) _))).mono ?_; rintro e w2 ⟨rfl, hb2⟩
    have hB := hb.trans (((Below.refl w1.heap.size w1).alloc (Nat.le_refl _) (.cells #[.int .i64 a, .int .i64 b, .int .i64 c] 41)).mono hb.size)
    have hB2 := hB.trans (hb2.mono hB.size)
    have hB3 := hB2.alloc hB2.size (.cells #[.int .i64 a, .int .i64 b, .int .i64 c, .int .i64 x, .int .i64 y] 43)
    obtain ⟨_, _, _, r3, r4, _⟩ := Rt.new w2 a b c x y 43
    clear hb hb2 hB hB2
    go_wp2
    go_region
    all_goals
      go_wp2
      go_ret2
      exact ⟨rfl, hB3.drew⟩
  · rw [if_neg h]
    rw [decide_eq_false h] at HC
    clear h
    unfold pwV at HC
    go_enter Tryd.func19, Tryd.ntmps19
    go_wp2_with fail
    refine HC.out.mono ?_; rintro e w1 ⟨rfl, hb⟩
    have hB := hb.trans (((Below.refl w1.heap.size w1).alloc (Nat.le_refl _) (.cells #[.int .i64 a, .int .i64 b, .int .i64 c] 41)).mono hb.size)
    clear hb
    go_wp2
    go_ret2
    exact ⟨rfl, hB⟩
theorem iRatioOf_len (v : Value) (B : Nat) (L : List Int) (w : World) (hr : Row w B v L) (h : ¬ L.length = 3) :
    Calls Tryd.prog 19 #[v] w fun e w' => e = .returned (.tuple #[.int .i64 0, .int .i64 0]) ∧ Below w.heap.size w w' := by
  have HC := Lib.hid (powersIn_no v B L w hr h)
  unfold pwV at HC
  clear hr h
  go_enter Tryd.func19, Tryd.ntmps19
  go_wp2_with fail
  refine HC.out.mono ?_; rintro e w1 ⟨rfl, hb⟩
  have hB := hb.trans (((Below.refl w1.heap.size w1).alloc (Nat.le_refl _) (.cells #[.int .i64 0, .int .i64 0, .int .i64 0] 41)).mono hb.size)
  clear hb
  go_wp2
  go_ret2
  exact ⟨rfl, hB⟩
/-- what RatioOf tells of a list -/
def ratL (L : List Int) : Int × Int := match L with
  | [a, b, c] => if Tic.Pws a b c then ((Tic.rup a b c : Int), (Tic.rdn a b c : Int)) else (0, 0)
  | _ => (0, 0)
def ratLV (L : List Int) : Value := .tuple #[.int .i64 (ratL L).1, .int .i64 (ratL L).2]
theorem ratLV_yes {a b c : Int} (h : Tic.Pws a b c) : ratLV [a, b, c] = ratV a b c := by unfold ratLV ratL ratV; simp only; rw [if_pos h]
theorem ratLV_no {L : List Int} (h : ¬ PwsL L) : ratLV L = .tuple #[.int .i64 0, .int .i64 0] := by
  unfold ratLV ratL
  match L with
  | [a, b, c] =>
    have hn : ¬ Tic.Pws a b c := fun hp => h ⟨a, b, c, rfl, hp⟩
    simp only
    rw [if_neg hn]
  | [] | [_] | [_, _] | _ :: _ :: _ :: _ :: _ => rfl
theorem iRatioOf_all (v : Value) (B : Nat) (L : List Int) (w : World) (hl : Limits w) (hp : Primes w) (hr : Row w B v L) :
    Calls Tryd.prog 19 #[v] w fun e w' => e = .returned (ratLV L) ∧ Below w.heap.size w w' := by
  by_cases h3 : L.length = 3
  · obtain ⟨a, b, c, rfl⟩ := three_of_len h3
    refine (iRatioOf_any v B a b c w hl hp hr).mono fun e w' ⟨h1, h2⟩ => ⟨h1.trans (congrArg _ ?_), h2⟩
    by_cases h : Tic.Pws a b c
    · rw [if_pos h, ratLV_yes h]
    · rw [if_neg h, ratLV_no (fun ⟨x, y, z, e, hx⟩ => by simp only [List.cons.injEq, and_true] at e; obtain ⟨rfl, rfl, rfl⟩ := e; exact h hx)]
  · rw [ratLV_no (fun ⟨x, y, z, e, hx⟩ => h3 (by rw [e]; rfl))]
    exact iRatioOf_len v B L w hr h3
end Go.Proofs.YtpcbplademohnaaDoor
