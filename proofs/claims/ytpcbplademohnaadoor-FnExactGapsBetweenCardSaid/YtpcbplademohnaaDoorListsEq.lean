/-
  Contracts of the laws' helpers on lists of lists: eqIntSS, markIntSS, heldIntSS, equalLists.
-/
import Derived.Test.YtpcbplademohnaaDoorLists
import Derived.Test.YtpcbplademohnaaDoorGrow
import Derived.Deep.RegionHeld3
namespace Go.Proofs.YtpcbplademohnaaDoor
open Go.RowKit
set_option linter.unusedVariables false

/-- a nonempty list of lists in memory -/
theorem Lists.shape {w : World} {B : Nat} {v : Value} {vs : List Value} {LL : List (List Int)} (h : Lists w B v vs LL) : (v = .slice none 0 0 ∧ LL = []) ∨
    ∃ g cap, v = .slice (some ⟨g, 0, none⟩) LL.length cap ∧ B ≤ g ∧ g < w.heap.size ∧ ∀ i, i < LL.length → w.cell? ⟨g, i, none⟩ = some (vs.getD i undef) := by
  obtain ⟨_, h2, h3, _, _⟩ := h
  have h3' := h3
  rcases h3.2 with ⟨e, hn⟩ | ⟨g, cap, cur, e, hg, hh, r⟩
  · exact .inl ⟨e, List.eq_nil_of_length_eq_zero hn⟩
  · subst e
    refine .inr ⟨g, cap, rfl, hg, (Array.getElem?_eq_some_iff.1 hh).1, fun i hi => ?_⟩
    rw [h3'.cellAt i (by omega), List.getD_eq_getElem?_getD, List.getElem?_eq_getElem (by omega)]
    rfl
theorem Lists.row {w : World} {B : Nat} {v : Value} {vs : List Value} {LL : List (List Int)} (h : Lists w B v vs LL) {i : Nat} (hi : i < LL.length) : Row w B (vs.getD i undef) (LL.getD i []) := (h.2.2.2.1 i hi).1

/-- what lay below a block that nothing below was written of -/
theorem Lists.low {w w' : World} {B B0 : Nat} {v : Value} {vs : List Value} {LL : List (List Int)} (h : Lists w B0 v vs LL) (hb : Below B w w') (hlt : (∀ k, v.ownBlock = some k → k < B) ∧ ∀ i k, i < LL.length → (vs.getD i undef).ownBlock = some k → k < B) : Lists w' B0 v vs LL := by
  obtain ⟨h1, h2, ⟨h31, h3⟩, h4, h5⟩ := h
  refine ⟨h1, h2, ⟨h31, ?_⟩, fun i hi => ⟨(h4 i hi).1.low hb (fun k hk => hlt.2 i k hi hk), (h4 i hi).2⟩, h5⟩
  rcases h3 with h3 | ⟨g, cap, cur, e, hg, hh, r⟩
  · exact .inl h3
  · subst e
    exact .inr ⟨g, cap, cur, rfl, hg, (hb.block g (hlt.1 g rfl)).trans hh, r⟩
set_option maxHeartbeats 800000 in
theorem eqIntSS_same (v1 v2 : Value) (B1 B2 : Nat) (vs1 vs2 : List Value) (LL : List (List Int)) (w : World) (h1 : Lists w B1 v1 vs1 LL) (h2 : Lists w B2 v2 vs2 LL) :
    Calls Tryd.prog 9 #[v1, v2] w fun e w' => e = .returned (.bool true) ∧ Below w.heap.size w w' := by
  have hl := h1.1
  by_cases hL : LL = []
  · subst hL
    rcases h1.shape with ⟨rfl, _⟩ | ⟨g1, c1, rfl, _⟩ <;> rcases h2.shape with ⟨rfl, _⟩ | ⟨g2, c2, rfl, _⟩
    all_goals
      go_enter Tryd.func9, Tryd.ntmps9
      go_wp2
      refine wp_loop_rounds 1 ?_
      rw [rounds_succ]
      go_wp2
      go_ret
      exact ⟨rfl, Below.refl _ _⟩
  · rcases h1.shape with ⟨_, e⟩ | ⟨g1, c1, rfl, _, hg1, hc1⟩
    · exact absurd e hL
    rcases h2.shape with ⟨_, e⟩ | ⟨g2, c2, rfl, _, hg2, hc2⟩
    · exact absurd e hL
    have HR1 := Lib.hid (fun i hi => h1.row (i := i) hi)
    have HR2 := Lib.hid (fun i hi => h2.row (i := i) hi)
    have HC1 := Lib.hid hc1
    have HC2 := Lib.hid hc2
    clear hc1 hc2 h1 h2 hL
    generalize hn : LL.length = n at hl HR1 HR2 HC1 HC2
    clear hn
    go_enter Tryd.func9, Tryd.ntmps9
    go_wp2
    go_loopw [5] (fun t5 wr => ∃ k : Nat, k ≤ n ∧ t5 = .int .i64 k ∧ Below w.heap.size w wr) (fun t5 _ => n - (intOf t5).toNat)
    case atStart => exact ⟨0, Nat.zero_le _, rfl, Below.refl _ _⟩
    case round =>
      obtain ⟨k, hk, rfl, hbel⟩ := hrel
      by_cases hlt2 : k < n
      · have d1 := (hbel.cell (p := ⟨g1, k, none⟩) hg1).trans (HC1.out k hlt2)
        have d2 := (hbel.cell (p := ⟨g2, k, none⟩) hg2).trans (HC2.out k hlt2)
        have R1 := Lib.hid ((HR1.out k hlt2).kept hbel)
        have R2 := Lib.hid ((HR2.out k hlt2).kept hbel)
        have hz := hbel.size
        have hg1r : g1 < wr.heap.size := by omega
        have hg2r : g2 < wr.heap.size := by omega
        generalize vs1.getD k undef = u1 at d1 R1
        generalize vs2.getD k undef = u2 at d2 R2
        have hi1 : (k : Int) < (n : Int) := by omega
        have hk0 : Below wr.heap.size wr wr := Below.refl _ _
        go_wp2
        go_region_held3 (fun w' => w'.cell? ⟨g1, k, none⟩ = some u1 ∧ w'.cell? ⟨g2, k, none⟩ = some u2)
          (first | go_keep | (refine ⟨?_, ?_⟩ <;> ((refine (hk0.cell ?_).trans ?_) <;> assumption)))
          (first | (go_at_call 27; refine (eqIntS_same _ _ _ _ _ _ (show Row _ _ _ _ from by first | exact R1.out | exact R1.out.kept (Below.refl _ _).drew) (show Row _ _ _ _ from by first | exact R2.out | exact R2.out.kept (Below.refl _ _).drew)).mono ?_; rintro e wx ⟨rfl, hb⟩; replace hk0 : Below wr.heap.size wr wx := (by first | exact grow1 hk0 hb | exact grow0 hk0 hb); clear hb) | fail)
        have hb2 := hbel.trans (hk0.mono hz)
        clear hk0
        go_wp2
        go_roundw
        case rel => exact ⟨k + 1, by omega, by go_num, hb2⟩
        case measure => simp [intOf]; omega
      · have : k = n := by omega
        subst this
        go_wp2
        go_ret
        exact ⟨rfl, hbel⟩

theorem grown_self (w : World) (r : Option Nat) : w.grownBy w r := ⟨rfl, rfl, rfl, Nat.le_refl _, fun _ _ _ => rfl⟩
theorem grown_more {a b c : World} {r : Option Nat} (h : a.grownBy b r) (k : b.grownBy c r) : a.grownBy c r :=
  ⟨k.os.trans h.os, k.tape.trans h.tape, k.output.trans h.output, Nat.le_trans h.size k.size, fun i hi hr => (k.block i (Nat.lt_of_lt_of_le hi h.size) hr).trans (h.block i hi hr)⟩
def MarksG (B : Nat) (v : Value) (L : List Int) (q : Int) (w : World) (e : Ending) (w' : World) : Prop :=
  e = .returned (.int .i64 (q + L.length)) ∧ Row w' B v (markTo q L L.length) ∧ Below B w w' ∧ w.grownBy w' v.ownBlock
theorem markIntS_more (v : Value) (B : Nat) (L : List Int) (q : Int) (w : World) (h1 : Row w B v L) (hB : B ≤ w.heap.size) (hq0 : 0 ≤ q) (hq1 : q ≤ 1000000000000) :
    Calls Tryd.prog 28 #[v, .int .i64 q] w (MarksG B v L q w) := by
  have hl2 := h1.2
  rcases h1.cases with ⟨rfl, rfl⟩ | ⟨g1, c1, rfl, hBg, hg1, hc1, hf1⟩
  · go_enter Tryd.func28, Tryd.ntmps28
    go_wp2
    refine wp_loop_rounds 1 ?_
    rw [rounds_succ]
    go_wp2
    go_ret
    exact ⟨ret_int (by simp), h1, Below.refl _ _, grown_self _ _⟩
  · generalize hn : L.length = n at hl2 hc1 h1
    have HN := Lib.hid hn
    have HR : Hid (Row w B (.slice (some ⟨g1, 0, none⟩) n c1) L) := h1
    clear hn hc1 hf1 h1
    go_enter Tryd.func28, Tryd.ntmps28
    go_wp2
    go_loopw [1, 5] (fun t1 t5 wr => ∃ k : Nat, k ≤ n ∧ t5 = .int .i64 k ∧ t1 = .int .i64 (q + k) ∧ Hid (Row wr B (.slice (some ⟨g1, 0, none⟩) n c1) (markTo q L k)) ∧ Below B w wr ∧ Hid (w.grownBy wr (some g1))) (fun _ t5 _ => n - (intOf t5).toNat)
    case atStart => exact ⟨0, Nat.zero_le _, rfl, by simp, HR, Below.refl _ _, Lib.hid (grown_self _ _)⟩
    case round =>
      obtain ⟨k, hk, rfl, rfl, HR2, hbel, HGR⟩ := hrel
      have hr : Row wr B (.slice (some ⟨g1, 0, none⟩) (markTo q L k).length c1) (markTo q L k) := by rw [markTo_length, HN.out]; exact HR2.out
      by_cases hlt2 : k < n
      · obtain ⟨d1, f1⟩ : (∃ u, wr.cell? ⟨g1, k, none⟩ = some u) ∧ wr.frozen? ⟨g1, k, none⟩ = false := by
          rcases hr.cases with ⟨e, _⟩ | ⟨g, c, e, _, _, hc, hf⟩
          · cases e
          · simp only [Value.slice.injEq, Option.some.injEq, Addr.mk.injEq, and_true, true_and] at e
            obtain ⟨rfl, rfl⟩ := e
            exact ⟨⟨_, hc k (by rw [markTo_length, HN.out]; exact hlt2)⟩, hf k⟩
        obtain ⟨u, d1⟩ := d1
        have hset := hr.set k (q + k)
        have HS : Hid (Row (wr.setCell ⟨g1, k, none⟩ (.int .i64 (q + k))) B (.slice (some ⟨g1, 0, none⟩) n c1) (markTo q L (k + 1))) := by
          have := hset.1
          rw [markTo_length, HN.out] at this
          exact this
        have HGR2 := Lib.hid (grown_more HGR.out hset.2)
        clear hr hset HR2
        go_wp2
        all_goals
          go_roundw
          case rel => exact ⟨k + 1, by omega, by go_num, by go_num, HS, hbel.setCell hBg _, HGR2⟩
          case measure => simp [intOf]; omega
      · have : k = n := by omega
        subst this
        clear hr
        go_wp2
        go_ret
        refine ⟨ret_int (by rw [HN.out]), ?_, hbel, HGR.out⟩
        rw [HN.out]; exact HR2.out
theorem heldIntS_more (v : Value) (B : Nat) (M : List Int) (q : Int) (w : World) (h1 : Row w B v M) (hm : Marked q M) (hq0 : 0 ≤ q) (hq1 : q ≤ 1000000000000) :
    Calls Tryd.prog 29 #[v, .int .i64 q] w fun e w' => e = .returned (.int .i64 (q + M.length)) ∧ w = w' := by
  have hl2 := h1.2
  rcases h1.cases with ⟨rfl, rfl⟩ | ⟨g1, c1, rfl, hBg, hg1, hc1, hf1⟩
  · go_enter Tryd.func29, Tryd.ntmps29
    go_wp2
    refine wp_loop_rounds 1 ?_
    rw [rounds_succ]
    go_wp2
    go_ret
    exact ⟨ret_int (by simp), rfl⟩
  · generalize hn : M.length = n at hl2 hc1
    have HC : Hid (∀ j, j < n → w.cell? ⟨g1, j, none⟩ = some (.int .i64 (q + j))) := fun j hj => by rw [hc1 j hj, hm j (by omega)]
    clear hn hc1 hf1 h1 hm
    go_enter Tryd.func29, Tryd.ntmps29
    go_wp2
    go_loop [1, 5] (fun t1 t5 => ∃ k : Nat, k ≤ n ∧ t5 = .int .i64 k ∧ t1 = .int .i64 (q + k)) (fun _ t5 => n - (intOf t5).toNat)
    case atStart => exact ⟨0, Nat.zero_le _, rfl, by simp⟩
    case round =>
      obtain ⟨k, hk, rfl, rfl⟩ := hrel
      by_cases hlt2 : k < n
      · have d1 := HC.out k hlt2
        go_wp2
        go_round
        case rel => exact ⟨k + 1, by omega, by go_num, by go_num⟩
        case measure => simp [intOf]; omega
      · have : k = n := by omega
        subst this
        go_wp2
        go_ret
        exact ⟨rfl, rfl⟩

/-- how many numbers stand in the first i lists -/
def offs (LL : List (List Int)) : Nat → Nat
  | 0 => 0
  | i + 1 => offs LL i + (LL.getD i []).length
theorem offs_mono (LL : List (List Int)) : ∀ i j, i ≤ j → offs LL i ≤ offs LL j
  | i, 0, h => by obtain rfl : i = 0 := by omega
                  exact Nat.le_refl _
  | i, j + 1, h => by
    by_cases e : i = j + 1
    · subst e; exact Nat.le_refl _
    · have := offs_mono LL i j (by omega)
      show offs LL i ≤ offs LL j + (LL.getD j []).length
      omega
/-- the j-th list when the first i are marked -/
def mk (q : Int) (LL : List (List Int)) (i j : Nat) : List Int := if j < i then markTo (q + offs LL j) (LL.getD j []) (LL.getD j []).length else LL.getD j []
/-- lists of lists of which the first i are marked -/
def MS (w : World) (B : Nat) (v : Value) (vs : List Value) (LL : List (List Int)) (q : Int) (i : Nat) : Prop :=
  vs.length = LL.length ∧ w.ownsRow B 29 1 v LL.length vs ∧ (∀ j, j < LL.length → Row w B (vs.getD j undef) (mk q LL i j) ∧ ∀ k, (vs.getD j undef).ownBlock = some k → v.ownBlock ≠ some k) ∧
  ∀ i j k, i < j → j < LL.length → (vs.getD i undef).ownBlock = some k → (vs.getD j undef).ownBlock ≠ some k
theorem Lists.ms {w : World} {B : Nat} {v : Value} {vs : List Value} {LL : List (List Int)} (h : Lists w B v vs LL) (q : Int) : MS w B v vs LL q 0 :=
  ⟨h.2.1, h.2.2.1, fun j hj => ⟨by unfold mk; rw [if_neg (by omega)]; exact (h.2.2.2.1 j hj).1, (h.2.2.2.1 j hj).2⟩, h.2.2.2.2⟩
theorem MS.kept {w w' : World} {B : Nat} {v : Value} {vs : List Value} {LL : List (List Int)} {q : Int} {i : Nat} (h : MS w B v vs LL q i) (hb : Below w.heap.size w w') : MS w' B v vs LL q i :=
  ⟨h.1, h.2.1.kept (row := none) ⟨hb.os, hb.tape, hb.output, hb.size, fun k hk _ => hb.block k hk⟩ (by cases v.ownBlock <;> simp), fun j hj => ⟨(h.2.2.1 j hj).1.kept hb, (h.2.2.1 j hj).2⟩, h.2.2.2⟩
/-- the i-th is marked -/
theorem MS.next {w w' : World} {B : Nat} {v : Value} {vs : List Value} {LL : List (List Int)} {q : Int} {i : Nat} (h : MS w B v vs LL q i) (hi : i < LL.length)
    (hr : Row w' B (vs.getD i undef) (markTo (q + offs LL i) (LL.getD i []) (LL.getD i []).length)) (hg : w.grownBy w' (vs.getD i undef).ownBlock) : MS w' B v vs LL q (i + 1) := by
  obtain ⟨h1, h2, h3, h4⟩ := h
  refine ⟨h1, h2.kept hg ?_, fun j hj => ⟨?_, (h3 j hj).2⟩, h4⟩
  · cases e : v.ownBlock with
    | none => exact .inl rfl
    | some k => exact .inr (fun e2 => (h3 i hi).2 k e2.symm e)
  · by_cases e : j = i
    · subst e
      unfold mk
      rw [if_pos (by omega)]
      exact hr
    · have hm : mk q LL (i + 1) j = mk q LL i j := by
        unfold mk
        by_cases c : j < i
        · rw [if_pos c, if_pos (by omega)]
        · rw [if_neg c, if_neg (by omega)]
      rw [hm]
      refine ⟨(h3 j hj).1.1.kept hg ?_, (h3 j hj).1.2⟩
      cases e2 : (vs.getD j undef).ownBlock with
      | none => exact .inl rfl
      | some k =>
        refine .inr (fun e3 => ?_)
        rcases Nat.lt_or_ge j i with c | c
        · exact h4 j i k c hi e2 e3.symm
        · exact h4 i j k (by omega) hj e3.symm e2
theorem MS.shape {w : World} {B : Nat} {v : Value} {vs : List Value} {LL : List (List Int)} {q : Int} {i : Nat} (h : MS w B v vs LL q i) : (v = .slice none 0 0 ∧ LL = []) ∨
    ∃ g cap, v = .slice (some ⟨g, 0, none⟩) LL.length cap ∧ B ≤ g ∧ g < w.heap.size ∧ ∀ i, i < LL.length → w.cell? ⟨g, i, none⟩ = some (vs.getD i undef) := by
  obtain ⟨h2, h3, _, _⟩ := h
  have h3' := h3
  rcases h3.2 with ⟨e, hn⟩ | ⟨g, cap, cur, e, hg, hh, r⟩
  · exact .inl ⟨e, List.eq_nil_of_length_eq_zero hn⟩
  · subst e
    refine .inr ⟨g, cap, rfl, hg, (Array.getElem?_eq_some_iff.1 hh).1, fun i hi => ?_⟩
    rw [h3'.cellAt i (by omega), List.getD_eq_getElem?_getD, List.getElem?_eq_getElem (by omega)]
    rfl
theorem markIntSS_any (v : Value) (B : Nat) (vs : List Value) (LL : List (List Int)) (q : Int) (w : World) (h : MS w B v vs LL q 0) (hB : B ≤ w.heap.size) (hq0 : 0 ≤ q) (hl : LL.length ≤ 16777216) (hq1 : q + offs LL LL.length ≤ 1000000000000) :
    Calls Tryd.prog 10 #[v, .int .i64 q] w fun e w' => e = .returned (.int .i64 (q + offs LL LL.length)) ∧ MS w' B v vs LL q LL.length ∧ Below B w w' := by
  rcases h.shape with ⟨rfl, rfl⟩ | ⟨g, c, rfl, hg0, hg1, hc⟩
  · have H := Lib.hid h
    clear h
    go_enter Tryd.func10, Tryd.ntmps10
    go_wp2
    refine wp_loop_rounds 1 ?_
    rw [rounds_succ]
    go_wp2
    go_ret
    exact ⟨ret_int (by simp [offs]), H.out, Below.refl _ _⟩
  · have H := Lib.hid h
    clear h hc
    generalize hn : LL.length = n at hl H hq1
    have HN := Lib.hid hn
    clear hn
    go_enter Tryd.func10, Tryd.ntmps10
    go_wp2
    go_loopw [1, 5] (fun t1 t5 wr => ∃ k : Nat, k ≤ n ∧ t5 = .int .i64 k ∧ t1 = .int .i64 (q + offs LL k) ∧ Hid (MS wr B (.slice (some ⟨g, 0, none⟩) n c) vs LL q k) ∧ Hid (Below B w wr)) (fun _ t5 _ => n - (intOf t5).toNat)
    case atStart => exact ⟨0, Nat.zero_le _, rfl, by simp [offs], H, Lib.hid (Below.refl _ _)⟩
    case round =>
      obtain ⟨k, hk, rfl, rfl, HM, HBe⟩ := hrel
      by_cases hlt : k < n
      · have hc : wr.cell? ⟨g, k, none⟩ = some (vs.getD k undef) := by
          rcases HM.out.shape with ⟨e, _⟩ | ⟨g', c', e, _, _, hc⟩
          · cases e
          · injection e with e1 e2 e3
            injection e1 with e1
            injection e1 with e1
            rw [e1]
            exact hc k (by rw [HN.out]; exact hlt)
        have hrow : Row wr B (vs.getD k undef) (LL.getD k []) := by
          have := (HM.out.2.2.1 k (by rw [HN.out]; exact hlt)).1
          unfold mk at this
          rw [if_neg (Nat.lt_irrefl k)] at this
          exact this
        have HRow := Lib.hid hrow
        have hmo := offs_mono LL k n hk
        have HOF := Lib.hid (show offs LL (k + 1) = offs LL k + (LL.getD k []).length from rfl)
        have hki : (k : Int) < (n : Int) := by omega
        have HNX := Lib.hid (fun w' h1 h2 => HM.out.next (w' := w') (by rw [HN.out]; exact hlt) h1 h2)
        have hz := HBe.out.size
        have hBr : B ≤ wr.heap.size := by omega
        clear hrow
        generalize vs.getD k undef = u at hc HRow HNX
        generalize LL.getD k [] = Lk at HRow HNX HOF
        go_wp2_with fail
        refine (markIntS_more u B Lk (q + offs LL k) wr HRow.out hBr (by omega) (by omega)).mono ?_; rintro e w2 ⟨rfl, hr2, hb2, hg2⟩
        have HM2 := Lib.hid (HNX.out _ hr2 hg2)
        have HB2 := Lib.hid (HBe.out.trans hb2)
        clear hr2 hb2 hg2
        go_wp2
        go_roundw
        case rel => exact ⟨k + 1, by omega, by go_num, by rw [HOF.out]; congr 1; omega, HM2, HB2⟩
        case measure => simp [intOf]; omega
      · obtain rfl : k = n := by omega
        go_wp2
        go_ret
        exact ⟨rfl, HM.out, HBe.out⟩
theorem marked_row (q : Int) (L : List Int) : Marked q (markTo q L L.length) := marked_all q L
theorem heldIntSS_any (v : Value) (B : Nat) (vs : List Value) (LL : List (List Int)) (q : Int) (w : World) (h : MS w B v vs LL q LL.length) (hq0 : 0 ≤ q) (hl : LL.length ≤ 16777216) (hq1 : q + offs LL LL.length ≤ 1000000000000) :
    Calls Tryd.prog 11 #[v, .int .i64 q] w fun e w' => e = .returned (.int .i64 (q + offs LL LL.length)) ∧ w = w' := by
  rcases h.shape with ⟨rfl, rfl⟩ | ⟨g, c, rfl, hg0, hg1, hc⟩
  · clear h
    go_enter Tryd.func11, Tryd.ntmps11
    go_wp2
    refine wp_loop_rounds 1 ?_
    rw [rounds_succ]
    go_wp2
    go_ret
    exact ⟨ret_int (by simp [offs]), rfl⟩
  · have H := Lib.hid h
    have HC := Lib.hid hc
    clear h hc
    generalize hn : LL.length = n at hl H hq1 HC
    have HN := Lib.hid hn
    clear hn
    go_enter Tryd.func11, Tryd.ntmps11
    go_wp2
    go_loop [1, 5] (fun t1 t5 => ∃ k : Nat, k ≤ n ∧ t5 = .int .i64 k ∧ t1 = .int .i64 (q + offs LL k)) (fun _ t5 => n - (intOf t5).toNat)
    case atStart => exact ⟨0, Nat.zero_le _, rfl, by simp [offs]⟩
    case round =>
      obtain ⟨k, hk, rfl, rfl⟩ := hrel
      by_cases hlt : k < n
      · have hc := HC.out k hlt
        have hrow : Row w B (vs.getD k undef) (markTo (q + offs LL k) (LL.getD k []) (LL.getD k []).length) := by
          have := (H.out.2.2.1 k (by rw [HN.out]; exact hlt)).1
          unfold mk at this
          rw [if_pos hlt] at this
          exact this
        have HRow := Lib.hid hrow
        have hmo := offs_mono LL k n hk
        have hmo2 := offs_mono LL (k + 1) n hlt
        have hof : offs LL (k + 1) = offs LL k + (LL.getD k []).length := rfl
        have hki : (k : Int) < (n : Int) := by omega
        have HHE := Lib.hid (fun w => heldIntS_more (vs.getD k undef) B (markTo (q + offs LL k) (LL.getD k []) (LL.getD k []).length) (q + offs LL k) w)
        have HLE := Lib.hid (markTo_length (q + offs LL k) (LL.getD k []) (LL.getD k []).length)
        have HMA := Lib.hid (marked_row (q + offs LL k) (LL.getD k []))
        clear hrow
        rw [hof] at hmo2
        have HOF := Lib.hid hof
        clear hof
        generalize vs.getD k undef = u at hc HRow HHE
        generalize markTo (q + offs LL k) (LL.getD k []) (LL.getD k []).length = ML at HRow HHE HLE HMA
        generalize (LL.getD k []).length = ln at hmo2 HOF HLE
        go_wp2_with fail
        refine (HHE.out w HRow.out HMA.out (by omega) (by omega)).mono ?_; rintro e w2 ⟨rfl, rfl⟩
        rw [HLE.out]
        go_wp2
        go_round
        case rel => exact ⟨k + 1, by omega, by go_num, by rw [HOF.out]; congr 1; omega⟩
        case measure => simp [intOf]; omega
      · obtain rfl : k = n := by omega
        go_wp2
        go_ret
        exact ⟨rfl, rfl⟩
end Go.Proofs.YtpcbplademohnaaDoor
