/-
  The contract of the model's TwinsOf where there are kinds.
-/
import Derived.Test.YtmofhhffkppelaaTwinsSpec
import Derived.Test.YtmofhhffkppelaaPrimes
import Derived.Deep.RegionHeld3
import Derived.Deep.AppendLies
namespace Go.Proofs.Ytmofhhffkppelaa
open Go.RowKit
set_option linter.unusedVariables false

theorem row_lit2 (w : World) (L : List Int) (hl : L.length ≤ 4096) : Row (w.alloc (.cells (L.map (Value.int .i64)).toArray 3)) w.heap.size (.slice (some ⟨w.heap.size, 0, none⟩) L.length L.length) L := by
  refine ⟨?_, by omega⟩
  have := World.ownsRow_lit (base := w.heap.size) (e := 3) (size := 1) w (L.map (Value.int .i64)).toArray L.length (Nat.le_refl _) (by unfold maxLen; omega) (by simp)
  simpa using this
theorem Row.cells_at {w : World} {B g m c i : Nat} {L : List Int} (h : Row w B (.slice (some ⟨g, 0, none⟩) m c) L) (hi : i < L.length) : g < w.heap.size ∧ w.cell? ⟨g, i, none⟩ = some (.int .i64 (L.getD i 0)) := by
  rcases h.cases with ⟨e, _⟩ | ⟨g', c', e, _, hg, hc, _⟩
  · cases e
  · cases e
    exact ⟨hg, hc i hi⟩

set_option maxRecDepth 20000 in
set_option maxHeartbeats 1000000 in
theorem sTwinsOf_yes (n k : Int) (w : World) (h : Counts n k) :
    Calls Try.prog 10 #[.int .i64 n, .int .i64 k] w (GivesLists (pairsTo n.toNat (primesTo n.toNat k.toNat (2 ^ n.toNat)) (primesTo n.toNat k.toNat (2 ^ n.toNat)).length) w) := by
  have HC := Lib.hid h
  obtain ⟨h1, h2, h3, h4⟩ := h
  obtain ⟨N, rfl⟩ := Int.eq_ofNat_of_zero_le (show 0 ≤ n by omega)
  obtain ⟨K, rfl⟩ := Int.eq_ofNat_of_zero_le h3
  rw [Int.toNat_natCast, Int.toNat_natCast]
  have HF := Lib.hid (fun i => @told_at N K i)
  have HN := Lib.hid (fun i j => @told_ne N K i j)
  generalize hg : primesTo N K (2 ^ N) = P at HF HN ⊢
  have HGP := Lib.hid hg
  clear hg
  go_enter Try.func10, Try.ntmps10
  go_wp2_with fail
  refine (inRange_yes _ _ _ _ h1 h2).mono ?_; rintro e w1 ⟨rfl, rfl⟩
  go_wp2_with fail
  refine (inRange_yes _ _ _ _ h3 h4).mono ?_; rintro e w1 ⟨rfl, rfl⟩
  go_wp2_with fail
  refine (sPrimesOf_yes _ _ _ HC.out).mono ?_; rintro e w1 ⟨v, rfl, hr, hb⟩
  rw [Int.toNat_natCast, Int.toNat_natCast, HGP.out] at hr
  have HR := Lib.hid hr
  have HB := Lib.hid hb
  have HO := Lib.hid ((Lists.made w).kept HB.out)
  have hP : P.length ≤ 4096 := by rw [← HGP.out]; exact Nat.le_trans (primes_few _ _ _) (Nat.pow_le_pow_right (n := 2) (by decide) (show N ≤ 12 by omega))
  have HV : Hid (∀ s : Nat, s < 2 ^ N → Tic.Valid N s) := fun s hs => ⟨h1, h2, by omega, by rw [Int.toNat_natCast]; omega⟩
  rcases HR.out.cases with ⟨rfl, rfl⟩ | ⟨g, c, rfl, hg0, hg1, _, _⟩
  · go_wp2
    refine wp_loop_rounds 1 ?_
    rw [rounds_succ]
    go_wp2
    go_ret
    refine ⟨_, _, rfl, HO.out, ?_⟩
    exact ((Below.refl _ _).alloc (Nat.le_refl _) _).trans (HB.out.mono (by simp))
  · generalize hm : P.length = m at HR HF HN hP
    have HM := Lib.hid hm
    clear hr hm hb
    simp at hg0
    have HW0 : Hid (Below w.heap.size w w1) := ((Below.refl _ _).alloc (Nat.le_refl _) _).trans (HB.out.mono (by simp))
    go_wp2
    go_loopw [5, 7] (fun t5 t7 wr => ∃ (i : Nat) (vs : List Value), i ≤ m ∧ t7 = .int .i64 i ∧ Hid (Lists wr w.heap.size t5 vs (pairsTo N P i)) ∧ t5.ownBlock ≠ some g ∧ Hid (Row wr (w.heap.size + 1) (.slice (some ⟨g, 0, none⟩) m c) P) ∧ Hid (Below w.heap.size w wr)) (fun _ t7 _ => m - (intOf t7).toNat)
    case atStart => exact ⟨0, [], Nat.zero_le _, rfl, HO, by simp [Value.ownBlock]; omega, by first | exact HR | (show Row _ _ _ _; simpa using HR.out), HW0⟩
    case round =>
      obtain ⟨i, vs, hi, rfl, HO1, hne, HR1, HW1⟩ := hrel
      by_cases hlt : i < m
      · go_wp2
        go_loopw [5, 8] (fun t5 t8 wr => ∃ (j : Nat) (vs : List Value), i + 1 ≤ j ∧ j ≤ m ∧ t8 = .int .i64 j ∧ Hid (Lists wr w.heap.size t5 vs (pairsTo N P i ++ rowTo N P i j)) ∧ t5.ownBlock ≠ some g ∧ Hid (Row wr (w.heap.size + 1) (.slice (some ⟨g, 0, none⟩) m c) P) ∧ Hid (Below w.heap.size w wr)) (fun _ t8 _ => m - (intOf t8).toNat)
        case atStart => exact ⟨i + 1, vs, Nat.le_refl _, hlt, by go_num, by rw [rowTo_start (i + 1) (Nat.le_refl _), List.append_nil]; exact HO1, hne, HR1, HW1⟩
        case round =>
          clear HO1 HR1 HW1 hne
          obtain ⟨j, vs, hij, hj, rfl, HO1, hne, HR1, HW1⟩ := hrel
          by_cases hlt2 : j < m
          · obtain ⟨s1, ea, hs1, hp1⟩ := HF.out i hlt
            obtain ⟨s2, eb, hs2, hp2⟩ := HF.out j hlt2
            have hva := HV.out s1 hs1
            have hvb := HV.out s2 hs2
            have hsa := hva.lt
            have hsb := hvb.lt
            have hne12 : s1 ≠ s2 := fun e => HN.out i j (by omega) hlt2 (by rw [ea, eb, e])
            have d1 : wr.cell? ⟨g, i, none⟩ = some (.int .i64 s1) := by rw [← ea]; exact (HR1.out.cells_at (by rw [HM.out]; exact hlt)).2
            have d2 : wr.cell? ⟨g, j, none⟩ = some (.int .i64 s2) := by rw [← eb]; exact (HR1.out.cells_at (by rw [HM.out]; exact hlt2)).2
            have hgw := (HR1.out.cells_at (i := i) (by rw [HM.out]; exact hlt)).1
            have hi0 : (i : Int) < (m : Int) := by omega
            have hj0 : (j : Int) < (m : Int) := by omega
            have HD1 := Lib.hid d1
            have HD2 := Lib.hid d2
            have hk0 : Below wr.heap.size wr wr := Below.refl _ _
            have hlen : (Tic.gapsOf N s1).length = (Tic.gapsOf N s2).length := by simp [Tic.gapsOf, Tic.cts_length]
            by_cases hgg : Tic.gapsOf N s1 = Tic.gapsOf N s2
            · have HG := Lib.hid hgg
              clear hgg hlen
              go_wp2
              go_region_held3 (fun w' => w'.cell? ⟨g, i, none⟩ = some (.int .i64 s1) ∧ w'.cell? ⟨g, j, none⟩ = some (.int .i64 s2))
                (first | go_keep | (refine ⟨?_, ?_⟩ <;> ((refine (hk0.cell ?_).trans ?_) <;> assumption)))
                (first
                  | (go_at_call_of 29 (Value.int IntKind.i64 (s1 : Int)); refine (sgaps_any _ _ _ hva).mono ?_; rintro e w2 ⟨v1, rfl, ra, bx⟩; have RA := Lib.hid ra; clear ra; replace hk0 : Below wr.heap.size wr w2 := (by first | exact grow1 hk0 bx | exact grow0 hk0 bx); clear bx)
                  | (go_at_call_of 29 (Value.int IntKind.i64 (s2 : Int)); refine (sgaps_any _ _ _ hvb).mono ?_; rintro e w2 ⟨v2, rfl, rb, bx⟩; have RB := Lib.hid rb; clear rb; replace RA := Lib.hid (show Row w2 _ v1 _ from by first | exact keep01 RA.out bx | exact keep00 RA.out bx); replace hk0 : Below wr.heap.size wr w2 := (by first | exact grow1 hk0 bx | exact grow0 hk0 bx); clear bx)
                  | (go_at_call 28; refine (sameList_yes _ _ _ _ _ _ RA.out (by rw [Int.toNat_natCast, Int.toNat_natCast, HG.out]; exact RB.out)).mono ?_; rintro e w2 ⟨rfl, bx⟩; replace hk0 : Below wr.heap.size wr w2 := (by first | exact grow1 hk0 bx | exact grow0 hk0 bx); clear bx))
              have HO2 := Lib.hid (HO1.out.kept hk0)
              have HR2 := Lib.hid (HR1.out.kept hk0)
              have HW2 := Lib.hid (HW1.out.trans (hk0.mono HW1.out.size))
              have d1 := (hk0.cell (p := ⟨g, i, none⟩) hgw).trans HD1.out
              have d2 := (hk0.cell (p := ⟨g, j, none⟩) hgw).trans HD2.out
              have hz2 := hk0.size
              have ht : twins N (P.getD i 0).toNat (P.getD j 0).toNat = true := by
                rw [ea, eb]
                unfold twins
                simp [HG.out, hp1, hp2, hne12]
              have HT := Lib.hid ht
              have hl1 := pairs_len (n := N) (i := i) (j := j) (P := P) (by rw [HM.out]; exact hP) (by rw [HM.out]; exact hlt) (by rw [HM.out]; exact hlt2)
              have hwz := HW2.out.size
              clear ht
              go_wp2_with fail
              obtain ⟨i0, hi1, hz0, hz1', hz2'⟩ := info_parts3 info_slice
              have hw2 : Below w2.heap.size w2 w2 := Below.refl _ _
              have HI0 := Lib.hid hi1
              have HZ0 := Lib.hid hz0
              have HZ1 := Lib.hid hz1'
              have HZ2 := Lib.hid hz2'
              clear hi1 hz0 hz1' hz2'
              go_region_held3 (fun w' => w'.cell? ⟨g, i, none⟩ = some (.int .i64 s1) ∧ w'.cell? ⟨g, j, none⟩ = some (.int .i64 s2))
                (first | go_keep | (go_split_ands; refine ⟨?_, ?_⟩ <;> ((rw [hgrow.cell_far _ (by simp; omega) (Ne.symm hne)]; assumption))))
                ((refine step_append_lies _ (by rfl) _ _ _ (by rfl) w.heap.size 29 i0 (.slice none 0 0) 1 24 Try.underlying25 HI0.out HZ0.out HZ1.out HZ2.out rfl (by decide) u5 (pairsTo N P i ++ rowTo N P i j).length vs (by rfl) ((HO2.out.2.2.1.alloc _).alloc _) ⟨w2.heap.size + 1, 0, none⟩ 1 1 [.slice (some ⟨w2.heap.size, 0, none⟩) 2 2] (by rfl) (by rfl) (World.news_of_block (cs := #[.slice (some ⟨w2.heap.size, 0, none⟩) 2 2]) (t := 29) (fr := (0, 0)) (heap_alloc2_new w2 _ _)) (by simp [Value.oneCell']) (by omega) (by unfold maxLen; omega) (by omega) (by simp; omega) (w2.heap.size + 2) (by simp) ?_; intro gg cap w3 hown1 hgrow hat hlt))
              replace hgrow : ((w2.alloc (.cells #[.int .i64 (s1 : Int), .int .i64 (s2 : Int)] 3)).alloc (.cells #[.slice (some ⟨w2.heap.size, 0, none⟩) 2 2] 29)).grownBy w3 u5.ownBlock := ⟨hgrow.os, hgrow.tape, hgrow.output, hgrow.size, hgrow.block⟩
              have hgsz : g < w2.heap.size := Nat.lt_of_lt_of_le hgw hk0.size
              have hu5 : ∀ q, u5.ownBlock = some q → q < w2.heap.size := fun q hq => (HO2.out.2.2.1.lt q hq).2
              have HAP := Lists.appended ((HO2.out.alloc (.cells #[.int .i64 (s1 : Int), .int .i64 (s2 : Int)] 3)).alloc (.cells #[.slice (some ⟨w2.heap.size, 0, none⟩) 2 2] 29)) (u := .slice (some ⟨w2.heap.size, 0, none⟩) 2 2) (L := [(s1 : Int), (s2 : Int)]) (w' := w3) (v' := .slice (some ⟨gg, 0, none⟩) ((pairsTo N P i).length + (rowTo N P i j).length + 1) cap)
                (((row_lit2 w2 [(s1 : Int), (s2 : Int)] (by simp)).alloc _).mono hwz)
                (fun q hq e => by have := hu5 q e; simp [Value.ownBlock] at hq; omega)
                (fun r q hr hq => by have := ((HO2.out.2.2.2.1 r hr).1.lt q hq).2; simp [Value.ownBlock]; omega)
                hl1 (by simp; omega) (by simpa using hown1) hgrow
                (by
                  rcases hat with q | q
                  · exact .inl (by rw [q]; rfl)
                  · exact .inr (by rw [q]; simp [Value.ownBlock]))
              have HO4 := Lib.hid HAP.1
              have hb3 := HAP.2
              have hggg : gg ≠ g := by
                rcases hat with q | q
                · exact fun e => hne (by rw [q, e])
                · omega
              have HR4 : Hid (Row w3 (w.heap.size + 1) (.slice (some ⟨g, 0, none⟩) m c) P) := Lib.hid ⟨((HR2.out.alloc (.cells #[.int .i64 (s1 : Int), .int .i64 (s2 : Int)] 3)).alloc (.cells #[.slice (some ⟨w2.heap.size, 0, none⟩) 2 2] 29)).1.kept hgrow (.inr (fun e => hne (by rw [← e]; rfl))), HR2.out.2⟩
              have HW4 := Lib.hid (((HW2.out.alloc hwz (.cells #[.int .i64 (s1 : Int), .int .i64 (s2 : Int)] 3)).alloc (by simp; omega) (.cells #[.slice (some ⟨w2.heap.size, 0, none⟩) 2 2] 29)).trans hb3)
              have HRT := Lib.hid (rowTo_yes (show i < j by omega) HT.out)
              rw [ea, eb] at HRT
              clear HAP hb3 hgrow hown1 hu5
              go_wp2
              go_roundw
              case rel => exact ⟨j + 1, _, by omega, by omega, by go_num, by rw [HRT.out, ← List.append_assoc]; exact HO4, by simpa [Value.ownBlock] using hggg, HR4, HW4⟩
              case measure => simp [intOf]; omega
            · have HG := Lib.hid hgg
              have HL := Lib.hid hlen
              clear hgg hlen
              go_wp2
              go_region_held3 (fun w' => w'.cell? ⟨g, i, none⟩ = some (.int .i64 s1) ∧ w'.cell? ⟨g, j, none⟩ = some (.int .i64 s2))
                (first | go_keep | (refine ⟨?_, ?_⟩ <;> ((refine (hk0.cell ?_).trans ?_) <;> assumption)))
                (first
                  | (go_at_call_of 29 (Value.int IntKind.i64 (s1 : Int)); refine (sgaps_any _ _ _ hva).mono ?_; rintro e w2 ⟨v1, rfl, ra, bx⟩; have RA := Lib.hid ra; clear ra; replace hk0 : Below wr.heap.size wr w2 := (by first | exact grow1 hk0 bx | exact grow0 hk0 bx); clear bx)
                  | (go_at_call_of 29 (Value.int IntKind.i64 (s2 : Int)); refine (sgaps_any _ _ _ hvb).mono ?_; rintro e w2 ⟨v2, rfl, rb, bx⟩; have RB := Lib.hid rb; clear rb; replace RA := Lib.hid (show Row w2 _ v1 _ from by first | exact keep01 RA.out bx | exact keep00 RA.out bx); replace hk0 : Below wr.heap.size wr w2 := (by first | exact grow1 hk0 bx | exact grow0 hk0 bx); clear bx)
                  | (go_at_call 28; refine (sameList_no _ _ _ _ _ _ _ RA.out RB.out HL.out HG.out).mono ?_; rintro e w2 ⟨rfl, bx⟩; replace hk0 : Below wr.heap.size wr w2 := (by first | exact grow1 hk0 bx | exact grow0 hk0 bx); clear bx))
              have HO2 := Lib.hid (HO1.out.kept hk0)
              have HR2 := Lib.hid (HR1.out.kept hk0)
              have HW2 := Lib.hid (HW1.out.trans (hk0.mono HW1.out.size))
              go_wp2
              go_roundw
              case rel => exact ⟨j + 1, vs, by omega, by omega, by go_num, by rw [rowTo_no (by rw [ea, eb]; unfold twins; simp [HG.out])]; exact HO2, hne, HR2, HW2⟩
              case measure => simp [intOf]; omega
          · have : j = m := by omega
            subst this
            go_wp2
            go_roundw
            case rel => exact ⟨i + 1, vs, by omega, by go_num, by rw [pairsTo, HM.out]; exact HO1.out, hne, HR1, HW1⟩
            case measure => simp [intOf]; omega
      · have : i = m := by omega
        subst this
        go_wp2
        go_ret
        exact ⟨_, vs, rfl, by rw [HM.out]; exact HO1.out, HW1.out⟩
end Go.Proofs.Ytmofhhffkppelaa
