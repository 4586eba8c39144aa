/-
  Contract of the program's search for ways.
-/
import Derived.Test.YtjlbgccffpkmiaaTriWay
import Derived.Test.YtjlbgccffpkmiaaTriRound
namespace Go.Proofs.Ytjlbgccffpkmiaa
open Go.RowKit
set_option linter.unusedVariables false

/-- the slice v, made from block B on, holds the triads L -/
def TRow (w : World) (B : Nat) (v : Value) (L : List Nat) : Prop := w.ownsRow B 41 1 v L.length (L.map (fun (n : Nat) => Value.int .i64 (n : Int))) ∧ L.length ≤ 4096
/-- the block b holds the ways -/
def Ways (w : World) (b : Nat) (L : List (List UInt8)) : Prop := w.heap[b]? = some (.cells (L.map (fun l => Value.string (str l))).toArray 48 (0, 0)) ∧ L.length = 24
theorem Ways.cell {w : World} {b : Nat} {L : List (List UInt8)} (h : Ways w b L) {i : Nat} (hi : i < 24) : w.cell? ⟨b, i, none⟩ = some (.string (str (L.getD i []))) := by
  rw [cell_of_row _ _ _ _ _ _ h.1]
  have : i < L.length := by rw [h.2]; exact hi
  simp [List.getD_eq_getElem?_getD, List.getElem?_eq_getElem this]
theorem Ways.free {w : World} {b : Nat} {L : List (List UInt8)} (h : Ways w b L) (i : Nat) : w.frozen? ⟨b, i, none⟩ = false := frozen_of_row _ _ _ _ _ h.1
theorem Ways.set {w : World} {b : Nat} {L : List (List UInt8)} (h : Ways w b L) (i : Nat) (l : List UInt8) : Ways (w.setCell ⟨b, i, none⟩ (.string (str l))) b (L.set i l) := by
  refine ⟨?_, by rw [List.length_set]; exact h.2⟩
  rw [heap_setCell_same _ _ _ _ _ _ h.1, List.map_set]
  simp
theorem Ways.kept {w w' : World} {b : Nat} {L : List (List UInt8)} (h : Ways w b L) {B : Nat} (hb : Below B w w') (hB : b < B) : Ways w' b L := ⟨(hb.block b hB).trans h.1, h.2⟩
theorem Ways.lt {w : World} {b : Nat} {L : List (List UInt8)} (h : Ways w b L) : b < w.heap.size := (Array.getElem?_eq_some_iff.1 h.1).1

theorem info_triad : (Try.prog.info? 41).map (fun i => (i.zero, i.size, i.bytes)) = some (some (.int .i64 0), 1, 8) := by kernel_rfl
theorem TRow.shape {w : World} {B : Nat} {v : Value} {L : List Nat} (h : TRow w B v L) (hL : 0 < L.length) : ∃ g cap, v = .slice (some ⟨g, 0, none⟩) L.length cap ∧ B ≤ g ∧ g < w.heap.size ∧ ∀ i, i < L.length → w.cell? ⟨g, i, none⟩ = some (.int .i64 (L.getD i 0 : Nat)) := by
  obtain ⟨h1, h3⟩ := h
  have h1' := h1
  rcases h1.2 with ⟨e, hn⟩ | ⟨g, cap, cur, e, hg, hh, r⟩
  · omega
  · subst e
    refine ⟨g, cap, rfl, hg, (Array.getElem?_eq_some_iff.1 hh).1, fun i hi => ?_⟩
    rw [h1.cellAt i (by omega), List.getElem?_map, List.getElem?_eq_getElem hi]
    simp [List.getD_eq_getElem?_getD, List.getElem?_eq_getElem hi]
theorem TRow.kept {w w' : World} {B : Nat} {v : Value} {L : List Nat} (h : TRow w B v L) (hb : Below w.heap.size w w') : TRow w' B v L :=
  ⟨h.1.kept (row := none) ⟨hb.os, hb.tape, hb.output, hb.size, fun k hk _ => hb.block k hk⟩ (by cases v.ownBlock <;> simp), h.2⟩
theorem TRow.alloc {w : World} {B : Nat} {v : Value} {L : List Nat} (h : TRow w B v L) (o : Obj) : TRow (w.alloc o) B v L := ⟨h.1.alloc o, h.2⟩
theorem TRow.setb {w : World} {B b o : Nat} {v u : Value} {L : List Nat} (h : TRow w B v L) (hb : b < B) : TRow (w.setCell ⟨b, o, none⟩ u) B v L := ⟨ownsRow_setCell_below h.1 (a := ⟨b, o, none⟩) hb _, h.2⟩
theorem wpList_append_triad {ops : Array Oper} {rest : List Oper} {o : Oper} {a : Act} {Q : Exit → Act → World → Prop} {w : World} (hgd : o.guard = none) (s x : Operand)
    (ho : o.op = .call { callee := .builtin .append, args := #[s, x], argTypes := #[59, 59] })
    (B : Nat) (v : Value) (L : List Nat) (hs : a.eval s = v) (hrow : TRow w B v L) (g c : Nat) (y : Nat) (hx : a.eval x = .slice (some ⟨g, 0, none⟩) 1 c)
    (hc : w.cell? ⟨g, 0, none⟩ = some (.int .i64 (y : Int))) (hlen : L.length < 4096) (hB : B ≤ w.heap.size)
    (h : ∀ v' w', TRow w' B v' (L ++ [y]) → Below B w w' → wpList Try.prog ops Q rest (a.put o.dst v') w') : wpList Try.prog ops Q (o :: rest) a w := by
  obtain ⟨i0, hi, hz0, hz1, hz2⟩ := info_parts info_triad
  refine wpList_append_own w hgd s x 59 ho B 41 i0 (.int .i64 0) 1 8 Try.underlying59 hi hz0 hz1 hz2 rfl (by decide) v L.length _ hs hrow.1 ⟨g, 0, none⟩ 1 c [.int .i64 y] hx rfl ?_ ?_ ?_ ?_ hB ?_
  · intro j u hj
    match j, hj with
    | 0, hj => simp at hj; subst hj; simpa [Addr.add] using hc
  · intro u hu; simp at hu; subst hu; rfl
  · unfold maxLen; omega
  · omega
  · intro v' w' hown hg _
    refine h v' w' ⟨?_, by simp; omega⟩ ((Below.refl B w).grown hg hB fun k hk => (hrow.1.lt k hk).1)
    rw [List.map_append, List.length_append]
    exact hown

/-- what a round of the search has in memory -/
def Srch (w wr : World) (v : Value) (S : List Nat × List (List UInt8)) : Prop :=
  TRow wr (w.heap.size + 2) v S.1 ∧ Ways wr (w.heap.size + 1) S.2 ∧ Ways wr w.heap.size (List.replicate 24 []) ∧ Below w.heap.size w wr

theorem trow_one (W : World) (x B g : Nat) (hg : g = W.heap.size) (hB : B ≤ g) : TRow (W.alloc (.cells #[.int .i64 (x : Int)] 41)) B (.slice (some ⟨g, 0, none⟩) 1 1) [x] := by
  subst hg
  exact ⟨⟨by simp, .inr ⟨_, 1, _, rfl, hB, heap_alloc_new _ _, Nat.le_refl _, by decide, rfl, by simp⟩⟩, by simp⟩
theorem strs_one (L : List (List UInt8)) : ((L.map (fun l => Value.string (str l))).toArray).all (·.oneCell') = true := by
  rw [Array.all_eq_true_iff_forall_mem]
  intro x hx
  simp at hx
  obtain ⟨l, _, rfl⟩ := hx
  rfl
theorem strs_size {L : List (List UInt8)} (h : L.length = 24) : ((L.map (fun l => Value.string (str l))).toArray).size = 24 := by simp [h]
theorem info_ways : (Try.prog.info? 48).map (·.size) = some 24 := by kernel_rfl

theorem Srch.kept {w wr w' : World} {v : Value} {S : List Nat × List (List UInt8)} (h : Srch w wr v S) (hb : Below wr.heap.size wr w') : Srch w w' v S :=
  ⟨h.1.kept hb, h.2.1.kept hb h.2.1.lt, h.2.2.1.kept hb h.2.2.1.lt, h.2.2.2.trans (hb.mono h.2.2.2.size)⟩

theorem Srch.drew {w wr : World} {v : Value} {S : List Nat × List (List UInt8)} (h : Srch w wr v S) : Srch w wr.drew v S := ⟨h.1, h.2.1, h.2.2.1, h.2.2.2.drew⟩
theorem Srch.alloc {w wr : World} {v : Value} {S : List Nat × List (List UInt8)} (h : Srch w wr v S) (o : Obj) : Srch w (wr.alloc o) v S :=
  ⟨h.1.alloc o, ⟨(heap_alloc_old _ _ h.2.1.lt).trans h.2.1.1, h.2.1.2⟩, ⟨(heap_alloc_old _ _ h.2.2.1.lt).trans h.2.2.1.1, h.2.2.1.2⟩, h.2.2.2.alloc h.2.2.2.size _⟩
theorem Srch.store {w wr : World} {v : Value} {S : List Nat × List (List UInt8)} (h : Srch w wr v S) (i : Nat) (l : List UInt8) : Srch w (wr.setCell ⟨w.heap.size + 1, i, none⟩ (.string (str l))) v (S.1, S.2.set i l) :=
  ⟨h.1.setb (by omega), h.2.1.set i l, ⟨(heap_setCell_other _ _ _ _ (by simp)).trans h.2.2.1.1, h.2.2.1.2⟩, h.2.2.2.setCell (by simp) _⟩

set_option maxHeartbeats 3000000 in
set_option maxRecDepth 20000 in
theorem waysFrom_any (a : Nat) (w : World) (ha : a < 24) :
    Calls Try.prog 23 #[.int .i64 a] w fun e w' => e = .returned (.agg ((Tic.bfs a 24).2.map (fun l => Value.string (str l))).toArray) ∧ Below w.heap.size w w' := by
  go_enter Try.func23, Try.ntmps23
  go_wp2
  go_loopw [4, 5] (fun t4 t5 wr => ∃ i g cv : Nat, i ≤ 24 ∧ t5 = .int .i64 i ∧ t4 = .slice (some ⟨g, 0, none⟩) (Tic.bfs a i).1.length cv ∧ Hid (Srch w wr t4 (Tic.bfs a i))) (fun _ t5 _ => 24 - (intOf t5).toNat)
  case atStart =>
    refine ⟨0, _, _, by omega, rfl, rfl, Lib.hid ⟨?_, ⟨?_, rfl⟩, ⟨?_, rfl⟩, ?_⟩⟩
    · refine trow_one _ a _ _ ?_ ?_
      · simp
      · omega
    · refine (heap_alloc_old _ _ ?_).trans (heap_alloc2_new _ _ _)
      simp
    · refine (heap_alloc_old _ _ ?_).trans (heap_alloc2_old _ _ _)
      simp; omega
    · exact (((Below.refl _ _).alloc (Nat.le_refl _) _).alloc (by simp) _).alloc (by simp; omega) _
  case round =>
    obtain ⟨i, g, cv, hi, rfl, rfl, HS⟩ := hrel
    by_cases hlt : i < 24
    · have hlen : i < (Tic.bfs a i).1.length := Tic.bfs_reach ⟨a, ha⟩ ⟨i, hlt⟩
      have HF := Lib.hid (Tic.bfs_fine ⟨a, ha⟩ ⟨i, hlt⟩)
      have HBIN := Lib.hid (Tic.bfs_bin a i)
      obtain ⟨S, hS⟩ : ∃ S, S = Tic.bfs a i := ⟨_, rfl⟩
      rw [← hS] at hlen HBIN HS ⊢
      have HF : Hid (S.1.getD i 0 < 24 ∧ ∀ k : Fin 3, ((Tic.bin a (S.1.getD i 0) S k).2.getD (S.1.getD i 0) []).length ≤ 5 ∧ (Tic.bin a (S.1.getD i 0) S k).1.length ≤ 24) := by rw [hS]; exact HF
      clear hS
      obtain ⟨g', c', e, hg1, hg2, hcell⟩ := HS.out.1.shape (by omega)
      simp only [Value.slice.injEq, Option.some.injEq, Addr.mk.injEq, and_true, true_and] at e
      obtain ⟨rfl, rfl⟩ := e
      have hc := hcell i hlen
      have hlenI : (i : Int) < (S.1.length : Int) := by omega
      have HLL := Lib.hid (show S.1.length ≤ 24 from (HF.out.2 ⟨0, by omega⟩).2)
      obtain ⟨cur, hcur⟩ : ∃ cur, cur = S.1.getD i 0 := ⟨_, rfl⟩
      rw [← hcur] at hc HBIN HF
      have hcur24 := HF.out.1
      clear hcur hcell
      have hS24 := HLL.out
      go_wp2_with fail
      refine (steps_any _ _).mono ?_; rintro e w1 ⟨rfl, hb1⟩
      have HS1 : Hid (Srch w w1 (.slice (some ⟨g, 0, none⟩) S.1.length cv) S) := Lib.hid ⟨HS.out.1.kept hb1, HS.out.2.1.kept hb1 HS.out.2.1.lt, HS.out.2.2.1.kept hb1 HS.out.2.2.1.lt, HS.out.2.2.2.trans (hb1.mono HS.out.2.2.2.size)⟩
      clear hb1 HS hc hg1 hg2
      go_wp2
      obtain ⟨wo, rfl⟩ : ∃ wo : World, wo = wr := ⟨_, rfl⟩
      go_loopw [4, 24] (fun v4 t24 wi => ∃ k g cv : Nat, k ≤ 3 ∧ t24 = .int .i64 k ∧ v4 = .slice (some ⟨g, 0, none⟩) (Tic.bin a cur S k).1.length cv ∧ Hid (Srch w wi v4 (Tic.bin a cur S k))) (fun _ t24 _ => 3 - (intOf t24).toNat)
      case atStart => exact ⟨0, g, cv, by omega, rfl, rfl, HS1⟩
      case round =>
        obtain ⟨k, gi, ci, hk, rfl, rfl, HI⟩ := hrel
        have hkk : k = 0 ∨ k = 1 ∨ k = 2 ∨ k = 3 := by omega
        rcases hkk with rfl | rfl | rfl | rfl
        · -- L
          have HSTEP := Lib.hid (show ∀ w, Calls Try.prog 28 #[.int .i64 cur] w fun e w' => e = .returned (.int .i64 (Tic.stN cur 76)) ∧ w = w' from fun w => by
            rw [← Tic.stN_eq hcur24 ltrL]; exact stepL_any _ _ ⟨by omega, by omega⟩)
          have hnx := Tic.stN_lt hcur24 ltrL
          have HNEXT := Lib.hid (show Tic.bin a cur S (0 + 1) = Tic.bstep a cur (Tic.bin a cur S 0) 76 from rfl)
          have HLN := Lib.hid (HF.out.2 ⟨0, by omega⟩)
          have hix := steps_0 (cur : Int)
          have hcv : ∀ w, (convert 21 9 (.int .i32 76)).run Try.prog w = .ok (.string { data := #[76] }) w := fun _ => by kernel_rfl
          have HS1 := Lib.hid (Tic.bstep_src (src := a) (cur := cur) (c := 76) (x := Tic.bin a cur S 0))
          have HS2 := Lib.hid (Tic.bstep_old (src := a) (cur := cur) (c := 76) (x := Tic.bin a cur S 0))
          have HS3 := Lib.hid (Tic.bstep_new (src := a) (cur := cur) (c := 76) (x := Tic.bin a cur S 0))
          obtain ⟨T, hT⟩ : ∃ T, T = Tic.bin a cur S 0 := ⟨_, rfl⟩
          rw [← hT] at HI HNEXT HS1 HS2 HS3 ⊢
          have HLN : Hid ((T.2.getD cur []).length ≤ 5 ∧ T.1.length ≤ 24) := by rw [hT]; exact HLN
          clear hT
          generalize Tic.stN cur 76 = nx at HSTEP hnx HNEXT HS1 HS2 HS3
          have hT24 := HLN.out.2
          by_cases e1 : nx = a
          · have hq : ((nx : Int) == (a : Int)) = true := by simp; omega
            have HN := Lib.hid (HNEXT.out.trans (HS1.out e1))
            clear e1
            go_wp2_with (refine wpList_store_row rfl 56 _ _ rfl wr.heap.size _ rfl rfl 56 _ (heap_alloc_new _ _) (by kernel_rfl) rfl (by kernel_rfl) (stored_step (p := fun W => wpList _ _ _ _ _ W) wr _ _ ?_); intro W1 z0 z1 hb1)
            refine (HSTEP.out _).mono ?_; rintro e w2 ⟨rfl, rfl⟩
            go_wp2
            go_roundw
            case rel => exact ⟨1, gi, ci, by omega, rfl, by rw [HN.out], by rw [HN.out]; exact Lib.hid (HI.out.kept hb1)⟩
            case measure => simp [intOf]
          · have hq : ((nx : Int) == (a : Int)) = false := by simp; omega
            have hnxI : (nx : Int) < 24 := by omega
            have hcurI : (cur : Int) < 24 := by omega
            by_cases e2 : T.2.getD nx [] = []
            · have HN := Lib.hid (HNEXT.out.trans (HS3.out e1 e2))
              have HE2 := Lib.hid e2
              clear e1 e2
              go_wp2_with (refine wpList_store_row rfl 56 _ _ rfl wr.heap.size _ rfl rfl 56 _ (heap_alloc_new _ _) (by kernel_rfl) rfl (by kernel_rfl) (stored_step (p := fun W => wpList _ _ _ _ _ W) wr _ _ ?_); intro W1 z0 z1 hb1)
              refine (HSTEP.out _).mono ?_; rintro e w2 ⟨rfl, rfl⟩
              have HI1 := Lib.hid (HI.out.kept hb1)
              have cnx : W1.cell? ⟨w.heap.size + 1, nx, none⟩ = some (.string { data := #[] }) := by rw [HI1.out.2.1.cell hnx, HE2.out]; rfl
              have ccur := HI1.out.2.1.cell hcur24
              have fnx := HI1.out.2.1.free nx
              have hsc : (str (T.2.getD cur [])).size ≤ 5 := HLN.out.1
              have HSN := Lib.hid (show str (T.2.getD cur []) ++ { data := #[76] } = str (T.2.getD cur [] ++ [UInt8.ofNat 76]) from str_append (T.2.getD cur []) [76])
              have HST := Lib.hid (HI1.out.drew.store nx (T.2.getD cur [] ++ [UInt8.ofNat 76]))
              rw [← HSN.out] at HST
              generalize str (T.2.getD cur []) = sc at ccur hsc HST
              clear HSN
              have henc : Utf8.encode 76 = { data := #[76] } := by rfl
              have hle : ¬ (9223372036854775807 < sc.size + 1) := by omega
              go_wp2
              go_still_tail 9, (by kernel_rfl)
              change wpList _ _ _ _ _ W1.drew
              have cnx2 : W1.drew.cell? ⟨w.heap.size + 1, nx, none⟩ = some (.string { data := #[] }) := cnx
              have fnx2 : W1.drew.frozen? ⟨w.heap.size + 1, nx, none⟩ = false := fnx
              generalize W1.drew = W2 at cnx2 fnx2 HST ⊢
              have hz2 : w.heap.size + 1 < W2.heap.size := by have := HST.out.2.1.lt; simpa using this
              clear cnx ccur fnx HI1 HI z0 z1 hb1
              go_wp2_with (at_builtin; refine wpList_append_triad rfl _ _ rfl (w.heap.size + 2) _ T.1 rfl (HST.out.1.alloc _) W2.heap.size 1 nx rfl ?c1 ?c2 ?c3 ?_)
              case c1 => go_simp
              case c2 => omega
              case c3 => simp; omega
              intro v' w3 hrow hb3
              obtain ⟨g3, c3, rfl, _, _, _⟩ := hrow.shape (by simp)
              have HS3 : Hid (Srch w w3 _ (T.1 ++ [nx], _)) := Lib.hid ⟨hrow, (HST.out.alloc _).2.1.kept hb3 (by omega), (HST.out.alloc _).2.2.1.kept hb3 (by omega), (HST.out.alloc _).2.2.2.trans (hb3.mono (by omega))⟩
              clear hrow hb3
              go_wp2
              go_roundw
              case rel => exact ⟨1, g3, c3, by omega, rfl, by rw [HN.out], by rw [HN.out]; exact HS3⟩
              case measure => simp [intOf]
            · have HN := Lib.hid (HNEXT.out.trans (HS2.out e2))
              have hne : (str (T.2.getD nx [])).toList.isEmpty = false := wrd_pos (fun e => e2 (List.eq_nil_of_length_eq_zero e))
              have HNE := Lib.hid hne
              clear e1 e2 hne
              go_wp2_with (refine wpList_store_row rfl 56 _ _ rfl wr.heap.size _ rfl rfl 56 _ (heap_alloc_new _ _) (by kernel_rfl) rfl (by kernel_rfl) (stored_step (p := fun W => wpList _ _ _ _ _ W) wr _ _ ?_); intro W1 z0 z1 hb1)
              refine (HSTEP.out _).mono ?_; rintro e w2 ⟨rfl, rfl⟩
              have HI1 := Lib.hid (HI.out.kept hb1)
              have cnx := HI1.out.2.1.cell hnx
              have hne := HNE.out
              generalize str (T.2.getD nx []) = sn at cnx hne
              go_wp2
              go_roundw
              case rel => exact ⟨1, gi, ci, by omega, rfl, by rw [HN.out], by rw [HN.out]; exact HI1⟩
              case measure => simp [intOf]
        · -- P
          have HSTEP := Lib.hid (show ∀ w, Calls Try.prog 29 #[.int .i64 cur] w fun e w' => e = .returned (.int .i64 (Tic.stN cur 80)) ∧ w = w' from fun w => by
            rw [← Tic.stN_eq hcur24 ltrP]; exact stepP_any _ _ ⟨by omega, by omega⟩)
          have hnx := Tic.stN_lt hcur24 ltrP
          have HNEXT := Lib.hid (show Tic.bin a cur S (1 + 1) = Tic.bstep a cur (Tic.bin a cur S 1) 80 from rfl)
          have HLN := Lib.hid (HF.out.2 ⟨1, by omega⟩)
          have hix := steps_1 (cur : Int)
          have hcv : ∀ w, (convert 21 9 (.int .i32 80)).run Try.prog w = .ok (.string { data := #[80] }) w := fun _ => by kernel_rfl
          have HS1 := Lib.hid (Tic.bstep_src (src := a) (cur := cur) (c := 80) (x := Tic.bin a cur S 1))
          have HS2 := Lib.hid (Tic.bstep_old (src := a) (cur := cur) (c := 80) (x := Tic.bin a cur S 1))
          have HS3 := Lib.hid (Tic.bstep_new (src := a) (cur := cur) (c := 80) (x := Tic.bin a cur S 1))
          obtain ⟨T, hT⟩ : ∃ T, T = Tic.bin a cur S 1 := ⟨_, rfl⟩
          rw [← hT] at HI HNEXT HS1 HS2 HS3 ⊢
          have HLN : Hid ((T.2.getD cur []).length ≤ 5 ∧ T.1.length ≤ 24) := by rw [hT]; exact HLN
          clear hT
          generalize Tic.stN cur 80 = nx at HSTEP hnx HNEXT HS1 HS2 HS3
          have hT24 := HLN.out.2
          by_cases e1 : nx = a
          · have hq : ((nx : Int) == (a : Int)) = true := by simp; omega
            have HN := Lib.hid (HNEXT.out.trans (HS1.out e1))
            clear e1
            go_wp2_with (refine wpList_store_row rfl 56 _ _ rfl wr.heap.size _ rfl rfl 56 _ (heap_alloc_new _ _) (by kernel_rfl) rfl (by kernel_rfl) (stored_step (p := fun W => wpList _ _ _ _ _ W) wr _ _ ?_); intro W1 z0 z1 hb1)
            refine (HSTEP.out _).mono ?_; rintro e w2 ⟨rfl, rfl⟩
            go_wp2
            go_roundw
            case rel => exact ⟨2, gi, ci, by omega, rfl, by rw [HN.out], by rw [HN.out]; exact Lib.hid (HI.out.kept hb1)⟩
            case measure => simp [intOf]
          · have hq : ((nx : Int) == (a : Int)) = false := by simp; omega
            have hnxI : (nx : Int) < 24 := by omega
            have hcurI : (cur : Int) < 24 := by omega
            by_cases e2 : T.2.getD nx [] = []
            · have HN := Lib.hid (HNEXT.out.trans (HS3.out e1 e2))
              have HE2 := Lib.hid e2
              clear e1 e2
              go_wp2_with (refine wpList_store_row rfl 56 _ _ rfl wr.heap.size _ rfl rfl 56 _ (heap_alloc_new _ _) (by kernel_rfl) rfl (by kernel_rfl) (stored_step (p := fun W => wpList _ _ _ _ _ W) wr _ _ ?_); intro W1 z0 z1 hb1)
              refine (HSTEP.out _).mono ?_; rintro e w2 ⟨rfl, rfl⟩
              have HI1 := Lib.hid (HI.out.kept hb1)
              have cnx : W1.cell? ⟨w.heap.size + 1, nx, none⟩ = some (.string { data := #[] }) := by rw [HI1.out.2.1.cell hnx, HE2.out]; rfl
              have ccur := HI1.out.2.1.cell hcur24
              have fnx := HI1.out.2.1.free nx
              have hsc : (str (T.2.getD cur [])).size ≤ 5 := HLN.out.1
              have HSN := Lib.hid (show str (T.2.getD cur []) ++ { data := #[80] } = str (T.2.getD cur [] ++ [UInt8.ofNat 80]) from str_append (T.2.getD cur []) [80])
              have HST := Lib.hid (HI1.out.drew.store nx (T.2.getD cur [] ++ [UInt8.ofNat 80]))
              rw [← HSN.out] at HST
              generalize str (T.2.getD cur []) = sc at ccur hsc HST
              clear HSN
              have henc : Utf8.encode 80 = { data := #[80] } := by rfl
              have hle : ¬ (9223372036854775807 < sc.size + 1) := by omega
              go_wp2
              go_still_tail 9, (by kernel_rfl)
              change wpList _ _ _ _ _ W1.drew
              have cnx2 : W1.drew.cell? ⟨w.heap.size + 1, nx, none⟩ = some (.string { data := #[] }) := cnx
              have fnx2 : W1.drew.frozen? ⟨w.heap.size + 1, nx, none⟩ = false := fnx
              generalize W1.drew = W2 at cnx2 fnx2 HST ⊢
              have hz2 : w.heap.size + 1 < W2.heap.size := by have := HST.out.2.1.lt; simpa using this
              clear cnx ccur fnx HI1 HI z0 z1 hb1
              go_wp2_with (at_builtin; refine wpList_append_triad rfl _ _ rfl (w.heap.size + 2) _ T.1 rfl (HST.out.1.alloc _) W2.heap.size 1 nx rfl ?c1 ?c2 ?c3 ?_)
              case c1 => go_simp
              case c2 => omega
              case c3 => simp; omega
              intro v' w3 hrow hb3
              obtain ⟨g3, c3, rfl, _, _, _⟩ := hrow.shape (by simp)
              have HS3 : Hid (Srch w w3 _ (T.1 ++ [nx], _)) := Lib.hid ⟨hrow, (HST.out.alloc _).2.1.kept hb3 (by omega), (HST.out.alloc _).2.2.1.kept hb3 (by omega), (HST.out.alloc _).2.2.2.trans (hb3.mono (by omega))⟩
              clear hrow hb3
              go_wp2
              go_roundw
              case rel => exact ⟨2, g3, c3, by omega, rfl, by rw [HN.out], by rw [HN.out]; exact HS3⟩
              case measure => simp [intOf]
            · have HN := Lib.hid (HNEXT.out.trans (HS2.out e2))
              have hne : (str (T.2.getD nx [])).toList.isEmpty = false := wrd_pos (fun e => e2 (List.eq_nil_of_length_eq_zero e))
              have HNE := Lib.hid hne
              clear e1 e2 hne
              go_wp2_with (refine wpList_store_row rfl 56 _ _ rfl wr.heap.size _ rfl rfl 56 _ (heap_alloc_new _ _) (by kernel_rfl) rfl (by kernel_rfl) (stored_step (p := fun W => wpList _ _ _ _ _ W) wr _ _ ?_); intro W1 z0 z1 hb1)
              refine (HSTEP.out _).mono ?_; rintro e w2 ⟨rfl, rfl⟩
              have HI1 := Lib.hid (HI.out.kept hb1)
              have cnx := HI1.out.2.1.cell hnx
              have hne := HNE.out
              generalize str (T.2.getD nx []) = sn at cnx hne
              go_wp2
              go_roundw
              case rel => exact ⟨2, gi, ci, by omega, rfl, by rw [HN.out], by rw [HN.out]; exact HI1⟩
              case measure => simp [intOf]
        · -- R
          have HSTEP := Lib.hid (show ∀ w, Calls Try.prog 30 #[.int .i64 cur] w fun e w' => e = .returned (.int .i64 (Tic.stN cur 82)) ∧ w = w' from fun w => by
            rw [← Tic.stN_eq hcur24 ltrR]; exact stepR_any _ _ ⟨by omega, by omega⟩)
          have hnx := Tic.stN_lt hcur24 ltrR
          have HNEXT := Lib.hid (show Tic.bin a cur S (2 + 1) = Tic.bstep a cur (Tic.bin a cur S 2) 82 from rfl)
          have HLN := Lib.hid (HF.out.2 ⟨2, by omega⟩)
          have hix := steps_2 (cur : Int)
          have hcv : ∀ w, (convert 21 9 (.int .i32 82)).run Try.prog w = .ok (.string { data := #[82] }) w := fun _ => by kernel_rfl
          have HS1 := Lib.hid (Tic.bstep_src (src := a) (cur := cur) (c := 82) (x := Tic.bin a cur S 2))
          have HS2 := Lib.hid (Tic.bstep_old (src := a) (cur := cur) (c := 82) (x := Tic.bin a cur S 2))
          have HS3 := Lib.hid (Tic.bstep_new (src := a) (cur := cur) (c := 82) (x := Tic.bin a cur S 2))
          obtain ⟨T, hT⟩ : ∃ T, T = Tic.bin a cur S 2 := ⟨_, rfl⟩
          rw [← hT] at HI HNEXT HS1 HS2 HS3 ⊢
          have HLN : Hid ((T.2.getD cur []).length ≤ 5 ∧ T.1.length ≤ 24) := by rw [hT]; exact HLN
          clear hT
          generalize Tic.stN cur 82 = nx at HSTEP hnx HNEXT HS1 HS2 HS3
          have hT24 := HLN.out.2
          by_cases e1 : nx = a
          · have hq : ((nx : Int) == (a : Int)) = true := by simp; omega
            have HN := Lib.hid (HNEXT.out.trans (HS1.out e1))
            clear e1
            go_wp2_with (refine wpList_store_row rfl 56 _ _ rfl wr.heap.size _ rfl rfl 56 _ (heap_alloc_new _ _) (by kernel_rfl) rfl (by kernel_rfl) (stored_step (p := fun W => wpList _ _ _ _ _ W) wr _ _ ?_); intro W1 z0 z1 hb1)
            refine (HSTEP.out _).mono ?_; rintro e w2 ⟨rfl, rfl⟩
            go_wp2
            go_roundw
            case rel => exact ⟨3, gi, ci, by omega, rfl, by rw [HN.out], by rw [HN.out]; exact Lib.hid (HI.out.kept hb1)⟩
            case measure => simp [intOf]
          · have hq : ((nx : Int) == (a : Int)) = false := by simp; omega
            have hnxI : (nx : Int) < 24 := by omega
            have hcurI : (cur : Int) < 24 := by omega
            by_cases e2 : T.2.getD nx [] = []
            · have HN := Lib.hid (HNEXT.out.trans (HS3.out e1 e2))
              have HE2 := Lib.hid e2
              clear e1 e2
              go_wp2_with (refine wpList_store_row rfl 56 _ _ rfl wr.heap.size _ rfl rfl 56 _ (heap_alloc_new _ _) (by kernel_rfl) rfl (by kernel_rfl) (stored_step (p := fun W => wpList _ _ _ _ _ W) wr _ _ ?_); intro W1 z0 z1 hb1)
              refine (HSTEP.out _).mono ?_; rintro e w2 ⟨rfl, rfl⟩
              have HI1 := Lib.hid (HI.out.kept hb1)
              have cnx : W1.cell? ⟨w.heap.size + 1, nx, none⟩ = some (.string { data := #[] }) := by rw [HI1.out.2.1.cell hnx, HE2.out]; rfl
              have ccur := HI1.out.2.1.cell hcur24
              have fnx := HI1.out.2.1.free nx
              have hsc : (str (T.2.getD cur [])).size ≤ 5 := HLN.out.1
              have HSN := Lib.hid (show str (T.2.getD cur []) ++ { data := #[82] } = str (T.2.getD cur [] ++ [UInt8.ofNat 82]) from str_append (T.2.getD cur []) [82])
              have HST := Lib.hid (HI1.out.drew.store nx (T.2.getD cur [] ++ [UInt8.ofNat 82]))
              rw [← HSN.out] at HST
              generalize str (T.2.getD cur []) = sc at ccur hsc HST
              clear HSN
              have henc : Utf8.encode 82 = { data := #[82] } := by rfl
              have hle : ¬ (9223372036854775807 < sc.size + 1) := by omega
              go_wp2
              go_still_tail 9, (by kernel_rfl)
              change wpList _ _ _ _ _ W1.drew
              have cnx2 : W1.drew.cell? ⟨w.heap.size + 1, nx, none⟩ = some (.string { data := #[] }) := cnx
              have fnx2 : W1.drew.frozen? ⟨w.heap.size + 1, nx, none⟩ = false := fnx
              generalize W1.drew = W2 at cnx2 fnx2 HST ⊢
              have hz2 : w.heap.size + 1 < W2.heap.size := by have := HST.out.2.1.lt; simpa using this
              clear cnx ccur fnx HI1 HI z0 z1 hb1
              go_wp2_with (at_builtin; refine wpList_append_triad rfl _ _ rfl (w.heap.size + 2) _ T.1 rfl (HST.out.1.alloc _) W2.heap.size 1 nx rfl ?c1 ?c2 ?c3 ?_)
              case c1 => go_simp
              case c2 => omega
              case c3 => simp; omega
              intro v' w3 hrow hb3
              obtain ⟨g3, c3, rfl, _, _, _⟩ := hrow.shape (by simp)
              have HS3 : Hid (Srch w w3 _ (T.1 ++ [nx], _)) := Lib.hid ⟨hrow, (HST.out.alloc _).2.1.kept hb3 (by omega), (HST.out.alloc _).2.2.1.kept hb3 (by omega), (HST.out.alloc _).2.2.2.trans (hb3.mono (by omega))⟩
              clear hrow hb3
              go_wp2
              go_roundw
              case rel => exact ⟨3, g3, c3, by omega, rfl, by rw [HN.out], by rw [HN.out]; exact HS3⟩
              case measure => simp [intOf]
            · have HN := Lib.hid (HNEXT.out.trans (HS2.out e2))
              have hne : (str (T.2.getD nx [])).toList.isEmpty = false := wrd_pos (fun e => e2 (List.eq_nil_of_length_eq_zero e))
              have HNE := Lib.hid hne
              clear e1 e2 hne
              go_wp2_with (refine wpList_store_row rfl 56 _ _ rfl wr.heap.size _ rfl rfl 56 _ (heap_alloc_new _ _) (by kernel_rfl) rfl (by kernel_rfl) (stored_step (p := fun W => wpList _ _ _ _ _ W) wr _ _ ?_); intro W1 z0 z1 hb1)
              refine (HSTEP.out _).mono ?_; rintro e w2 ⟨rfl, rfl⟩
              have HI1 := Lib.hid (HI.out.kept hb1)
              have cnx := HI1.out.2.1.cell hnx
              have hne := HNE.out
              generalize str (T.2.getD nx []) = sn at cnx hne
              go_wp2
              go_roundw
              case rel => exact ⟨3, gi, ci, by omega, rfl, by rw [HN.out], by rw [HN.out]; exact HI1⟩
              case measure => simp [intOf]
        · -- behind the three
          go_wp2
          go_roundw
          case rel => exact ⟨i + 1, gi, ci, by omega, by go_num, by rw [HBIN.out], by rw [HBIN.out]; exact HI⟩
          case measure => simp [intOf]; omega

    · obtain rfl : i = 24 := by omega
      have hlen : (Tic.bfs a 24).1.length = 24 := (Tic.bfs_ok ⟨a, ha⟩).1
      have HLEN := Lib.hid hlen
      rw [hlen]
      clear hlen
      obtain ⟨_, hw1, hw0, hbel⟩ := HS.out
      have hsz := strs_size hw1.2
      have hone := strs_one (Tic.bfs a 24).2
      have hh1 := hw1.1
      obtain ⟨cs, hcs⟩ : ∃ cs, cs = ((Tic.bfs a 24).2.map (fun l => Value.string (str l))).toArray := ⟨_, rfl⟩
      rw [← hcs] at hsz hone hh1
      have HCS := Lib.hid hcs
      have HONE := Lib.hid hone
      have HW1 := Lib.hid hh1
      have HW0 := Lib.hid hw0.1
      have HSZ := Lib.hid hsz
      have HI : Hid ((Try.prog.info? 48).map (·.size) = some cs.size) := Lib.hid (by rw [hsz]; exact info_ways)
      clear hw0 hsz hone hh1 hcs
      go_wp2_with (first
        | (refine wpList_load_row rfl 48 _ rfl (w.heap.size + 1) rfl 48 cs (0, 0) _ HW1.out Try.underlying48 rfl HI.out ?_)
        | (refine wpList_store_row rfl 48 _ _ rfl w.heap.size cs rfl rfl 48 _ HW0.out HI.out (by rw [HSZ.out]; rfl) HONE.out ?_))
      refine bodyPost_ret (v := .agg cs) ?_ rfl ⟨by rw [HCS.out], below_setRow hbel (Nat.le_refl _) _⟩
      exact results_cell_row Try.results23 _ _ w.heap.size 48 _ (0, 0) _ rfl (setRow_heap _ _ _ _ _ _ HW0.out) Try.underlying48 rfl HI.out
end Go.Proofs.Ytjlbgccffpkmiaa
