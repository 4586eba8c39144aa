/-
  Contracts of RoundOf, of the program and of the model.
-/
import Derived.Test.YtjlbgccffpkmiaaTriWalk
import Derived.Test.YtjlbgccffpkmiaaRoundNum
import Derived.Test.YtjlbgccffpkmiaaTones
namespace Go.Proofs.Ytjlbgccffpkmiaa
open Go.RowKit
set_option linter.unusedVariables false

def lenOf : Value → Nat
  | .slice _ n _ => n
  | _ => 0
theorem Row.len {w : World} {B : Nat} {v : Value} {L : List Int} (h : Row w B v L) : lenOf v = L.length := by
  rcases h.cases with ⟨rfl, rfl⟩ | ⟨g, cap, rfl, _⟩ <;> rfl
theorem gives_nil {P : Program} {f : Nat} {args : Array Value} {w : World} (h : Calls P f args w fun e w' => e = .returned (.slice none 0 0) ∧ Below w.heap.size w w') : Calls P f args w (Gives [] w) :=
  h.mono fun _ _ ⟨a, b⟩ => ⟨_, a, Row.nil _ _, b⟩
theorem empty_of_size {s : ByteArray} (h : s.size = 0) : s = ByteArray.empty := ByteArray.ext (Array.eq_empty_of_size_eq_zero h)
theorem wrd_pos {s : ByteArray} (h : s.size ≠ 0) : s.toList.isEmpty = false := by
  rw [ByteArray.toList_eq]
  cases e : s.data.toList with
  | nil => exact absurd (by rw [← ByteArray.size_data, ← Array.length_toList, e]; rfl) h
  | cons a l => rfl

theorem sRoundOf_tri (t : Int) (s : ByteArray) (w : World) (h : ¬ Tic.Tri t) :
    Calls Try.prog 8 #[.int .i64 t, .string s] w (Gives [] w) := by
  refine gives_nil ?_
  have h2 : t < 0 ∨ 23 < t := by unfold Tic.Tri at h; omega
  clear h
  go_enter Try.func8, Try.ntmps8
  go_wp2_with fail
  refine (inRange_no _ _ _ _ h2).mono ?_; rintro e w1 ⟨rfl, rfl⟩
  go_wp2_with fail
  go_ret
  exact ⟨rfl, Below.refl _ _⟩
theorem sRoundOf_wrd (t : Int) (s : ByteArray) (w : World) (h : Tic.Tri t) (hm : s.size ≤ maxLen) (hs : ¬ Tic.Wrd s) :
    Calls Try.prog 8 #[.int .i64 t, .string s] w (Gives [] w) := by
  refine gives_nil ?_
  have h1 := h.1
  have h2 : t ≤ 23 := by have := h.2; omega
  have HM := Lib.hid hm
  clear hm
  have HV := Lib.hid (decide_eq_false hs)
  go_enter Try.func8, Try.ntmps8
  go_wp2_with fail
  refine (inRange_yes _ _ _ _ h1 h2).mono ?_; rintro e w1 ⟨rfl, rfl⟩
  go_wp2_with fail
  refine (validWord_any _ _ HM.out).mono ?_; rintro e w1 ⟨rfl, rfl⟩; rw [HV.out]
  go_wp2_with fail
  go_ret
  exact ⟨rfl, Below.refl _ _⟩
theorem sRoundOf_nil (t : Int) (w : World) (h : Tic.Tri t) :
    Calls Try.prog 8 #[.int .i64 t, .string ByteArray.empty] w (Gives [] w) := by
  refine gives_nil ?_
  have h1 := h.1
  have h2 : t ≤ 23 := by have := h.2; omega
  have HV := Lib.hid (show decide (Tic.Wrd ByteArray.empty) = true by rfl)
  go_enter Try.func8, Try.ntmps8
  go_wp2_with fail
  refine (inRange_yes _ _ _ _ h1 h2).mono ?_; rintro e w1 ⟨rfl, rfl⟩
  go_wp2_with fail
  refine (validWord_any _ _ (by decide)).mono ?_; rintro e w1 ⟨rfl, rfl⟩; rw [HV.out]
  go_wp2_with fail
  go_ret
  exact ⟨rfl, Below.refl _ _⟩
set_option maxHeartbeats 800000 in
set_option maxRecDepth 20000 in
theorem sRoundOf_yes (t : Int) (s : ByteArray) (R : Nat) (w : World) (h : Tic.Tri t) (hs : Tic.Wrd s) (h0 : s.size ≠ 0) (hR : Tic.Back t s R) :
    Calls Try.prog 8 #[.int .i64 t, .string s] w (Gives (Tic.rnd t s (R * s.size)) w) := by
  have h1 := h.1
  have h2 : t ≤ 23 := by have := h.2; omega
  have HV := Lib.hid (decide_eq_true hs)
  have HL := Lib.hid hs.2
  have hsz := hs.1
  have hpos : 0 < s.size := by omega
  have hne := wrd_pos h0
  have HR := Lib.hid hR
  have hR12 := hR.2.1
  clear hs h0 hR
  go_enter Try.func8, Try.ntmps8
  go_wp2_with fail
  refine (inRange_yes _ _ _ _ h1 h2).mono ?_; rintro e w1 ⟨rfl, rfl⟩
  go_wp2_with fail
  refine (validWord_any _ _ (by unfold maxLen; omega)).mono ?_; rintro e w1 ⟨rfl, rfl⟩; rw [HV.out]
  go_wp2
  go_loopw [5, 6] (fun t5 t6 wr => ∃ r m : Nat, r < R ∧ m ≤ 88 ∧ Hid (m = r * s.size) ∧ t6 = .int .i64 (Tic.posn t s m) ∧ Hid (Row wr w.heap.size t5 (Tic.rnd t s m)) ∧ lenOf t5 = m ∧ Below w.heap.size w wr) (fun t5 _ _ => 100 - lenOf t5)
  case atStart =>
    refine ⟨0, 0, by have := HR.out.1; omega, by omega, Lib.hid (by rw [Nat.zero_mul]), rfl, Lib.hid ⟨World.ownsRow_made w #[] 0 (Nat.le_refl _) (by decide) rfl, Nat.zero_le _⟩, rfl, (Below.refl _ _).alloc (Nat.le_refl _) _⟩
  case round =>
    obtain ⟨r, m, hr, hm, HM, rfl, HRow, hlen, hbel⟩ := hrel
    go_wp2
    obtain ⟨wo, rfl⟩ : ∃ wo : World, wo = wr := ⟨_, rfl⟩
    go_loopw [5, 6, 7] (fun v5 t6 t7 wi => ∃ k : Nat, k ≤ s.size ∧ t7 = .int .i64 k ∧ t6 = .int .i64 (Tic.posn t s (m + k)) ∧ Hid (Row wi w.heap.size v5 (Tic.rnd t s (m + k))) ∧ Below w.heap.size w wi) (fun _ _ t7 _ => s.size - (intOf t7).toNat)
    case atStart => exact ⟨0, Nat.zero_le _, rfl, rfl, HRow, hbel⟩
    case round =>
      obtain ⟨k, hk, rfl, rfl, HRi, hbi⟩ := hrel
      have HLEN := Lib.hid (Tic.rnd_length t s (m + k))
      have hsw := hbi.size
      by_cases hlt : k < s.size
      · have hl := HL.out k hlt
        have HB := Lib.hid (Tic.bt_eq hlt)
        have HT := Lib.hid (Tic.posn_tri s h (m + k))
        have HS := Lib.hid (Tic.posn_step (t := t) HM.out hlt)
        have HRND := Lib.hid (show Tic.rnd t s (m + k + 1) = Tic.rnd t s (m + k) ++ [Tic.posn t s (m + k)] from rfl)
        rw [← HB.out] at hl
        have HLT := Lib.hid hl
        clear hl
        generalize Tic.posn t s (m + k) = at0 at HT HS HRND ⊢
        go_wp2_with (at_builtin; refine wpList_append_int rfl _ _ rfl w.heap.size _ (Tic.rnd t s (m + k)) rfl (HRi.out.alloc _) wr.heap.size 1 at0 rfl ?c1 ?c2 ?c3 ?_)
        case c1 => go_simp
        case c2 => rw [HLEN.out]; omega
        case c3 => simp; omega
        intro v' w1 hrow hb1
        have HR1 := Lib.hid hrow
        clear hrow
        go_wp2_with fail
        refine (sstep_yes _ _ _ HT.out HLT.out).mono ?_; rintro e w2 ⟨rfl, rfl⟩
        go_wp2
        go_roundw
        case rel => exact ⟨k + 1, by omega, by go_num, by rw [← Nat.add_assoc, HS.out, HB.out], Lib.hid (by rw [← Nat.add_assoc, HRND.out]; exact HR1.out), (hbi.alloc hsw _).trans hb1⟩
        case measure => simp [intOf]; omega
      · have : k = s.size := by omega
        subst this
        have HBK := Lib.hid (Tic.back_next HR.out hr)
        have HMR := Lib.hid (show (r + 1) * s.size = m + s.size by rw [Nat.succ_mul, HM.out])
        rw [HMR.out] at HBK
        have HRN := Lib.hid (show ∀ q, q = R → Tic.rnd t s (q * s.size) = Tic.rnd t s (R * s.size) from fun q e => by rw [e])
        generalize hat : Tic.posn t s (m + s.size) = at0 at HBK ⊢
        have HAT := Lib.hid hat
        clear hat
        rcases HBK.out with ⟨e1, e2⟩ | ⟨e1, e2⟩
        · have hq : (at0 == t) = true := by simpa using e1
          have E2 := Lib.hid e2
          clear e1 e2
          go_wp2
          go_ret
          exact ⟨_, rfl, by rw [← HRN.out _ E2.out, HMR.out]; exact HRi.out, hbi⟩
        · have hq : (at0 == t) = false := by simpa using e1
          clear e1
          go_wp2
          go_roundw
          case rel => exact ⟨r + 1, m + s.size, e2, by rw [← HMR.out]; exact Nat.mul_le_mul (show r + 1 ≤ 11 by omega) hsz, Lib.hid HMR.out.symm, by rw [HAT.out], HRi, by rw [HRi.out.len, HLEN.out], hbi⟩
          case measure => rw [HRi.out.len, HLEN.out, hlen]; omega

theorem wpList_append_int2 {ops : Array Oper} {rest : List Oper} {o : Oper} {a : Act} {Q : Exit → Act → World → Prop} {w : World} (hgd : o.guard = none) (s x : Operand)
    (ho : o.op = .call { callee := .builtin .append, args := #[s, x], argTypes := #[25, 25] })
    (B : Nat) (v : Value) (L : List Int) (hs : a.eval s = v) (hrow : Row w B v L) (g c : Nat) (y : Int) (hx : a.eval x = .slice (some ⟨g, 0, none⟩) 1 c)
    (hc : w.cell? ⟨g, 0, none⟩ = some (.int .i64 y)) (hlen : L.length < 4096) (hB : B ≤ w.heap.size)
    (h : ∀ v' w', Row w' B v' (L ++ [y]) → Below B w w' → (∀ k, k < w.heap.size → v.ownBlock ≠ some k → w'.heap[k]? = w.heap[k]? ∧ v'.ownBlock ≠ some k) → wpList Try.prog ops Q rest (a.put o.dst v') w') : wpList Try.prog ops Q (o :: rest) a w := by
  obtain ⟨i0, hi, hz0, hz1, hz2⟩ := info_parts info_int
  refine wpList_append_own_at w hgd s x 25 ho B 3 i0 (.int .i64 0) 1 8 Try.underlying25 hi hz0 hz1 hz2 rfl (by decide) v L.length _ hs hrow.1 ⟨g, 0, none⟩ 1 c [.int .i64 y] hx rfl ?_ ?_ ?_ ?_ hB ?_
  · intro j u hj
    match j, hj with
    | 0, hj => simp at hj; subst hj; simpa [Addr.add] using hc
  · intro u hu; simp at hu; subst hu; rfl
  · unfold maxLen; omega
  · omega
  · intro v' w' hown hg _ hblk
    refine h v' w' ⟨?_, by simp; omega⟩ ((Below.refl B w).grown hg hB fun k hk => (hrow.lt k hk).1) (fun k hk hne => ⟨hg.block k hk (fun e => hne e.symm), ?_⟩)
    · rw [List.map_append, List.length_append]
      exact hown
    · rcases hblk with q | q
      · rw [q]; exact hne
      · rw [q]; intro e; injection e with e; omega

theorem Row.iterAt {w : World} {B : Nat} {v : Value} {L : List Int} (h : Row w B v L) {b : Nat} (hb : v.ownBlock ≠ some b) (s : ByteArray) (p : Nat) : Row (w.iterAt b s p) B v L := by
  have hg : w.grownBy (w.iterAt b s p) (some b) := ⟨rfl, rfl, rfl, by rw [Lib.iterAt_size]; exact Nat.le_refl _, fun k _ hne => Lib.iterAt_other w b k s p (fun e => hne (by rw [e]))⟩
  refine ⟨h.1.kept hg ?_, h.2⟩
  cases e : v.ownBlock with
  | none => exact .inl rfl
  | some k => right; intro e2; exact hb (by rw [e, ← e2])
theorem posn_ne {t x : Int} (h : Tic.Tri t) : (t == -1) = false := by
  have := h.1
  simp; omega
theorem iRoundOf_nil (t : Int) (w : World) :
    Calls Try.prog 6 #[.int .i64 t, .string ByteArray.empty] w (Gives [] w) := by
  refine gives_nil ?_
  go_enter Try.func6, Try.ntmps6
  go_wp2_with fail
  go_ret
  exact ⟨rfl, Below.refl _ _⟩
theorem iRoundOf_tri (t : Int) (s : ByteArray) (w : World) (h : ¬ Tic.Tri t) (h0 : s.size ≠ 0) :
    Calls Try.prog 6 #[.int .i64 t, .string s] w (Gives [] w) := by
  refine gives_nil ?_
  have hne := wrd_pos h0
  clear h0
  go_enter Try.func6, Try.ntmps6
  go_wp2_with fail
  refine (iWalkOf_tri _ _ _ h).mono ?_; rintro e w1 ⟨rfl, rfl⟩
  go_wp2_with fail
  go_ret
  exact ⟨rfl, Below.refl _ _⟩
theorem iRoundOf_wrd (t : Int) (s : ByteArray) (w : World) (h : Tic.Tri t) (hm : s.size ≤ maxLen) (h0 : s.size ≠ 0) (hs : ¬ Tic.Wrd s) :
    Calls Try.prog 6 #[.int .i64 t, .string s] w (Gives [] w) := by
  refine gives_nil ?_
  have hne := wrd_pos h0
  have HI := Lib.hid (fun w => iWalkOf_yes t s w h hm)
  rw [if_neg hs] at HI
  clear h0 hs hm
  go_enter Try.func6, Try.ntmps6
  go_wp2_with fail
  refine (HI.out _).mono ?_; rintro e w1 ⟨rfl, hb⟩
  go_wp2_with fail
  go_ret
  exact ⟨rfl, hb⟩
set_option maxHeartbeats 800000 in
set_option maxRecDepth 20000 in
theorem iRoundOf_yes (t : Int) (s : ByteArray) (R : Nat) (w : World) (h : Tic.Tri t) (hs : Tic.Wrd s) (h0 : s.size ≠ 0) (hR : Tic.Back t s R) :
    Calls Try.prog 6 #[.int .i64 t, .string s] w (Gives (Tic.rnd t s (R * s.size)) w) := by
  have HI := Lib.hid (fun w => iWalkOf_yes t s w h (Nat.le_trans hs.1 (by decide)))
  rw [if_pos hs] at HI
  have hq1 := posn_ne (x := 0) (Tic.wlk_tri s h s.size)
  have HL := Lib.hid hs.2
  have hsz := hs.1
  have hpos : 0 < s.size := by omega
  have hne := wrd_pos h0
  have HR := Lib.hid hR
  have hR12 := hR.2.1
  clear hs h0 hR
  generalize Tic.wlk t s s.size = x0 at HI hq1
  go_enter Try.func6, Try.ntmps6
  go_wp2_with fail
  refine (HI.out _).mono ?_; rintro e w0 ⟨rfl, hb0⟩
  clear HI
  go_wp2
  go_loopw [5, 6] (fun t5 t6 wr => ∃ r m : Nat, r < R ∧ m ≤ 88 ∧ Hid (m = r * s.size) ∧ t6 = .int .i64 (Tic.posn t s m) ∧ Hid (Row wr w.heap.size t5 (Tic.rnd t s m)) ∧ lenOf t5 = m ∧ Below w.heap.size w wr) (fun t5 _ _ => 100 - lenOf t5)
  case atStart =>
    refine ⟨0, 0, by have := HR.out.1; omega, by omega, Lib.hid (by rw [Nat.zero_mul]), rfl, Lib.hid (Row.nil _ _), rfl, hb0⟩
  case round =>
    obtain ⟨r, m, hr, hm, HM, rfl, HRow, hlen, hbel⟩ := hrel
    have hrow0 := fun k hk => (HRow.out.lt k hk).2
    have HOWN : Hid (∀ k, k = wr.heap.size → u5.ownBlock ≠ some k) := Lib.hid (fun k hk e => by have := hrow0 k e; omega)
    clear hrow0
    go_wp2
    obtain ⟨wo, rfl⟩ : ∃ wo : World, wo = wr := ⟨_, rfl⟩
    go_loopw [5, 6] (fun v5 t6 wi => ∃ k : Nat, k ≤ s.size ∧ t6 = .int .i64 (Tic.posn t s (m + k)) ∧ Hid (Row wi w.heap.size v5 (Tic.rnd t s (m + k))) ∧ Hid (wi.heap[wo.heap.size]? = some (.stringIter s k)) ∧ Hid (∀ k, k = wo.heap.size → v5.ownBlock ≠ some k) ∧ Below w.heap.size w wi) (fun _ _ wi => restOf wi wo.heap.size)
    case atStart => exact ⟨0, Nat.zero_le _, rfl, Lib.hid (HRow.out.alloc _), Lib.hid (World.iter_heap _ _ _), HOWN, hbel.alloc hbel.size _⟩
    case round =>
      obtain ⟨k, hk, rfl, HRi, HI, HO, hbi⟩ := hrel
      have HLEN := Lib.hid (Tic.rnd_length t s (m + k))
      have hB : wo.heap.size < wr.heap.size := (Array.getElem?_eq_some_iff.1 HI.out).1
      have hwo := hbel.size
      by_cases hlt : k < s.size
      · have hl := HL.out k hlt
        have HT := Lib.hid (Tic.posn_tri s h (m + k))
        have HS := Lib.hid (Tic.posn_step (t := t) HM.out hlt)
        have HRND := Lib.hid (show Tic.rnd t s (m + k + 1) = Tic.rnd t s (m + k) ++ [Tic.posn t s (m + k)] from rfl)
        have hn := fun ty => Lib.run_next_any_at (P := Try.prog) wr wo.heap.size s k ty HI.out hlt
        rw [dec_yes hlt hl] at hn
        have HLT := Lib.hid hl
        clear hl
        have HI2 := Lib.hid (Lib.iterAt_heap wr wo.heap.size s k (k + 1) HI.out)
        have hbel2 := Lib.below_iterAt hbi hwo s (k + 1)
        have hB2 : wo.heap.size < (wr.iterAt wo.heap.size s (k + 1)).heap.size := by rw [Lib.iterAt_size]; exact hB
        have HREST := Lib.hid (restOf_eq HI.out)
        have HR2 := Lib.hid (HRi.out.iterAt (HO.out _ rfl) s (k + 1))
        generalize wr.iterAt wo.heap.size s (k + 1) = w2 at hn HI2 hbel2 hB2 HR2
        clear hbi hB
        generalize Tic.posn t s (m + k) = at0 at HT HS HRND ⊢
        go_wp2_with (at_builtin; refine wpList_append_int2 rfl _ _ rfl w.heap.size _ (Tic.rnd t s (m + k)) rfl (HR2.out.alloc _) w2.heap.size 1 at0 rfl ?c1 ?c2 ?c3 ?_)
        case c2 => rw [HLEN.out]; omega
        case c3 => omega
        intro v' w3 hrow hb3 hkk
        obtain ⟨hk1, hk2⟩ := hkk wo.heap.size (by omega) (HO.out _ rfl)
        have HR3 := Lib.hid hrow
        have HI3 := Lib.hid (hk1.trans ((heap_alloc_old _ _ hB2).trans HI2.out))
        have HO3 : Hid (∀ k, k = wo.heap.size → v'.ownBlock ≠ some k) := Lib.hid (fun k hk => by rw [hk]; exact hk2)
        have hbel3 := (hbel2.alloc hbel2.size _).trans hb3
        have hB3 : wo.heap.size < w3.heap.size := (Array.getElem?_eq_some_iff.1 HI3.out).1
        clear hrow hb3 hkk hk1 hk2 hbel2 hB2 hn
        go_wp2_with fail
        refine (behind_yes _ _ _ HT.out HLT.out).mono ?_; rintro e w4 ⟨rfl, hb4⟩
        have HI4 := Lib.hid ((hb4.block _ hB3).trans HI3.out)
        have HR4 := Lib.hid (HR3.out.kept hb4)
        have hbel4 := hbel3.trans (hb4.mono hbel3.size)
        clear hb4 hbel3 hB3
        go_wp2
        go_roundw
        case rel => exact ⟨k + 1, by omega, by rw [← Nat.add_assoc, HS.out], Lib.hid (by rw [← Nat.add_assoc, HRND.out]; exact HR4.out), HI4, HO3, hbel4⟩
        case measure => rw [HREST.out, restOf_eq HI4.out]; omega
      · have : k = s.size := by omega
        subst this
        have hn := fun ty => Lib.run_next_end_at (P := Try.prog) wr wo.heap.size s s.size ty HI.out (Nat.lt_irrefl _)
        have HBK := Lib.hid (Tic.back_next HR.out hr)
        have HMR := Lib.hid (show (r + 1) * s.size = m + s.size by rw [Nat.succ_mul, HM.out])
        rw [HMR.out] at HBK
        have HRN := Lib.hid (show ∀ q, q = R → Tic.rnd t s (q * s.size) = Tic.rnd t s (R * s.size) from fun q e => by rw [e])
        generalize hat : Tic.posn t s (m + s.size) = at0 at HBK ⊢
        have HAT := Lib.hid hat
        clear hat
        rcases HBK.out with ⟨e1, e2⟩ | ⟨e1, e2⟩
        · have hq : (at0 == t) = true := by simpa using e1
          have E2 := Lib.hid e2
          clear e1 e2
          go_wp2
          go_ret
          exact ⟨_, rfl, by rw [← HRN.out _ E2.out, HMR.out]; exact HRi.out, hbi⟩
        · have hq : (at0 == t) = false := by simpa using e1
          clear e1
          go_wp2
          go_roundw
          case rel => exact ⟨r + 1, m + s.size, e2, by rw [← HMR.out]; exact Nat.mul_le_mul (show r + 1 ≤ 11 by omega) hsz, Lib.hid HMR.out.symm, by rw [HAT.out], HRi, by rw [HRi.out.len, HLEN.out], hbi⟩
          case measure => rw [HRi.out.len, HLEN.out, hlen]; omega
end Go.Proofs.Ytjlbgccffpkmiaa
