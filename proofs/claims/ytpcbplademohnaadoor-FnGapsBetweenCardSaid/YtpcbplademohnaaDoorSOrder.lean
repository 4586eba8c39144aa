/-
  The contract of the model's FifthsOf.
-/
import Derived.Test.YtpcbplademohnaaDoorSLess
import Derived.Test.YtpcbplademohnaaDoorGrow
import Derived.Deep.RegionHeld3
import Derived.Deep.Cut
import Derived.Deep.AppendLies
namespace Go.Proofs.YtpcbplademohnaaDoor
open Go.RowKit Go.Sort
set_option linter.unusedVariables false
set_option maxRecDepth 20000

/-- the slices of the tones of a list, out of those of all tones -/
def els (vs : List Value) (C : List (Fin 12)) : List Value := C.map fun x => vs.getD x.val undef
/-- a list that the call made, of slices that lie between two marks; its own block lies outside -/
def Outs (w : World) (B B1 S1 : Nat) (v : Value) (xs : List Value) : Prop := w.ownsRow B 29 1 v xs.length xs ∧ v ≠ .slice none 0 0 ∧ ∀ q, v.ownBlock = some q → q < B1 ∨ S1 ≤ q
theorem Outs.kept {w w' : World} {B B1 S1 : Nat} {v : Value} {xs : List Value} (h : Outs w B B1 S1 v xs) (hb : Below w.heap.size w w') : Outs w' B B1 S1 v xs :=
  ⟨h.1.kept (row := none) ⟨hb.os, hb.tape, hb.output, hb.size, fun k hk _ => hb.block k hk⟩ (by cases v.ownBlock <;> simp), h.2⟩
theorem Outs.cases {w : World} {B B1 S1 : Nat} {v : Value} {xs : List Value} (h : Outs w B B1 S1 v xs) :
    ∃ g cap, v = .slice (some ⟨g, 0, none⟩) xs.length cap ∧ B ≤ g ∧ g < w.heap.size ∧ xs.length ≤ cap ∧ ∀ j, j < xs.length → w.cell? ⟨g, j, none⟩ = some (xs.getD j undef) := by
  have h1 := h.1
  rcases h1.2 with ⟨e, _⟩ | ⟨g, cap, cur, e, hg, hb, r1, r2, r3, r4⟩
  · exact absurd e h.2.1
  · subst e
    refine ⟨g, cap, rfl, hg, (Array.getElem?_eq_some_iff.1 hb).1, r1, fun j hj => ?_⟩
    rw [h1.cellAt _ (by omega), List.getD_eq_getElem?_getD, List.getElem?_eq_getElem hj]
    rfl
/-- an append at a step of a region that draws its order -/
theorem step_app {ops : Array Oper} {o : Oper} {a : Act} {w : World} {K : Act → World → Prop} {Q : Exit → Act → World → Prop} {E : Prop} (hgd : o.guard = none) (s x : Operand)
    (ho : o.op = .call { callee := .builtin .append, args := #[s, x], argTypes := #[22, 22] })
    (B : Nat) (v : Value) (n : Nat) (xs : List Value) (hs : a.eval s = v) (hown : w.ownsRow B 29 1 v n xs)
    (ad : Addr) (m c : Nat) (news : List Value) (hx : a.eval x = .slice (some ad) m c) (hl : news.length = m) (hnews : ∀ j u, news[j]? = some u → w.cell? (ad.add j) = some u) (h1 : ∀ u ∈ news, u.oneCell' = true)
    (hn : n + m ≤ 64) (hB : B ≤ w.heap.size)
    (h : ∀ v' w', w'.ownsRow B 29 1 v' (n + m) (xs ++ news) → w.grownBy w' v.ownBlock → (v' = .slice none 0 0 ↔ v = .slice none 0 0 ∧ m = 0) → (v'.ownBlock = v.ownBlock ∨ v'.ownBlock = some w.heap.size) → K (a.put o.dst v') w') :
    if Region.wanted o (yielded ops a.tmps) = true then Oper.wp Tryd.prog o a w K Q else E := by
  have hw : Region.wanted o (yielded ops a.tmps) = true := by simp [Region.wanted, hgd]
  rw [if_pos hw]
  obtain ⟨i0, hi, hz0, hz1, hz2⟩ := info_parts3 info_slice
  obtain ⟨v', w', hr, h2, h3, h4, h5⟩ := run_append_own_at (P := Tryd.prog) w B 22 o.type 29 i0 (.slice none 0 0) 1 24 Tryd.underlying22 hi hz0 hz1 hz2 rfl (by decide) v n xs hown ad m c news (by omega) hnews h1 (by unfold maxLen; omega) (by omega) hB
  unfold Oper.wp execOp
  simp only [ho, resolve, invoke, builtin, Sem.run_bind, Sem.run_pure, Result.andThen_ok, List.map_toArray, List.map_cons, List.map_nil, hs, hx, hr]
  exact h v' w' h2 h3 h4 h5
/-- the same, and what it leaves of the world V ahead of the region -/
theorem step_app2 {ops : Array Oper} {o : Oper} {a : Act} {w : World} {K : Act → World → Prop} {Q : Exit → Act → World → Prop} {E : Prop} (hgd : o.guard = none) (s x : Operand)
    (ho : o.op = .call { callee := .builtin .append, args := #[s, x], argTypes := #[22, 22] })
    (V : World) (B : Nat) (v : Value) (n : Nat) (xs : List Value) (hs : a.eval s = v) (ad : Addr) (m c : Nat) (news : List Value) (hx : a.eval x = .slice (some ad) m c)
    (hk : Below V.heap.size V w) (hown : w.ownsRow B 29 1 v n xs) (hv : ∀ q, v.ownBlock = some q → V.heap.size ≤ q) (hl : news.length = m) (hnews : ∀ j u, news[j]? = some u → w.cell? (ad.add j) = some u) (h1 : ∀ u ∈ news, u.oneCell' = true)
    (hn : n + m ≤ 64) (hB : B ≤ V.heap.size)
    (h : ∀ v' w', w'.ownsRow B 29 1 v' (n + m) (xs ++ news) → Below V.heap.size V w' → (∀ q, v'.ownBlock = some q → V.heap.size ≤ q) → (v' = .slice none 0 0 ↔ v = .slice none 0 0 ∧ m = 0) →
      (∀ b u, v.ownBlock ≠ some b → w.cell? ⟨b, 0, none⟩ = some u → w'.cell? ⟨b, 0, none⟩ = some u) → K (a.put o.dst v') w') :
    if Region.wanted o (yielded ops a.tmps) = true then Oper.wp Tryd.prog o a w K Q else E :=
  step_app hgd s x ho B v n xs hs hown ad m c news hx hl hnews h1 hn (Nat.le_trans hB hk.size) fun v' w' h1 h2 h3 h4 => h v' w' h1 (hk.grown h2 hk.size (fun q hq => hv q hq))
    (fun q hq => by
      rcases h4 with e | e
      · exact hv q (e ▸ hq)
      · rw [hq] at e; injection e with e; rw [e]; exact hk.size) h3
    (fun b u hb hc => (h2.cell_far _ (block_lt_of_cell hc) (fun e => hb e.symm)).trans hc)
theorem add_off (g o j : Nat) : (⟨g, o, none⟩ : Addr).add j = ⟨g, o + j, none⟩ := by unfold Addr.add; split <;> simp_all
theorem one_news {W : World} {b : Nat} {u : Value} (h : W.cell? ⟨b, 0, none⟩ = some u) : ∀ j x, [u][j]? = some x → W.cell? ((⟨b, 0, none⟩ : Addr).add j) = some x := fun j x hj => by
  match j, hj with
  | 0, hj => simp at hj; subst hj; rw [add_off]; exact h
theorem made_owns {w : World} {B b : Nat} (hb : b = w.heap.size) (hB : B ≤ w.heap.size) : (w.alloc (.cells #[] 29)).ownsRow B 29 1 (.slice (some ⟨b, 0, none⟩) 0 0) 0 [] := by
  subst hb
  exact ⟨rfl, .inr ⟨w.heap.size, 0, #[], rfl, hB, heap_alloc_new w _, Nat.le_refl _, by unfold maxLen; omega, rfl, rfl⟩⟩
theorem els_next (vs : List Value) (i : Nat) (hi : i < 12) (k : Nat) (hk : k = Tic.pos (Tic.chain i) ⟨i, hi⟩) :
    els vs (Tic.chain (i + 1)) = [] ++ (els vs (Tic.chain i)).take k ++ [vs.getD i undef] ++ (els vs (Tic.chain i)).drop k := by
  have e : Fin.ofNat 12 i = ⟨i, hi⟩ := by apply Fin.ext; exact ofNat_val hi
  unfold els
  rw [Tic.chain, e, ← hk]
  simp
theorem outs_of {w : World} {B B1 S1 : Nat} {v : Value} {n : Nat} {xs : List Value} (h : w.ownsRow B 29 1 v n xs) (h1 : v ≠ .slice none 0 0) (h2 : ∀ q, v.ownBlock = some q → q < B1 ∨ S1 ≤ q) (hn : n = xs.length) : Outs w B B1 S1 v xs := by
  subst hn; exact ⟨h, h1, h2⟩
theorem chain_nd : ∀ n : Fin 13, (Tic.chain n.val).Nodup := by decide +kernel
theorem outs_lists {w2 w : World} {B B1 S1 : Nat} {v v4 : Value} {vs4 : List Value} {n : Nat} (hl : Lists w2 B1 v4 vs4 ((Tic.tones n).map vec3)) (hb : Below w2.heap.size w2 w) (hS : S1 = w2.heap.size) (hB : B ≤ B1) (hn : n ≤ 12) (h : Outs w B B1 S1 v (els vs4 (Tic.chain n))) :
    Lists w B v (els vs4 (Tic.chain n)) ((Tic.chain n).map vec3) := by
  subst hS
  have hcl := Tic.chain_len hn
  have hel : (els vs4 (Tic.chain n)).length = n := by simp [els, hcl]
  have hml : ((Tic.chain n).map vec3).length = n := by simp [hcl]
  have hat : ∀ i, i < n → ∃ x : Fin 12, x.val < n ∧ (Tic.chain n)[i]? = some x ∧ (els vs4 (Tic.chain n)).getD i undef = vs4.getD x.val undef ∧ ((Tic.chain n).map vec3).getD i [] = vec3 x := fun i hi => by
    have hl0 := Tic.chain_lt hn hi
    rw [List.getD_eq_getElem?_getD, List.getElem?_eq_getElem (by omega), Option.getD_some] at hl0
    refine ⟨(Tic.chain n)[i], hl0, List.getElem?_eq_getElem (by omega), ?_, ?_⟩
    · unfold els
      rw [List.getD_eq_getElem?_getD, List.getElem?_map, List.getElem?_eq_getElem (by omega)]; rfl
    · rw [List.getD_eq_getElem?_getD, List.getElem?_map, List.getElem?_eq_getElem (by omega)]; rfl
  have hrow : ∀ x : Fin 12, x.val < n → Row w2 B1 (vs4.getD x.val undef) (vec3 x) := fun x hx => by
    have hr := (hl.2.2.2.1 x.val (by rw [List.length_map, tones_len]; exact hx)).1
    have e : ((Tic.tones n).map vec3).getD x.val [] = vec3 x := by
      rw [List.getD_eq_getElem?_getD, List.getElem?_eq_getElem (by rw [List.length_map, tones_len]; exact hx), List.getElem_map, tones_at hx]
      have : Fin.ofNat 12 x.val = x := by apply Fin.ext; exact ofNat_val x.isLt
      rw [this]; rfl
    rw [e] at hr
    exact hr
  refine ⟨by omega, by omega, ?_, fun i hi => ?_, fun i j k hij hj hk => ?_⟩
  · have := h.1; rw [hel] at this; rw [hml]; exact this
  · obtain ⟨x, hx, _, e1, e2⟩ := hat i (by omega)
    rw [e1, e2]
    refine ⟨((hrow x hx).kept hb).mono hB, fun k hk e => ?_⟩
    have h3 := (hrow x hx).lt k hk
    have := h.2.2 k e
    omega
  · obtain ⟨x, hx, hx1, e1, _⟩ := hat i (by omega)
    obtain ⟨y, hy, hy1, e2, _⟩ := hat j (by omega)
    rw [e1] at hk
    rw [e2]
    have hne : x.val ≠ y.val := fun e => by
      have e' : x = y := Fin.ext e
      subst e'
      have hnd := chain_nd ⟨n, by omega⟩
      have hil : i < (Tic.chain n).length := by omega
      have := (List.getElem?_inj (i := i) (j := j) hil hnd).1 (hx1.trans hy1.symm)
      omega
    have hlen : ((Tic.tones n).map vec3).length = n := by rw [List.length_map, tones_len]
    rcases Nat.lt_or_gt_of_ne hne with q | q
    · exact hl.2.2.2.2 x.val y.val k q (by omega) hk
    · exact fun e => hl.2.2.2.2 y.val x.val k q (by omega) e hk
theorem below2 (V : World) (a b : Obj) : Below V.heap.size V ((V.alloc a).alloc b) := ((Below.refl _ _).alloc (Nat.le_refl _) a).alloc (by simp) b
theorem new_cell (w : World) (u : Value) (t : TypeId) (n : Nat) (h : n = w.heap.size) : (w.alloc (.cells #[u] t)).cell? ⟨n, 0, none⟩ = some u := by
  rw [World.cell?_alloc_at _ _ _ _ h]; rfl
theorem old_cell {w : World} {b : Nat} {u : Value} (o : Obj) (h : w.cell? ⟨b, 0, none⟩ = some u) : (w.alloc o).cell? ⟨b, 0, none⟩ = some u :=
  (World.cell?_alloc_lt w o _ (block_lt_of_cell h)).trans h
set_option maxHeartbeats 2000000 in
theorem sFifths_yes (n : Nat) (w : World) (h1 : 1 ≤ n) (h2 : n ≤ 12) :
    Calls Tryd.prog 7 #[.int .i64 n] w (GivesLists ((Tic.chain n).map vec3) w) := by
  have HS := Lib.hid (fun w => sfifths_any n w h2)
  have HO0 : Hid (Outs (w.alloc (.cells #[] 29)) w.heap.size (w.heap.size + 1) (w.heap.size + 1) (.slice (some ⟨w.heap.size, 0, none⟩) 0 0) []) := Lib.hid ⟨World.ownsRow_made w #[] 0 (Nat.le_refl _) (by decide) rfl, by simp, fun q hq => by simp [Value.ownBlock] at hq; omega⟩
  have HB0 := Lib.hid ((Below.refl w.heap.size w).alloc (Nat.le_refl _) (.cells #[] 29))
  have hz0 : (w.alloc (.cells #[] 29)).heap.size = w.heap.size + 1 := by simp
  go_enter Tryd.func7, Tryd.ntmps7
  go_wp2_with fail
  refine (inRange_yes _ _ _ _ (by omega) (by omega)).mono ?_; rintro e w' ⟨rfl, rfl⟩
  go_wp2_with fail
  generalize w.alloc (.cells #[] 29) = w1 at *
  refine (HS.out _).mono ?_; rintro e w2 ⟨v4, vs4, rfl, hl, hb⟩
  have hz2 := hb.size
  have HL := Lib.hid hl
  have HLB := Lib.hid hl.blocks
  have HOUT : Hid (Outs w2 w.heap.size w1.heap.size w2.heap.size (.slice (some ⟨w.heap.size, 0, none⟩) 0 0) (els vs4 (Tic.chain 0))) := Lib.hid (by
    have := HO0.out.kept hb
    exact ⟨this.1, by simp, fun q hq => .inl (by simp [Value.ownBlock] at hq; omega)⟩)
  have HB2 := Lib.hid (HB0.out.trans (hb.mono (by omega)))
  have hv4 : ∃ g4 c4, v4 = .slice (some ⟨g4, 0, none⟩) n c4 ∧ w1.heap.size ≤ g4 ∧ g4 < w2.heap.size := by
    have h3 := hl.2.2.1
    rw [List.length_map, tones_len] at h3
    rcases h3.2 with ⟨_, e⟩ | ⟨g, cap, cur, e, hg, hh, r⟩
    · omega
    · exact ⟨g, cap, e, hg, (Array.getElem?_eq_some_iff.1 hh).1⟩
  obtain ⟨g4, c4, rfl, hg4, hg4b⟩ := hv4
  clear hl hb HO0 HB0 HS
  go_wp2
  go_loopw [3, 5] (fun t3 t5 wr => ∃ i : Nat, i ≤ n ∧ t5 = .int .i64 i ∧ Hid (Outs wr w.heap.size w1.heap.size w2.heap.size t3 (els vs4 (Tic.chain i))) ∧ Hid (Below w2.heap.size w2 wr)) (fun _ t5 _ => n - (intOf t5).toNat)
  case atStart => exact ⟨0, Nat.zero_le _, rfl, HOUT, Below.refl _ _⟩
  case round =>
    obtain ⟨i, hi, rfl, HO, HB⟩ := hrel
    clear HOUT
    by_cases hlt : i < n
    · have hcl := Tic.chain_len (n := i) (by omega)
      have HPT := Lib.hid (Tic.pos_tab ⟨i, by omega⟩)
      obtain ⟨g, cap, rfl, hg, hgl, hcap, hcell⟩ := HO.out.cases
      have hel : ∀ C : List (Fin 12), (els vs4 C).length = C.length := fun C => by simp [els]
      have HVX : Hid (∀ x : Fin 12, x.val < n → ∃ gx mx, vs4.getD x.val undef = .slice (some ⟨gx, 0, none⟩) 3 mx ∧ Row w2 w1.heap.size (.slice (some ⟨gx, 0, none⟩) 3 mx) (vec3 x)) := fun x hx => by
        have hr := (HL.out.2.2.2.1 x.val (by rw [List.length_map, tones_len]; exact hx)).1
        have e : ((Tic.tones n).map vec3).getD x.val [] = vec3 x := by
          rw [List.getD_eq_getElem?_getD, List.getElem?_eq_getElem (by rw [List.length_map, tones_len]; exact hx), List.getElem_map, tones_at hx]
          have : Fin.ofNat 12 x.val = x := by apply Fin.ext; exact ofNat_val x.isLt
          rw [this]; rfl
        rw [e] at hr
        have h3 := hr
        unfold vec3 at h3
        obtain ⟨gx, mx, e2, _⟩ := h3.three
        rw [e2] at hr
        exact ⟨gx, mx, e2, hr⟩
      obtain ⟨gi, mi, ei, hri⟩ := HVX.out ⟨i, by omega⟩ hlt
      have l4 : w2.cell? ⟨g4, i, none⟩ = some (.slice (some ⟨gi, 0, none⟩) 3 mi) := by
        have h3 := HL.out.2.2.1
        rw [List.length_map, tones_len] at h3
        rw [h3.cellAt i (by omega), ← ei, List.getD_eq_getElem?_getD]
        have := HL.out.2.1
        rw [List.length_map, tones_len] at this
        rw [List.getElem?_eq_getElem (by show i < vs4.length; omega)]
        rfl
      have HRI := Lib.hid hri
      have HL4 := Lib.hid l4
      have hgz4 := hg4b
      clear hri l4
      obtain ⟨P, hP⟩ : ∃ P, P = Tic.pos (Tic.chain i) ⟨i, by omega⟩ := ⟨_, rfl⟩
      have HPQ := Lib.hid hP
      have hPi : P ≤ i := by rw [hP]; exact HPT.out.1
      clear hP
      have hli : (els vs4 (Tic.chain i)).length = i := by rw [hel, hcl]
      rw [hli] at hcap
      rw [hli]
      have HCELL := Lib.hid hcell
      clear hcell
      go_upto_region 8 with fail
      go_wp2
      generalize wr = W0 at *
      go_loopw [6] (fun t6 wr => ∃ k : Nat, k ≤ P ∧ t6 = .int .i64 k ∧ Hid (Below W0.heap.size W0 wr)) (fun t6 _ => P - (intOf t6).toNat)
      case atStart => exact ⟨0, Nat.zero_le _, rfl, Below.refl _ _⟩
      case round =>
        obtain ⟨k, hk, rfl, HBk⟩ := hrel
        by_cases hki : k < i
        · have hcell := HCELL.out
          have hxi := Tic.chain_lt (n := i) (k := k) (by omega) hki
          obtain ⟨x, hx⟩ : ∃ x, x = (Tic.chain i).getD k 0 := ⟨_, rfl⟩
          have hc1 := hcell k (by rw [hel, hcl]; exact hki)
          have hek : (els vs4 (Tic.chain i)).getD k undef = vs4.getD x.val undef := by
            rw [hx]
            unfold els
            rw [List.getD_eq_getElem?_getD, List.getD_eq_getElem?_getD (l := Tic.chain i), List.getElem?_map, List.getElem?_eq_getElem (by rw [hcl]; exact hki)]
            rfl
          rw [← hx] at hxi
          obtain ⟨gx, mx, ex, hrx⟩ := HVX.out x (by omega)
          rw [hek, ex] at hc1
          have d1 : wr.cell? ⟨g, k, none⟩ = some (.slice (some ⟨gx, 0, none⟩) 3 mx) := (HBk.out.cell (p := ⟨g, k, none⟩) hgl).trans hc1
          have d2 : wr.cell? ⟨g4, i, none⟩ = some (.slice (some ⟨gi, 0, none⟩) 3 mi) := (HBk.out.cell (p := ⟨g4, i, none⟩) (by have := HB.out.size; show g4 < _; omega)).trans ((HB.out.cell (p := ⟨g4, i, none⟩) hg4b).trans HL4.out)
          have HR1 := Lib.hid ((hrx.kept HB.out).kept HBk.out)
          have HR2 := Lib.hid ((HRI.out.kept HB.out).kept HBk.out)
          have HLS := Lib.hid (fun W hb => sLess_any (.slice (some ⟨gx, 0, none⟩) 3 mx) (.slice (some ⟨gi, 0, none⟩) 3 mi) w1.heap.size w1.heap.size x ⟨i, by omega⟩ W (HR1.out.kept hb) (HR2.out.kept hb))
          have HCY : Hid (k < P → Tic.less x ⟨i, by omega⟩ = true) := Lib.hid (fun h => by rw [hx]; exact HPT.out.2.1 ⟨k, by omega⟩ (by rw [HPQ.out] at h; exact h))
          have HCN : Hid (k = P → Tic.less x ⟨i, by omega⟩ = false) := Lib.hid (fun h => by
            have := HPT.out.2.2 (by rw [← HPQ.out, ← h]; exact hki)
            rw [hx, h, HPQ.out]; exact this)
          generalize Tic.less x ⟨i, by omega⟩ = b at *
          clear hc1 hek hcell ex hrx hx hxi
          have hgw : g < wr.heap.size := by have := HBk.out.size; omega
          have hg4w : g4 < wr.heap.size := by have := HBk.out.size; have := HB.out.size; omega
          have hk0 : Below wr.heap.size wr wr := Below.refl _ _
          have i1 : (k : Int) < (i : Int) := by omega
          have i2 : (i : Int) < (n : Int) := by omega
          have i3 : (0 : Int) ≤ (k : Int) := by omega
          have i4 : (0 : Int) ≤ (i : Int) := by omega
          have hd : decide ((k : Int) < (i : Int)) = true := decide_eq_true i1
          go_wp2_with fail
          go_region_held3 (fun w' => w'.cell? ⟨g, k, none⟩ = some (.slice (some ⟨gx, 0, none⟩) 3 mx) ∧ w'.cell? ⟨g4, i, none⟩ = some (.slice (some ⟨gi, 0, none⟩) 3 mi))
            (exact ⟨(hk0.cell (p := ⟨g, k, none⟩) hgw).trans d1, (hk0.cell (p := ⟨g4, i, none⟩) hg4w).trans d2⟩)
            (first | (go_at_call 23; refine (HLS.out _ (by first | exact hk0 | exact hk0.drew)).mono ?_; rintro e w7 ⟨rfl, hb⟩; replace hk0 : Below wr.heap.size wr w7 := (by first | exact grow1p hk0 hb | exact grow0p hk0 hb); clear hb) | fail)
          have HBn := Lib.hid (HBk.out.trans (hk0.mono HBk.out.size))
          clear hk0 HBk HLS d1 d2
          by_cases hkP : k < P
          · obtain rfl := HCY.out hkP
            go_wp2
            go_roundw
            case rel => exact ⟨k + 1, by omega, by go_num, HBn⟩
            case measure => simp [intOf]; omega
          · obtain rfl : k = P := by omega
            obtain rfl := HCN.out rfl
            go_wp2
            generalize w7 = V at *
            have hgV : g < V.heap.size := by have := HBn.out.size; omega
            have hg4V : g4 < V.heap.size := by have := HBn.out.size; have := HB.out.size; omega
            have d4 : V.cell? ⟨g4, i, none⟩ = some (.slice (some ⟨gi, 0, none⟩) 3 mi) := (HBn.out.cell (p := ⟨g4, i, none⟩) (by have := HB.out.size; show g4 < _; omega)).trans ((HB.out.cell (p := ⟨g4, i, none⟩) hg4b).trans HL4.out)
            have HCR : Hid (∀ W, Below V.heap.size V W → ∀ j, j < i → W.cell? ⟨g, j, none⟩ = some ((els vs4 (Tic.chain i)).getD j undef)) := fun W hb j hj => (hb.cell (p := ⟨g, j, none⟩) hgV).trans ((HBn.out.cell (p := ⟨g, j, none⟩) hgl).trans (HCELL.out j (by rw [hli]; exact hj)))
            have HN1 : Hid (∀ W, Below V.heap.size V W → ∀ j u, ((els vs4 (Tic.chain i)).take k)[j]? = some u → W.cell? ((⟨g, 0, none⟩ : Addr).add j) = some u) := fun W hb j u hu => by
              rw [List.getElem?_take] at hu
              split at hu
              · rename_i hjk
                have := HCR.out W hb j (by omega)
                rw [List.getD_eq_getElem?_getD, hu] at this
                rw [add_off]; simpa using this
              · cases hu
            have HN3 : Hid (∀ W, Below V.heap.size V W → ∀ j u, ((els vs4 (Tic.chain i)).drop k)[j]? = some u → W.cell? ((⟨g, k, none⟩ : Addr).add j) = some u) := fun W hb j u hu => by
              rw [List.getElem?_drop] at hu
              have hlt3 : k + j < i := by
                have := (List.getElem?_eq_some_iff.1 hu).1
                rw [hli] at this; exact this
              have := HCR.out W hb (k + j) hlt3
              rw [List.getD_eq_getElem?_getD, hu] at this
              rw [add_off]; simpa using this
            have HONE : Hid (∀ u ∈ els vs4 (Tic.chain i), u.oneCell' = true) := fun u hu => by
              obtain ⟨x0, hx0, rfl⟩ := List.mem_map.1 hu
              obtain ⟨kk, hkk, rfl⟩ := List.getElem_of_mem hx0
              have hlt4 := Tic.chain_lt (n := i) (k := kk) (by omega) (by rw [hcl] at hkk; exact hkk)
              rw [List.getD_eq_getElem?_getD, List.getElem?_eq_getElem hkk, Option.getD_some] at hlt4
              obtain ⟨_, _, e5, _⟩ := HVX.out _ (Nat.lt_trans hlt4 hlt)
              rw [e5]; rfl
            have hs0 : w.heap.size ≤ V.heap.size := by have := HBn.out.size; have := HB.out.size; omega
            have ht1 : ((els vs4 (Tic.chain i)).take k).length = k := by rw [List.length_take, hli]; omega
            have ht2 : ((els vs4 (Tic.chain i)).drop k).length = i - k := by rw [List.length_drop, hli]
            have hk0 : Below V.heap.size V V := Below.refl _ _
            have j1 : (k : Int) ≤ (cap : Int) := by omega
            have j2 : (k : Int) ≤ (i : Int) := by omega
            have j3 : ¬ cap = k := by omega
            have j4 : k ≤ cap := by omega
            have j5 : k ≤ i := by omega
            have j6 : (i : Int) ≤ (cap : Int) := by omega
            go_region_held3 (fun w' => w'.cell? ⟨g4, i, none⟩ = some (.slice (some ⟨gi, 0, none⟩) 3 mi))
              (first | go_keep | exact (hk0.cell (p := ⟨g4, i, none⟩) hg4V).trans d4)
              (first | (refine step_app2 (by rfl) _ _ (by rfl) V w.heap.size (.slice (some ⟨V.heap.size, 0, none⟩) 0 0) 0 [] (by rfl) ⟨g, 0, none⟩ k cap ((els vs4 (Tic.chain i)).take k) (by rfl) ?_ ?_ ?_ ?_ ?_ ?_ ?_ ?_ ?_; (first | exact hk0 | exact hk0.drew | exact hk0.alloc hk0.size _ | exact (hk0.alloc hk0.size _).drew | exact below2 _ _ _ | exact (below2 _ _ _).drew); (first | exact made_owns rfl hs0 | exact (made_owns rfl hs0).drew); (intro q hq; simp [Value.ownBlock] at hq; omega); exact ht1; (refine HN1.out _ ?_; (first | exact hk0 | exact hk0.drew | exact hk0.alloc hk0.size _ | exact (hk0.alloc hk0.size _).drew | exact below2 _ _ _ | exact (below2 _ _ _).drew)); exact (fun u hu => HONE.out u (List.mem_of_mem_take hu)); omega; exact hs0; (intro v1 W1 ho1 hk1 hq1 hn1 hc1; replace hk0 := hk1; clear hc1 hk1)) | (refine step_app2 (by rfl) _ _ (by rfl) V w.heap.size (.slice (some ⟨V.heap.size, 0, none⟩) 0 0) 0 [] (by rfl) ⟨g, 0, none⟩ k cap ((els vs4 (Tic.chain i)).take k) (by rfl) ?_ ?_ ?_ ?_ ?_ ?_ ?_ ?_ ?_; (first | exact hk0 | exact hk0.drew | exact hk0.alloc hk0.size _ | exact (hk0.alloc hk0.size _).drew | exact below2 _ _ _ | exact (below2 _ _ _).drew); (first | exact (made_owns rfl hs0).alloc _ | exact ((made_owns rfl hs0).alloc _).drew); (intro q hq; simp [Value.ownBlock] at hq; omega); exact ht1; (refine HN1.out _ ?_; (first | exact hk0 | exact hk0.drew | exact hk0.alloc hk0.size _ | exact (hk0.alloc hk0.size _).drew | exact below2 _ _ _ | exact (below2 _ _ _).drew)); exact (fun u hu => HONE.out u (List.mem_of_mem_take hu)); omega; exact hs0; (intro v1 W1 ho1 hk1 hq1 hn1 hc1; have hc45 : W1.cell? ⟨V.heap.size + 1, 0, none⟩ = some (.slice (some ⟨gi, 0, none⟩) 3 mi) := hc1 _ _ (by simp [Value.ownBlock]) (by first | exact new_cell _ _ _ _ (by simp) | exact old_cell _ (new_cell _ _ _ _ (by simp))); replace hk0 := hk1; clear hc1 hk1)) | (refine step_app2 (by rfl) _ _ (by rfl) V w.heap.size (.slice (some ⟨V.heap.size + 1, 0, none⟩) 0 0) 0 [] (by rfl) ⟨g, 0, none⟩ k cap ((els vs4 (Tic.chain i)).take k) (by rfl) ?_ ?_ ?_ ?_ ?_ ?_ ?_ ?_ ?_; (first | exact hk0 | exact hk0.drew | exact hk0.alloc hk0.size _ | exact (hk0.alloc hk0.size _).drew | exact below2 _ _ _ | exact (below2 _ _ _).drew); (first | exact made_owns (by simp) (by simp; omega) | exact (made_owns (by simp) (by simp; omega)).drew); (intro q hq; simp [Value.ownBlock] at hq; omega); exact ht1; (refine HN1.out _ ?_; (first | exact hk0 | exact hk0.drew | exact hk0.alloc hk0.size _ | exact (hk0.alloc hk0.size _).drew | exact below2 _ _ _ | exact (below2 _ _ _).drew)); exact (fun u hu => HONE.out u (List.mem_of_mem_take hu)); omega; exact hs0; (intro v1 W1 ho1 hk1 hq1 hn1 hc1; have hc45 : W1.cell? ⟨V.heap.size, 0, none⟩ = some (.slice (some ⟨gi, 0, none⟩) 3 mi) := hc1 _ _ (by simp [Value.ownBlock]) (by first | exact new_cell _ _ _ _ (by simp) | exact old_cell _ (new_cell _ _ _ _ (by simp))); replace hk0 := hk1; clear hc1 hk1)) | (refine step_app2 (by rfl) _ _ (by rfl) V w.heap.size v1 (0 + k) ([] ++ (els vs4 (Tic.chain i)).take k) (by rfl) ⟨V.heap.size, 0, none⟩ 1 1 [.slice (some ⟨gi, 0, none⟩) 3 mi] (by rfl) ?_ ?_ ?_ ?_ ?_ ?_ ?_ ?_ ?_; (first | exact hk0 | exact hk0.drew | exact hk0.alloc hk0.size _ | exact (hk0.alloc hk0.size _).drew | exact below2 _ _ _ | exact (below2 _ _ _).drew); (first | exact ho1 | exact ho1.drew | exact ho1.alloc _ | exact (ho1.alloc _).drew); exact hq1; rfl; (refine one_news ?_; first | assumption | exact new_cell _ _ _ _ (by simp)); (intro u hu; simp at hu; subst hu; rfl); omega; exact hs0; (intro v2 W2 ho2 hk2 hq2 hn2 hc2; replace hk0 := hk2; clear hc2 hk2)) | (refine step_app2 (by rfl) _ _ (by rfl) V w.heap.size v1 (0 + k) ([] ++ (els vs4 (Tic.chain i)).take k) (by rfl) ⟨V.heap.size + 1, 0, none⟩ 1 1 [.slice (some ⟨gi, 0, none⟩) 3 mi] (by rfl) ?_ ?_ ?_ ?_ ?_ ?_ ?_ ?_ ?_; (first | exact hk0 | exact hk0.drew | exact hk0.alloc hk0.size _ | exact (hk0.alloc hk0.size _).drew | exact below2 _ _ _ | exact (below2 _ _ _).drew); (first | exact ho1 | exact ho1.drew | exact ho1.alloc _ | exact (ho1.alloc _).drew); exact hq1; rfl; (refine one_news ?_; first | assumption | exact new_cell _ _ _ _ (by simp)); (intro u hu; simp at hu; subst hu; rfl); omega; exact hs0; (intro v2 W2 ho2 hk2 hq2 hn2 hc2; replace hk0 := hk2; clear hc2 hk2)) | (refine step_app2 (by rfl) _ _ (by rfl) V w.heap.size v1 (0 + k) ([] ++ (els vs4 (Tic.chain i)).take k) (by rfl) ⟨W1.heap.size, 0, none⟩ 1 1 [.slice (some ⟨gi, 0, none⟩) 3 mi] (by rfl) ?_ ?_ ?_ ?_ ?_ ?_ ?_ ?_ ?_; (first | exact hk0 | exact hk0.drew | exact hk0.alloc hk0.size _ | exact (hk0.alloc hk0.size _).drew | exact below2 _ _ _ | exact (below2 _ _ _).drew); (first | exact ho1 | exact ho1.drew | exact ho1.alloc _ | exact (ho1.alloc _).drew); exact hq1; rfl; (refine one_news ?_; first | assumption | exact new_cell _ _ _ _ (by simp)); (intro u hu; simp at hu; subst hu; rfl); omega; exact hs0; (intro v2 W2 ho2 hk2 hq2 hn2 hc2; replace hk0 := hk2; clear hc2 hk2)) | (refine step_app2 (by rfl) _ _ (by rfl) V w.heap.size v2 (0 + k + 1) ([] ++ (els vs4 (Tic.chain i)).take k ++ [.slice (some ⟨gi, 0, none⟩) 3 mi]) (by rfl) ⟨g, k, none⟩ (i - k) (cap - k) ((els vs4 (Tic.chain i)).drop k) (by rfl) ?_ ?_ ?_ ?_ ?_ ?_ ?_ ?_ ?_; (first | exact hk0 | exact hk0.drew | exact hk0.alloc hk0.size _ | exact (hk0.alloc hk0.size _).drew | exact below2 _ _ _ | exact (below2 _ _ _).drew); exact ho2; exact hq2; exact ht2; (refine HN3.out _ ?_; (first | exact hk0 | exact hk0.drew | exact hk0.alloc hk0.size _ | exact (hk0.alloc hk0.size _).drew | exact below2 _ _ _ | exact (below2 _ _ _).drew)); exact (fun u hu => HONE.out u (List.mem_of_mem_drop hu)); omega; exact hs0; (intro v3 W3 ho3 hk3 hq3 hn3 hc3; replace hk0 := hk3; clear hc3 hk3)) | fail)
            all_goals
              have HN : Hid (Outs W3 w.heap.size w1.heap.size w2.heap.size v3 (els vs4 (Tic.chain (i + 1)))) := Lib.hid (by
                have hsz := HBn.out.size
                have hsz2 := HB.out.size
                have e := els_next vs4 i (by omega) k HPQ.out
                rw [ei] at e
                rw [e]
                refine outs_of ho3 ?_ (fun q hq => .inr (by have := hq3 q hq; omega)) ?_
                · intro hv; have := (hn3.1 hv).1; have := (hn2.1 this).2; omega
                · simp only [List.length_append, ht1, ht2, List.length_cons, List.length_nil])
              have HB9 : Hid (Below w2.heap.size w2 W3) := Lib.hid (HB.out.trans ((HBn.out.trans (hk0.mono HBn.out.size)).mono HB.out.size))
              clear hk0 ho1 ho2 ho3 hq1 hq2 hq3 hn1 hn2 hn3 HBn HCR HN1 HN3 HONE
              go_wp2
              go_roundw
              case rel => exact ⟨i + 1, by omega, by go_num, HN, HB9⟩
              case measure => simp [intOf]; omega
        · have hki' : k = i := by omega
          have i2 : (i : Int) < (n : Int) := by omega
          have hd : decide ((k : Int) < (i : Int)) = false := decide_eq_false (by omega)
          obtain rfl : k = P := by omega
          have HKI := Lib.hid hki'
          clear hki' hk hPi
          go_wp2_with fail
          have hk0 : Below wr.heap.size wr wr := Below.refl _ _
          go_quiet (fail)
          go_wp2
          have HBn : Hid (Below W0.heap.size W0 (wr.drewN nq)) := Lib.hid (below_dn HBk.out nq)
          clear HBk hk0
          generalize wr.drewN nq = V at *
          by_cases hck : cap = k
          · obtain rfl : k = cap := hck.symm
            clear hck
            have hgV : g < V.heap.size := by have := HBn.out.size; omega
            have hg4V : g4 < V.heap.size := by have := HBn.out.size; have := HB.out.size; omega
            have d4 : V.cell? ⟨g4, i, none⟩ = some (.slice (some ⟨gi, 0, none⟩) 3 mi) := (HBn.out.cell (p := ⟨g4, i, none⟩) (by have := HB.out.size; show g4 < _; omega)).trans ((HB.out.cell (p := ⟨g4, i, none⟩) hg4b).trans HL4.out)
            have HCR : Hid (∀ W, Below V.heap.size V W → ∀ j, j < i → W.cell? ⟨g, j, none⟩ = some ((els vs4 (Tic.chain i)).getD j undef)) := fun W hb j hj => (hb.cell (p := ⟨g, j, none⟩) hgV).trans ((HBn.out.cell (p := ⟨g, j, none⟩) hgl).trans (HCELL.out j (by rw [hli]; exact hj)))
            have HN1 : Hid (∀ W, Below V.heap.size V W → ∀ j u, ((els vs4 (Tic.chain i)).take k)[j]? = some u → W.cell? ((⟨g, 0, none⟩ : Addr).add j) = some u) := fun W hb j u hu => by
              rw [List.getElem?_take] at hu
              split at hu
              · rename_i hjk
                have := HCR.out W hb j (by have := HKI.out; omega)
                rw [List.getD_eq_getElem?_getD, hu] at this
                rw [add_off]; simpa using this
              · cases hu
            have HN3 : Hid (∀ W, Below V.heap.size V W → ∀ j u, ((els vs4 (Tic.chain i)).drop k)[j]? = some u → W.cell? ((⟨g, 0, none⟩ : Addr).add j) = some u) := fun W hb j u hu => by
              rw [List.getElem?_drop] at hu
              have hlt3 : k + j < i := by
                have := (List.getElem?_eq_some_iff.1 hu).1
                rw [hli] at this; exact this
              have := HKI.out
              omega
            have HONE : Hid (∀ u ∈ els vs4 (Tic.chain i), u.oneCell' = true) := fun u hu => by
              obtain ⟨x0, hx0, rfl⟩ := List.mem_map.1 hu
              obtain ⟨kk, hkk, rfl⟩ := List.getElem_of_mem hx0
              have hlt4 := Tic.chain_lt (n := i) (k := kk) (by omega) (by rw [hcl] at hkk; exact hkk)
              rw [List.getD_eq_getElem?_getD, List.getElem?_eq_getElem hkk, Option.getD_some] at hlt4
              obtain ⟨_, _, e5, _⟩ := HVX.out _ (Nat.lt_trans hlt4 hlt)
              rw [e5]; rfl
            have hs0 : w.heap.size ≤ V.heap.size := by have := HBn.out.size; have := HB.out.size; omega
            have ht1 : ((els vs4 (Tic.chain i)).take k).length = k := by rw [List.length_take, hli]; have := HKI.out; omega
            have ht2 : ((els vs4 (Tic.chain i)).drop k).length = 0 := by rw [List.length_drop, hli]; have := HKI.out; omega
            have hk0 : Below V.heap.size V V := Below.refl _ _
            have j1 : (k : Int) ≤ (k : Int) := by have := HKI.out; omega
            have j2 : (k : Int) ≤ (i : Int) := by have := HKI.out; omega
            have j4 : k ≤ k := by have := HKI.out; omega
            have j5 : k ≤ i := by have := HKI.out; omega
            have j6 : (i : Int) ≤ (k : Int) := by omega
            go_region_held3 (fun w' => w'.cell? ⟨g4, i, none⟩ = some (.slice (some ⟨gi, 0, none⟩) 3 mi))
              (first | go_keep | exact (hk0.cell (p := ⟨g4, i, none⟩) hg4V).trans d4)
              (first | (refine step_app2 (by rfl) _ _ (by rfl) V w.heap.size (.slice (some ⟨V.heap.size, 0, none⟩) 0 0) 0 [] (by rfl) ⟨g, 0, none⟩ k k ((els vs4 (Tic.chain i)).take k) (by rfl) ?_ ?_ ?_ ?_ ?_ ?_ ?_ ?_ ?_; (first | exact hk0 | exact hk0.drew | exact hk0.alloc hk0.size _ | exact (hk0.alloc hk0.size _).drew | exact below2 _ _ _ | exact (below2 _ _ _).drew); (first | exact made_owns rfl hs0 | exact (made_owns rfl hs0).drew); (intro q hq; simp [Value.ownBlock] at hq; omega); exact ht1; (refine HN1.out _ ?_; (first | exact hk0 | exact hk0.drew | exact hk0.alloc hk0.size _ | exact (hk0.alloc hk0.size _).drew | exact below2 _ _ _ | exact (below2 _ _ _).drew)); exact (fun u hu => HONE.out u (List.mem_of_mem_take hu)); omega; exact hs0; (intro v1 W1 ho1 hk1 hq1 hn1 hc1; replace hk0 := hk1; clear hc1 hk1)) | (refine step_app2 (by rfl) _ _ (by rfl) V w.heap.size (.slice (some ⟨V.heap.size, 0, none⟩) 0 0) 0 [] (by rfl) ⟨g, 0, none⟩ k k ((els vs4 (Tic.chain i)).take k) (by rfl) ?_ ?_ ?_ ?_ ?_ ?_ ?_ ?_ ?_; (first | exact hk0 | exact hk0.drew | exact hk0.alloc hk0.size _ | exact (hk0.alloc hk0.size _).drew | exact below2 _ _ _ | exact (below2 _ _ _).drew); (first | exact (made_owns rfl hs0).alloc _ | exact ((made_owns rfl hs0).alloc _).drew); (intro q hq; simp [Value.ownBlock] at hq; omega); exact ht1; (refine HN1.out _ ?_; (first | exact hk0 | exact hk0.drew | exact hk0.alloc hk0.size _ | exact (hk0.alloc hk0.size _).drew | exact below2 _ _ _ | exact (below2 _ _ _).drew)); exact (fun u hu => HONE.out u (List.mem_of_mem_take hu)); omega; exact hs0; (intro v1 W1 ho1 hk1 hq1 hn1 hc1; have hc45 : W1.cell? ⟨V.heap.size + 1, 0, none⟩ = some (.slice (some ⟨gi, 0, none⟩) 3 mi) := hc1 _ _ (by simp [Value.ownBlock]) (by first | exact new_cell _ _ _ _ (by simp) | exact old_cell _ (new_cell _ _ _ _ (by simp))); replace hk0 := hk1; clear hc1 hk1)) | (refine step_app2 (by rfl) _ _ (by rfl) V w.heap.size (.slice (some ⟨V.heap.size + 1, 0, none⟩) 0 0) 0 [] (by rfl) ⟨g, 0, none⟩ k k ((els vs4 (Tic.chain i)).take k) (by rfl) ?_ ?_ ?_ ?_ ?_ ?_ ?_ ?_ ?_; (first | exact hk0 | exact hk0.drew | exact hk0.alloc hk0.size _ | exact (hk0.alloc hk0.size _).drew | exact below2 _ _ _ | exact (below2 _ _ _).drew); (first | exact made_owns (by simp) (by simp; omega) | exact (made_owns (by simp) (by simp; omega)).drew); (intro q hq; simp [Value.ownBlock] at hq; omega); exact ht1; (refine HN1.out _ ?_; (first | exact hk0 | exact hk0.drew | exact hk0.alloc hk0.size _ | exact (hk0.alloc hk0.size _).drew | exact below2 _ _ _ | exact (below2 _ _ _).drew)); exact (fun u hu => HONE.out u (List.mem_of_mem_take hu)); omega; exact hs0; (intro v1 W1 ho1 hk1 hq1 hn1 hc1; have hc45 : W1.cell? ⟨V.heap.size, 0, none⟩ = some (.slice (some ⟨gi, 0, none⟩) 3 mi) := hc1 _ _ (by simp [Value.ownBlock]) (by first | exact new_cell _ _ _ _ (by simp) | exact old_cell _ (new_cell _ _ _ _ (by simp))); replace hk0 := hk1; clear hc1 hk1)) | (refine step_app2 (by rfl) _ _ (by rfl) V w.heap.size v1 (0 + k) ([] ++ (els vs4 (Tic.chain i)).take k) (by rfl) ⟨V.heap.size, 0, none⟩ 1 1 [.slice (some ⟨gi, 0, none⟩) 3 mi] (by rfl) ?_ ?_ ?_ ?_ ?_ ?_ ?_ ?_ ?_; (first | exact hk0 | exact hk0.drew | exact hk0.alloc hk0.size _ | exact (hk0.alloc hk0.size _).drew | exact below2 _ _ _ | exact (below2 _ _ _).drew); (first | exact ho1 | exact ho1.drew | exact ho1.alloc _ | exact (ho1.alloc _).drew); exact hq1; rfl; (refine one_news ?_; first | assumption | exact new_cell _ _ _ _ (by simp)); (intro u hu; simp at hu; subst hu; rfl); omega; exact hs0; (intro v2 W2 ho2 hk2 hq2 hn2 hc2; replace hk0 := hk2; clear hc2 hk2)) | (refine step_app2 (by rfl) _ _ (by rfl) V w.heap.size v1 (0 + k) ([] ++ (els vs4 (Tic.chain i)).take k) (by rfl) ⟨V.heap.size + 1, 0, none⟩ 1 1 [.slice (some ⟨gi, 0, none⟩) 3 mi] (by rfl) ?_ ?_ ?_ ?_ ?_ ?_ ?_ ?_ ?_; (first | exact hk0 | exact hk0.drew | exact hk0.alloc hk0.size _ | exact (hk0.alloc hk0.size _).drew | exact below2 _ _ _ | exact (below2 _ _ _).drew); (first | exact ho1 | exact ho1.drew | exact ho1.alloc _ | exact (ho1.alloc _).drew); exact hq1; rfl; (refine one_news ?_; first | assumption | exact new_cell _ _ _ _ (by simp)); (intro u hu; simp at hu; subst hu; rfl); omega; exact hs0; (intro v2 W2 ho2 hk2 hq2 hn2 hc2; replace hk0 := hk2; clear hc2 hk2)) | (refine step_app2 (by rfl) _ _ (by rfl) V w.heap.size v1 (0 + k) ([] ++ (els vs4 (Tic.chain i)).take k) (by rfl) ⟨W1.heap.size, 0, none⟩ 1 1 [.slice (some ⟨gi, 0, none⟩) 3 mi] (by rfl) ?_ ?_ ?_ ?_ ?_ ?_ ?_ ?_ ?_; (first | exact hk0 | exact hk0.drew | exact hk0.alloc hk0.size _ | exact (hk0.alloc hk0.size _).drew | exact below2 _ _ _ | exact (below2 _ _ _).drew); (first | exact ho1 | exact ho1.drew | exact ho1.alloc _ | exact (ho1.alloc _).drew); exact hq1; rfl; (refine one_news ?_; first | assumption | exact new_cell _ _ _ _ (by simp)); (intro u hu; simp at hu; subst hu; rfl); omega; exact hs0; (intro v2 W2 ho2 hk2 hq2 hn2 hc2; replace hk0 := hk2; clear hc2 hk2)) | (refine step_app2 (by rfl) _ _ (by rfl) V w.heap.size v2 (0 + k + 1) ([] ++ (els vs4 (Tic.chain i)).take k ++ [.slice (some ⟨gi, 0, none⟩) 3 mi]) (by rfl) ⟨g, 0, none⟩ 0 0 ((els vs4 (Tic.chain i)).drop k) (by rfl) ?_ ?_ ?_ ?_ ?_ ?_ ?_ ?_ ?_; (first | exact hk0 | exact hk0.drew | exact hk0.alloc hk0.size _ | exact (hk0.alloc hk0.size _).drew | exact below2 _ _ _ | exact (below2 _ _ _).drew); exact ho2; exact hq2; exact ht2; (refine HN3.out _ ?_; (first | exact hk0 | exact hk0.drew | exact hk0.alloc hk0.size _ | exact (hk0.alloc hk0.size _).drew | exact below2 _ _ _ | exact (below2 _ _ _).drew)); exact (fun u hu => HONE.out u (List.mem_of_mem_drop hu)); omega; exact hs0; (intro v3 W3 ho3 hk3 hq3 hn3 hc3; replace hk0 := hk3; clear hc3 hk3)) | fail)
            all_goals
              have HN : Hid (Outs W3 w.heap.size w1.heap.size w2.heap.size v3 (els vs4 (Tic.chain (i + 1)))) := Lib.hid (by
                have hsz := HBn.out.size
                have hsz2 := HB.out.size
                have e := els_next vs4 i (by omega) k HPQ.out
                rw [ei] at e
                rw [e]
                refine outs_of ho3 ?_ (fun q hq => .inr (by have := hq3 q hq; omega)) ?_
                · intro hv; have := (hn3.1 hv).1; have := (hn2.1 this).2; omega
                · simp only [List.length_append, ht1, ht2, List.length_cons, List.length_nil])
              have HB9 : Hid (Below w2.heap.size w2 W3) := Lib.hid (HB.out.trans ((HBn.out.trans (hk0.mono HBn.out.size)).mono HB.out.size))
              clear hk0 ho1 ho2 ho3 hq1 hq2 hq3 hn1 hn2 hn3 HBn HCR HN1 HN3 HONE
              go_wp2
              go_roundw
              case rel => exact ⟨i + 1, by omega, by go_num, HN, HB9⟩
              case measure => simp [intOf]; omega
          · have hgV : g < V.heap.size := by have := HBn.out.size; omega
            have hg4V : g4 < V.heap.size := by have := HBn.out.size; have := HB.out.size; omega
            have d4 : V.cell? ⟨g4, i, none⟩ = some (.slice (some ⟨gi, 0, none⟩) 3 mi) := (HBn.out.cell (p := ⟨g4, i, none⟩) (by have := HB.out.size; show g4 < _; omega)).trans ((HB.out.cell (p := ⟨g4, i, none⟩) hg4b).trans HL4.out)
            have HCR : Hid (∀ W, Below V.heap.size V W → ∀ j, j < i → W.cell? ⟨g, j, none⟩ = some ((els vs4 (Tic.chain i)).getD j undef)) := fun W hb j hj => (hb.cell (p := ⟨g, j, none⟩) hgV).trans ((HBn.out.cell (p := ⟨g, j, none⟩) hgl).trans (HCELL.out j (by rw [hli]; exact hj)))
            have HN1 : Hid (∀ W, Below V.heap.size V W → ∀ j u, ((els vs4 (Tic.chain i)).take k)[j]? = some u → W.cell? ((⟨g, 0, none⟩ : Addr).add j) = some u) := fun W hb j u hu => by
              rw [List.getElem?_take] at hu
              split at hu
              · rename_i hjk
                have := HCR.out W hb j (by have := HKI.out; omega)
                rw [List.getD_eq_getElem?_getD, hu] at this
                rw [add_off]; simpa using this
              · cases hu
            have HN3 : Hid (∀ W, Below V.heap.size V W → ∀ j u, ((els vs4 (Tic.chain i)).drop k)[j]? = some u → W.cell? ((⟨g, k, none⟩ : Addr).add j) = some u) := fun W hb j u hu => by
              rw [List.getElem?_drop] at hu
              have hlt3 : k + j < i := by
                have := (List.getElem?_eq_some_iff.1 hu).1
                rw [hli] at this; exact this
              have := HCR.out W hb (k + j) hlt3
              rw [List.getD_eq_getElem?_getD, hu] at this
              rw [add_off]; simpa using this
            have HONE : Hid (∀ u ∈ els vs4 (Tic.chain i), u.oneCell' = true) := fun u hu => by
              obtain ⟨x0, hx0, rfl⟩ := List.mem_map.1 hu
              obtain ⟨kk, hkk, rfl⟩ := List.getElem_of_mem hx0
              have hlt4 := Tic.chain_lt (n := i) (k := kk) (by omega) (by rw [hcl] at hkk; exact hkk)
              rw [List.getD_eq_getElem?_getD, List.getElem?_eq_getElem hkk, Option.getD_some] at hlt4
              obtain ⟨_, _, e5, _⟩ := HVX.out _ (Nat.lt_trans hlt4 hlt)
              rw [e5]; rfl
            have hs0 : w.heap.size ≤ V.heap.size := by have := HBn.out.size; have := HB.out.size; omega
            have ht1 : ((els vs4 (Tic.chain i)).take k).length = k := by rw [List.length_take, hli]; have := HKI.out; omega
            have ht2 : ((els vs4 (Tic.chain i)).drop k).length = i - k := by rw [List.length_drop, hli]
            have hk0 : Below V.heap.size V V := Below.refl _ _
            have j1 : (k : Int) ≤ (cap : Int) := by have := HKI.out; omega
            have j2 : (k : Int) ≤ (i : Int) := by have := HKI.out; omega
            have j3 : ¬ cap = k := hck
            have j4 : k ≤ cap := by have := HKI.out; omega
            have j5 : k ≤ i := by have := HKI.out; omega
            have j6 : (i : Int) ≤ (cap : Int) := by omega
            go_region_held3 (fun w' => w'.cell? ⟨g4, i, none⟩ = some (.slice (some ⟨gi, 0, none⟩) 3 mi))
              (first | go_keep | exact (hk0.cell (p := ⟨g4, i, none⟩) hg4V).trans d4)
              (first | (refine step_app2 (by rfl) _ _ (by rfl) V w.heap.size (.slice (some ⟨V.heap.size, 0, none⟩) 0 0) 0 [] (by rfl) ⟨g, 0, none⟩ k cap ((els vs4 (Tic.chain i)).take k) (by rfl) ?_ ?_ ?_ ?_ ?_ ?_ ?_ ?_ ?_; (first | exact hk0 | exact hk0.drew | exact hk0.alloc hk0.size _ | exact (hk0.alloc hk0.size _).drew | exact below2 _ _ _ | exact (below2 _ _ _).drew); (first | exact made_owns rfl hs0 | exact (made_owns rfl hs0).drew); (intro q hq; simp [Value.ownBlock] at hq; omega); exact ht1; (refine HN1.out _ ?_; (first | exact hk0 | exact hk0.drew | exact hk0.alloc hk0.size _ | exact (hk0.alloc hk0.size _).drew | exact below2 _ _ _ | exact (below2 _ _ _).drew)); exact (fun u hu => HONE.out u (List.mem_of_mem_take hu)); omega; exact hs0; (intro v1 W1 ho1 hk1 hq1 hn1 hc1; replace hk0 := hk1; clear hc1 hk1)) | (refine step_app2 (by rfl) _ _ (by rfl) V w.heap.size (.slice (some ⟨V.heap.size, 0, none⟩) 0 0) 0 [] (by rfl) ⟨g, 0, none⟩ k cap ((els vs4 (Tic.chain i)).take k) (by rfl) ?_ ?_ ?_ ?_ ?_ ?_ ?_ ?_ ?_; (first | exact hk0 | exact hk0.drew | exact hk0.alloc hk0.size _ | exact (hk0.alloc hk0.size _).drew | exact below2 _ _ _ | exact (below2 _ _ _).drew); (first | exact (made_owns rfl hs0).alloc _ | exact ((made_owns rfl hs0).alloc _).drew); (intro q hq; simp [Value.ownBlock] at hq; omega); exact ht1; (refine HN1.out _ ?_; (first | exact hk0 | exact hk0.drew | exact hk0.alloc hk0.size _ | exact (hk0.alloc hk0.size _).drew | exact below2 _ _ _ | exact (below2 _ _ _).drew)); exact (fun u hu => HONE.out u (List.mem_of_mem_take hu)); omega; exact hs0; (intro v1 W1 ho1 hk1 hq1 hn1 hc1; have hc45 : W1.cell? ⟨V.heap.size + 1, 0, none⟩ = some (.slice (some ⟨gi, 0, none⟩) 3 mi) := hc1 _ _ (by simp [Value.ownBlock]) (by first | exact new_cell _ _ _ _ (by simp) | exact old_cell _ (new_cell _ _ _ _ (by simp))); replace hk0 := hk1; clear hc1 hk1)) | (refine step_app2 (by rfl) _ _ (by rfl) V w.heap.size (.slice (some ⟨V.heap.size + 1, 0, none⟩) 0 0) 0 [] (by rfl) ⟨g, 0, none⟩ k cap ((els vs4 (Tic.chain i)).take k) (by rfl) ?_ ?_ ?_ ?_ ?_ ?_ ?_ ?_ ?_; (first | exact hk0 | exact hk0.drew | exact hk0.alloc hk0.size _ | exact (hk0.alloc hk0.size _).drew | exact below2 _ _ _ | exact (below2 _ _ _).drew); (first | exact made_owns (by simp) (by simp; omega) | exact (made_owns (by simp) (by simp; omega)).drew); (intro q hq; simp [Value.ownBlock] at hq; omega); exact ht1; (refine HN1.out _ ?_; (first | exact hk0 | exact hk0.drew | exact hk0.alloc hk0.size _ | exact (hk0.alloc hk0.size _).drew | exact below2 _ _ _ | exact (below2 _ _ _).drew)); exact (fun u hu => HONE.out u (List.mem_of_mem_take hu)); omega; exact hs0; (intro v1 W1 ho1 hk1 hq1 hn1 hc1; have hc45 : W1.cell? ⟨V.heap.size, 0, none⟩ = some (.slice (some ⟨gi, 0, none⟩) 3 mi) := hc1 _ _ (by simp [Value.ownBlock]) (by first | exact new_cell _ _ _ _ (by simp) | exact old_cell _ (new_cell _ _ _ _ (by simp))); replace hk0 := hk1; clear hc1 hk1)) | (refine step_app2 (by rfl) _ _ (by rfl) V w.heap.size v1 (0 + k) ([] ++ (els vs4 (Tic.chain i)).take k) (by rfl) ⟨V.heap.size, 0, none⟩ 1 1 [.slice (some ⟨gi, 0, none⟩) 3 mi] (by rfl) ?_ ?_ ?_ ?_ ?_ ?_ ?_ ?_ ?_; (first | exact hk0 | exact hk0.drew | exact hk0.alloc hk0.size _ | exact (hk0.alloc hk0.size _).drew | exact below2 _ _ _ | exact (below2 _ _ _).drew); (first | exact ho1 | exact ho1.drew | exact ho1.alloc _ | exact (ho1.alloc _).drew); exact hq1; rfl; (refine one_news ?_; first | assumption | exact new_cell _ _ _ _ (by simp)); (intro u hu; simp at hu; subst hu; rfl); omega; exact hs0; (intro v2 W2 ho2 hk2 hq2 hn2 hc2; replace hk0 := hk2; clear hc2 hk2)) | (refine step_app2 (by rfl) _ _ (by rfl) V w.heap.size v1 (0 + k) ([] ++ (els vs4 (Tic.chain i)).take k) (by rfl) ⟨V.heap.size + 1, 0, none⟩ 1 1 [.slice (some ⟨gi, 0, none⟩) 3 mi] (by rfl) ?_ ?_ ?_ ?_ ?_ ?_ ?_ ?_ ?_; (first | exact hk0 | exact hk0.drew | exact hk0.alloc hk0.size _ | exact (hk0.alloc hk0.size _).drew | exact below2 _ _ _ | exact (below2 _ _ _).drew); (first | exact ho1 | exact ho1.drew | exact ho1.alloc _ | exact (ho1.alloc _).drew); exact hq1; rfl; (refine one_news ?_; first | assumption | exact new_cell _ _ _ _ (by simp)); (intro u hu; simp at hu; subst hu; rfl); omega; exact hs0; (intro v2 W2 ho2 hk2 hq2 hn2 hc2; replace hk0 := hk2; clear hc2 hk2)) | (refine step_app2 (by rfl) _ _ (by rfl) V w.heap.size v1 (0 + k) ([] ++ (els vs4 (Tic.chain i)).take k) (by rfl) ⟨W1.heap.size, 0, none⟩ 1 1 [.slice (some ⟨gi, 0, none⟩) 3 mi] (by rfl) ?_ ?_ ?_ ?_ ?_ ?_ ?_ ?_ ?_; (first | exact hk0 | exact hk0.drew | exact hk0.alloc hk0.size _ | exact (hk0.alloc hk0.size _).drew | exact below2 _ _ _ | exact (below2 _ _ _).drew); (first | exact ho1 | exact ho1.drew | exact ho1.alloc _ | exact (ho1.alloc _).drew); exact hq1; rfl; (refine one_news ?_; first | assumption | exact new_cell _ _ _ _ (by simp)); (intro u hu; simp at hu; subst hu; rfl); omega; exact hs0; (intro v2 W2 ho2 hk2 hq2 hn2 hc2; replace hk0 := hk2; clear hc2 hk2)) | (refine step_app2 (by rfl) _ _ (by rfl) V w.heap.size v2 (0 + k + 1) ([] ++ (els vs4 (Tic.chain i)).take k ++ [.slice (some ⟨gi, 0, none⟩) 3 mi]) (by rfl) ⟨g, k, none⟩ (i - k) (cap - k) ((els vs4 (Tic.chain i)).drop k) (by rfl) ?_ ?_ ?_ ?_ ?_ ?_ ?_ ?_ ?_; (first | exact hk0 | exact hk0.drew | exact hk0.alloc hk0.size _ | exact (hk0.alloc hk0.size _).drew | exact below2 _ _ _ | exact (below2 _ _ _).drew); exact ho2; exact hq2; exact ht2; (refine HN3.out _ ?_; (first | exact hk0 | exact hk0.drew | exact hk0.alloc hk0.size _ | exact (hk0.alloc hk0.size _).drew | exact below2 _ _ _ | exact (below2 _ _ _).drew)); exact (fun u hu => HONE.out u (List.mem_of_mem_drop hu)); omega; exact hs0; (intro v3 W3 ho3 hk3 hq3 hn3 hc3; replace hk0 := hk3; clear hc3 hk3)) | fail)
            all_goals
              have HN : Hid (Outs W3 w.heap.size w1.heap.size w2.heap.size v3 (els vs4 (Tic.chain (i + 1)))) := Lib.hid (by
                have hsz := HBn.out.size
                have hsz2 := HB.out.size
                have e := els_next vs4 i (by omega) k HPQ.out
                rw [ei] at e
                rw [e]
                refine outs_of ho3 ?_ (fun q hq => .inr (by have := hq3 q hq; omega)) ?_
                · intro hv; have := (hn3.1 hv).1; have := (hn2.1 this).2; omega
                · simp only [List.length_append, ht1, ht2, List.length_cons, List.length_nil])
              have HB9 : Hid (Below w2.heap.size w2 W3) := Lib.hid (HB.out.trans ((HBn.out.trans (hk0.mono HBn.out.size)).mono HB.out.size))
              clear hk0 ho1 ho2 ho3 hq1 hq2 hq3 hn1 hn2 hn3 HBn HCR HN1 HN3 HONE
              go_wp2
              go_roundw
              case rel => exact ⟨i + 1, by omega, by go_num, HN, HB9⟩
              case measure => simp [intOf]; omega
    · obtain rfl : i = n := by omega
      go_wp2
      go_ret
      exact ⟨_, _, rfl, outs_lists HL.out HB.out rfl (by omega) h2 HO.out, HB2.out.trans (HB.out.mono (by omega))⟩
theorem sFifths_no (n : Int) (w : World) (h : n < 1 ∨ 12 < n) : Calls Tryd.prog 7 #[.int .i64 n] w (GivesLists [] w) := by
  go_enter Tryd.func7, Tryd.ntmps7
  go_wp2_with fail
  refine (inRange_no _ _ _ _ h).mono ?_; rintro e w' ⟨rfl, rfl⟩
  go_wp2
  go_ret
  exact ⟨_, _, rfl, Lists.nil _ _, Below.refl _ _⟩
end Go.Proofs.YtpcbplademohnaaDoor
