/-
  Contracts of GapsOf, of the program and of the model.
-/
import Derived.Test.YtmofhhffkppelaaTones
import Derived.Test.YtmofhhffkppelaaGapsNum
namespace Go.Proofs.Ytmofhhffkppelaa
open Go.RowKit
set_option linter.unusedVariables false

theorem Row.put {w : World} {B g m cap : Nat} {C C' : Nat → Nat} (h : Row w B (.slice (some ⟨g, 0, none⟩) m cap) (Tic.cts m C)) {i : Nat} (hi : i < m) (hC : ∀ d, C' d = C d + if d = i then 1 else 0) :
    Row (w.setCell ⟨g, i, none⟩ (.int .i64 ((C i : Int) + 1))) B (.slice (some ⟨g, 0, none⟩) m cap) (Tic.cts m C') := by
  have := (Row.set (by rw [Tic.cts_length]; exact h) i ((C i : Int) + 1)).1
  rw [Tic.cts_length, Tic.cts_set C C' hi hC] at this
  exact this

theorem wpList_make_ints {ops : Array Oper} {rest : List Oper} {o : Oper} {a : Act} {Q : Exit → Act → World → Prop} {w : World} (hg : o.guard = none) (l c : Operand) (hop : o.op = Op.makeSlice 29 l c)
    (B : Nat) (X Y : Int) (m : Nat) (hl : a.eval l = .int .i64 X) (hc : a.eval c = .int .i64 Y) (hX : X = (m : Int)) (hY : Y = (m : Int)) (hm : m ≤ 4096) (hB : B ≤ w.heap.size)
    (hK : ∀ w', Row w' B (.slice (some ⟨w.heap.size, 0, none⟩) m m) (Tic.cts m fun _ => 0) → Below w.heap.size w w' → wpList Try.prog ops Q rest (a.put o.dst (.slice (some ⟨w.heap.size, 0, none⟩) m m)) w') :
    wpList Try.prog ops Q (o :: rest) a w := by
  obtain ⟨i0, hi, hz0, hz1, hz2⟩ := info_parts info_int
  refine wpList_make_full w hg l c 29 hop B 3 i0 (.int .i64 0) 1 Try.underlying29 hi hz0 hz1 .i64 .i64 X Y m hl hc hX hY (by rw [hz2]; omega) (by unfold maxLen; omega) hB ?_
  intro w' hown hgr
  refine hK w' ⟨?_, by rw [Tic.cts_length]; omega⟩ ((Below.refl _ _).grown hgr (Nat.le_refl _) (fun k hk => by cases hk))
  rw [Tic.cts_length, Tic.cts_zero, List.map_replicate]
  have : (madeCells (Value.int .i64 0).cells (m * 1)).toList = List.replicate m (Value.int .i64 0) := by
    rw [Nat.mul_one]; exact toList_madeCells_one _ _
  rw [this] at hown
  exact hown

set_option maxHeartbeats 800000 in
theorem sgaps_any (n s : Int) (w : World) (hv : Tic.Valid n s) :
    Calls Try.prog 29 #[.int .i64 n, .int .i64 s] w (Gives (Tic.gapsOf n.toNat s.toNat) w) := by
  have hlt := hv.lt
  obtain ⟨g1, g2, g3, _⟩ := hv
  obtain ⟨N, rfl⟩ := Int.eq_ofNat_of_zero_le (show 0 ≤ n by omega)
  obtain ⟨S, rfl⟩ := Int.eq_ofNat_of_zero_le g3
  rw [Int.toNat_natCast, Int.toNat_natCast]
  go_enter Try.func29, Try.ntmps29
  go_wp2_with (at_make; refine wpList_make_ints rfl _ _ rfl w.heap.size _ _ (N / 2) rfl rfl ?c1 ?c2 ?c3 (Nat.le_refl _) ?_)
  case c1 => omega
  case c2 => omega
  case c3 => omega
  intro w1 hrow hb1
  have HR0 := Lib.hid hrow
  clear hrow
  go_wp2
  go_loopw [6, 7, 8] (fun t6 t7 t8 wr => ∃ x : Nat, x ≤ N ∧ t6 = .int .i64 x ∧ Hid (Row wr w.heap.size (.slice (some ⟨w.heap.size, 0, none⟩) (N / 2) (N / 2)) (Tic.cts (N / 2) (Tic.gS N S x 0))) ∧ Below w.heap.size w wr) (fun t6 _ _ _ => N - (intOf t6).toNat)
  case atStart => exact ⟨0, Nat.zero_le _, rfl, HR0, hb1⟩
  case round =>
    obtain ⟨x, hx, rfl, HR, hbel⟩ := hrel
    by_cases hltx : x < N
    · go_wp2
      have HR1 : Hid (Row wr w.heap.size (.slice (some ⟨w.heap.size, 0, none⟩) (N / 2) (N / 2)) (Tic.cts (N / 2) (Tic.gS N S x (x + 1)))) := by
        have := HR.out
        rw [← Tic.cts_congr (Tic.gS_start N S x)] at this
        exact this
      clear HR
      obtain ⟨wo, rfl⟩ : ∃ wo : World, wo = wr := ⟨_, rfl⟩
      go_loopw [7, 8] (fun t7 t8 wr => ∃ y : Nat, x < y ∧ y ≤ N ∧ t7 = .int .i64 y ∧ Hid (Row wr w.heap.size (.slice (some ⟨w.heap.size, 0, none⟩) (N / 2) (N / 2)) (Tic.cts (N / 2) (Tic.gS N S x y))) ∧ Below w.heap.size w wr) (fun t7 _ _ => N - (intOf t7).toNat)
      case atStart => exact ⟨x + 1, by omega, by omega, by go_num, HR1, hbel⟩
      case round =>
        obtain ⟨y, hxy, hy, rfl, HR, hbel⟩ := hrel
        by_cases hlty : y < N
        · cases hbx : S.testBit x with
          | false =>
            have HB := Lib.hid hbx
            clear hbx
            go_wp2_with fail
            refine (bit_no _ _ S x _ rfl (by omega) rfl (by omega) HB.out).mono ?_; rintro e w2 ⟨rfl, rfl⟩
            go_wp2
            go_roundw
            case rel => exact ⟨y + 1, by omega, by omega, by go_num, by rw [← Tic.cts_congr (fun d => (Tic.gS_no N S x y d (.inl HB.out)).symm)]; exact HR, hbel⟩
            case measure => simp [intOf]; omega
          | true =>
            have HB := Lib.hid hbx
            clear hbx
            cases hby : S.testBit y with
            | false =>
              have HB2 := Lib.hid hby
              clear hby
              go_wp2_with fail
              refine (bit_yes _ _ S x _ rfl (by omega) rfl (by omega) HB.out).mono ?_; rintro e w2 ⟨rfl, rfl⟩
              go_wp2_with fail
              refine (bit_no _ _ S y _ rfl (by omega) rfl (by omega) HB2.out).mono ?_; rintro e w2 ⟨rfl, rfl⟩
              go_wp2
              go_roundw
              case rel => exact ⟨y + 1, by omega, by omega, by go_num, by rw [← Tic.cts_congr (fun d => (Tic.gS_no N S x y d (.inr HB2.out)).symm)]; exact HR, hbel⟩
              case measure => simp [intOf]; omega
            | true =>
              have HB2 := Lib.hid hby
              clear hby
              by_cases hm : y - x ≤ N - (y - x)
              · have hi2 : y - x - 1 < N / 2 := by omega
                have hsh := HR.out.shape
                have hc := hsh.2.2.2.1 (y - x - 1) hi2
                have hf := hsh.2.2.2.2 (y - x - 1)
                rw [Tic.cts_getD _ hi2] at hc
                have hcl := Tic.gS_le N S x y (y - x - 1) (by omega) (by omega) (by omega)
                have HP := Lib.hid (HR.out.put (C' := Tic.gS N S x (y + 1)) hi2 (fun d => by rw [Tic.gS_next, Tic.hit_at (i := y - x - 1) HB.out HB2.out hxy (by omega)]))
                clear hsh
                generalize Tic.gS N S x y (y - x - 1) = ct at hc hcl HP
                go_wp2_with fail
                refine (bit_yes _ _ S x _ rfl (by omega) rfl (by omega) HB.out).mono ?_; rintro e w2 ⟨rfl, rfl⟩
                go_wp2_with fail
                refine (bit_yes _ _ S y _ rfl (by omega) rfl (by omega) HB2.out).mono ?_; rintro e w2 ⟨rfl, rfl⟩
                go_wp2
                go_roundw
                case rel => exact ⟨y + 1, by omega, by omega, by go_num, HP, hbel.setCell (Nat.le_refl _) _⟩
                case measure => simp [intOf]; omega
              · have hi2 : N - y + x - 1 < N / 2 := by omega
                have hsh := HR.out.shape
                have hc := hsh.2.2.2.1 (N - y + x - 1) hi2
                have hf := hsh.2.2.2.2 (N - y + x - 1)
                rw [Tic.cts_getD _ hi2] at hc
                have hcl := Tic.gS_le N S x y (N - y + x - 1) (by omega) (by omega) (by omega)
                have HP := Lib.hid (HR.out.put (C' := Tic.gS N S x (y + 1)) hi2 (fun d => by rw [Tic.gS_next, Tic.hit_at (i := N - y + x - 1) HB.out HB2.out hxy (by omega)]))
                clear hsh
                generalize Tic.gS N S x y (N - y + x - 1) = ct at hc hcl HP
                go_wp2_with fail
                refine (bit_yes _ _ S x _ rfl (by omega) rfl (by omega) HB.out).mono ?_; rintro e w2 ⟨rfl, rfl⟩
                go_wp2_with fail
                refine (bit_yes _ _ S y _ rfl (by omega) rfl (by omega) HB2.out).mono ?_; rintro e w2 ⟨rfl, rfl⟩
                go_wp2
                go_roundw
                case rel => exact ⟨y + 1, by omega, by omega, by go_num, HP, hbel.setCell (Nat.le_refl _) _⟩
                case measure => simp [intOf]; omega
        · have : y = N := by omega
          subst this
          go_wp2
          go_roundw
          case rel => exact ⟨x + 1, by omega, by go_num, HR, hbel⟩
          case measure => simp [intOf]; omega
    · have : x = N := by omega
      subst this
      go_wp2
      go_ret
      exact ⟨_, rfl, HR, hbel⟩

theorem gI_same (n S a : Nat) : ∀ b, a ≤ b → b ≤ n → (tonesTo S a).length = (tonesTo S b).length → ∀ d, Tic.gI n S b 0 d = Tic.gI n S a 0 d
  | 0, h, _, _, d => by rw [Nat.le_zero.1 h]
  | b + 1, h, hb2, e, d => by
    by_cases e2 : a = b + 1
    · rw [e2]
    · have hm := tonesTo_mono S a b (by omega)
      cases hb : S.testBit b with
      | false =>
        rw [tonesTo_no hb] at e
        rw [Tic.gI_none n S b d (by omega) hb]
        exact gI_same n S a b (by omega) (by omega) e d
      | true => rw [tonesTo_yes hb] at e; simp at e; omega
theorem gI_same2 (n S y a : Nat) : ∀ b, a ≤ b → (tonesTo S a).length = (tonesTo S b).length → ∀ d, Tic.gI n S y b d = Tic.gI n S y a d
  | 0, h, _, d => by rw [Nat.le_zero.1 h]
  | b + 1, h, e, d => by
    by_cases e2 : a = b + 1
    · rw [e2]
    · have hm := tonesTo_mono S a b (by omega)
      cases hb : S.testBit b with
      | false =>
        rw [tonesTo_no hb] at e
        rw [Tic.gI_skip n S y b d hb]
        exact gI_same2 n S y a b (by omega) e d
      | true => rw [tonesTo_yes hb] at e; simp at e; omega
theorem gI_eq {n S a b : Nat} (ha : a ≤ n) (hb : b ≤ n) (e : (tonesTo S a).length = (tonesTo S b).length) (d : Nat) : Tic.gI n S b 0 d = Tic.gI n S a 0 d := by
  rcases Nat.le_total a b with h | h
  · exact gI_same n S a b h hb e d
  · exact (gI_same n S b a h ha e.symm d).symm
theorem gI_eq2 {n S y a b : Nat} (e : (tonesTo S a).length = (tonesTo S b).length) (d : Nat) : Tic.gI n S y b d = Tic.gI n S y a d := by
  rcases Nat.le_total a b with h | h
  · exact gI_same2 n S y a b h e d
  · exact (gI_same2 n S y b a h e.symm d).symm
/-- how far two tones are apart, the shorter way round -/
def Tic.apt (n x y : Nat) : Nat := min ((y + n - x) % n) (n - (y + n - x) % n)
theorem Tic.apt_lt {n x y : Nat} (h : x < y) (hy : y < n) : Tic.apt n x y = min (y - x) (n - (y - x)) := by
  unfold Tic.apt
  rw [show y + n - x = (y - x) + n by omega, Nat.add_mod_right, Nat.mod_eq_of_lt (by omega)]
theorem apart_any (N x y : Nat) (w : World) (h1 : 1 ≤ N) (h2 : N ≤ 12) (hx : x < N) (hy : y < N) :
    Calls Try.prog 51 #[.int .i64 N, .int .i64 x, .int .i64 y] w fun e w' => e = .returned (.int .i64 (Tic.apt N x y : Int)) ∧ w = w' := by
  have he : ((y : Int) - (x : Int)) % (N : Int) = (((y + N - x) % N : Nat) : Int) := by
    rw [Int.natCast_emod, show ((y + N - x : Nat) : Int) = ((y : Int) - x) + N by omega, Int.add_emod_right]
  have hlt : (y + N - x) % N < N := Nat.mod_lt _ (by omega)
  have HD : Hid (Tic.apt N x y = min ((y + N - x) % N) (N - (y + N - x) % N)) := rfl
  generalize (y + N - x) % N = u at *
  have HE := Lib.hid he
  clear he
  go_enter Try.func51, Try.ntmps51
  go_wp2_with fail
  refine (roundCircle_any _ _ _ (by omega) (by omega) (by omega) (by omega)).mono ?_; rintro e w1 ⟨rfl, rfl⟩
  rw [HE.out]
  go_wp2
  all_goals
    go_ret
    exact ⟨ret_int (by rw [HD.out]; omega), rfl⟩
set_option maxRecDepth 20000 in
set_option maxHeartbeats 1000000 in
theorem gaps_any (n s : Int) (w : World) (hv : Tic.Valid n s) :
    Calls Try.prog 31 #[.agg #[.int .i64 n, .int .i64 s]] w (Gives (Tic.gapsOf n.toNat s.toNat) w) := by
  have hlt := hv.lt
  have g1 := hv.1
  have g2 := hv.2.1
  obtain ⟨N, rfl⟩ := Int.eq_ofNat_of_zero_le (show 0 ≤ n by omega)
  obtain ⟨S, rfl⟩ := Int.eq_ofNat_of_zero_le hv.2.2.1
  rw [Int.toNat_natCast, Int.toNat_natCast]
  go_enter Try.func31, Try.ntmps31
  go_wp2_with (at_make; refine wpList_make_ints rfl _ _ rfl (w.heap.size + 1) _ _ (N / 2) rfl rfl ?c1 ?c2 ?c3 (by simp) ?_)
  case c1 => omega
  case c2 => omega
  case c3 => omega
  intro w1 hrow hb1
  have hrow1 : Row w1 (w.heap.size + 1) (.slice (some ⟨w.heap.size + 1, 0, none⟩) (N / 2) (N / 2)) (Tic.cts (N / 2) fun _ => 0) := by simpa using hrow
  have a0 : w1.cell? ⟨w.heap.size, 0, none⟩ = some (.int .i64 N) := (hb1.cell (p := ⟨w.heap.size, 0, none⟩) (by simp)).trans (by go_simp)
  have a1 : w1.cell? ⟨w.heap.size, 1, none⟩ = some (.int .i64 S) := (hb1.cell (p := ⟨w.heap.size, 1, none⟩) (by simp)).trans (by go_simp)
  have hz1 := hb1.size
  have hlt1 := hrow1.shape.2.2.1
  simp at hz1
  have hbel1 : Below w.heap.size w w1 := ((Below.refl w.heap.size w).alloc (Nat.le_refl _) _).trans (hb1.mono (by simp))
  have HR0 := Lib.hid hrow1
  clear hrow hrow1 hb1
  go_wp2_with fail
  refine (list_any _ _ _ hv).mono ?_; rintro e w2 ⟨v, rfl, hr, hb2⟩
  rw [Int.toNat_natCast, Int.toNat_natCast] at hr
  have HR1 := Lib.hid (HR0.out.kept hb2)
  have c0 := (hb2.cell (p := ⟨w.heap.size, 0, none⟩) (by simp; omega)).trans a0
  have hz2 := hb2.size
  have hbel2 := hbel1.trans (hb2.mono (by omega))
  clear a0 a1 HR0 hb2
  rcases hr.cases with ⟨rfl, hT⟩ | ⟨gt, ct, rfl, hgt, hgt2, hct, _⟩
  · have HE := Lib.hid (gI_eq (n := N) (S := S) (a := 0) (b := N) (by omega) (by omega) (by rw [hT]; rfl))
    clear hT hr
    go_wp2
    refine wp_loop_rounds 1 ?_
    rw [rounds_succ]
    go_wp2
    go_ret
    refine ⟨_, rfl, ?_, hbel2⟩
    have := HR1.out.mono (B' := w.heap.size) (by omega)
    rw [Tic.gapsOf, Tic.cts_congr (C' := fun _ => 0) (fun d => by rw [← Tic.gI_end, HE.out d]; rfl)]
    exact this
  · have HT := Lib.hid hct
    obtain ⟨hcap, hcap2⟩ := hr.capge
    unfold maxLen at hcap2
    clear hct hr
    generalize hl : (tonesTo S N).length = l at HT hcap
    have HL := Lib.hid hl
    have hl12 : l ≤ 12 := by rw [← hl]; have := tonesTo_le S N; omega
    clear hl
    go_wp2
    go_loopw [5, 6, 8, 17] (fun t5 t6 t8 t17 wr => ∃ Y i : Nat, Y ≤ N ∧ i ≤ l ∧ t17 = .int .i64 i ∧ (tonesTo S Y).length = i ∧
      Hid (Row wr (w.heap.size + 1) (.slice (some ⟨w.heap.size + 1, 0, none⟩) (N / 2) (N / 2)) (Tic.cts (N / 2) (Tic.gI N S Y 0))) ∧
      Hid (∀ i, i < l → wr.cell? ⟨gt, i, none⟩ = some (.int .i64 ((tonesTo S N).getD i 0))) ∧ wr.cell? ⟨w.heap.size, 0, none⟩ = some (.int .i64 N) ∧ gt < wr.heap.size ∧ Below w.heap.size w wr) (fun _ _ _ t17 _ => l - (intOf t17).toNat)
    case atStart =>
      refine ⟨0, 0, by omega, by omega, rfl, rfl, ?_, HT, c0, hgt2, hbel2⟩
      exact HR1
    case round =>
      clear HR1 HT c0 hbel2 hgt2 hz2
      obtain ⟨Y, i, hY, hi, rfl, hYL, HR, HT, c0, hgs, hbel⟩ := hrel
      have HYL := Lib.hid hYL
      clear hYL
      by_cases hli : i < l
      · obtain ⟨y, hyN, hyb, hyv, hyl⟩ := tonesTo_at S N i (by rw [HL.out]; exact hli)
        have hty := HT.out i hli
        rw [hyv] at hty
        have HYB := Lib.hid hyb
        have HY := Lib.hid hyl
        have HV := Lib.hid hyv
        have hyi : i ≤ y := by have := tonesTo_le S y; omega
        have HR2 : Hid (Row wr (w.heap.size + 1) (.slice (some ⟨w.heap.size + 1, 0, none⟩) (N / 2) (N / 2)) (Tic.cts (N / 2) (Tic.gI N S y 0))) := by
          have := HR.out
          rw [Tic.cts_congr (gI_eq (n := N) (by omega) hY (HY.out.trans HYL.out.symm))] at this
          exact this
        clear hyb hyl hyv HR
        go_wp2
        obtain ⟨wo, rfl⟩ : ∃ wo : World, wo = wr := ⟨_, rfl⟩
        go_loopw [8, 26] (fun t8 t26 wr => ∃ X j : Nat, X ≤ y ∧ j ≤ i ∧ t26 = .int .i64 j ∧ (tonesTo S X).length = j ∧
          Hid (Row wr (w.heap.size + 1) (.slice (some ⟨w.heap.size + 1, 0, none⟩) (N / 2) (N / 2)) (Tic.cts (N / 2) (Tic.gI N S y X))) ∧
          Hid (∀ i, i < l → wr.cell? ⟨gt, i, none⟩ = some (.int .i64 ((tonesTo S N).getD i 0))) ∧ wr.cell? ⟨w.heap.size, 0, none⟩ = some (.int .i64 N) ∧ gt < wr.heap.size ∧ Below w.heap.size w wr) (fun _ t26 _ => i - (intOf t26).toNat)
        case atStart => exact ⟨0, 0, by omega, by omega, rfl, rfl, HR2, HT, c0, hgs, hbel⟩
        case round =>
          clear HR2 HT c0 hbel hgs hty
          obtain ⟨X, j, hX, hj, rfl, hXL, HR0, HT, c0, hgs, hbel⟩ := hrel
          have HXL0 := Lib.hid hXL
          clear hXL
          by_cases hji : j < i
          · obtain ⟨x, hxN, hxb, hxv, hxl⟩ := tonesTo_at S N j (by rw [HL.out]; omega)
            have htx := HT.out j (by omega)
            rw [hxv] at htx
            have hxy : x < y := by
              rcases Nat.lt_or_ge x y with g | g
              · exact g
              · have := tonesTo_mono S y x g; have := HY.out; omega
            have HXB := Lib.hid hxb
            have HXL := Lib.hid hxl
            have HR : Hid (Row wr (w.heap.size + 1) (.slice (some ⟨w.heap.size + 1, 0, none⟩) (N / 2) (N / 2)) (Tic.cts (N / 2) (Tic.gI N S y x))) := by
              have := HR0.out
              rw [Tic.cts_congr (gI_eq2 (n := N) (y := y) (HXL.out.trans HXL0.out.symm))] at this
              exact this
            clear hxb hxl hxv HR0
            by_cases hm : y - x ≤ N - (y - x)
            · skip
              have hi2 : y - x - 1 < N / 2 := by omega
              have hsh := HR.out.shape
              have hc := hsh.2.2.2.1 (y - x - 1) hi2
              have hf := hsh.2.2.2.2 (y - x - 1)
              rw [Tic.cts_getD _ hi2] at hc
              have hcl := Tic.gI_le N S y x (y - x - 1) (by omega) (by omega) (by omega)
              have HP := Lib.hid (HR.out.put (C' := Tic.gI N S y (x + 1)) hi2 (fun d => by rw [Tic.gI_next, Tic.hit_at (i := y - x - 1) HXB.out HYB.out hxy (by omega)]))
              have HT2 : Hid (∀ i, i < l → (wr.setCell ⟨w.heap.size + 1, y - x - 1, none⟩ (.int .i64 ((Tic.gI N S y x (y - x - 1) : Int) + 1))).cell? ⟨gt, i, none⟩ = some (.int .i64 ((tonesTo S N).getD i 0))) := fun i hi => by
                rw [set_far (by simp; omega)]; exact HT.out i hi
              have e0 : (wr.setCell ⟨w.heap.size + 1, y - x - 1, none⟩ (.int .i64 ((Tic.gI N S y x (y - x - 1) : Int) + 1))).cell? ⟨w.heap.size, 0, none⟩ = some (.int .i64 N) := by
                rw [set_far (by simp)]; exact c0
              have E0 := Lib.hid e0
              clear hsh e0
              have HAP := Lib.hid (fun w' => apart_any N x y w' (by omega) (by omega) (by omega) (by omega))
              rw [show Tic.apt N x y = y - x - 1 + 1 by rw [Tic.apt_lt hxy (by omega)]; omega] at HAP
              generalize Tic.gI N S y x (y - x - 1) = ct at hc hcl HP HT2 E0
              generalize y - x - 1 = dd at *
              go_wp2_with fail
              refine (HAP.out _).mono ?_; rintro e w9 ⟨rfl, rfl⟩
              go_wp2
              go_roundw
              case rel => exact ⟨x + 1, j + 1, by omega, by omega, by go_num, by rw [tonesTo_next HXB.out, HXL.out], HP, HT2, E0.out, by simpa using hgs, hbel.setCell (by simp) _⟩
              case measure => simp [intOf]; omega
            · skip
              have hi2 : N - (y - x) - 1 < N / 2 := by omega
              have hsh := HR.out.shape
              have hc := hsh.2.2.2.1 (N - (y - x) - 1) hi2
              have hf := hsh.2.2.2.2 (N - (y - x) - 1)
              rw [Tic.cts_getD _ hi2] at hc
              have hcl := Tic.gI_le N S y x (N - (y - x) - 1) (by omega) (by omega) (by omega)
              have HP := Lib.hid (HR.out.put (C' := Tic.gI N S y (x + 1)) hi2 (fun d => by rw [Tic.gI_next, Tic.hit_at (i := N - (y - x) - 1) HXB.out HYB.out hxy (by omega)]))
              have HT2 : Hid (∀ i, i < l → (wr.setCell ⟨w.heap.size + 1, N - (y - x) - 1, none⟩ (.int .i64 ((Tic.gI N S y x (N - (y - x) - 1) : Int) + 1))).cell? ⟨gt, i, none⟩ = some (.int .i64 ((tonesTo S N).getD i 0))) := fun i hi => by
                rw [set_far (by simp; omega)]; exact HT.out i hi
              have e0 : (wr.setCell ⟨w.heap.size + 1, N - (y - x) - 1, none⟩ (.int .i64 ((Tic.gI N S y x (N - (y - x) - 1) : Int) + 1))).cell? ⟨w.heap.size, 0, none⟩ = some (.int .i64 N) := by
                rw [set_far (by simp)]; exact c0
              have E0 := Lib.hid e0
              clear hsh e0
              have HAP := Lib.hid (fun w' => apart_any N x y w' (by omega) (by omega) (by omega) (by omega))
              rw [show Tic.apt N x y = N - (y - x) - 1 + 1 by rw [Tic.apt_lt hxy (by omega)]; omega] at HAP
              generalize Tic.gI N S y x (N - (y - x) - 1) = ct at hc hcl HP HT2 E0
              generalize N - (y - x) - 1 = dd at *
              go_wp2_with fail
              refine (HAP.out _).mono ?_; rintro e w9 ⟨rfl, rfl⟩
              go_wp2
              go_roundw
              case rel => exact ⟨x + 1, j + 1, by omega, by omega, by go_num, by rw [tonesTo_next HXB.out, HXL.out], HP, HT2, E0.out, by simpa using hgs, hbel.setCell (by simp) _⟩
              case measure => simp [intOf]; omega
          · have : j = i := by omega
            subst this
            have HR : Hid (Row wr (w.heap.size + 1) (.slice (some ⟨w.heap.size + 1, 0, none⟩) (N / 2) (N / 2)) (Tic.cts (N / 2) (Tic.gI N S (y + 1) 0))) := by
              have := HR0.out
              rw [Tic.cts_congr (fun d => (gI_eq2 (n := N) (y := y) (a := y) (b := X) (HY.out.trans HXL0.out.symm) d).trans (Tic.gI_row N S y d (by omega)).symm)] at this
              exact this
            go_wp2
            go_roundw
            case rel => exact ⟨y + 1, j + 1, by omega, by omega, by go_num, by rw [tonesTo_next HYB.out, HY.out], HR, HT, c0, hgs, hbel⟩
            case measure => simp [intOf]; omega
      · have : i = l := by omega
        subst this
        go_wp2
        go_ret
        refine ⟨_, rfl, ?_, hbel⟩
        have := HR.out.mono (B' := w.heap.size) (by omega)
        rw [Tic.cts_congr (fun d => (gI_eq (n := N) (a := N) (b := Y) (by omega) hY (HL.out.trans HYL.out.symm) d).trans (Tic.gI_end N S d))] at this
        exact this


end Go.Proofs.Ytmofhhffkppelaa
