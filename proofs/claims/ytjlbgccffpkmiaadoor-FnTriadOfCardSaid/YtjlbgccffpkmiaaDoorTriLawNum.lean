/-
  Plain mathematics of the laws of triads: steps keep two tones, shifts and turns go with steps, words in two parts. No program in sight.
-/
import Derived.Test.YtjlbgccffpkmiaaDoorTriSetNum
namespace Go.Proofs.YtjlbgccffpkmiaaDoor.Tic
set_option linter.unusedVariables false

theorem wt_tri : ∀ t : Fin 24, wt 12 (triSet t.val) = 3 := by decide +kernel
theorem triOf_set : ∀ t : Fin 24, triOf (triSet t.val : Int) = some t.val := by decide +kernel
theorem keep_L : ∀ t : Fin 24, wt 12 (triSet (stp t.val 76) &&& triSet t.val) = 2 ∧ stp (stp t.val 76) 76 = t.val ∧ (stp t.val 76 + t.val) % 2 = 1 := by decide +kernel
theorem keep_P : ∀ t : Fin 24, wt 12 (triSet (stp t.val 80) &&& triSet t.val) = 2 ∧ stp (stp t.val 80) 80 = t.val ∧ (stp t.val 80 + t.val) % 2 = 1 := by decide +kernel
theorem keep_R : ∀ t : Fin 24, wt 12 (triSet (stp t.val 82) &&& triSet t.val) = 2 ∧ stp (stp t.val 82) 82 = t.val ∧ (stp t.val 82 + t.val) % 2 = 1 := by decide +kernel
theorem keep {t : Int} {c : Nat} (h : Tri t) (hc : Ltr c) : wt 12 (triSet (stp t c) &&& triSet t) = 2 ∧ stp (stp t c) c = t ∧ (stp t c + t) % 2 = 1 := by
  obtain ⟨n, hn, rfl⟩ := tri_nat h
  rcases hc with rfl | rfl | rfl
  · exact keep_L ⟨n, hn⟩
  · exact keep_P ⟨n, hn⟩
  · exact keep_R ⟨n, hn⟩
theorem wlk_par {t : Int} {s : ByteArray} (h : Tri t) (hs : ∀ k, k < s.size → Ltr (bt s k)) : ∀ k, k ≤ s.size → (wlk t s k + t + k) % 2 = 0
  | 0, _ => by show (t + t + ((0 : Nat) : Int)) % 2 = 0; omega
  | k + 1, hk => by
    have h1 := wlk_par h hs k (by omega)
    have h2 := (keep (wlk_tri s h k) (hs k (by omega))).2.2
    show (stp (wlk t s k) (bt s k) + t + ((k + 1 : Nat) : Int)) % 2 = 0
    omega
theorem bt_ext {s u : ByteArray} {a k : Nat} (h : ∀ i, i < u.size → bt u i = bt s (a + i)) : ∀ k, k ≤ u.size → ∀ t, wlk (wlk t s a) u k = wlk t s (a + k)
  | 0, _, t => rfl
  | k + 1, hk, t => by
    show stp (wlk (wlk t s a) u k) (bt u k) = stp (wlk t s (a + k)) (bt s (a + k))
    rw [bt_ext (k := 0) h k (by omega) t, h k (by omega)]
theorem bt_extract (s : ByteArray) (a b i : Nat) (hb : b ≤ s.size) (hi : i < b - a) : bt (s.extract a b) i = bt s (a + i) := by
  have h1 : i < (s.extract a b).size := by rw [ByteArray.size_extract]; omega
  unfold bt
  rw [dif_pos h1, dif_pos (by omega)]
  rw [ByteArray.getElem_extract]
theorem size_extract' (s : ByteArray) (a b : Nat) (hb : b ≤ s.size) : (s.extract a b).size = b - a := by rw [ByteArray.size_extract]; omega
/-- steps in two parts are steps -/
theorem wlk_split (t : Int) (s : ByteArray) (k : Nat) (hk : k ≤ s.size) : wlk (wlk t (s.extract 0 k) (s.extract 0 k).size) (s.extract k s.size) (s.extract k s.size).size = wlk t s s.size := by
  have e1 : wlk t (s.extract 0 k) (s.extract 0 k).size = wlk t s k := by
    have := bt_ext (s := s) (u := s.extract 0 k) (a := 0) (k := 0) (fun i hi => bt_extract s 0 k i hk (by rw [size_extract' s 0 k hk] at hi; exact hi)) (s.extract 0 k).size (Nat.le_refl _) t
    rw [Nat.zero_add] at this
    rw [show wlk t s 0 = t from rfl] at this
    rw [this, size_extract' s 0 k hk, Nat.sub_zero]
  rw [e1]
  have := bt_ext (s := s) (u := s.extract k s.size) (a := k) (k := 0) (fun i hi => bt_extract s k s.size i (Nat.le_refl _) (by rw [size_extract' s k s.size (Nat.le_refl _)] at hi; exact hi)) (s.extract k s.size).size (Nat.le_refl _) t
  rw [this, size_extract' s k s.size (Nat.le_refl _)]
  congr 1; omega
theorem wrd_part {s : ByteArray} (h : Wrd s) (a b : Nat) (hb : b ≤ s.size) : Wrd (s.extract a b) := by
  have e := size_extract' s a b hb
  refine ⟨by rw [e]; have := h.1; omega, fun i hi => ?_⟩
  rw [e] at hi
  rw [bt_extract s a b i hb hi]
  exact h.2 _ (by omega)

theorem shT_mod (t k : Int) : shT t k = shT t (k % 12) := by
  unfold shT
  rw [Int.add_emod_emod]
theorem mvd_mod (way k : Int) (x : Nat) : mvd 12 way k x = mvd 12 way (k % 12) x := by
  show ((k + way * x) % (12 : Int)).toNat = ((k % 12 + way * x) % (12 : Int)).toNat
  rw [Int.emod_add_emod]
theorem img_congr {f g : Nat → Nat} (h : ∀ x, f x = g x) (s : Nat) : ∀ k, img f s k = img g s k
  | 0 => rfl
  | k + 1 => by unfold img; rw [img_congr h s k, h k]
theorem shf_mod (k : Int) (s : Nat) : shf 12 k s = shf 12 (k % 12) s := img_congr (fun x => mvd_mod 1 k x) s 12
theorem tur_mod (k : Int) (s : Nat) : tur 12 k s = tur 12 (k % 12) s := img_congr (fun x => mvd_mod (-1) k x) s 12
theorem mod_fin (k : Int) : ∃ m : Fin 12, k % 12 = (m.val : Int) := ⟨⟨(k % 12).toNat, by omega⟩, by show k % 12 = (((k % 12).toNat : Nat) : Int); omega⟩
theorem sh_L : ∀ t : Fin 24, ∀ k : Fin 12, stp (shT t.val k.val) 76 = shT (stp t.val 76) k.val := by decide +kernel
theorem sh_P : ∀ t : Fin 24, ∀ k : Fin 12, stp (shT t.val k.val) 80 = shT (stp t.val 80) k.val := by decide +kernel
theorem sh_R : ∀ t : Fin 24, ∀ k : Fin 12, stp (shT t.val k.val) 82 = shT (stp t.val 82) k.val := by decide +kernel
theorem sh_stp {t : Int} {c : Nat} (k : Int) (h : Tri t) (hc : Ltr c) : stp (shT t k) c = shT (stp t c) k := by
  obtain ⟨n, hn, rfl⟩ := tri_nat h
  obtain ⟨m, hm⟩ := mod_fin k
  rw [shT_mod _ k, shT_mod _ k, hm]
  rcases hc with rfl | rfl | rfl
  · exact sh_L ⟨n, hn⟩ m
  · exact sh_P ⟨n, hn⟩ m
  · exact sh_R ⟨n, hn⟩ m
theorem sh_wlk {t : Int} {s : ByteArray} (k : Int) (h : Tri t) (hs : ∀ j, j < s.size → Ltr (bt s j)) : ∀ j, j ≤ s.size → wlk (shT t k) s j = shT (wlk t s j) k
  | 0, _ => rfl
  | j + 1, hj => by
    show stp (wlk (shT t k) s j) (bt s j) = shT (stp (wlk t s j) (bt s j)) k
    rw [sh_wlk k h hs j (by omega), sh_stp k (wlk_tri s h j) (hs j (by omega))]
theorem sh_set0 : ∀ t : Fin 24, ∀ k : Fin 12, triSet (shT t.val k.val) = shf 12 k.val (triSet t.val) := by decide +kernel
theorem sh_set {t : Int} (k : Int) (h : Tri t) : triSet (shT t k) = shf 12 k (triSet t) := by
  obtain ⟨n, hn, rfl⟩ := tri_nat h
  obtain ⟨m, hm⟩ := mod_fin k
  rw [shT_mod, shf_mod, hm]
  exact sh_set0 ⟨n, hn⟩ m
/-- the triad turned by k -/
def trF (t k : Int) : Int := 2 * ((k - t / 2 - 7) % 12) + (1 - t % 2)
theorem trF_tri {t : Int} (k : Int) : Tri (trF t k) := by
  have h3 := Int.emod_nonneg (k - t / 2 - 7) (b := 12) (by omega)
  have h4 := Int.emod_lt_of_pos (k - t / 2 - 7) (b := 12) (by omega)
  unfold trF Tri
  omega
theorem trF_mod (t k : Int) : trF t k = trF t (k % 12) := by
  unfold trF
  have : (k - t / 2 - 7) % 12 = (k % 12 - t / 2 - 7) % 12 := by omega
  rw [this]
theorem tr_set0 : ∀ t : Fin 24, ∀ k : Fin 12, triOf (tur 12 k.val (triSet t.val) : Int) = some (trF t.val k.val).toNat := by decide +kernel
theorem tr_set {t : Int} (k : Int) (h : Tri t) : triOf (tur 12 k (triSet t) : Int) = some (trF t k).toNat := by
  obtain ⟨n, hn, rfl⟩ := tri_nat h
  obtain ⟨m, hm⟩ := mod_fin k
  rw [trF_mod, tur_mod, hm]
  exact tr_set0 ⟨n, hn⟩ m
theorem tr_L : ∀ t : Fin 24, ∀ k : Fin 12, stp (trF t.val k.val) 76 = trF (stp t.val 76) k.val := by decide +kernel
theorem tr_P : ∀ t : Fin 24, ∀ k : Fin 12, stp (trF t.val k.val) 80 = trF (stp t.val 80) k.val := by decide +kernel
theorem tr_R : ∀ t : Fin 24, ∀ k : Fin 12, stp (trF t.val k.val) 82 = trF (stp t.val 82) k.val := by decide +kernel
theorem tr_stp {t : Int} {c : Nat} (k : Int) (h : Tri t) (hc : Ltr c) : stp (trF t k) c = trF (stp t c) k := by
  obtain ⟨n, hn, rfl⟩ := tri_nat h
  obtain ⟨m, hm⟩ := mod_fin k
  rw [trF_mod _ k, trF_mod _ k, hm]
  rcases hc with rfl | rfl | rfl
  · exact tr_L ⟨n, hn⟩ m
  · exact tr_P ⟨n, hn⟩ m
  · exact tr_R ⟨n, hn⟩ m
theorem tr_wlk {t : Int} {s : ByteArray} (k : Int) (h : Tri t) (hs : ∀ j, j < s.size → Ltr (bt s j)) : ∀ j, j ≤ s.size → wlk (trF t k) s j = trF (wlk t s j) k
  | 0, _ => rfl
  | j + 1, hj => by
    show stp (wlk (trF t k) s j) (bt s j) = trF (stp (wlk t s j) (bt s j)) k
    rw [tr_wlk k h hs j (by omega), tr_stp k (wlk_tri s h j) (hs j (by omega))]
theorem tr_back0 : ∀ t : Fin 24, ∀ k : Fin 12, trF (trF t.val k.val) k.val = t.val ∧ (trF t.val k.val + t.val) % 2 = 1 := by decide +kernel
theorem tr_back {t : Int} (k : Int) (h : Tri t) : trF (trF t k) k = t ∧ (trF t k + t) % 2 = 1 := by
  obtain ⟨n, hn, rfl⟩ := tri_nat h
  obtain ⟨m, hm⟩ := mod_fin k
  rw [trF_mod _ k, trF_mod _ k, hm]
  exact tr_back0 ⟨n, hn⟩ m
end Go.Proofs.YtjlbgccffpkmiaaDoor.Tic
