/-
  Plain mathematics of a chain of fifths: the tones by their powers of 3, put in order. No program in sight.
-/
import Derived.Test.YtpcbplademohnaaDoorTuneNum
import Derived.Sort.Defs
namespace Go.Proofs.YtpcbplademohnaaDoor.Tic
set_option maxRecDepth 20000

/-- the power of 2 of the tone that is so many fifths away -/
def oc (x : Fin 12) : Int := oct (x.val : Int) 0
def fu (x : Fin 12) : Nat := rup (oc x) (x.val : Int) 0
def fd (x : Fin 12) : Nat := rdn (oc x) (x.val : Int) 0
def less (x y : Fin 12) : Bool := decide (fu x * fd y < fu y * fd x)
theorem fud_lt : ∀ x y : Fin 12, fu x * fd y < 1152921504606846976 := by decide +kernel
theorem oc_bd : ∀ x : Fin 12, -24 ≤ oc x ∧ oc x ≤ 0 := by decide +kernel
/-- the tones in the order in which they are made -/
def tones (n : Nat) : List (Fin 12) := (List.range n).map (Fin.ofNat 12)
/-- the loop of the sort, with its rounds counted -/
def insF (a : Nat) : Nat → Nat → Array (Fin 12) → Array (Fin 12)
  | 0, _, d => d
  | f + 1, i, d => insF a f (i + 1) (Go.Sort.insInner less a i d)
theorem insOuter_F (a b : Nat) : ∀ (f i : Nat) (d : Array (Fin 12)), i + f = b → Go.Sort.insOuter less a b i d = insF a f i d
  | 0, i, d, h => by rw [Go.Sort.insOuter, if_neg (by omega)]; rfl
  | f + 1, i, d, h => by rw [Go.Sort.insOuter, if_pos (by omega), insOuter_F a b f (i + 1) _ (by omega)]; rfl
/-- where a tone goes -/
def pos (L : List (Fin 12)) (x : Fin 12) : Nat := (L.takeWhile (fun y => less y x)).length
/-- the tones in order -/
def chain : Nat → List (Fin 12)
  | 0 => []
  | i + 1 => (chain i).take (pos (chain i) (Fin.ofNat 12 i)) ++ [Fin.ofNat 12 i] ++ (chain i).drop (pos (chain i) (Fin.ofNat 12 i))
theorem chain_tab : ∀ n : Fin 13, 1 ≤ n.val → (insF 0 (n.val - 1) 1 (tones n.val).toArray).toList = chain n.val ∧ (chain n.val).length = n.val := by decide +kernel
theorem chain_sort {n : Nat} (h1 : 1 ≤ n) (h2 : n ≤ 12) : Go.Sort.insertionSort less (tones n).toArray 0 n = (chain n).toArray := by
  have := (chain_tab ⟨n, by omega⟩ h1).1
  unfold Go.Sort.insertionSort
  rw [insOuter_F 0 n (n - 1) (0 + 1) _ (by omega), ← this]
theorem chain_len {n : Nat} (h2 : n ≤ 12) : (chain n).length = n := by
  rcases Nat.eq_zero_or_pos n with rfl | h
  · rfl
  · exact (chain_tab ⟨n, by omega⟩ h).2
/-- what is less, and where that ends -/
theorem pos_tab : ∀ i : Fin 12, pos (chain i.val) i ≤ i.val ∧ (∀ k : Fin 12, k.val < pos (chain i.val) i → less ((chain i.val).getD k.val 0) i = true) ∧ (pos (chain i.val) i < i.val → less ((chain i.val).getD (pos (chain i.val) i) 0) i = false) := by decide +kernel
theorem mem_tab : ∀ n : Fin 13, (chain n.val).all (fun x => decide (x.val < n.val)) = true := by decide +kernel
theorem chain_lt {n k : Nat} (h : n ≤ 12) (hk : k < n) : ((chain n).getD k 0).val < n := by
  have h1 := List.all_eq_true.1 (mem_tab ⟨n, by omega⟩)
  have h2 := h1 ((chain n).getD k 0) (by rw [List.getD_eq_getElem?_getD, List.getElem?_eq_getElem (by rw [chain_len h]; exact hk)]; exact List.getElem_mem _)
  simpa using h2
/-- less, as the ratio of the differences tells it -/
theorem less_tab : ∀ x y : Fin 12, decide (rup (oc x - oc y) ((x.val : Int) - y.val) 0 < rdn (oc x - oc y) ((x.val : Int) - y.val) 0) = less x y := by decide +kernel
end Go.Proofs.YtpcbplademohnaaDoor.Tic
