/-
  The walks of the laws of spread sets and of even ones.
-/
import Derived.Test.YtmofhhffkppelaaDraws2
import Derived.Test.YtmofhhffkppelaaLawLow
import Derived.Test.YtmofhhffkppelaaEven
import Derived.Test.YtmofhhffkppelaaSpread
import Derived.Test.YtmofhhffkppelaaEvenLaw
import Derived.Test.YtmofhhffkppelaaKind
namespace Go.Proofs.Ytmofhhffkppelaa
open Go.RowKit
set_option linter.unusedVariables false

theorem allTo_congr {p q : Nat → Bool} {n s : Nat} : ∀ j, (∀ i, 1 ≤ i → i ≤ j → p (Tic.dset n s i) = q (Tic.dset n s i)) → Tic.allTo p n s j = Tic.allTo q n s j
  | 0, _ => rfl
  | j + 1, h => by
    unfold Tic.allTo
    rw [allTo_congr j (fun i a b => h i a (by omega)), h (j + 1) (by omega) (by omega)]
theorem allL_evn {n s : Nat} (hn0 : 0 < n) (hn : n ≤ 12) : allL Tic.okL n s (Tic.rk s n - 1) = Tic.evn n s := by
  refine allTo_congr _ fun i a b => ?_
  exact (Tic.okL_tn (Tic.dset_lt hn0 s i) hn (Tic.dset_pos (by omega))).1
theorem allL_dbl {n s : Nat} (hn0 : 0 < n) (hn : n ≤ 12) : allL (fun L => L.length == 2) n s (Tic.rk s n - 1) = Tic.dbl n s := by
  refine allTo_congr _ fun i a b => ?_
  exact (Tic.okL_tn (Tic.dset_lt hn0 s i) hn (Tic.dset_pos (by omega))).2

end Go.Proofs.Ytmofhhffkppelaa
