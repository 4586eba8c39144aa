/-
  The library's count of bits in six steps, for numbers below 4096. No program in sight.
-/
import Derived.Test.YtmofhhffkppelaaMath
import Derived.Laws.BitsAllLaws
namespace Go.Proofs.Ytmofhhffkppelaa
open Go.RowKit

/-! The six steps of the count -/
def o1 (x : Int) : Int := IntKind.u64.wrap (bits .and .u64 (x / 2) 6148914691236517205 + bits .and .u64 x 6148914691236517205)
def o2 (x : Int) : Int := IntKind.u64.wrap (bits .and .u64 (x / 4) 3689348814741910323 + bits .and .u64 x 3689348814741910323)
def o3 (x : Int) : Int := bits .and .u64 (IntKind.u64.wrap (x / 16 + x)) 1085102592571150095
def o4 (x : Int) : Int := IntKind.u64.wrap (x + x / 256)
def o5 (x : Int) : Int := IntKind.u64.wrap (x + x / 65536)
def o6 (x : Int) : Int := IntKind.u64.wrap (x + x / 4294967296)
def oAll (x : Int) : Int := bits .and .i64 (wrap64 (o6 (o5 (o4 (o3 (o2 (o1 x))))))) 127
theorem ones_dec : ∀ a : Fin 64, ∀ b : Fin 64, oAll ((64 * a.val + b.val : Nat) : Int) = (Tic.wt 12 (64 * a.val + b.val) : Int) := by decide +kernel
theorem ones_all {X : Nat} (h : X < 4096) : oAll (X : Int) = (Tic.wt 12 X : Int) := by
  have := ones_dec ⟨X / 64, by omega⟩ ⟨X % 64, by omega⟩
  rw [show 64 * (X / 64) + X % 64 = X by omega] at this
  exact this

theorem ones_long {X : Nat} (h : X < 4096) : bits .and .i64 (wrap64 (o6 (o5 (o4 (o3 (o2 (o1 (X : Int)))))))) 127 = (Tic.wt 12 X : Int) := ones_all h

end Go.Proofs.Ytmofhhffkppelaa
