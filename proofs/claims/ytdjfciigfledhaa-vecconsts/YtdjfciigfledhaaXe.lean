/- The law of constants and inputs, of all numbers. -/
import Derived.Test.YtdjfciigfledhaaXd
set_option linter.unusedVariables false
namespace Go.Proofs.Ytdjfciigfledhaa
open Go.RowKit Go.Maps

theorem consts_any (w : World) (x n : Int) (hx : inI64 x) :
    Calls Try.prog 8 #[.int .i64 x, .int .i64 n] w fun e w' => e = .returned (.bool true) ∧ Below w.heap.size w w' := by
  by_cases h : 1 ≤ n ∧ n ≤ 16
  · obtain ⟨k, rfl⟩ : ∃ k : Nat, n = (k : Int) := ⟨n.toNat, by omega⟩
    exact consts_yes w x hx k (by omega) (by omega)
  · exact consts_no w x n h
end Go.Proofs.Ytdjfciigfledhaa
