/- Contracts of the document's own words: a clause that is unit, one that is broken, two lists that are alike. -/
import Derived.Test.YtlmbgaconjcaiabPlainR
import Derived.Test.YtlmbgaconjcaiabWalkM
set_option linter.unusedVariables false
set_option linter.unusedSimpArgs false
namespace Go.Proofs.Ytlmbgaconjcaiab
open Go.RowKit

theorem hasB_true {t : List Int} {x : Int} : hasB t x = true ↔ x ∈ t := by unfold hasB; rw [List.any_eq_true]; simp
theorem hasB_false {t : List Int} {x : Int} : hasB t x = false ↔ x ∉ t := by rw [← hasB_true]; simp
theorem wrap_neg' {l : Int} (h : -1048576 ≤ l ∧ l ≤ 1048576) : IntKind.i64.wrap (-l) = -l := by rw [IntKind.wrap_i64]; omega

def alikeB (xs ys : List Int) : Bool := xs.all (fun x => hasB ys x) && (ys.all (fun x => hasB xs x) && decide (xs.length = ys.length))

end Go.Proofs.Ytlmbgaconjcaiab
