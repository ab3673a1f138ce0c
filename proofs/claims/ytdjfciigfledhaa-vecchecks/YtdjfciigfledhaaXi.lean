/- The law of words that may be, of all lists. -/
import Derived.Test.YtdjfciigfledhaaXh
set_option linter.unusedVariables false
namespace Go.Proofs.Ytdjfciigfledhaa
open Go.RowKit Go.Maps

theorem checks_any (w : World) (ag ax bx : Option Addr) (cg ca cb : Nat) (g : List Gt) (a b : List Int) (hg : GS w ag g) (hf : ag = none → g = [] ∧ cg = 0) (hra : Row w ax a) (hrb : Row w bx b) (hca : a.length ≤ ca) (hcb : b.length ≤ cb)
    (hgl : g.length ≤ maxLen) (hal : a.length ≤ maxLen) (hbl : b.length ≤ maxLen) :
    Calls Try.prog 7 #[.slice ag g.length cg, .slice ax a.length ca, .slice bx b.length cb] w fun e w' => e = .returned (.bool true) ∧ Below w.heap.size w w' := by
  by_cases h : 12 < g.length ∨ 40 < a.length ∨ 40 < b.length ∨ ¬ May g
  · exact checks_out w ag ax bx cg ca cb g a b hg hgl hal hbl h
  · have h1 : g.length ≤ 12 := Nat.le_of_not_lt fun x => h (.inl x)
    have h2 : a.length ≤ 40 := Nat.le_of_not_lt fun x => h (.inr (.inl x))
    have h3 : b.length ≤ 40 := Nat.le_of_not_lt fun x => h (.inr (.inr (.inl x)))
    have h4 : May g := Classical.byContradiction fun x => h (.inr (.inr (.inr x)))
    exact checks_in w ag ax bx cg ca cb g a b hg hf hra hrb hca hcb h1 h2 h3 h4
end Go.Proofs.Ytdjfciigfledhaa
