/-
  No cell of these rows narrows 'for every input' (looked for: loops, veiled, ifaces, maps, wideKeys, modest, calm, conditions, laid).
  DERIVED. THE GIVEN ROWS OF THIS SEAT. 6 by the template 'for every input the law returns true; each argument reads behind the call as it read before'; 0 by the template 'total and deterministic' (their statements: YtdjfciigfledhaaTotals.lean).
  GIVEN WITH THE SEED: the statements are not yours to turn. If you find one false, say at which input.
  Laid BY PROGRAM, IN A SANDBOX (cutbox-rows.mjs): the forced cells as the released guide's own fill.sh prints them over the translation 092fb5ca772df566… (all of the seat's roots in one cut). By AI agents, Wed Nov 11 2026. No macro, syntax, notation, axiom, sorry.
-/
import Derived.Test.YtdjfciigfledhaaChecked
import GoSem.Claim
import GoSem.ClaimJoined
import GoSem.ClaimMapViews
import Derived.JoinedTies
import Derived.KernelRfl
namespace Go.Proofs.Ytdjfciigfledhaa
/- THE CELL 'sum', in the pinned program and in every row, IS THE sha256 OF THE DUMP (.gsa) THAT YtdjfciigfledhaaProg.lean LOADS. Nothing in Lean hashes anything: it is a label: what it is worth is what the hold of that sum in a sandbox is worth. -/
noncomputable def Try.pinned : Pinned := { name := "ytdjfciigfledhaa", sum := "092fb5ca772df5666c344afd59d586cb25c9d9e9498c82dcdb9941bff35ca353", checked := Try.checked }
namespace Rows
def none {H : Type} : Left H := { results := [], args := [] }

/-- 'fathomlaw16.VecSums': WHATEVER THE INPUT: true; the input reads as it did. -/
def vecSumsSpec : ChangeSpec := { name := "vecSums", fn := fun _ => fun
  | [d1, d2] => { results := [.lit (.bool true)], args := [d1, d2] }
  | _ => none }
def vecSumsRow : OpenClaim := { program := "ytdjfciigfledhaa", sum := "092fb5ca772df5666c344afd59d586cb25c9d9e9498c82dcdb9941bff35ca353", func := "fathom/fathomlaw16.VecSums", spec := "vecSums", plainKeys := false, apart := false }
def VecSumsSaid : Prop := vecSumsRow.holds Try.pinned (OpenSpec.ofChange vecSumsSpec)

/-- ITS FALSE NEIGHBOUR: 'it returns false'. Refute it at one input. -/
def vecSumsWrong : ChangeSpec := { name := "vecSums", fn := fun _ => fun
  | [d1, d2] => { results := [.lit (.bool false)], args := [d1, d2] }
  | _ => none }
def VecSumsWrongFalsely : Prop := vecSumsRow.holds Try.pinned (OpenSpec.ofChange vecSumsWrong)

/-- 'fathomlaw16.VecDivides': WHATEVER THE INPUT: true; the input reads as it did. -/
def vecDividesSpec : ChangeSpec := { name := "vecDivides", fn := fun _ => fun
  | [d1, d2] => { results := [.lit (.bool true)], args := [d1, d2] }
  | _ => none }
def vecDividesRow : OpenClaim := { program := "ytdjfciigfledhaa", sum := "092fb5ca772df5666c344afd59d586cb25c9d9e9498c82dcdb9941bff35ca353", func := "fathom/fathomlaw16.VecDivides", spec := "vecDivides", unfollowed := true, recurses := true, plainKeys := false, apart := false }
def VecDividesSaid : Prop := vecDividesRow.holds Try.pinned (OpenSpec.ofChange vecDividesSpec)

/-- ITS FALSE NEIGHBOUR: 'it returns false'. Refute it at one input. -/
def vecDividesWrong : ChangeSpec := { name := "vecDivides", fn := fun _ => fun
  | [d1, d2] => { results := [.lit (.bool false)], args := [d1, d2] }
  | _ => none }
def VecDividesWrongFalsely : Prop := vecDividesRow.holds Try.pinned (OpenSpec.ofChange vecDividesWrong)

/-- 'fathomlaw16.VecBits': WHATEVER THE INPUT: true; the input reads as it did. -/
def vecBitsSpec : ChangeSpec := { name := "vecBits", fn := fun _ => fun
  | [d1, d2] => { results := [.lit (.bool true)], args := [d1, d2] }
  | _ => none }
def vecBitsRow : OpenClaim := { program := "ytdjfciigfledhaa", sum := "092fb5ca772df5666c344afd59d586cb25c9d9e9498c82dcdb9941bff35ca353", func := "fathom/fathomlaw16.VecBits", spec := "vecBits", unfollowed := true, recurses := true, plainKeys := false, apart := false }
def VecBitsSaid : Prop := vecBitsRow.holds Try.pinned (OpenSpec.ofChange vecBitsSpec)

/-- ITS FALSE NEIGHBOUR: 'it returns false'. Refute it at one input. -/
def vecBitsWrong : ChangeSpec := { name := "vecBits", fn := fun _ => fun
  | [d1, d2] => { results := [.lit (.bool false)], args := [d1, d2] }
  | _ => none }
def VecBitsWrongFalsely : Prop := vecBitsRow.holds Try.pinned (OpenSpec.ofChange vecBitsWrong)

/-- 'fathomlaw16.VecAsks': WHATEVER THE INPUT: true; the input reads as it did. -/
def vecAsksSpec : ChangeSpec := { name := "vecAsks", fn := fun _ => fun
  | [d1, d2, d3] => { results := [.lit (.bool true)], args := [d1, d2, d3] }
  | _ => none }
def vecAsksRow : OpenClaim := { program := "ytdjfciigfledhaa", sum := "092fb5ca772df5666c344afd59d586cb25c9d9e9498c82dcdb9941bff35ca353", func := "fathom/fathomlaw16.VecAsks", spec := "vecAsks", unfollowed := true, recurses := true, plainKeys := false, apart := false }
def VecAsksSaid : Prop := vecAsksRow.holds Try.pinned (OpenSpec.ofChange vecAsksSpec)

/-- ITS FALSE NEIGHBOUR: 'it returns false'. Refute it at one input. -/
def vecAsksWrong : ChangeSpec := { name := "vecAsks", fn := fun _ => fun
  | [d1, d2, d3] => { results := [.lit (.bool false)], args := [d1, d2, d3] }
  | _ => none }
def VecAsksWrongFalsely : Prop := vecAsksRow.holds Try.pinned (OpenSpec.ofChange vecAsksWrong)

/-- 'fathomlaw16.VecChecks': WHATEVER THE INPUT: true; the input reads as it did. -/
def vecChecksSpec : ChangeSpec := { name := "vecChecks", fn := fun _ => fun
  | [d1, d2, d3] => { results := [.lit (.bool true)], args := [d1, d2, d3] }
  | _ => none }
def vecChecksRow : OpenClaim := { program := "ytdjfciigfledhaa", sum := "092fb5ca772df5666c344afd59d586cb25c9d9e9498c82dcdb9941bff35ca353", func := "fathom/fathomlaw16.VecChecks", spec := "vecChecks", unfollowed := true, recurses := true, plainKeys := false, apart := false }
def VecChecksSaid : Prop := vecChecksRow.holds Try.pinned (OpenSpec.ofChange vecChecksSpec)

/-- ITS FALSE NEIGHBOUR: 'it returns false'. Refute it at one input. -/
def vecChecksWrong : ChangeSpec := { name := "vecChecks", fn := fun _ => fun
  | [d1, d2, d3] => { results := [.lit (.bool false)], args := [d1, d2, d3] }
  | _ => none }
def VecChecksWrongFalsely : Prop := vecChecksRow.holds Try.pinned (OpenSpec.ofChange vecChecksWrong)

/-- 'fathomlaw16.VecConsts': WHATEVER THE INPUT: true; the input reads as it did. -/
def vecConstsSpec : ChangeSpec := { name := "vecConsts", fn := fun _ => fun
  | [d1, d2] => { results := [.lit (.bool true)], args := [d1, d2] }
  | _ => none }
def vecConstsRow : OpenClaim := { program := "ytdjfciigfledhaa", sum := "092fb5ca772df5666c344afd59d586cb25c9d9e9498c82dcdb9941bff35ca353", func := "fathom/fathomlaw16.VecConsts", spec := "vecConsts", plainKeys := false, apart := false }
def VecConstsSaid : Prop := vecConstsRow.holds Try.pinned (OpenSpec.ofChange vecConstsSpec)

/-- ITS FALSE NEIGHBOUR: 'it returns false'. Refute it at one input. -/
def vecConstsWrong : ChangeSpec := { name := "vecConsts", fn := fun _ => fun
  | [d1, d2] => { results := [.lit (.bool false)], args := [d1, d2] }
  | _ => none }
def VecConstsWrongFalsely : Prop := vecConstsRow.holds Try.pinned (OpenSpec.ofChange vecConstsWrong)

/- THE SECOND FORM. 'bulk': how many values and letters a reading holds, each counted each time it is reached (what is shared counts as often as it is met; a slice's spare places count too). A statement '..UptoSaid' is the law's where the arguments, and the package variables that the reading takes, are together of bulk at most 1048576: NARROWER than '..Said'. Prove '..Said' where nothing that the law and all that it calls make is longer than what came in: it says more and counts as full. Else prove '..UptoSaid'. A law counts once. -/
mutual
def uptoBulk {H : Type} : DataW H → Nat
  | .lit (.string bytes) => bytes.length + 1
  | .lit _ => 1
  | .nil => 1
  | .ptr d => uptoBulk d + 1
  | .slice elems spare => uptoBulkAll elems + uptoBulkAll spare + 1
  | .agg parts => uptoBulkAll parts + 1
  | .iface _ d => uptoBulk d + 1
  | .map entries => uptoBulkEntries entries + 1
  | .held _ => 1
def uptoBulkAll {H : Type} : List (DataW H) → Nat
  | [] => 0
  | d :: r => uptoBulk d + uptoBulkAll r
def uptoBulkEntries {H : Type} : List (Lit × DataW H) → Nat
  | [] => 0
  | x :: r => uptoBulkEntry x + uptoBulkEntries r
def uptoBulkEntry {H : Type} : Lit × DataW H → Nat
  | (.string bytes, d) => bytes.length + uptoBulk d + 1
  | (_, d) => uptoBulk d + 1
 end
def uptoSmall : (H : Type) → List (DataW H) → Bool := fun _ ds => decide (uptoBulkAll ds ≤ 1048576)
def OpenSpec.upto (s : _root_.Go.ChangeSpec) : _root_.Go.OpenSpec := { _root_.Go.OpenSpec.ofChange s with cond := some uptoSmall }

/-- 'fathomlaw16.VecSums', WHERE WHAT IT READS IS OF BULK AT MOST 1048576: true; the input reads as it did. -/
def vecSumsUptoRow : OpenClaim := { program := "ytdjfciigfledhaa", sum := "092fb5ca772df5666c344afd59d586cb25c9d9e9498c82dcdb9941bff35ca353", func := "fathom/fathomlaw16.VecSums", spec := "vecSums", plainKeys := false, apart := false, narrowed := true }
def VecSumsUptoSaid : Prop := vecSumsUptoRow.holds Try.pinned (OpenSpec.upto vecSumsSpec)

/-- 'fathomlaw16.VecDivides', WHERE WHAT IT READS IS OF BULK AT MOST 1048576: true; the input reads as it did. -/
def vecDividesUptoRow : OpenClaim := { program := "ytdjfciigfledhaa", sum := "092fb5ca772df5666c344afd59d586cb25c9d9e9498c82dcdb9941bff35ca353", func := "fathom/fathomlaw16.VecDivides", spec := "vecDivides", unfollowed := true, recurses := true, plainKeys := false, apart := false, narrowed := true }
def VecDividesUptoSaid : Prop := vecDividesUptoRow.holds Try.pinned (OpenSpec.upto vecDividesSpec)

/-- 'fathomlaw16.VecBits', WHERE WHAT IT READS IS OF BULK AT MOST 1048576: true; the input reads as it did. -/
def vecBitsUptoRow : OpenClaim := { program := "ytdjfciigfledhaa", sum := "092fb5ca772df5666c344afd59d586cb25c9d9e9498c82dcdb9941bff35ca353", func := "fathom/fathomlaw16.VecBits", spec := "vecBits", unfollowed := true, recurses := true, plainKeys := false, apart := false, narrowed := true }
def VecBitsUptoSaid : Prop := vecBitsUptoRow.holds Try.pinned (OpenSpec.upto vecBitsSpec)

/-- 'fathomlaw16.VecAsks', WHERE WHAT IT READS IS OF BULK AT MOST 1048576: true; the input reads as it did. -/
def vecAsksUptoRow : OpenClaim := { program := "ytdjfciigfledhaa", sum := "092fb5ca772df5666c344afd59d586cb25c9d9e9498c82dcdb9941bff35ca353", func := "fathom/fathomlaw16.VecAsks", spec := "vecAsks", unfollowed := true, recurses := true, plainKeys := false, apart := false, narrowed := true }
def VecAsksUptoSaid : Prop := vecAsksUptoRow.holds Try.pinned (OpenSpec.upto vecAsksSpec)

/-- 'fathomlaw16.VecChecks', WHERE WHAT IT READS IS OF BULK AT MOST 1048576: true; the input reads as it did. -/
def vecChecksUptoRow : OpenClaim := { program := "ytdjfciigfledhaa", sum := "092fb5ca772df5666c344afd59d586cb25c9d9e9498c82dcdb9941bff35ca353", func := "fathom/fathomlaw16.VecChecks", spec := "vecChecks", unfollowed := true, recurses := true, plainKeys := false, apart := false, narrowed := true }
def VecChecksUptoSaid : Prop := vecChecksUptoRow.holds Try.pinned (OpenSpec.upto vecChecksSpec)

/-- 'fathomlaw16.VecConsts', WHERE WHAT IT READS IS OF BULK AT MOST 1048576: true; the input reads as it did. -/
def vecConstsUptoRow : OpenClaim := { program := "ytdjfciigfledhaa", sum := "092fb5ca772df5666c344afd59d586cb25c9d9e9498c82dcdb9941bff35ca353", func := "fathom/fathomlaw16.VecConsts", spec := "vecConsts", plainKeys := false, apart := false, narrowed := true }
def VecConstsUptoSaid : Prop := vecConstsUptoRow.holds Try.pinned (OpenSpec.upto vecConstsSpec)

end Rows
end Go.Proofs.Ytdjfciigfledhaa
