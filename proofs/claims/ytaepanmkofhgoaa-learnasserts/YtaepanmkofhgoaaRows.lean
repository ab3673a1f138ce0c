/-
  No cell of these rows narrows 'for every input' (looked for: loops, veiled, ifaces, maps, wideKeys, modest, calm, conditions, laid).
  DERIVED. THE GIVEN ROWS OF THIS SEAT. 5 by the template 'for every input the law returns true; each argument reads behind the call as it read before'; 0 by the template 'total and deterministic' (their statements: YtaepanmkofhgoaaTotals.lean).
  GIVEN WITH THE SEED: the statements are not yours to turn. If you find one false, say at which input.
  Laid BY PROGRAM, IN A SANDBOX (cutbox-rows.mjs): the forced cells as the released guide's own fill.sh prints them over the translation 60fd3daef366c7cb… (all of the seat's roots in one cut). By AI agents, Wed Nov 11 2026. No macro, syntax, notation, axiom, sorry.
-/
import Derived.Test.YtaepanmkofhgoaaChecked
import GoSem.Claim
import GoSem.ClaimJoined
import GoSem.ClaimMapViews
import Derived.JoinedTies
import Derived.KernelRfl
namespace Go.Proofs.Ytaepanmkofhgoaa
/- THE CELL 'sum', in the pinned program and in every row, IS THE sha256 OF THE DUMP (.gsa) THAT YtaepanmkofhgoaaProg.lean LOADS. Nothing in Lean hashes anything: it is a label: what it is worth is what the hold of that sum in a sandbox is worth. -/
noncomputable def Try.pinned : Pinned := { name := "ytaepanmkofhgoaa", sum := "60fd3daef366c7cbe56e06a1c157c0e04c38ff0fdfce3fa22f6ea6b371f37a76", checked := Try.checked }
namespace Rows
def none {H : Type} : Left H := { results := [], args := [] }

/-- 'fathomlaw12.LearnChecks': WHATEVER THE INPUT: true; the input reads as it did. -/
def learnChecksSpec : ChangeSpec := { name := "learnChecks", fn := fun _ => fun
  | [d1, d2] => { results := [.lit (.bool true)], args := [d1, d2] }
  | _ => none }
def learnChecksRow : OpenClaim := { program := "ytaepanmkofhgoaa", sum := "60fd3daef366c7cbe56e06a1c157c0e04c38ff0fdfce3fa22f6ea6b371f37a76", func := "fathom/fathomlaw12.LearnChecks", spec := "learnChecks", unfollowed := true, recurses := true, apart := false }
def LearnChecksSaid : Prop := learnChecksRow.holds Try.pinned (OpenSpec.ofChange learnChecksSpec)

/-- ITS FALSE NEIGHBOUR: 'it returns false'. Refute it at one input. -/
def learnChecksWrong : ChangeSpec := { name := "learnChecks", fn := fun _ => fun
  | [d1, d2] => { results := [.lit (.bool false)], args := [d1, d2] }
  | _ => none }
def LearnChecksWrongFalsely : Prop := learnChecksRow.holds Try.pinned (OpenSpec.ofChange learnChecksWrong)

/-- 'fathomlaw12.LearnLearns': WHATEVER THE INPUT: true; the input reads as it did. -/
def learnLearnsSpec : ChangeSpec := { name := "learnLearns", fn := fun _ => fun
  | [d1, d2] => { results := [.lit (.bool true)], args := [d1, d2] }
  | _ => none }
def learnLearnsRow : OpenClaim := { program := "ytaepanmkofhgoaa", sum := "60fd3daef366c7cbe56e06a1c157c0e04c38ff0fdfce3fa22f6ea6b371f37a76", func := "fathom/fathomlaw12.LearnLearns", spec := "learnLearns", unfollowed := true, recurses := true, apart := false }
def LearnLearnsSaid : Prop := learnLearnsRow.holds Try.pinned (OpenSpec.ofChange learnLearnsSpec)

/-- ITS FALSE NEIGHBOUR: 'it returns false'. Refute it at one input. -/
def learnLearnsWrong : ChangeSpec := { name := "learnLearns", fn := fun _ => fun
  | [d1, d2] => { results := [.lit (.bool false)], args := [d1, d2] }
  | _ => none }
def LearnLearnsWrongFalsely : Prop := learnLearnsRow.holds Try.pinned (OpenSpec.ofChange learnLearnsWrong)

/-- 'fathomlaw12.LearnShortens': WHATEVER THE INPUT: true; the input reads as it did. -/
def learnShortensSpec : ChangeSpec := { name := "learnShortens", fn := fun _ => fun
  | [d1, d2] => { results := [.lit (.bool true)], args := [d1, d2] }
  | _ => none }
def learnShortensRow : OpenClaim := { program := "ytaepanmkofhgoaa", sum := "60fd3daef366c7cbe56e06a1c157c0e04c38ff0fdfce3fa22f6ea6b371f37a76", func := "fathom/fathomlaw12.LearnShortens", spec := "learnShortens", unfollowed := true, recurses := true, apart := false }
def LearnShortensSaid : Prop := learnShortensRow.holds Try.pinned (OpenSpec.ofChange learnShortensSpec)

/-- ITS FALSE NEIGHBOUR: 'it returns false'. Refute it at one input. -/
def learnShortensWrong : ChangeSpec := { name := "learnShortens", fn := fun _ => fun
  | [d1, d2] => { results := [.lit (.bool false)], args := [d1, d2] }
  | _ => none }
def LearnShortensWrongFalsely : Prop := learnShortensRow.holds Try.pinned (OpenSpec.ofChange learnShortensWrong)

/-- 'fathomlaw12.LearnTeaches': WHATEVER THE INPUT: true; the input reads as it did. -/
def learnTeachesSpec : ChangeSpec := { name := "learnTeaches", fn := fun _ => fun
  | [d1, d2, d3] => { results := [.lit (.bool true)], args := [d1, d2, d3] }
  | _ => none }
def learnTeachesRow : OpenClaim := { program := "ytaepanmkofhgoaa", sum := "60fd3daef366c7cbe56e06a1c157c0e04c38ff0fdfce3fa22f6ea6b371f37a76", func := "fathom/fathomlaw12.LearnTeaches", spec := "learnTeaches", unfollowed := true, recurses := true, apart := false }
def LearnTeachesSaid : Prop := learnTeachesRow.holds Try.pinned (OpenSpec.ofChange learnTeachesSpec)

/-- ITS FALSE NEIGHBOUR: 'it returns false'. Refute it at one input. -/
def learnTeachesWrong : ChangeSpec := { name := "learnTeaches", fn := fun _ => fun
  | [d1, d2, d3] => { results := [.lit (.bool false)], args := [d1, d2, d3] }
  | _ => none }
def LearnTeachesWrongFalsely : Prop := learnTeachesRow.holds Try.pinned (OpenSpec.ofChange learnTeachesWrong)

/-- 'fathomlaw12.LearnAsserts': WHATEVER THE INPUT: true; the input reads as it did. -/
def learnAssertsSpec : ChangeSpec := { name := "learnAsserts", fn := fun _ => fun
  | [d1, d2] => { results := [.lit (.bool true)], args := [d1, d2] }
  | _ => none }
def learnAssertsRow : OpenClaim := { program := "ytaepanmkofhgoaa", sum := "60fd3daef366c7cbe56e06a1c157c0e04c38ff0fdfce3fa22f6ea6b371f37a76", func := "fathom/fathomlaw12.LearnAsserts", spec := "learnAsserts", unfollowed := true, recurses := true, apart := false }
def LearnAssertsSaid : Prop := learnAssertsRow.holds Try.pinned (OpenSpec.ofChange learnAssertsSpec)

/-- ITS FALSE NEIGHBOUR: 'it returns false'. Refute it at one input. -/
def learnAssertsWrong : ChangeSpec := { name := "learnAsserts", fn := fun _ => fun
  | [d1, d2] => { results := [.lit (.bool false)], args := [d1, d2] }
  | _ => none }
def LearnAssertsWrongFalsely : Prop := learnAssertsRow.holds Try.pinned (OpenSpec.ofChange learnAssertsWrong)

/- THE SECOND FORM. 'bulk': how many values and letters a reading holds, each counted each time it is reached (what is shared counts as often as it is met; a slice's spare places count too). A statement '..UptoSaid' is the law's where the arguments, and the package variables that the reading takes, are together of bulk at most 1048576: NARROWER than '..Said'. Prove '..Said' where nothing that the law and all that it calls make is longer than what came in: it says more and counts as full. Else prove '..UptoSaid'. A law counts once. -/
mutual
def uptoBulk {H : Type} : DataW H → Nat
  | .lit (.string bytes) => bytes.length + 1
  | .lit _ => 1
  | .nil => 1
  | .ptr d => uptoBulk d + 1
  | .slice elems spare => uptoBulkAll elems + uptoBulkAll spare + 1
  | .agg parts => uptoBulkAll parts + 1
  | .iface _ d => uptoBulk d + 1
  | .map entries => uptoBulkEntries entries + 1
  | .held _ => 1
def uptoBulkAll {H : Type} : List (DataW H) → Nat
  | [] => 0
  | d :: r => uptoBulk d + uptoBulkAll r
def uptoBulkEntries {H : Type} : List (Lit × DataW H) → Nat
  | [] => 0
  | x :: r => uptoBulkEntry x + uptoBulkEntries r
def uptoBulkEntry {H : Type} : Lit × DataW H → Nat
  | (.string bytes, d) => bytes.length + uptoBulk d + 1
  | (_, d) => uptoBulk d + 1
 end
def uptoSmall : (H : Type) → List (DataW H) → Bool := fun _ ds => decide (uptoBulkAll ds ≤ 1048576)
def OpenSpec.upto (s : _root_.Go.ChangeSpec) : _root_.Go.OpenSpec := { _root_.Go.OpenSpec.ofChange s with cond := some uptoSmall }

/-- 'fathomlaw12.LearnChecks', WHERE WHAT IT READS IS OF BULK AT MOST 1048576: true; the input reads as it did. -/
def learnChecksUptoRow : OpenClaim := { program := "ytaepanmkofhgoaa", sum := "60fd3daef366c7cbe56e06a1c157c0e04c38ff0fdfce3fa22f6ea6b371f37a76", func := "fathom/fathomlaw12.LearnChecks", spec := "learnChecks", unfollowed := true, recurses := true, apart := false, narrowed := true }
def LearnChecksUptoSaid : Prop := learnChecksUptoRow.holds Try.pinned (OpenSpec.upto learnChecksSpec)

/-- 'fathomlaw12.LearnLearns', WHERE WHAT IT READS IS OF BULK AT MOST 1048576: true; the input reads as it did. -/
def learnLearnsUptoRow : OpenClaim := { program := "ytaepanmkofhgoaa", sum := "60fd3daef366c7cbe56e06a1c157c0e04c38ff0fdfce3fa22f6ea6b371f37a76", func := "fathom/fathomlaw12.LearnLearns", spec := "learnLearns", unfollowed := true, recurses := true, apart := false, narrowed := true }
def LearnLearnsUptoSaid : Prop := learnLearnsUptoRow.holds Try.pinned (OpenSpec.upto learnLearnsSpec)

/-- 'fathomlaw12.LearnShortens', WHERE WHAT IT READS IS OF BULK AT MOST 1048576: true; the input reads as it did. -/
def learnShortensUptoRow : OpenClaim := { program := "ytaepanmkofhgoaa", sum := "60fd3daef366c7cbe56e06a1c157c0e04c38ff0fdfce3fa22f6ea6b371f37a76", func := "fathom/fathomlaw12.LearnShortens", spec := "learnShortens", unfollowed := true, recurses := true, apart := false, narrowed := true }
def LearnShortensUptoSaid : Prop := learnShortensUptoRow.holds Try.pinned (OpenSpec.upto learnShortensSpec)

/-- 'fathomlaw12.LearnTeaches', WHERE WHAT IT READS IS OF BULK AT MOST 1048576: true; the input reads as it did. -/
def learnTeachesUptoRow : OpenClaim := { program := "ytaepanmkofhgoaa", sum := "60fd3daef366c7cbe56e06a1c157c0e04c38ff0fdfce3fa22f6ea6b371f37a76", func := "fathom/fathomlaw12.LearnTeaches", spec := "learnTeaches", unfollowed := true, recurses := true, apart := false, narrowed := true }
def LearnTeachesUptoSaid : Prop := learnTeachesUptoRow.holds Try.pinned (OpenSpec.upto learnTeachesSpec)

/-- 'fathomlaw12.LearnAsserts', WHERE WHAT IT READS IS OF BULK AT MOST 1048576: true; the input reads as it did. -/
def learnAssertsUptoRow : OpenClaim := { program := "ytaepanmkofhgoaa", sum := "60fd3daef366c7cbe56e06a1c157c0e04c38ff0fdfce3fa22f6ea6b371f37a76", func := "fathom/fathomlaw12.LearnAsserts", spec := "learnAsserts", unfollowed := true, recurses := true, apart := false, narrowed := true }
def LearnAssertsUptoSaid : Prop := learnAssertsUptoRow.holds Try.pinned (OpenSpec.upto learnAssertsSpec)

end Rows
end Go.Proofs.Ytaepanmkofhgoaa
