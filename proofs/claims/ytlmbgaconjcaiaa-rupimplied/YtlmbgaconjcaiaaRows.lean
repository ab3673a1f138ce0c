/-
  No cell of these rows narrows 'for every input' (looked for: loops, veiled, ifaces, maps, wideKeys, modest, calm, conditions, laid).
  DERIVED. THE GIVEN ROWS OF THIS SEAT. 3 by the template 'for every input the law returns true; each argument reads behind the call as it read before'; 0 by the template 'total and deterministic' (their statements: YtlmbgaconjcaiaaTotals.lean).
  GIVEN WITH THE SEED: the statements are not yours to turn. If you find one false, say at which input.
  Laid BY PROGRAM, IN A SANDBOX (cutbox-rows.mjs): the forced cells as the released guide's own fill.sh prints them over the translation 02809b4148541ab0… (all of the seat's roots in one cut). By AI agents, Wed Nov 11 2026. No macro, syntax, notation, axiom, sorry.
-/
import Derived.Test.YtlmbgaconjcaiaaChecked
import GoSem.Claim
import GoSem.ClaimJoined
import GoSem.ClaimMapViews
import Derived.JoinedTies
import Derived.KernelRfl
namespace Go.Proofs.Ytlmbgaconjcaiaa
/- THE CELL 'sum', in the pinned program and in every row, IS THE sha256 OF THE DUMP (.gsa) THAT YtlmbgaconjcaiaaProg.lean LOADS. Nothing in Lean hashes anything: it is a label: what it is worth is what the hold of that sum in a sandbox is worth. -/
noncomputable def Try.pinned : Pinned := { name := "ytlmbgaconjcaiaa", sum := "02809b4148541ab0fcafd2e61d02eefb2bb42eb6375687836e1c4aff693e98d8", checked := Try.checked }
namespace Rows
def none {H : Type} : Left H := { results := [], args := [] }

/-- 'fathomlaw06.PropRuns': WHATEVER THE INPUT: true; the input reads as it did. -/
def propRunsSpec : ChangeSpec := { name := "propRuns", fn := fun _ => fun
  | [d1, d2] => { results := [.lit (.bool true)], args := [d1, d2] }
  | _ => none }
def propRunsRow : OpenClaim := { program := "ytlmbgaconjcaiaa", sum := "02809b4148541ab0fcafd2e61d02eefb2bb42eb6375687836e1c4aff693e98d8", func := "fathom/fathomlaw06.PropRuns", spec := "propRuns", unfollowed := true, recurses := true, apart := false }
def PropRunsSaid : Prop := propRunsRow.holds Try.pinned (OpenSpec.ofChange propRunsSpec)

/-- ITS FALSE NEIGHBOUR: 'it returns false'. Refute it at one input. -/
def propRunsWrong : ChangeSpec := { name := "propRuns", fn := fun _ => fun
  | [d1, d2] => { results := [.lit (.bool false)], args := [d1, d2] }
  | _ => none }
def PropRunsWrongFalsely : Prop := propRunsRow.holds Try.pinned (OpenSpec.ofChange propRunsWrong)

/-- 'fathomlaw06.PropOnce': WHATEVER THE INPUT: true; the input reads as it did. -/
def propOnceSpec : ChangeSpec := { name := "propOnce", fn := fun _ => fun
  | [d1, d2] => { results := [.lit (.bool true)], args := [d1, d2] }
  | _ => none }
def propOnceRow : OpenClaim := { program := "ytlmbgaconjcaiaa", sum := "02809b4148541ab0fcafd2e61d02eefb2bb42eb6375687836e1c4aff693e98d8", func := "fathom/fathomlaw06.PropOnce", spec := "propOnce", unfollowed := true, recurses := true, apart := false }
def PropOnceSaid : Prop := propOnceRow.holds Try.pinned (OpenSpec.ofChange propOnceSpec)

/-- ITS FALSE NEIGHBOUR: 'it returns false'. Refute it at one input. -/
def propOnceWrong : ChangeSpec := { name := "propOnce", fn := fun _ => fun
  | [d1, d2] => { results := [.lit (.bool false)], args := [d1, d2] }
  | _ => none }
def PropOnceWrongFalsely : Prop := propOnceRow.holds Try.pinned (OpenSpec.ofChange propOnceWrong)

/-- 'fathomlaw07.RupImplied': WHATEVER THE INPUT: true; the input reads as it did. -/
def rupImpliedSpec : ChangeSpec := { name := "rupImplied", fn := fun _ => fun
  | [d1, d2, d3] => { results := [.lit (.bool true)], args := [d1, d2, d3] }
  | _ => none }
def rupImpliedRow : OpenClaim := { program := "ytlmbgaconjcaiaa", sum := "02809b4148541ab0fcafd2e61d02eefb2bb42eb6375687836e1c4aff693e98d8", func := "fathom/fathomlaw07.RupImplied", spec := "rupImplied", unfollowed := true, recurses := true, apart := false }
def RupImpliedSaid : Prop := rupImpliedRow.holds Try.pinned (OpenSpec.ofChange rupImpliedSpec)

/-- ITS FALSE NEIGHBOUR: 'it returns false'. Refute it at one input. -/
def rupImpliedWrong : ChangeSpec := { name := "rupImplied", fn := fun _ => fun
  | [d1, d2, d3] => { results := [.lit (.bool false)], args := [d1, d2, d3] }
  | _ => none }
def RupImpliedWrongFalsely : Prop := rupImpliedRow.holds Try.pinned (OpenSpec.ofChange rupImpliedWrong)

/- THE SECOND FORM. 'bulk': how many values and letters a reading holds, each counted each time it is reached (what is shared counts as often as it is met; a slice's spare places count too). A statement '..UptoSaid' is the law's where the arguments, and the package variables that the reading takes, are together of bulk at most 1048576: NARROWER than '..Said'. Prove '..Said' where nothing that the law and all that it calls make is longer than what came in: it says more and counts as full. Else prove '..UptoSaid'. A law counts once. -/
mutual
def uptoBulk {H : Type} : DataW H → Nat
  | .lit (.string bytes) => bytes.length + 1
  | .lit _ => 1
  | .nil => 1
  | .ptr d => uptoBulk d + 1
  | .slice elems spare => uptoBulkAll elems + uptoBulkAll spare + 1
  | .agg parts => uptoBulkAll parts + 1
  | .iface _ d => uptoBulk d + 1
  | .map entries => uptoBulkEntries entries + 1
  | .held _ => 1
def uptoBulkAll {H : Type} : List (DataW H) → Nat
  | [] => 0
  | d :: r => uptoBulk d + uptoBulkAll r
def uptoBulkEntries {H : Type} : List (Lit × DataW H) → Nat
  | [] => 0
  | x :: r => uptoBulkEntry x + uptoBulkEntries r
def uptoBulkEntry {H : Type} : Lit × DataW H → Nat
  | (.string bytes, d) => bytes.length + uptoBulk d + 1
  | (_, d) => uptoBulk d + 1
 end
def uptoSmall : (H : Type) → List (DataW H) → Bool := fun _ ds => decide (uptoBulkAll ds ≤ 1048576)
def OpenSpec.upto (s : _root_.Go.ChangeSpec) : _root_.Go.OpenSpec := { _root_.Go.OpenSpec.ofChange s with cond := some uptoSmall }

/-- 'fathomlaw06.PropRuns', WHERE WHAT IT READS IS OF BULK AT MOST 1048576: true; the input reads as it did. -/
def propRunsUptoRow : OpenClaim := { program := "ytlmbgaconjcaiaa", sum := "02809b4148541ab0fcafd2e61d02eefb2bb42eb6375687836e1c4aff693e98d8", func := "fathom/fathomlaw06.PropRuns", spec := "propRuns", unfollowed := true, recurses := true, apart := false, narrowed := true }
def PropRunsUptoSaid : Prop := propRunsUptoRow.holds Try.pinned (OpenSpec.upto propRunsSpec)

/-- 'fathomlaw06.PropOnce', WHERE WHAT IT READS IS OF BULK AT MOST 1048576: true; the input reads as it did. -/
def propOnceUptoRow : OpenClaim := { program := "ytlmbgaconjcaiaa", sum := "02809b4148541ab0fcafd2e61d02eefb2bb42eb6375687836e1c4aff693e98d8", func := "fathom/fathomlaw06.PropOnce", spec := "propOnce", unfollowed := true, recurses := true, apart := false, narrowed := true }
def PropOnceUptoSaid : Prop := propOnceUptoRow.holds Try.pinned (OpenSpec.upto propOnceSpec)

/-- 'fathomlaw07.RupImplied', WHERE WHAT IT READS IS OF BULK AT MOST 1048576: true; the input reads as it did. -/
def rupImpliedUptoRow : OpenClaim := { program := "ytlmbgaconjcaiaa", sum := "02809b4148541ab0fcafd2e61d02eefb2bb42eb6375687836e1c4aff693e98d8", func := "fathom/fathomlaw07.RupImplied", spec := "rupImplied", unfollowed := true, recurses := true, apart := false, narrowed := true }
def RupImpliedUptoSaid : Prop := rupImpliedUptoRow.holds Try.pinned (OpenSpec.upto rupImpliedSpec)

end Rows
end Go.Proofs.Ytlmbgaconjcaiaa
