/-
  No cell of these rows narrows 'for every input' (looked for: loops, veiled, ifaces, maps, wideKeys, modest, calm, conditions, laid).
  DERIVED. THE GIVEN ROWS OF THIS SEAT. 5 by the template 'for every input the law returns true; each argument reads behind the call as it read before'; 0 by the template 'total and deterministic' (their statements: YtiddcpemckifmaaTotals.lean).
  GIVEN WITH THE SEED: the statements are not yours to turn. If you find one false, say at which input.
  Laid BY PROGRAM, IN A SANDBOX (cutbox-rows.mjs): the forced cells as the released guide's own fill.sh prints them over the translation 2d7b60feab5bebb2… (all of the seat's roots in one cut). By AI agents, Wed Nov 11 2026. No macro, syntax, notation, axiom, sorry.
-/
import Derived.Test.YtiddcpemckifmaaChecked
import GoSem.Claim
import GoSem.ClaimJoined
import GoSem.ClaimMapViews
import Derived.JoinedTies
import Derived.KernelRfl
namespace Go.Proofs.Ytiddcpemckifmaa
/- THE CELL 'sum', in the pinned program and in every row, IS THE sha256 OF THE DUMP (.gsa) THAT YtiddcpemckifmaaProg.lean LOADS. Nothing in Lean hashes anything: it is a label: what it is worth is what the hold of that sum in a sandbox is worth. -/
noncomputable def Try.pinned : Pinned := { name := "ytiddcpemckifmaa", sum := "2d7b60feab5bebb20b6e5b769e0f7de040ec586965da4199514117fbb8feb3c3", checked := Try.checked }
namespace Rows
def none {H : Type} : Left H := { results := [], args := [] }

/-- 'fathomlaw01.LitNorms': WHATEVER THE INPUT: true; the input reads as it did. -/
def litNormsSpec : ChangeSpec := { name := "litNorms", fn := fun _ => fun
  | [d] => { results := [.lit (.bool true)], args := [d] }
  | _ => none }
def litNormsRow : OpenClaim := { program := "ytiddcpemckifmaa", sum := "2d7b60feab5bebb20b6e5b769e0f7de040ec586965da4199514117fbb8feb3c3", func := "fathom/fathomlaw01.LitNorms", spec := "litNorms", unfollowed := true, recurses := true, apart := false }
def LitNormsSaid : Prop := litNormsRow.holds Try.pinned (OpenSpec.ofChange litNormsSpec)

/-- ITS FALSE NEIGHBOUR: 'it returns false'. Refute it at one input. -/
def litNormsWrong : ChangeSpec := { name := "litNorms", fn := fun _ => fun
  | [d] => { results := [.lit (.bool false)], args := [d] }
  | _ => none }
def LitNormsWrongFalsely : Prop := litNormsRow.holds Try.pinned (OpenSpec.ofChange litNormsWrong)

/-- 'fathomlaw01.LitValues': WHATEVER THE INPUT: true; the input reads as it did. -/
def litValuesSpec : ChangeSpec := { name := "litValues", fn := fun _ => fun
  | [d1, d2, d3] => { results := [.lit (.bool true)], args := [d1, d2, d3] }
  | _ => none }
def litValuesRow : OpenClaim := { program := "ytiddcpemckifmaa", sum := "2d7b60feab5bebb20b6e5b769e0f7de040ec586965da4199514117fbb8feb3c3", func := "fathom/fathomlaw01.LitValues", spec := "litValues", unfollowed := true, recurses := true, apart := false }
def LitValuesSaid : Prop := litValuesRow.holds Try.pinned (OpenSpec.ofChange litValuesSpec)

/-- ITS FALSE NEIGHBOUR: 'it returns false'. Refute it at one input. -/
def litValuesWrong : ChangeSpec := { name := "litValues", fn := fun _ => fun
  | [d1, d2, d3] => { results := [.lit (.bool false)], args := [d1, d2, d3] }
  | _ => none }
def LitValuesWrongFalsely : Prop := litValuesRow.holds Try.pinned (OpenSpec.ofChange litValuesWrong)

/-- 'fathomlaw01.LitHolds': WHATEVER THE INPUT: true; the input reads as it did. -/
def litHoldsSpec : ChangeSpec := { name := "litHolds", fn := fun _ => fun
  | [d1, d2, d3] => { results := [.lit (.bool true)], args := [d1, d2, d3] }
  | _ => none }
def litHoldsRow : OpenClaim := { program := "ytiddcpemckifmaa", sum := "2d7b60feab5bebb20b6e5b769e0f7de040ec586965da4199514117fbb8feb3c3", func := "fathom/fathomlaw01.LitHolds", spec := "litHolds", unfollowed := true, recurses := true, apart := false }
def LitHoldsSaid : Prop := litHoldsRow.holds Try.pinned (OpenSpec.ofChange litHoldsSpec)

/-- ITS FALSE NEIGHBOUR: 'it returns false'. Refute it at one input. -/
def litHoldsWrong : ChangeSpec := { name := "litHolds", fn := fun _ => fun
  | [d1, d2, d3] => { results := [.lit (.bool false)], args := [d1, d2, d3] }
  | _ => none }
def LitHoldsWrongFalsely : Prop := litHoldsRow.holds Try.pinned (OpenSpec.ofChange litHoldsWrong)

/-- 'fathomlaw01.LitResolves': WHATEVER THE INPUT: true; the input reads as it did. -/
def litResolvesSpec : ChangeSpec := { name := "litResolves", fn := fun _ => fun
  | [d1, d2, d3] => { results := [.lit (.bool true)], args := [d1, d2, d3] }
  | _ => none }
def litResolvesRow : OpenClaim := { program := "ytiddcpemckifmaa", sum := "2d7b60feab5bebb20b6e5b769e0f7de040ec586965da4199514117fbb8feb3c3", func := "fathom/fathomlaw01.LitResolves", spec := "litResolves", unfollowed := true, recurses := true, apart := false }
def LitResolvesSaid : Prop := litResolvesRow.holds Try.pinned (OpenSpec.ofChange litResolvesSpec)

/-- ITS FALSE NEIGHBOUR: 'it returns false'. Refute it at one input. -/
def litResolvesWrong : ChangeSpec := { name := "litResolves", fn := fun _ => fun
  | [d1, d2, d3] => { results := [.lit (.bool false)], args := [d1, d2, d3] }
  | _ => none }
def LitResolvesWrongFalsely : Prop := litResolvesRow.holds Try.pinned (OpenSpec.ofChange litResolvesWrong)

/-- 'fathomlaw01.LitGiven': WHATEVER THE INPUT: true; the input reads as it did. -/
def litGivenSpec : ChangeSpec := { name := "litGiven", fn := fun _ => fun
  | [d1, d2, d3] => { results := [.lit (.bool true)], args := [d1, d2, d3] }
  | _ => none }
def litGivenRow : OpenClaim := { program := "ytiddcpemckifmaa", sum := "2d7b60feab5bebb20b6e5b769e0f7de040ec586965da4199514117fbb8feb3c3", func := "fathom/fathomlaw01.LitGiven", spec := "litGiven", unfollowed := true, recurses := true, apart := false }
def LitGivenSaid : Prop := litGivenRow.holds Try.pinned (OpenSpec.ofChange litGivenSpec)

/-- ITS FALSE NEIGHBOUR: 'it returns false'. Refute it at one input. -/
def litGivenWrong : ChangeSpec := { name := "litGiven", fn := fun _ => fun
  | [d1, d2, d3] => { results := [.lit (.bool false)], args := [d1, d2, d3] }
  | _ => none }
def LitGivenWrongFalsely : Prop := litGivenRow.holds Try.pinned (OpenSpec.ofChange litGivenWrong)

/- THE SECOND FORM. 'bulk': how many values and letters a reading holds, each counted each time it is reached (what is shared counts as often as it is met; a slice's spare places count too). A statement '..UptoSaid' is the law's where the arguments, and the package variables that the reading takes, are together of bulk at most 1048576: NARROWER than '..Said'. Prove '..Said' where nothing that the law and all that it calls make is longer than what came in: it says more and counts as full. Else prove '..UptoSaid'. A law counts once. -/
mutual
def uptoBulk {H : Type} : DataW H → Nat
  | .lit (.string bytes) => bytes.length + 1
  | .lit _ => 1
  | .nil => 1
  | .ptr d => uptoBulk d + 1
  | .slice elems spare => uptoBulkAll elems + uptoBulkAll spare + 1
  | .agg parts => uptoBulkAll parts + 1
  | .iface _ d => uptoBulk d + 1
  | .map entries => uptoBulkEntries entries + 1
  | .held _ => 1
def uptoBulkAll {H : Type} : List (DataW H) → Nat
  | [] => 0
  | d :: r => uptoBulk d + uptoBulkAll r
def uptoBulkEntries {H : Type} : List (Lit × DataW H) → Nat
  | [] => 0
  | x :: r => uptoBulkEntry x + uptoBulkEntries r
def uptoBulkEntry {H : Type} : Lit × DataW H → Nat
  | (.string bytes, d) => bytes.length + uptoBulk d + 1
  | (_, d) => uptoBulk d + 1
 end
def uptoSmall : (H : Type) → List (DataW H) → Bool := fun _ ds => decide (uptoBulkAll ds ≤ 1048576)
def OpenSpec.upto (s : _root_.Go.ChangeSpec) : _root_.Go.OpenSpec := { _root_.Go.OpenSpec.ofChange s with cond := some uptoSmall }

/-- 'fathomlaw01.LitNorms', WHERE WHAT IT READS IS OF BULK AT MOST 1048576: true; the input reads as it did. -/
def litNormsUptoRow : OpenClaim := { program := "ytiddcpemckifmaa", sum := "2d7b60feab5bebb20b6e5b769e0f7de040ec586965da4199514117fbb8feb3c3", func := "fathom/fathomlaw01.LitNorms", spec := "litNorms", unfollowed := true, recurses := true, apart := false, narrowed := true }
def LitNormsUptoSaid : Prop := litNormsUptoRow.holds Try.pinned (OpenSpec.upto litNormsSpec)

/-- 'fathomlaw01.LitValues', WHERE WHAT IT READS IS OF BULK AT MOST 1048576: true; the input reads as it did. -/
def litValuesUptoRow : OpenClaim := { program := "ytiddcpemckifmaa", sum := "2d7b60feab5bebb20b6e5b769e0f7de040ec586965da4199514117fbb8feb3c3", func := "fathom/fathomlaw01.LitValues", spec := "litValues", unfollowed := true, recurses := true, apart := false, narrowed := true }
def LitValuesUptoSaid : Prop := litValuesUptoRow.holds Try.pinned (OpenSpec.upto litValuesSpec)

/-- 'fathomlaw01.LitHolds', WHERE WHAT IT READS IS OF BULK AT MOST 1048576: true; the input reads as it did. -/
def litHoldsUptoRow : OpenClaim := { program := "ytiddcpemckifmaa", sum := "2d7b60feab5bebb20b6e5b769e0f7de040ec586965da4199514117fbb8feb3c3", func := "fathom/fathomlaw01.LitHolds", spec := "litHolds", unfollowed := true, recurses := true, apart := false, narrowed := true }
def LitHoldsUptoSaid : Prop := litHoldsUptoRow.holds Try.pinned (OpenSpec.upto litHoldsSpec)

/-- 'fathomlaw01.LitResolves', WHERE WHAT IT READS IS OF BULK AT MOST 1048576: true; the input reads as it did. -/
def litResolvesUptoRow : OpenClaim := { program := "ytiddcpemckifmaa", sum := "2d7b60feab5bebb20b6e5b769e0f7de040ec586965da4199514117fbb8feb3c3", func := "fathom/fathomlaw01.LitResolves", spec := "litResolves", unfollowed := true, recurses := true, apart := false, narrowed := true }
def LitResolvesUptoSaid : Prop := litResolvesUptoRow.holds Try.pinned (OpenSpec.upto litResolvesSpec)

/-- 'fathomlaw01.LitGiven', WHERE WHAT IT READS IS OF BULK AT MOST 1048576: true; the input reads as it did. -/
def litGivenUptoRow : OpenClaim := { program := "ytiddcpemckifmaa", sum := "2d7b60feab5bebb20b6e5b769e0f7de040ec586965da4199514117fbb8feb3c3", func := "fathom/fathomlaw01.LitGiven", spec := "litGiven", unfollowed := true, recurses := true, apart := false, narrowed := true }
def LitGivenUptoSaid : Prop := litGivenUptoRow.holds Try.pinned (OpenSpec.upto litGivenSpec)

end Rows
end Go.Proofs.Ytiddcpemckifmaa
