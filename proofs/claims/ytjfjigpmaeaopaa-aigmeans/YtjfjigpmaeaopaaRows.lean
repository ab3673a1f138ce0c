/-
  No cell of these rows narrows 'for every input' (looked for: loops, veiled, ifaces, maps, wideKeys, modest, calm, conditions, laid).
  DERIVED. THE GIVEN ROWS OF THIS SEAT. 5 by the template 'for every input the law returns true; each argument reads behind the call as it read before'; 0 by the template 'total and deterministic' (their statements: YtjfjigpmaeaopaaTotals.lean).
  GIVEN WITH THE SEED: the statements are not yours to turn. If you find one false, say at which input.
  Laid BY PROGRAM, IN A SANDBOX (cutbox-rows.mjs): the forced cells as the released guide's own fill.sh prints them over the translation e838227a9c4db330… (all of the seat's roots in one cut). By AI agents, Wed Nov 11 2026. No macro, syntax, notation, axiom, sorry.
-/
import Derived.Test.YtjfjigpmaeaopaaChecked
import GoSem.Claim
import GoSem.ClaimJoined
import GoSem.ClaimMapViews
import Derived.JoinedTies
import Derived.KernelRfl
namespace Go.Proofs.Ytjfjigpmaeaopaa
/- THE CELL 'sum', in the pinned program and in every row, IS THE sha256 OF THE DUMP (.gsa) THAT YtjfjigpmaeaopaaProg.lean LOADS. Nothing in Lean hashes anything: it is a label: what it is worth is what the hold of that sum in a sandbox is worth. -/
noncomputable def Try.pinned : Pinned := { name := "ytjfjigpmaeaopaa", sum := "e838227a9c4db33003eabc8519eef9873f9515ba8af5ed37dc4af1213dff8b8c", checked := Try.checked }
namespace Rows
def none {H : Type} : Left H := { results := [], args := [] }

/-- 'fathomlaw15.AigMakes': WHATEVER THE INPUT: true; the input reads as it did. -/
def aigMakesSpec : ChangeSpec := { name := "aigMakes", fn := fun _ => fun
  | [d] => { results := [.lit (.bool true)], args := [d] }
  | _ => none }
def aigMakesRow : OpenClaim := { program := "ytjfjigpmaeaopaa", sum := "e838227a9c4db33003eabc8519eef9873f9515ba8af5ed37dc4af1213dff8b8c", func := "fathom/fathomlaw15.AigMakes", spec := "aigMakes", recurses := true, plainKeys := false, apart := false }
def AigMakesSaid : Prop := aigMakesRow.holds Try.pinned (OpenSpec.ofChange aigMakesSpec)

/-- ITS FALSE NEIGHBOUR: 'it returns false'. Refute it at one input. -/
def aigMakesWrong : ChangeSpec := { name := "aigMakes", fn := fun _ => fun
  | [d] => { results := [.lit (.bool false)], args := [d] }
  | _ => none }
def AigMakesWrongFalsely : Prop := aigMakesRow.holds Try.pinned (OpenSpec.ofChange aigMakesWrong)

/-- 'fathomlaw15.AigLoads': WHATEVER THE INPUT: true; the input reads as it did. -/
def aigLoadsSpec : ChangeSpec := { name := "aigLoads", fn := fun _ => fun
  | [d1, d2, d3] => { results := [.lit (.bool true)], args := [d1, d2, d3] }
  | _ => none }
def aigLoadsRow : OpenClaim := { program := "ytjfjigpmaeaopaa", sum := "e838227a9c4db33003eabc8519eef9873f9515ba8af5ed37dc4af1213dff8b8c", func := "fathom/fathomlaw15.AigLoads", spec := "aigLoads", recurses := true, plainKeys := false, apart := false }
def AigLoadsSaid : Prop := aigLoadsRow.holds Try.pinned (OpenSpec.ofChange aigLoadsSpec)

/-- ITS FALSE NEIGHBOUR: 'it returns false'. Refute it at one input. -/
def aigLoadsWrong : ChangeSpec := { name := "aigLoads", fn := fun _ => fun
  | [d1, d2, d3] => { results := [.lit (.bool false)], args := [d1, d2, d3] }
  | _ => none }
def AigLoadsWrongFalsely : Prop := aigLoadsRow.holds Try.pinned (OpenSpec.ofChange aigLoadsWrong)

/-- 'fathomlaw15.AigMeans': WHATEVER THE INPUT: true; the input reads as it did. -/
def aigMeansSpec : ChangeSpec := { name := "aigMeans", fn := fun _ => fun
  | [d1, d2, d3] => { results := [.lit (.bool true)], args := [d1, d2, d3] }
  | _ => none }
def aigMeansRow : OpenClaim := { program := "ytjfjigpmaeaopaa", sum := "e838227a9c4db33003eabc8519eef9873f9515ba8af5ed37dc4af1213dff8b8c", func := "fathom/fathomlaw15.AigMeans", spec := "aigMeans", recurses := true, plainKeys := false, apart := false }
def AigMeansSaid : Prop := aigMeansRow.holds Try.pinned (OpenSpec.ofChange aigMeansSpec)

/-- ITS FALSE NEIGHBOUR: 'it returns false'. Refute it at one input. -/
def aigMeansWrong : ChangeSpec := { name := "aigMeans", fn := fun _ => fun
  | [d1, d2, d3] => { results := [.lit (.bool false)], args := [d1, d2, d3] }
  | _ => none }
def AigMeansWrongFalsely : Prop := aigMeansRow.holds Try.pinned (OpenSpec.ofChange aigMeansWrong)

/-- 'fathomlaw15.AigShares': WHATEVER THE INPUT: true; the input reads as it did. -/
def aigSharesSpec : ChangeSpec := { name := "aigShares", fn := fun _ => fun
  | [d] => { results := [.lit (.bool true)], args := [d] }
  | _ => none }
def aigSharesRow : OpenClaim := { program := "ytjfjigpmaeaopaa", sum := "e838227a9c4db33003eabc8519eef9873f9515ba8af5ed37dc4af1213dff8b8c", func := "fathom/fathomlaw15.AigShares", spec := "aigShares", recurses := true, plainKeys := false, apart := false }
def AigSharesSaid : Prop := aigSharesRow.holds Try.pinned (OpenSpec.ofChange aigSharesSpec)

/-- ITS FALSE NEIGHBOUR: 'it returns false'. Refute it at one input. -/
def aigSharesWrong : ChangeSpec := { name := "aigShares", fn := fun _ => fun
  | [d] => { results := [.lit (.bool false)], args := [d] }
  | _ => none }
def AigSharesWrongFalsely : Prop := aigSharesRow.holds Try.pinned (OpenSpec.ofChange aigSharesWrong)

/-- 'fathomlaw15.AigNobody': WHATEVER THE INPUT: true; the input reads as it did. -/
def aigNobodySpec : ChangeSpec := { name := "aigNobody", fn := fun _ => fun
  | [d] => { results := [.lit (.bool true)], args := [d] }
  | _ => none }
def aigNobodyRow : OpenClaim := { program := "ytjfjigpmaeaopaa", sum := "e838227a9c4db33003eabc8519eef9873f9515ba8af5ed37dc4af1213dff8b8c", func := "fathom/fathomlaw15.AigNobody", spec := "aigNobody", plainKeys := false, apart := false }
def AigNobodySaid : Prop := aigNobodyRow.holds Try.pinned (OpenSpec.ofChange aigNobodySpec)

/-- ITS FALSE NEIGHBOUR: 'it returns false'. Refute it at one input. -/
def aigNobodyWrong : ChangeSpec := { name := "aigNobody", fn := fun _ => fun
  | [d] => { results := [.lit (.bool false)], args := [d] }
  | _ => none }
def AigNobodyWrongFalsely : Prop := aigNobodyRow.holds Try.pinned (OpenSpec.ofChange aigNobodyWrong)

/- THE SECOND FORM. 'bulk': how many values and letters a reading holds, each counted each time it is reached (what is shared counts as often as it is met; a slice's spare places count too). A statement '..UptoSaid' is the law's where the arguments, and the package variables that the reading takes, are together of bulk at most 1048576: NARROWER than '..Said'. Prove '..Said' where nothing that the law and all that it calls make is longer than what came in: it says more and counts as full. Else prove '..UptoSaid'. A law counts once. -/
mutual
def uptoBulk {H : Type} : DataW H → Nat
  | .lit (.string bytes) => bytes.length + 1
  | .lit _ => 1
  | .nil => 1
  | .ptr d => uptoBulk d + 1
  | .slice elems spare => uptoBulkAll elems + uptoBulkAll spare + 1
  | .agg parts => uptoBulkAll parts + 1
  | .iface _ d => uptoBulk d + 1
  | .map entries => uptoBulkEntries entries + 1
  | .held _ => 1
def uptoBulkAll {H : Type} : List (DataW H) → Nat
  | [] => 0
  | d :: r => uptoBulk d + uptoBulkAll r
def uptoBulkEntries {H : Type} : List (Lit × DataW H) → Nat
  | [] => 0
  | x :: r => uptoBulkEntry x + uptoBulkEntries r
def uptoBulkEntry {H : Type} : Lit × DataW H → Nat
  | (.string bytes, d) => bytes.length + uptoBulk d + 1
  | (_, d) => uptoBulk d + 1
 end
def uptoSmall : (H : Type) → List (DataW H) → Bool := fun _ ds => decide (uptoBulkAll ds ≤ 1048576)
def OpenSpec.upto (s : _root_.Go.ChangeSpec) : _root_.Go.OpenSpec := { _root_.Go.OpenSpec.ofChange s with cond := some uptoSmall }

/-- 'fathomlaw15.AigMakes', WHERE WHAT IT READS IS OF BULK AT MOST 1048576: true; the input reads as it did. -/
def aigMakesUptoRow : OpenClaim := { program := "ytjfjigpmaeaopaa", sum := "e838227a9c4db33003eabc8519eef9873f9515ba8af5ed37dc4af1213dff8b8c", func := "fathom/fathomlaw15.AigMakes", spec := "aigMakes", recurses := true, plainKeys := false, apart := false, narrowed := true }
def AigMakesUptoSaid : Prop := aigMakesUptoRow.holds Try.pinned (OpenSpec.upto aigMakesSpec)

/-- 'fathomlaw15.AigLoads', WHERE WHAT IT READS IS OF BULK AT MOST 1048576: true; the input reads as it did. -/
def aigLoadsUptoRow : OpenClaim := { program := "ytjfjigpmaeaopaa", sum := "e838227a9c4db33003eabc8519eef9873f9515ba8af5ed37dc4af1213dff8b8c", func := "fathom/fathomlaw15.AigLoads", spec := "aigLoads", recurses := true, plainKeys := false, apart := false, narrowed := true }
def AigLoadsUptoSaid : Prop := aigLoadsUptoRow.holds Try.pinned (OpenSpec.upto aigLoadsSpec)

/-- 'fathomlaw15.AigMeans', WHERE WHAT IT READS IS OF BULK AT MOST 1048576: true; the input reads as it did. -/
def aigMeansUptoRow : OpenClaim := { program := "ytjfjigpmaeaopaa", sum := "e838227a9c4db33003eabc8519eef9873f9515ba8af5ed37dc4af1213dff8b8c", func := "fathom/fathomlaw15.AigMeans", spec := "aigMeans", recurses := true, plainKeys := false, apart := false, narrowed := true }
def AigMeansUptoSaid : Prop := aigMeansUptoRow.holds Try.pinned (OpenSpec.upto aigMeansSpec)

/-- 'fathomlaw15.AigShares', WHERE WHAT IT READS IS OF BULK AT MOST 1048576: true; the input reads as it did. -/
def aigSharesUptoRow : OpenClaim := { program := "ytjfjigpmaeaopaa", sum := "e838227a9c4db33003eabc8519eef9873f9515ba8af5ed37dc4af1213dff8b8c", func := "fathom/fathomlaw15.AigShares", spec := "aigShares", recurses := true, plainKeys := false, apart := false, narrowed := true }
def AigSharesUptoSaid : Prop := aigSharesUptoRow.holds Try.pinned (OpenSpec.upto aigSharesSpec)

/-- 'fathomlaw15.AigNobody', WHERE WHAT IT READS IS OF BULK AT MOST 1048576: true; the input reads as it did. -/
def aigNobodyUptoRow : OpenClaim := { program := "ytjfjigpmaeaopaa", sum := "e838227a9c4db33003eabc8519eef9873f9515ba8af5ed37dc4af1213dff8b8c", func := "fathom/fathomlaw15.AigNobody", spec := "aigNobody", plainKeys := false, apart := false, narrowed := true }
def AigNobodyUptoSaid : Prop := aigNobodyUptoRow.holds Try.pinned (OpenSpec.upto aigNobodySpec)

end Rows
end Go.Proofs.Ytjfjigpmaeaopaa
