/-
  No cell of these rows narrows 'for every input' (looked for: loops, veiled, ifaces, maps, wideKeys, modest, calm, conditions, laid).
  DERIVED. THE GIVEN ROWS OF THIS SEAT. 2 by the template 'for every input the law returns true; each argument reads behind the call as it read before'; 0 by the template 'total and deterministic' (their statements: YtbmefipobnamjaaTotals.lean).
  GIVEN WITH THE SEED: the statements are not yours to turn. If you find one false, say at which input.
  Laid BY PROGRAM, IN A SANDBOX (cutbox-rows.mjs): the forced cells as the released guide's own fill.sh prints them over the translation 83801c1b46979430… (all of the seat's roots in one cut). By AI agents, Wed Nov 11 2026. No macro, syntax, notation, axiom, sorry.
-/
import Derived.Test.YtbmefipobnamjaaChecked
import GoSem.Claim
import GoSem.ClaimJoined
import GoSem.ClaimMapViews
import Derived.JoinedTies
import Derived.KernelRfl
namespace Go.Proofs.Ytbmefipobnamjaa
/- THE CELL 'sum', in the pinned program and in every row, IS THE sha256 OF THE DUMP (.gsa) THAT YtbmefipobnamjaaProg.lean LOADS. Nothing in Lean hashes anything: it is a label: what it is worth is what the hold of that sum in a sandbox is worth. -/
noncomputable def Try.pinned : Pinned := { name := "ytbmefipobnamjaa", sum := "83801c1b46979430a53486daf77c41c1fe589593b36913b30c26e4db1422d672", checked := Try.checked }
namespace Rows
def none {H : Type} : Left H := { results := [], args := [] }

/-- 'fathomlaw13.ReduceHalves': WHATEVER THE INPUT: true; the input reads as it did. -/
def reduceHalvesSpec : ChangeSpec := { name := "reduceHalves", fn := fun _ => fun
  | [d] => { results := [.lit (.bool true)], args := [d] }
  | _ => none }
def reduceHalvesRow : OpenClaim := { program := "ytbmefipobnamjaa", sum := "83801c1b46979430a53486daf77c41c1fe589593b36913b30c26e4db1422d672", func := "fathom/fathomlaw13.ReduceHalves", spec := "reduceHalves", unfollowed := true, recurses := true, apart := false }
def ReduceHalvesSaid : Prop := reduceHalvesRow.holds Try.pinned (OpenSpec.ofChange reduceHalvesSpec)

/-- ITS FALSE NEIGHBOUR: 'it returns false'. Refute it at one input. -/
def reduceHalvesWrong : ChangeSpec := { name := "reduceHalves", fn := fun _ => fun
  | [d] => { results := [.lit (.bool false)], args := [d] }
  | _ => none }
def ReduceHalvesWrongFalsely : Prop := reduceHalvesRow.holds Try.pinned (OpenSpec.ofChange reduceHalvesWrong)

/-- 'fathomlaw13.ReduceQuotas': WHATEVER THE INPUT: true; the input reads as it did. -/
def reduceQuotasSpec : ChangeSpec := { name := "reduceQuotas", fn := fun _ => fun
  | [d1, d2, d3] => { results := [.lit (.bool true)], args := [d1, d2, d3] }
  | _ => none }
def reduceQuotasRow : OpenClaim := { program := "ytbmefipobnamjaa", sum := "83801c1b46979430a53486daf77c41c1fe589593b36913b30c26e4db1422d672", func := "fathom/fathomlaw13.ReduceQuotas", spec := "reduceQuotas", unfollowed := true, recurses := true, apart := false }
def ReduceQuotasSaid : Prop := reduceQuotasRow.holds Try.pinned (OpenSpec.ofChange reduceQuotasSpec)

/-- ITS FALSE NEIGHBOUR: 'it returns false'. Refute it at one input. -/
def reduceQuotasWrong : ChangeSpec := { name := "reduceQuotas", fn := fun _ => fun
  | [d1, d2, d3] => { results := [.lit (.bool false)], args := [d1, d2, d3] }
  | _ => none }
def ReduceQuotasWrongFalsely : Prop := reduceQuotasRow.holds Try.pinned (OpenSpec.ofChange reduceQuotasWrong)

/- THE SECOND FORM. 'bulk': how many values and letters a reading holds, each counted each time it is reached (what is shared counts as often as it is met; a slice's spare places count too). A statement '..UptoSaid' is the law's where the arguments, and the package variables that the reading takes, are together of bulk at most 1048576: NARROWER than '..Said'. Prove '..Said' where nothing that the law and all that it calls make is longer than what came in: it says more and counts as full. Else prove '..UptoSaid'. A law counts once. -/
mutual
def uptoBulk {H : Type} : DataW H → Nat
  | .lit (.string bytes) => bytes.length + 1
  | .lit _ => 1
  | .nil => 1
  | .ptr d => uptoBulk d + 1
  | .slice elems spare => uptoBulkAll elems + uptoBulkAll spare + 1
  | .agg parts => uptoBulkAll parts + 1
  | .iface _ d => uptoBulk d + 1
  | .map entries => uptoBulkEntries entries + 1
  | .held _ => 1
def uptoBulkAll {H : Type} : List (DataW H) → Nat
  | [] => 0
  | d :: r => uptoBulk d + uptoBulkAll r
def uptoBulkEntries {H : Type} : List (Lit × DataW H) → Nat
  | [] => 0
  | x :: r => uptoBulkEntry x + uptoBulkEntries r
def uptoBulkEntry {H : Type} : Lit × DataW H → Nat
  | (.string bytes, d) => bytes.length + uptoBulk d + 1
  | (_, d) => uptoBulk d + 1
 end
def uptoSmall : (H : Type) → List (DataW H) → Bool := fun _ ds => decide (uptoBulkAll ds ≤ 1048576)
def OpenSpec.upto (s : _root_.Go.ChangeSpec) : _root_.Go.OpenSpec := { _root_.Go.OpenSpec.ofChange s with cond := some uptoSmall }

/-- 'fathomlaw13.ReduceHalves', WHERE WHAT IT READS IS OF BULK AT MOST 1048576: true; the input reads as it did. -/
def reduceHalvesUptoRow : OpenClaim := { program := "ytbmefipobnamjaa", sum := "83801c1b46979430a53486daf77c41c1fe589593b36913b30c26e4db1422d672", func := "fathom/fathomlaw13.ReduceHalves", spec := "reduceHalves", unfollowed := true, recurses := true, apart := false, narrowed := true }
def ReduceHalvesUptoSaid : Prop := reduceHalvesUptoRow.holds Try.pinned (OpenSpec.upto reduceHalvesSpec)

/-- 'fathomlaw13.ReduceQuotas', WHERE WHAT IT READS IS OF BULK AT MOST 1048576: true; the input reads as it did. -/
def reduceQuotasUptoRow : OpenClaim := { program := "ytbmefipobnamjaa", sum := "83801c1b46979430a53486daf77c41c1fe589593b36913b30c26e4db1422d672", func := "fathom/fathomlaw13.ReduceQuotas", spec := "reduceQuotas", unfollowed := true, recurses := true, apart := false, narrowed := true }
def ReduceQuotasUptoSaid : Prop := reduceQuotasUptoRow.holds Try.pinned (OpenSpec.upto reduceQuotasSpec)

end Rows
end Go.Proofs.Ytbmefipobnamjaa
