/-
  No cell of these rows narrows 'for every input' (looked for: loops, veiled, ifaces, maps, wideKeys, modest, calm, conditions, laid).
  DERIVED. THE GIVEN ROWS OF THIS SEAT. 3 by the template 'for every input the law returns true; each argument reads behind the call as it read before'; 0 by the template 'total and deterministic' (their statements: YtjijikkcpnojcaaTotals.lean).
  GIVEN WITH THE SEED: the statements are not yours to turn. If you find one false, say at which input.
  Laid BY PROGRAM, IN A SANDBOX (cutbox-rows.mjs): the forced cells as the released guide's own fill.sh prints them over the translation 28159d8d826be894… (all of the seat's roots in one cut). By AI agents, Wed Nov 11 2026. No macro, syntax, notation, axiom, sorry.
-/
import Derived.Test.YtjijikkcpnojcaaChecked
import GoSem.Claim
import GoSem.ClaimJoined
import GoSem.ClaimMapViews
import Derived.JoinedTies
import Derived.KernelRfl
namespace Go.Proofs.Ytjijikkcpnojcaa
/- THE CELL 'sum', in the pinned program and in every row, IS THE sha256 OF THE DUMP (.gsa) THAT YtjijikkcpnojcaaProg.lean LOADS. Nothing in Lean hashes anything: it is a label: what it is worth is what the hold of that sum in a sandbox is worth. -/
noncomputable def Try.pinned : Pinned := { name := "ytjijikkcpnojcaa", sum := "28159d8d826be894f1f85bb13618b9230471746272b1b29b8f5bc98a3364f122", checked := Try.checked }
namespace Rows
def none {H : Type} : Left H := { results := [], args := [] }

/-- 'fathomlaw11.PurseActs': WHATEVER THE INPUT: true; the input reads as it did. -/
def purseActsSpec : ChangeSpec := { name := "purseActs", fn := fun _ => fun
  | [d1, d2] => { results := [.lit (.bool true)], args := [d1, d2] }
  | _ => none }
def purseActsRow : OpenClaim := { program := "ytjijikkcpnojcaa", sum := "28159d8d826be894f1f85bb13618b9230471746272b1b29b8f5bc98a3364f122", func := "fathom/fathomlaw11.PurseActs", spec := "purseActs", apart := false }
def PurseActsSaid : Prop := purseActsRow.holds Try.pinned (OpenSpec.ofChange purseActsSpec)

/-- ITS FALSE NEIGHBOUR: 'it returns false'. Refute it at one input. -/
def purseActsWrong : ChangeSpec := { name := "purseActs", fn := fun _ => fun
  | [d1, d2] => { results := [.lit (.bool false)], args := [d1, d2] }
  | _ => none }
def PurseActsWrongFalsely : Prop := purseActsRow.holds Try.pinned (OpenSpec.ofChange purseActsWrong)

/-- 'fathomlaw11.PurseDrains': WHATEVER THE INPUT: true; the input reads as it did. -/
def purseDrainsSpec : ChangeSpec := { name := "purseDrains", fn := fun _ => fun
  | [d1, d2] => { results := [.lit (.bool true)], args := [d1, d2] }
  | _ => none }
def purseDrainsRow : OpenClaim := { program := "ytjijikkcpnojcaa", sum := "28159d8d826be894f1f85bb13618b9230471746272b1b29b8f5bc98a3364f122", func := "fathom/fathomlaw11.PurseDrains", spec := "purseDrains", apart := false }
def PurseDrainsSaid : Prop := purseDrainsRow.holds Try.pinned (OpenSpec.ofChange purseDrainsSpec)

/-- ITS FALSE NEIGHBOUR: 'it returns false'. Refute it at one input. -/
def purseDrainsWrong : ChangeSpec := { name := "purseDrains", fn := fun _ => fun
  | [d1, d2] => { results := [.lit (.bool false)], args := [d1, d2] }
  | _ => none }
def PurseDrainsWrongFalsely : Prop := purseDrainsRow.holds Try.pinned (OpenSpec.ofChange purseDrainsWrong)

/-- 'fathomlaw11.PurseNobody': WHATEVER THE INPUT: true; the input reads as it did. -/
def purseNobodySpec : ChangeSpec := { name := "purseNobody", fn := fun _ => fun
  | [d] => { results := [.lit (.bool true)], args := [d] }
  | _ => none }
def purseNobodyRow : OpenClaim := { program := "ytjijikkcpnojcaa", sum := "28159d8d826be894f1f85bb13618b9230471746272b1b29b8f5bc98a3364f122", func := "fathom/fathomlaw11.PurseNobody", spec := "purseNobody", apart := false }
def PurseNobodySaid : Prop := purseNobodyRow.holds Try.pinned (OpenSpec.ofChange purseNobodySpec)

/-- ITS FALSE NEIGHBOUR: 'it returns false'. Refute it at one input. -/
def purseNobodyWrong : ChangeSpec := { name := "purseNobody", fn := fun _ => fun
  | [d] => { results := [.lit (.bool false)], args := [d] }
  | _ => none }
def PurseNobodyWrongFalsely : Prop := purseNobodyRow.holds Try.pinned (OpenSpec.ofChange purseNobodyWrong)

/- THE SECOND FORM. 'bulk': how many values and letters a reading holds, each counted each time it is reached (what is shared counts as often as it is met; a slice's spare places count too). A statement '..UptoSaid' is the law's where the arguments, and the package variables that the reading takes, are together of bulk at most 1048576: NARROWER than '..Said'. Prove '..Said' where nothing that the law and all that it calls make is longer than what came in: it says more and counts as full. Else prove '..UptoSaid'. A law counts once. -/
mutual
def uptoBulk {H : Type} : DataW H → Nat
  | .lit (.string bytes) => bytes.length + 1
  | .lit _ => 1
  | .nil => 1
  | .ptr d => uptoBulk d + 1
  | .slice elems spare => uptoBulkAll elems + uptoBulkAll spare + 1
  | .agg parts => uptoBulkAll parts + 1
  | .iface _ d => uptoBulk d + 1
  | .map entries => uptoBulkEntries entries + 1
  | .held _ => 1
def uptoBulkAll {H : Type} : List (DataW H) → Nat
  | [] => 0
  | d :: r => uptoBulk d + uptoBulkAll r
def uptoBulkEntries {H : Type} : List (Lit × DataW H) → Nat
  | [] => 0
  | x :: r => uptoBulkEntry x + uptoBulkEntries r
def uptoBulkEntry {H : Type} : Lit × DataW H → Nat
  | (.string bytes, d) => bytes.length + uptoBulk d + 1
  | (_, d) => uptoBulk d + 1
 end
def uptoSmall : (H : Type) → List (DataW H) → Bool := fun _ ds => decide (uptoBulkAll ds ≤ 1048576)
def OpenSpec.upto (s : _root_.Go.ChangeSpec) : _root_.Go.OpenSpec := { _root_.Go.OpenSpec.ofChange s with cond := some uptoSmall }

/-- 'fathomlaw11.PurseActs', WHERE WHAT IT READS IS OF BULK AT MOST 1048576: true; the input reads as it did. -/
def purseActsUptoRow : OpenClaim := { program := "ytjijikkcpnojcaa", sum := "28159d8d826be894f1f85bb13618b9230471746272b1b29b8f5bc98a3364f122", func := "fathom/fathomlaw11.PurseActs", spec := "purseActs", apart := false, narrowed := true }
def PurseActsUptoSaid : Prop := purseActsUptoRow.holds Try.pinned (OpenSpec.upto purseActsSpec)

/-- 'fathomlaw11.PurseDrains', WHERE WHAT IT READS IS OF BULK AT MOST 1048576: true; the input reads as it did. -/
def purseDrainsUptoRow : OpenClaim := { program := "ytjijikkcpnojcaa", sum := "28159d8d826be894f1f85bb13618b9230471746272b1b29b8f5bc98a3364f122", func := "fathom/fathomlaw11.PurseDrains", spec := "purseDrains", apart := false, narrowed := true }
def PurseDrainsUptoSaid : Prop := purseDrainsUptoRow.holds Try.pinned (OpenSpec.upto purseDrainsSpec)

/-- 'fathomlaw11.PurseNobody', WHERE WHAT IT READS IS OF BULK AT MOST 1048576: true; the input reads as it did. -/
def purseNobodyUptoRow : OpenClaim := { program := "ytjijikkcpnojcaa", sum := "28159d8d826be894f1f85bb13618b9230471746272b1b29b8f5bc98a3364f122", func := "fathom/fathomlaw11.PurseNobody", spec := "purseNobody", apart := false, narrowed := true }
def PurseNobodyUptoSaid : Prop := purseNobodyUptoRow.holds Try.pinned (OpenSpec.upto purseNobodySpec)

end Rows
end Go.Proofs.Ytjijikkcpnojcaa
