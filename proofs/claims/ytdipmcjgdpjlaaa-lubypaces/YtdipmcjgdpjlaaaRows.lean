/-
  No cell of these rows narrows 'for every input' (looked for: loops, veiled, ifaces, maps, wideKeys, modest, calm, conditions, laid).
  DERIVED. THE GIVEN ROWS OF THIS SEAT. 4 by the template 'for every input the law returns true; each argument reads behind the call as it read before'; 0 by the template 'total and deterministic' (their statements: YtdipmcjgdpjlaaaTotals.lean).
  GIVEN WITH THE SEED: the statements are not yours to turn. If you find one false, say at which input.
  Laid BY PROGRAM, IN A SANDBOX (cutbox-rows.mjs): the forced cells as the released guide's own fill.sh prints them over the translation 3dfebd61e52fb689… (all of the seat's roots in one cut). By AI agents, Wed Nov 11 2026. No macro, syntax, notation, axiom, sorry.
-/
import Derived.Test.YtdipmcjgdpjlaaaChecked
import GoSem.Claim
import GoSem.ClaimJoined
import GoSem.ClaimMapViews
import Derived.JoinedTies
import Derived.KernelRfl
namespace Go.Proofs.Ytdipmcjgdpjlaaa
/- THE CELL 'sum', in the pinned program and in every row, IS THE sha256 OF THE DUMP (.gsa) THAT YtdipmcjgdpjlaaaProg.lean LOADS. Nothing in Lean hashes anything: it is a label: what it is worth is what the hold of that sum in a sandbox is worth. -/
noncomputable def Try.pinned : Pinned := { name := "ytdipmcjgdpjlaaa", sum := "3dfebd61e52fb6892c5c0943f6e4caa201fdb8ece542f804c8eb6926b174bf57", checked := Try.checked }
namespace Rows
def none {H : Type} : Left H := { results := [], args := [] }

/-- 'fathomlaw10.LubyNumbers': WHATEVER THE INPUT: true; the input reads as it did. -/
def lubyNumbersSpec : ChangeSpec := { name := "lubyNumbers", fn := fun _ => fun
  | [d1, d2] => { results := [.lit (.bool true)], args := [d1, d2] }
  | _ => none }
def lubyNumbersRow : OpenClaim := { program := "ytdipmcjgdpjlaaa", sum := "3dfebd61e52fb6892c5c0943f6e4caa201fdb8ece542f804c8eb6926b174bf57", func := "fathom/fathomlaw10.LubyNumbers", spec := "lubyNumbers", recurses := true, apart := false }
def LubyNumbersSaid : Prop := lubyNumbersRow.holds Try.pinned (OpenSpec.ofChange lubyNumbersSpec)

/-- ITS FALSE NEIGHBOUR: 'it returns false'. Refute it at one input. -/
def lubyNumbersWrong : ChangeSpec := { name := "lubyNumbers", fn := fun _ => fun
  | [d1, d2] => { results := [.lit (.bool false)], args := [d1, d2] }
  | _ => none }
def LubyNumbersWrongFalsely : Prop := lubyNumbersRow.holds Try.pinned (OpenSpec.ofChange lubyNumbersWrong)

/-- 'fathomlaw10.LubyPowers': WHATEVER THE INPUT: true; the input reads as it did. -/
def lubyPowersSpec : ChangeSpec := { name := "lubyPowers", fn := fun _ => fun
  | [d1, d2] => { results := [.lit (.bool true)], args := [d1, d2] }
  | _ => none }
def lubyPowersRow : OpenClaim := { program := "ytdipmcjgdpjlaaa", sum := "3dfebd61e52fb6892c5c0943f6e4caa201fdb8ece542f804c8eb6926b174bf57", func := "fathom/fathomlaw10.LubyPowers", spec := "lubyPowers", apart := false }
def LubyPowersSaid : Prop := lubyPowersRow.holds Try.pinned (OpenSpec.ofChange lubyPowersSpec)

/-- ITS FALSE NEIGHBOUR: 'it returns false'. Refute it at one input. -/
def lubyPowersWrong : ChangeSpec := { name := "lubyPowers", fn := fun _ => fun
  | [d1, d2] => { results := [.lit (.bool false)], args := [d1, d2] }
  | _ => none }
def LubyPowersWrongFalsely : Prop := lubyPowersRow.holds Try.pinned (OpenSpec.ofChange lubyPowersWrong)

/-- 'fathomlaw10.LubyTicks': WHATEVER THE INPUT: true; the input reads as it did. -/
def lubyTicksSpec : ChangeSpec := { name := "lubyTicks", fn := fun _ => fun
  | [d1, d2] => { results := [.lit (.bool true)], args := [d1, d2] }
  | _ => none }
def lubyTicksRow : OpenClaim := { program := "ytdipmcjgdpjlaaa", sum := "3dfebd61e52fb6892c5c0943f6e4caa201fdb8ece542f804c8eb6926b174bf57", func := "fathom/fathomlaw10.LubyTicks", spec := "lubyTicks", recurses := true, apart := false }
def LubyTicksSaid : Prop := lubyTicksRow.holds Try.pinned (OpenSpec.ofChange lubyTicksSpec)

/-- ITS FALSE NEIGHBOUR: 'it returns false'. Refute it at one input. -/
def lubyTicksWrong : ChangeSpec := { name := "lubyTicks", fn := fun _ => fun
  | [d1, d2] => { results := [.lit (.bool false)], args := [d1, d2] }
  | _ => none }
def LubyTicksWrongFalsely : Prop := lubyTicksRow.holds Try.pinned (OpenSpec.ofChange lubyTicksWrong)

/-- 'fathomlaw10.LubyPaces': WHATEVER THE INPUT: true; the input reads as it did. -/
def lubyPacesSpec : ChangeSpec := { name := "lubyPaces", fn := fun _ => fun
  | [d1, d2] => { results := [.lit (.bool true)], args := [d1, d2] }
  | _ => none }
def lubyPacesRow : OpenClaim := { program := "ytdipmcjgdpjlaaa", sum := "3dfebd61e52fb6892c5c0943f6e4caa201fdb8ece542f804c8eb6926b174bf57", func := "fathom/fathomlaw10.LubyPaces", spec := "lubyPaces", recurses := true, apart := false }
def LubyPacesSaid : Prop := lubyPacesRow.holds Try.pinned (OpenSpec.ofChange lubyPacesSpec)

/-- ITS FALSE NEIGHBOUR: 'it returns false'. Refute it at one input. -/
def lubyPacesWrong : ChangeSpec := { name := "lubyPaces", fn := fun _ => fun
  | [d1, d2] => { results := [.lit (.bool false)], args := [d1, d2] }
  | _ => none }
def LubyPacesWrongFalsely : Prop := lubyPacesRow.holds Try.pinned (OpenSpec.ofChange lubyPacesWrong)

/- THE SECOND FORM. 'bulk': how many values and letters a reading holds, each counted each time it is reached (what is shared counts as often as it is met; a slice's spare places count too). A statement '..UptoSaid' is the law's where the arguments, and the package variables that the reading takes, are together of bulk at most 1048576: NARROWER than '..Said'. Prove '..Said' where nothing that the law and all that it calls make is longer than what came in: it says more and counts as full. Else prove '..UptoSaid'. A law counts once. -/
mutual
def uptoBulk {H : Type} : DataW H → Nat
  | .lit (.string bytes) => bytes.length + 1
  | .lit _ => 1
  | .nil => 1
  | .ptr d => uptoBulk d + 1
  | .slice elems spare => uptoBulkAll elems + uptoBulkAll spare + 1
  | .agg parts => uptoBulkAll parts + 1
  | .iface _ d => uptoBulk d + 1
  | .map entries => uptoBulkEntries entries + 1
  | .held _ => 1
def uptoBulkAll {H : Type} : List (DataW H) → Nat
  | [] => 0
  | d :: r => uptoBulk d + uptoBulkAll r
def uptoBulkEntries {H : Type} : List (Lit × DataW H) → Nat
  | [] => 0
  | x :: r => uptoBulkEntry x + uptoBulkEntries r
def uptoBulkEntry {H : Type} : Lit × DataW H → Nat
  | (.string bytes, d) => bytes.length + uptoBulk d + 1
  | (_, d) => uptoBulk d + 1
 end
def uptoSmall : (H : Type) → List (DataW H) → Bool := fun _ ds => decide (uptoBulkAll ds ≤ 1048576)
def OpenSpec.upto (s : _root_.Go.ChangeSpec) : _root_.Go.OpenSpec := { _root_.Go.OpenSpec.ofChange s with cond := some uptoSmall }

/-- 'fathomlaw10.LubyNumbers', WHERE WHAT IT READS IS OF BULK AT MOST 1048576: true; the input reads as it did. -/
def lubyNumbersUptoRow : OpenClaim := { program := "ytdipmcjgdpjlaaa", sum := "3dfebd61e52fb6892c5c0943f6e4caa201fdb8ece542f804c8eb6926b174bf57", func := "fathom/fathomlaw10.LubyNumbers", spec := "lubyNumbers", recurses := true, apart := false, narrowed := true }
def LubyNumbersUptoSaid : Prop := lubyNumbersUptoRow.holds Try.pinned (OpenSpec.upto lubyNumbersSpec)

/-- 'fathomlaw10.LubyPowers', WHERE WHAT IT READS IS OF BULK AT MOST 1048576: true; the input reads as it did. -/
def lubyPowersUptoRow : OpenClaim := { program := "ytdipmcjgdpjlaaa", sum := "3dfebd61e52fb6892c5c0943f6e4caa201fdb8ece542f804c8eb6926b174bf57", func := "fathom/fathomlaw10.LubyPowers", spec := "lubyPowers", apart := false, narrowed := true }
def LubyPowersUptoSaid : Prop := lubyPowersUptoRow.holds Try.pinned (OpenSpec.upto lubyPowersSpec)

/-- 'fathomlaw10.LubyTicks', WHERE WHAT IT READS IS OF BULK AT MOST 1048576: true; the input reads as it did. -/
def lubyTicksUptoRow : OpenClaim := { program := "ytdipmcjgdpjlaaa", sum := "3dfebd61e52fb6892c5c0943f6e4caa201fdb8ece542f804c8eb6926b174bf57", func := "fathom/fathomlaw10.LubyTicks", spec := "lubyTicks", recurses := true, apart := false, narrowed := true }
def LubyTicksUptoSaid : Prop := lubyTicksUptoRow.holds Try.pinned (OpenSpec.upto lubyTicksSpec)

/-- 'fathomlaw10.LubyPaces', WHERE WHAT IT READS IS OF BULK AT MOST 1048576: true; the input reads as it did. -/
def lubyPacesUptoRow : OpenClaim := { program := "ytdipmcjgdpjlaaa", sum := "3dfebd61e52fb6892c5c0943f6e4caa201fdb8ece542f804c8eb6926b174bf57", func := "fathom/fathomlaw10.LubyPaces", spec := "lubyPaces", recurses := true, apart := false, narrowed := true }
def LubyPacesUptoSaid : Prop := lubyPacesUptoRow.holds Try.pinned (OpenSpec.upto lubyPacesSpec)

end Rows
end Go.Proofs.Ytdipmcjgdpjlaaa
