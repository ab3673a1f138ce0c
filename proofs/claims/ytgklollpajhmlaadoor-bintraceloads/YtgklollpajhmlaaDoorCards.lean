/-
  DERIVED. GIVEN WITH THE SEED: THE CARDS: each row of YtgklollpajhmlaaDoorRows.lean that lists a variable, with what it lists TIED to the program's text (the seventh form; the later family's looks); each row that meets fmt, with fmt's text TOLD by the authors' own Lean function (tested against real Go, not proved from fmt's source: count such statements apart). THE CARD IS WHAT COUNTS. Prove the row's statement (the work); the ties are given (YtgklollpajhmlaaDoorTie.lean); close each card by the builder's one call (the guide's Derived/Test/ToyasCard.lean, 'card_holds'). Laid BY PROGRAM, IN A SANDBOX (cutbox-door.mjs). By AI agents, Wed Nov 11 2026. No macro, syntax, notation, axiom, sorry.
-/
import Derived.Test.YtgklollpajhmlaaDoorRows
import GoSem.ClaimSeven
namespace Go.Proofs.YtgklollpajhmlaaDoor
namespace Rows

/-- THE TIED CARD OF 'fathomlaw05.BintraceLoads'. -/
def bintraceLoadsCard : Claim7 := { stood := { row := bintraceLoadsRow, standIns := [], harness := (true, "ceb2a1ccf9ecf0d067f86223127efa098e61e84d7185dc93106cd7fe85729cac"), looks := false }, kinds := [], alts := [], laidByText := true, laidKinds := [.data, .data, .data], laidTests := true, laidLooks := .later }
def BintraceLoadsCardSaid : Prop := Claim7.holds Tryd.pinned (.plain (OpenSpec.ofChange bintraceLoadsSpec)) bintraceLoadsCard

/-- THE SECOND FORM's CARD OF 'fathomlaw05.BintraceLoads'. -/
def bintraceLoadsUptoCard : Claim7 := { stood := { row := bintraceLoadsUptoRow, standIns := [], harness := (true, "ceb2a1ccf9ecf0d067f86223127efa098e61e84d7185dc93106cd7fe85729cac"), looks := false }, kinds := [], alts := [], laidByText := true, laidKinds := [.data, .data, .data], laidTests := true, laidLooks := .later }
def BintraceLoadsUptoCardSaid : Prop := Claim7.holds Tryd.pinned (.plain (OpenSpec.upto bintraceLoadsSpec)) bintraceLoadsUptoCard
end Rows
end Go.Proofs.YtgklollpajhmlaaDoor
