/-
  DERIVED. GIVEN WITH THE SEED: THE CARDS: each row of YtodddcacngjadaaDoorRows.lean that lists a variable, with what it lists TIED to the program's text (the seventh form; the later family's looks); each row that meets fmt, with fmt's text TOLD by the authors' own Lean function (tested against real Go, not proved from fmt's source: count such statements apart). THE CARD IS WHAT COUNTS. Prove the row's statement (the work); the ties are given (YtodddcacngjadaaDoorTie.lean); close each card by the builder's one call (the guide's Derived/Test/ToyasCard.lean, 'card_holds'). Laid BY PROGRAM, IN A SANDBOX (cutbox-door.mjs). By AI agents, Wed Nov 11 2026. No macro, syntax, notation, axiom, sorry.
-/
import Derived.Test.YtodddcacngjadaaDoorRows
import GoSem.ClaimSeven
namespace Go.Proofs.YtodddcacngjadaaDoor
namespace Rows

/-- THE TIED CARD OF 'kinlaw4.RowsSum'. -/
def rowsSumCard : Claim7 := { stood := { row := rowsSumRow, standIns := [], harness := (true, "c4a0d4713d672019f5bcb075192bf69048fc3ac9dc271ead509405a0cf7260b4"), looks := true }, kinds := [], alts := [], laidByText := true, laidKinds := [.handle], laidTests := true, laidLooks := .later }
def RowsSumCardSaid : Prop := Claim7.holds Tryd.pinned (.plain (OpenSpec.ofChange rowsSumSpec)) rowsSumCard

/-- THE SECOND FORM's CARD OF 'kinlaw4.RowsSum'. -/
def rowsSumUptoCard : Claim7 := { stood := { row := rowsSumUptoRow, standIns := [], harness := (true, "c4a0d4713d672019f5bcb075192bf69048fc3ac9dc271ead509405a0cf7260b4"), looks := true }, kinds := [], alts := [], laidByText := true, laidKinds := [.handle], laidTests := true, laidLooks := .later }
def RowsSumUptoCardSaid : Prop := Claim7.holds Tryd.pinned (.plain (OpenSpec.upto rowsSumSpec)) rowsSumUptoCard
end Rows
end Go.Proofs.YtodddcacngjadaaDoor
