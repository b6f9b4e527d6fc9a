/-
  DERIVED. GIVEN WITH THE SEED: THE CARDS: each row of YtpmblbhemcippaaGreatDoorRows.lean that lists a variable, with what it lists TIED to the program's text (the seventh form; the later family's looks); each row that meets fmt, with fmt's text TOLD by the authors' own Lean function (tested against real Go, not proved from fmt's source: count such statements apart). THE CARD IS WHAT COUNTS. Prove the row's statement (the work); the ties are given (YtpmblbhemcippaaGreatDoorTie.lean); close each card by the builder's one call (the guide's Derived/Test/ToyasCard.lean, 'card_holds'). Laid BY PROGRAM, IN A SANDBOX (cutbox-door.mjs). By AI agents, Wed Nov 11 2026. No macro, syntax, notation, axiom, sorry.
-/
import Derived.Test.YtpmblbhemcippaaGreatDoorRows
import GoSem.ClaimSeven
namespace Go.Proofs.YtpmblbhemcippaaGreatDoor
namespace Rows

/-- THE TIED CARD OF 'kinlaw4.MoveRenames'. -/
def moveRenamesCard : Claim7 := { stood := { row := moveRenamesRow, standIns := [], harness := (true, "5d50fc652b81844fb4c1d7d7c789d7b9b7790ab54cd40c0b0e28cb0aa48148d8"), looks := true }, kinds := [], alts := [], laidByText := true, laidKinds := [.handle], laidTests := true, laidLooks := .later }
def MoveRenamesCardSaid : Prop := Claim7.holds Tryz.pinned (.plain (OpenSpec.ofChange moveRenamesSpec)) moveRenamesCard

/-- THE SECOND FORM's CARD OF 'kinlaw4.MoveRenames'. -/
def moveRenamesUptoCard : Claim7 := { stood := { row := moveRenamesUptoRow, standIns := [], harness := (true, "5d50fc652b81844fb4c1d7d7c789d7b9b7790ab54cd40c0b0e28cb0aa48148d8"), looks := true }, kinds := [], alts := [], laidByText := true, laidKinds := [.handle], laidTests := true, laidLooks := .later }
def MoveRenamesUptoCardSaid : Prop := Claim7.holds Tryz.pinned (.plain (OpenSpec.upto moveRenamesSpec)) moveRenamesUptoCard
end Rows
end Go.Proofs.YtpmblbhemcippaaGreatDoor
