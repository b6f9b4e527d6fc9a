/-
  DERIVED. GIVEN WITH THE SEED: THE CARDS: each row of YtifcpjimhhpcpaaGreatDoorRows.lean that lists a variable, with what it lists TIED to the program's text (the seventh form; the later family's looks); each row that meets fmt, with fmt's text TOLD by the authors' own Lean function (tested against real Go, not proved from fmt's source: count such statements apart). THE CARD IS WHAT COUNTS. Prove the row's statement (the work); the ties are given (YtifcpjimhhpcpaaGreatDoorTie.lean); close each card by the builder's one call (the guide's Derived/Test/ToyasCard.lean, 'card_holds'). Laid BY PROGRAM, IN A SANDBOX (cutbox-door.mjs). By AI agents, Wed Nov 11 2026. No macro, syntax, notation, axiom, sorry.
-/
import Derived.Test.YtifcpjimhhpcpaaGreatDoorRows
import GoSem.ClaimSeven
namespace Go.Proofs.YtifcpjimhhpcpaaGreatDoor
namespace Rows

/-- THE TIED CARD OF 'kinlaw2.PathHolds'. -/
def pathHoldsCard : Claim7 := { stood := { row := pathHoldsRow, standIns := [], harness := (true, "98f0743ad48abf0a42dc5e94b3828421371628839b5ba35e50bb34f9898e51aa"), looks := true }, kinds := [], alts := [], laidByText := true, laidKinds := [.handle], laidTests := true, laidLooks := .later }
def PathHoldsCardSaid : Prop := Claim7.holds Tryz.pinned (.plain (OpenSpec.ofChange pathHoldsSpec)) pathHoldsCard

/-- THE SECOND FORM's CARD OF 'kinlaw2.PathHolds'. -/
def pathHoldsUptoCard : Claim7 := { stood := { row := pathHoldsUptoRow, standIns := [], harness := (true, "98f0743ad48abf0a42dc5e94b3828421371628839b5ba35e50bb34f9898e51aa"), looks := true }, kinds := [], alts := [], laidByText := true, laidKinds := [.handle], laidTests := true, laidLooks := .later }
def PathHoldsUptoCardSaid : Prop := Claim7.holds Tryz.pinned (.plain (OpenSpec.upto pathHoldsSpec)) pathHoldsUptoCard
end Rows
end Go.Proofs.YtifcpjimhhpcpaaGreatDoor
