/-
  DERIVED. GIVEN WITH THE SEED: THE CARDS: each row of YtenadbfedbjefaaDoorRows.lean that lists a variable, with what it lists TIED to the program's text (the seventh form; the later family's looks); each row that meets fmt, with fmt's text TOLD by the authors' own Lean function (tested against real Go, not proved from fmt's source: count such statements apart). THE CARD IS WHAT COUNTS. Prove the row's statement (the work); the ties are given (YtenadbfedbjefaaDoorTie.lean); close each card by the builder's one call (the guide's Derived/Test/ToyasCard.lean, 'card_holds'). Laid BY PROGRAM, IN A SANDBOX (cutbox-door.mjs). By AI agents, Wed Nov 11 2026. No macro, syntax, notation, axiom, sorry.
-/
import Derived.Test.YtenadbfedbjefaaDoorRows
import GoSem.ClaimSeven
namespace Go.Proofs.YtenadbfedbjefaaDoor
namespace Rows

/-- THE TIED CARD OF 'kinlaw4.AskShort'. -/
def askShortCard : Claim7 := { stood := { row := askShortRow, standIns := [], harness := (true, "581f13f65ec30baa9e77e8ced67d7590c63993d43ba4e6b97689ace5f15cad5d"), looks := true }, kinds := [], alts := [], laidByText := true, laidKinds := [.data, .data, .data, .handle, .data], laidTests := true, laidLooks := .later }
def AskShortCardSaid : Prop := Claim7.holds Tryd.pinned (.plain (OpenSpec.ofChange askShortSpec)) askShortCard

/-- THE SECOND FORM's CARD OF 'kinlaw4.AskShort'. -/
def askShortUptoCard : Claim7 := { stood := { row := askShortUptoRow, standIns := [], harness := (true, "581f13f65ec30baa9e77e8ced67d7590c63993d43ba4e6b97689ace5f15cad5d"), looks := true }, kinds := [], alts := [], laidByText := true, laidKinds := [.data, .data, .data, .handle, .data], laidTests := true, laidLooks := .later }
def AskShortUptoCardSaid : Prop := Claim7.holds Tryd.pinned (.plain (OpenSpec.upto askShortSpec)) askShortUptoCard
end Rows
end Go.Proofs.YtenadbfedbjefaaDoor
