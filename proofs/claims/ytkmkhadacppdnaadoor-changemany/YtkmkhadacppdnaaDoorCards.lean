/-
  DERIVED. GIVEN WITH THE SEED: THE CARDS: each row of YtkmkhadacppdnaaDoorRows.lean that lists a variable, with what it lists TIED to the program's text (the seventh form; the later family's looks); each row that meets fmt, with fmt's text TOLD by the authors' own Lean function (tested against real Go, not proved from fmt's source: count such statements apart). THE CARD IS WHAT COUNTS. Prove the row's statement (the work); the ties are given (YtkmkhadacppdnaaDoorTie.lean); close each card by the builder's one call (the guide's Derived/Test/ToyasCard.lean, 'card_holds'). Laid BY PROGRAM, IN A SANDBOX (cutbox-door.mjs). By AI agents, Wed Nov 11 2026. No macro, syntax, notation, axiom, sorry.
-/
import Derived.Test.YtkmkhadacppdnaaDoorRows
import GoSem.ClaimSeven
namespace Go.Proofs.YtkmkhadacppdnaaDoor
namespace Rows

/-- THE TIED CARD OF 'kinlaw4.ChangeMany'. -/
def changeManyCard : Claim7 := { stood := { row := changeManyRow, standIns := [], harness := (true, "0e55902dfd154e35215e910331de3055ac67579879eeff853eb6b4e30289abb1"), looks := true }, kinds := [], alts := [], laidByText := true, laidKinds := [.handle], laidTests := true, laidLooks := .later }
def ChangeManyCardSaid : Prop := Claim7.holds Tryd.pinned (.plain (OpenSpec.ofChange changeManySpec)) changeManyCard

/-- THE SECOND FORM's CARD OF 'kinlaw4.ChangeMany'. -/
def changeManyUptoCard : Claim7 := { stood := { row := changeManyUptoRow, standIns := [], harness := (true, "0e55902dfd154e35215e910331de3055ac67579879eeff853eb6b4e30289abb1"), looks := true }, kinds := [], alts := [], laidByText := true, laidKinds := [.handle], laidTests := true, laidLooks := .later }
def ChangeManyUptoCardSaid : Prop := Claim7.holds Tryd.pinned (.plain (OpenSpec.upto changeManySpec)) changeManyUptoCard
end Rows
end Go.Proofs.YtkmkhadacppdnaaDoor
