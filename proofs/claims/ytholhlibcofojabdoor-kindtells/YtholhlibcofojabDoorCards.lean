/-
  DERIVED. GIVEN WITH THE SEED: THE CARDS: each row of YtholhlibcofojabDoorRows.lean that lists a variable, with what it lists TIED to the program's text (the seventh form; the later family's looks); each row that meets fmt, with fmt's text TOLD by the authors' own Lean function (tested against real Go, not proved from fmt's source: count such statements apart). THE CARD IS WHAT COUNTS. Prove the row's statement (the work); the ties are given (YtholhlibcofojabDoorTie.lean); close each card by the builder's one call (the guide's Derived/Test/ToyasCard.lean, 'card_holds'). Laid BY PROGRAM, IN A SANDBOX (cutbox-door.mjs). By AI agents, Wed Nov 11 2026. No macro, syntax, notation, axiom, sorry.
-/
import Derived.Test.YtholhlibcofojabDoorRows
import GoSem.ClaimSeven
namespace Go.Proofs.YtholhlibcofojabDoor
namespace Rows

/-- THE TIED CARD OF 'kinlaw4.RecordMany'. -/
def recordManyCard : Claim7 := { stood := { row := recordManyRow, standIns := [], harness := (true, "14a79f100a3778d909503526a075fefc1ae0fc278a881cd1d3cfdfe42a6b0294"), looks := true }, kinds := [], alts := [], laidByText := true, laidKinds := [.handle], laidTests := true, laidLooks := .later }
def RecordManyCardSaid : Prop := Claim7.holds Tryd.pinned (.plain (OpenSpec.ofChange recordManySpec)) recordManyCard

/-- THE TIED CARD OF 'kinlaw1.KindTells'. -/
def kindTellsCard : Claim7 := { stood := { row := kindTellsRow, standIns := [], harness := (true, "14a79f100a3778d909503526a075fefc1ae0fc278a881cd1d3cfdfe42a6b0294"), looks := true }, kinds := [], alts := [], laidByText := true, laidKinds := [.handle], laidTests := true, laidLooks := .later }
def KindTellsCardSaid : Prop := Claim7.holds Tryd.pinned (.plain (OpenSpec.ofChange kindTellsSpec)) kindTellsCard

/-- THE TIED CARD OF 'kinlaw4.KindLine'. -/
def kindLineCard : Claim7 := { stood := { row := kindLineRow, standIns := [], harness := (true, "14a79f100a3778d909503526a075fefc1ae0fc278a881cd1d3cfdfe42a6b0294"), looks := true }, kinds := [], alts := [], laidByText := true, laidKinds := [.handle], laidTests := true, laidLooks := .later }
def KindLineCardSaid : Prop := Claim7.holds Tryd.pinned (.plain (OpenSpec.ofChange kindLineSpec)) kindLineCard

/-- THE SECOND FORM's CARD OF 'kinlaw4.RecordMany'. -/
def recordManyUptoCard : Claim7 := { stood := { row := recordManyUptoRow, standIns := [], harness := (true, "14a79f100a3778d909503526a075fefc1ae0fc278a881cd1d3cfdfe42a6b0294"), looks := true }, kinds := [], alts := [], laidByText := true, laidKinds := [.handle], laidTests := true, laidLooks := .later }
def RecordManyUptoCardSaid : Prop := Claim7.holds Tryd.pinned (.plain (OpenSpec.upto recordManySpec)) recordManyUptoCard

/-- THE SECOND FORM's CARD OF 'kinlaw1.KindTells'. -/
def kindTellsUptoCard : Claim7 := { stood := { row := kindTellsUptoRow, standIns := [], harness := (true, "14a79f100a3778d909503526a075fefc1ae0fc278a881cd1d3cfdfe42a6b0294"), looks := true }, kinds := [], alts := [], laidByText := true, laidKinds := [.handle], laidTests := true, laidLooks := .later }
def KindTellsUptoCardSaid : Prop := Claim7.holds Tryd.pinned (.plain (OpenSpec.upto kindTellsSpec)) kindTellsUptoCard

/-- THE SECOND FORM's CARD OF 'kinlaw4.KindLine'. -/
def kindLineUptoCard : Claim7 := { stood := { row := kindLineUptoRow, standIns := [], harness := (true, "14a79f100a3778d909503526a075fefc1ae0fc278a881cd1d3cfdfe42a6b0294"), looks := true }, kinds := [], alts := [], laidByText := true, laidKinds := [.handle], laidTests := true, laidLooks := .later }
def KindLineUptoCardSaid : Prop := Claim7.holds Tryd.pinned (.plain (OpenSpec.upto kindLineSpec)) kindLineUptoCard
end Rows
end Go.Proofs.YtholhlibcofojabDoor
