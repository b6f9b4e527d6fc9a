/-
  DERIVED. GIVEN WITH THE SEED: THE CARDS: each row of YtjnjbajnmclmjaaGreatDoorRows.lean that lists a variable, with what it lists TIED to the program's text (the seventh form; the later family's looks); each row that meets fmt, with fmt's text TOLD by the authors' own Lean function (tested against real Go, not proved from fmt's source: count such statements apart). THE CARD IS WHAT COUNTS. Prove the row's statement (the work); the ties are given (YtjnjbajnmclmjaaGreatDoorTie.lean); close each card by the builder's one call (the guide's Derived/Test/ToyasCard.lean, 'card_holds'). Laid BY PROGRAM, IN A SANDBOX (cutbox-door.mjs). By AI agents, Wed Nov 11 2026. No macro, syntax, notation, axiom, sorry.
-/
import Derived.Test.YtjnjbajnmclmjaaGreatDoorRows
import GoSem.ClaimSeven
namespace Go.Proofs.YtjnjbajnmclmjaaGreatDoor
namespace Rows

/-- THE TIED CARD OF 'kinlaw2.IndexHolds'. -/
def indexHoldsCard : Claim7 := { stood := { row := indexHoldsRow, standIns := [], harness := (true, "b742cc510a71f7ee343f8daa80f0a2b9cf95d8e524413e9878bdcb0a548dbf05"), looks := true }, kinds := [], alts := [], laidByText := true, laidKinds := [.handle], laidTests := true, laidLooks := .later }
def IndexHoldsCardSaid : Prop := Claim7.holds Tryz.pinned (.plain (OpenSpec.ofChange indexHoldsSpec)) indexHoldsCard

/-- THE TIED CARD OF 'kinlaw4.IndexKeys'. -/
def indexKeysCard : Claim7 := { stood := { row := indexKeysRow, standIns := [], harness := (true, "b742cc510a71f7ee343f8daa80f0a2b9cf95d8e524413e9878bdcb0a548dbf05"), looks := true }, kinds := [], alts := [], laidByText := true, laidKinds := [.handle], laidTests := true, laidLooks := .later }
def IndexKeysCardSaid : Prop := Claim7.holds Tryz.pinned (.plain (OpenSpec.ofChange indexKeysSpec)) indexKeysCard

/-- THE SECOND FORM's CARD OF 'kinlaw2.IndexHolds'. -/
def indexHoldsUptoCard : Claim7 := { stood := { row := indexHoldsUptoRow, standIns := [], harness := (true, "b742cc510a71f7ee343f8daa80f0a2b9cf95d8e524413e9878bdcb0a548dbf05"), looks := true }, kinds := [], alts := [], laidByText := true, laidKinds := [.handle], laidTests := true, laidLooks := .later }
def IndexHoldsUptoCardSaid : Prop := Claim7.holds Tryz.pinned (.plain (OpenSpec.upto indexHoldsSpec)) indexHoldsUptoCard

/-- THE SECOND FORM's CARD OF 'kinlaw4.IndexKeys'. -/
def indexKeysUptoCard : Claim7 := { stood := { row := indexKeysUptoRow, standIns := [], harness := (true, "b742cc510a71f7ee343f8daa80f0a2b9cf95d8e524413e9878bdcb0a548dbf05"), looks := true }, kinds := [], alts := [], laidByText := true, laidKinds := [.handle], laidTests := true, laidLooks := .later }
def IndexKeysUptoCardSaid : Prop := Claim7.holds Tryz.pinned (.plain (OpenSpec.upto indexKeysSpec)) indexKeysUptoCard
end Rows
end Go.Proofs.YtjnjbajnmclmjaaGreatDoor
