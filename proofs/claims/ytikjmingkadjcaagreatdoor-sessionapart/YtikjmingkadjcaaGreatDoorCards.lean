/-
  DERIVED. GIVEN WITH THE SEED: THE CARDS: each row of YtikjmingkadjcaaGreatDoorRows.lean that lists a variable, with what it lists TIED to the program's text (the seventh form; the later family's looks); each row that meets fmt, with fmt's text TOLD by the authors' own Lean function (tested against real Go, not proved from fmt's source: count such statements apart). THE CARD IS WHAT COUNTS. Prove the row's statement (the work); the ties are given (YtikjmingkadjcaaGreatDoorTie.lean); close each card by the builder's one call (the guide's Derived/Test/ToyasCard.lean, 'card_holds'). Laid BY PROGRAM, IN A SANDBOX (cutbox-door.mjs). By AI agents, Wed Nov 11 2026. No macro, syntax, notation, axiom, sorry.
-/
import Derived.Test.YtikjmingkadjcaaGreatDoorRows
import GoSem.ClaimSeven
namespace Go.Proofs.YtikjmingkadjcaaGreatDoor
namespace Rows

/-- THE TIED CARD OF 'kinlaw3.SessionApart'. -/
def sessionApartCard : Claim7 := { stood := { row := sessionApartRow, standIns := [], harness := (true, "5da1176a7288edcce4e0b4ad46620367aeb363631579ec00a72fb0a5d23dd0c4"), looks := true }, kinds := [], alts := [], laidByText := true, laidKinds := [.handle], laidTests := true, laidLooks := .later }
def SessionApartCardSaid : Prop := Claim7.holds Tryz.pinned (.plain (OpenSpec.ofChange sessionApartSpec)) sessionApartCard

/-- THE TIED CARD OF 'kinlaw4.SessionLate'. -/
def sessionLateCard : Claim7 := { stood := { row := sessionLateRow, standIns := [], harness := (true, "5da1176a7288edcce4e0b4ad46620367aeb363631579ec00a72fb0a5d23dd0c4"), looks := true }, kinds := [], alts := [], laidByText := true, laidKinds := [.handle], laidTests := true, laidLooks := .later }
def SessionLateCardSaid : Prop := Claim7.holds Tryz.pinned (.plain (OpenSpec.ofChange sessionLateSpec)) sessionLateCard

/-- THE SECOND FORM's CARD OF 'kinlaw3.SessionApart'. -/
def sessionApartUptoCard : Claim7 := { stood := { row := sessionApartUptoRow, standIns := [], harness := (true, "5da1176a7288edcce4e0b4ad46620367aeb363631579ec00a72fb0a5d23dd0c4"), looks := true }, kinds := [], alts := [], laidByText := true, laidKinds := [.handle], laidTests := true, laidLooks := .later }
def SessionApartUptoCardSaid : Prop := Claim7.holds Tryz.pinned (.plain (OpenSpec.upto sessionApartSpec)) sessionApartUptoCard

/-- THE SECOND FORM's CARD OF 'kinlaw4.SessionLate'. -/
def sessionLateUptoCard : Claim7 := { stood := { row := sessionLateUptoRow, standIns := [], harness := (true, "5da1176a7288edcce4e0b4ad46620367aeb363631579ec00a72fb0a5d23dd0c4"), looks := true }, kinds := [], alts := [], laidByText := true, laidKinds := [.handle], laidTests := true, laidLooks := .later }
def SessionLateUptoCardSaid : Prop := Claim7.holds Tryz.pinned (.plain (OpenSpec.upto sessionLateSpec)) sessionLateUptoCard
end Rows
end Go.Proofs.YtikjmingkadjcaaGreatDoor
