/-
  DERIVED. GIVEN WITH THE SEED: THE CARDS: each row of YtddkdppeeadakaaDoorRows.lean that lists a variable, with what it lists TIED to the program's text (the seventh form; the later family's looks); each row that meets fmt, with fmt's text TOLD by the authors' own Lean function (tested against real Go, not proved from fmt's source: count such statements apart). THE CARD IS WHAT COUNTS. Prove the row's statement (the work); the ties are given (YtddkdppeeadakaaDoorTie.lean); close each card by the builder's one call (the guide's Derived/Test/ToyasCard.lean, 'card_holds'). Laid BY PROGRAM, IN A SANDBOX (cutbox-door.mjs). By AI agents, Wed Nov 11 2026. No macro, syntax, notation, axiom, sorry.
-/
import Derived.Test.YtddkdppeeadakaaDoorRows
import GoSem.ClaimSeven
namespace Go.Proofs.YtddkdppeeadakaaDoor
namespace Rows

/-- THE TIED CARD OF 'kinlaw4.GraphFull'. -/
def graphFullCard : Claim7 := { stood := { row := graphFullRow, standIns := [], harness := (true, "86efa4395e7ac6f3c4d6b2b8859bd3ca5a6515d4d324342f12acdc517933dfa4"), looks := true }, kinds := [], alts := [], laidByText := true, laidKinds := [.handle], laidTests := true, laidLooks := .later }
def GraphFullCardSaid : Prop := Claim7.holds Tryd.pinned (.plain (OpenSpec.ofChange graphFullSpec)) graphFullCard

/-- THE SECOND FORM's CARD OF 'kinlaw4.GraphFull'. -/
def graphFullUptoCard : Claim7 := { stood := { row := graphFullUptoRow, standIns := [], harness := (true, "86efa4395e7ac6f3c4d6b2b8859bd3ca5a6515d4d324342f12acdc517933dfa4"), looks := true }, kinds := [], alts := [], laidByText := true, laidKinds := [.handle], laidTests := true, laidLooks := .later }
def GraphFullUptoCardSaid : Prop := Claim7.holds Tryd.pinned (.plain (OpenSpec.upto graphFullSpec)) graphFullUptoCard
end Rows
end Go.Proofs.YtddkdppeeadakaaDoor
