/-
  DERIVED. GIVEN WITH THE SEED: THE CARDS: each row of YtfjpiahgnojlhaaGreatDoorRows.lean that lists a variable, with what it lists TIED to the program's text (the seventh form; the later family's looks); each row that meets fmt, with fmt's text TOLD by the authors' own Lean function (tested against real Go, not proved from fmt's source: count such statements apart). THE CARD IS WHAT COUNTS. Prove the row's statement (the work); the ties are given (YtfjpiahgnojlhaaGreatDoorTie.lean); close each card by the builder's one call (the guide's Derived/Test/ToyasCard.lean, 'card_holds'). Laid BY PROGRAM, IN A SANDBOX (cutbox-door.mjs). By AI agents, Wed Nov 11 2026. No macro, syntax, notation, axiom, sorry.
-/
import Derived.Test.YtfjpiahgnojlhaaGreatDoorRows
import GoSem.ClaimSeven
namespace Go.Proofs.YtfjpiahgnojlhaaGreatDoor
namespace Rows

/-- THE TIED CARD OF 'grottolaw04.RealsHolds'. -/
def realsHoldsCard : Claim7 := { stood := { row := realsHoldsRow, standIns := [], harness := (true, "faafd7292310c124e71600838f7ae16c641c49020b1261ece15bea0e19f27683"), looks := false }, kinds := [], alts := [], laidByText := true, laidKinds := [.data, .data], laidTests := true, laidLooks := .later }
def RealsHoldsCardSaid : Prop := Claim7.holds Tryz.pinned (.plain (OpenSpec.ofChange realsHoldsSpec)) realsHoldsCard

/-- THE SECOND FORM's CARD OF 'grottolaw04.RealsHolds'. -/
def realsHoldsUptoCard : Claim7 := { stood := { row := realsHoldsUptoRow, standIns := [], harness := (true, "faafd7292310c124e71600838f7ae16c641c49020b1261ece15bea0e19f27683"), looks := false }, kinds := [], alts := [], laidByText := true, laidKinds := [.data, .data], laidTests := true, laidLooks := .later }
def RealsHoldsUptoCardSaid : Prop := Claim7.holds Tryz.pinned (.plain (OpenSpec.upto realsHoldsSpec)) realsHoldsUptoCard
end Rows
end Go.Proofs.YtfjpiahgnojlhaaGreatDoor
