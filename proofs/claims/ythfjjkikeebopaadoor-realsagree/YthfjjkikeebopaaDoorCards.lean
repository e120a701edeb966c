/-
  DERIVED. GIVEN WITH THE SEED: THE CARDS: each row of YthfjjkikeebopaaDoorRows.lean that lists a variable, with what it lists TIED to the program's text (the seventh form; the later family's looks); each row that meets fmt, with fmt's text TOLD by the authors' own Lean function (tested against real Go, not proved from fmt's source: count such statements apart). THE CARD IS WHAT COUNTS. Prove the row's statement (the work); the ties are given (YthfjjkikeebopaaDoorTie.lean); close each card by the builder's one call (the guide's Derived/Test/ToyasCard.lean, 'card_holds'). Laid BY PROGRAM, IN A SANDBOX (cutbox-door.mjs). By AI agents, Wed Nov 11 2026. No macro, syntax, notation, axiom, sorry.
-/
import Derived.Test.YthfjjkikeebopaaDoorRows
import GoSem.ClaimSeven
namespace Go.Proofs.YthfjjkikeebopaaDoor
namespace Rows

/-- THE TIED CARD OF 'grottolaw04.RealsAgree'. -/
def realsAgreeCard : Claim7 := { stood := { row := realsAgreeRow, standIns := [], harness := (true, "7682de165beafc8beee3c9e812f474e0e0d6f2396207b2b76b783b3653eaedf2"), looks := false }, kinds := [], alts := [], laidByText := true, laidKinds := [.data, .data], laidTests := true, laidLooks := .later }
def RealsAgreeCardSaid : Prop := Claim7.holds Tryd.pinned (.plain (OpenSpec.ofChange realsAgreeSpec)) realsAgreeCard

/-- THE SECOND FORM's CARD OF 'grottolaw04.RealsAgree'. -/
def realsAgreeUptoCard : Claim7 := { stood := { row := realsAgreeUptoRow, standIns := [], harness := (true, "7682de165beafc8beee3c9e812f474e0e0d6f2396207b2b76b783b3653eaedf2"), looks := false }, kinds := [], alts := [], laidByText := true, laidKinds := [.data, .data], laidTests := true, laidLooks := .later }
def RealsAgreeUptoCardSaid : Prop := Claim7.holds Tryd.pinned (.plain (OpenSpec.upto realsAgreeSpec)) realsAgreeUptoCard
end Rows
end Go.Proofs.YthfjjkikeebopaaDoor
