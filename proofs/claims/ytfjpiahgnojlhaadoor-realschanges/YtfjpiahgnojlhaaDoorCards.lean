/-
  DERIVED. GIVEN WITH THE SEED: THE CARDS: each row of YtfjpiahgnojlhaaDoorRows.lean that lists a variable, with what it lists TIED to the program's text (the seventh form; the later family's looks); each row that meets fmt, with fmt's text TOLD by the authors' own Lean function (tested against real Go, not proved from fmt's source: count such statements apart). THE CARD IS WHAT COUNTS. Prove the row's statement (the work); the ties are given (YtfjpiahgnojlhaaDoorTie.lean); close each card by the builder's one call (the guide's Derived/Test/ToyasCard.lean, 'card_holds'). Laid BY PROGRAM, IN A SANDBOX (cutbox-door.mjs). By AI agents, Wed Nov 11 2026. No macro, syntax, notation, axiom, sorry.
-/
import Derived.Test.YtfjpiahgnojlhaaDoorRows
import GoSem.ClaimSeven
namespace Go.Proofs.YtfjpiahgnojlhaaDoor
namespace Rows

/-- THE TIED CARD OF 'grottolaw04.RealsInts'. -/
def realsIntsCard : Claim7 := { stood := { row := realsIntsRow, standIns := [], harness := (true, "2e2c8a047bdaa448555a1b5f4f1e7d952af91c94d79dbad0761145b1c868c633"), looks := false }, kinds := [], alts := [], laidByText := true, laidKinds := [.data, .data], laidTests := true, laidLooks := .later }
def RealsIntsCardSaid : Prop := Claim7.holds Tryd.pinned (.plain (OpenSpec.ofChange realsIntsSpec)) realsIntsCard

/-- THE TIED CARD OF 'grottolaw04.RealsChanges'. -/
def realsChangesCard : Claim7 := { stood := { row := realsChangesRow, standIns := [], harness := (true, "2e2c8a047bdaa448555a1b5f4f1e7d952af91c94d79dbad0761145b1c868c633"), looks := false }, kinds := [], alts := [], laidByText := true, laidKinds := [.data, .data], laidTests := true, laidLooks := .later }
def RealsChangesCardSaid : Prop := Claim7.holds Tryd.pinned (.plain (OpenSpec.ofChange realsChangesSpec)) realsChangesCard

/-- THE SECOND FORM's CARD OF 'grottolaw04.RealsInts'. -/
def realsIntsUptoCard : Claim7 := { stood := { row := realsIntsUptoRow, standIns := [], harness := (true, "2e2c8a047bdaa448555a1b5f4f1e7d952af91c94d79dbad0761145b1c868c633"), looks := false }, kinds := [], alts := [], laidByText := true, laidKinds := [.data, .data], laidTests := true, laidLooks := .later }
def RealsIntsUptoCardSaid : Prop := Claim7.holds Tryd.pinned (.plain (OpenSpec.upto realsIntsSpec)) realsIntsUptoCard

/-- THE SECOND FORM's CARD OF 'grottolaw04.RealsChanges'. -/
def realsChangesUptoCard : Claim7 := { stood := { row := realsChangesUptoRow, standIns := [], harness := (true, "2e2c8a047bdaa448555a1b5f4f1e7d952af91c94d79dbad0761145b1c868c633"), looks := false }, kinds := [], alts := [], laidByText := true, laidKinds := [.data, .data], laidTests := true, laidLooks := .later }
def RealsChangesUptoCardSaid : Prop := Claim7.holds Tryd.pinned (.plain (OpenSpec.upto realsChangesSpec)) realsChangesUptoCard
end Rows
end Go.Proofs.YtfjpiahgnojlhaaDoor
