/-
  DERIVED. GIVEN WITH THE SEED: THE CARDS: each row of YtlhknchmgckgiaaDoorRows.lean that lists a variable, with what it lists TIED to the program's text (the seventh form; the later family's looks); each row that meets fmt, with fmt's text TOLD by the authors' own Lean function (tested against real Go, not proved from fmt's source: count such statements apart). THE CARD IS WHAT COUNTS. Prove the row's statement (the work); the ties are given (YtlhknchmgckgiaaDoorTie.lean); close each card by the builder's one call (the guide's Derived/Test/ToyasCard.lean, 'card_holds'). Laid BY PROGRAM, IN A SANDBOX (cutbox-door.mjs). By AI agents, Wed Nov 11 2026. No macro, syntax, notation, axiom, sorry.
-/
import Derived.Test.YtlhknchmgckgiaaDoorRows
import GoSem.ClaimSeven
namespace Go.Proofs.YtlhknchmgckgiaaDoor
namespace Rows

/-- THE TIED CARD OF 'grottolaw04.RealsBack'. -/
def realsBackCard : Claim7 := { stood := { row := realsBackRow, standIns := [], harness := (true, "9c1a1b92c74a8d70505e6686ccca9c0d7ad9c0654da22c128415a115b783f120"), looks := false }, kinds := [], alts := [], laidByText := true, laidKinds := [.data, .data], laidTests := true, laidLooks := .later }
def RealsBackCardSaid : Prop := Claim7.holds Tryd.pinned (.plain (OpenSpec.ofChange realsBackSpec)) realsBackCard

/-- THE TIED CARD OF 'grottolaw04.RealsAgree'. -/
def realsAgreeCard : Claim7 := { stood := { row := realsAgreeRow, standIns := [], harness := (true, "9c1a1b92c74a8d70505e6686ccca9c0d7ad9c0654da22c128415a115b783f120"), looks := false }, kinds := [], alts := [], laidByText := true, laidKinds := [.data, .data], laidTests := true, laidLooks := .later }
def RealsAgreeCardSaid : Prop := Claim7.holds Tryd.pinned (.plain (OpenSpec.ofChange realsAgreeSpec)) realsAgreeCard

/-- THE TIED CARD OF 'grottolaw04.RealsCounts'. -/
def realsCountsCard : Claim7 := { stood := { row := realsCountsRow, standIns := [], harness := (true, "9c1a1b92c74a8d70505e6686ccca9c0d7ad9c0654da22c128415a115b783f120"), looks := false }, kinds := [], alts := [], laidByText := true, laidKinds := [.data, .data], laidTests := true, laidLooks := .later }
def RealsCountsCardSaid : Prop := Claim7.holds Tryd.pinned (.plain (OpenSpec.ofChange realsCountsSpec)) realsCountsCard

/-- THE TIED CARD OF 'grottolaw04.RealsOrder'. -/
def realsOrderCard : Claim7 := { stood := { row := realsOrderRow, standIns := [], harness := (true, "9c1a1b92c74a8d70505e6686ccca9c0d7ad9c0654da22c128415a115b783f120"), looks := false }, kinds := [], alts := [], laidByText := true, laidKinds := [.data, .data], laidTests := true, laidLooks := .later }
def RealsOrderCardSaid : Prop := Claim7.holds Tryd.pinned (.plain (OpenSpec.ofChange realsOrderSpec)) realsOrderCard

/-- THE SECOND FORM's CARD OF 'grottolaw04.RealsBack'. -/
def realsBackUptoCard : Claim7 := { stood := { row := realsBackUptoRow, standIns := [], harness := (true, "9c1a1b92c74a8d70505e6686ccca9c0d7ad9c0654da22c128415a115b783f120"), looks := false }, kinds := [], alts := [], laidByText := true, laidKinds := [.data, .data], laidTests := true, laidLooks := .later }
def RealsBackUptoCardSaid : Prop := Claim7.holds Tryd.pinned (.plain (OpenSpec.upto realsBackSpec)) realsBackUptoCard

/-- THE SECOND FORM's CARD OF 'grottolaw04.RealsAgree'. -/
def realsAgreeUptoCard : Claim7 := { stood := { row := realsAgreeUptoRow, standIns := [], harness := (true, "9c1a1b92c74a8d70505e6686ccca9c0d7ad9c0654da22c128415a115b783f120"), looks := false }, kinds := [], alts := [], laidByText := true, laidKinds := [.data, .data], laidTests := true, laidLooks := .later }
def RealsAgreeUptoCardSaid : Prop := Claim7.holds Tryd.pinned (.plain (OpenSpec.upto realsAgreeSpec)) realsAgreeUptoCard

/-- THE SECOND FORM's CARD OF 'grottolaw04.RealsCounts'. -/
def realsCountsUptoCard : Claim7 := { stood := { row := realsCountsUptoRow, standIns := [], harness := (true, "9c1a1b92c74a8d70505e6686ccca9c0d7ad9c0654da22c128415a115b783f120"), looks := false }, kinds := [], alts := [], laidByText := true, laidKinds := [.data, .data], laidTests := true, laidLooks := .later }
def RealsCountsUptoCardSaid : Prop := Claim7.holds Tryd.pinned (.plain (OpenSpec.upto realsCountsSpec)) realsCountsUptoCard

/-- THE SECOND FORM's CARD OF 'grottolaw04.RealsOrder'. -/
def realsOrderUptoCard : Claim7 := { stood := { row := realsOrderUptoRow, standIns := [], harness := (true, "9c1a1b92c74a8d70505e6686ccca9c0d7ad9c0654da22c128415a115b783f120"), looks := false }, kinds := [], alts := [], laidByText := true, laidKinds := [.data, .data], laidTests := true, laidLooks := .later }
def RealsOrderUptoCardSaid : Prop := Claim7.holds Tryd.pinned (.plain (OpenSpec.upto realsOrderSpec)) realsOrderUptoCard
end Rows
end Go.Proofs.YtlhknchmgckgiaaDoor
