/-
  DERIVED. GIVEN WITH THE SEED: THE CARDS: each row of YtbfbdemknggpkaaGreatDoorRows.lean that lists a variable, with what it lists TIED to the program's text (the seventh form; the later family's looks); each row that meets fmt, with fmt's text TOLD by the authors' own Lean function (tested against real Go, not proved from fmt's source: count such statements apart). THE CARD IS WHAT COUNTS. Prove the row's statement (the work); the ties are given (YtbfbdemknggpkaaGreatDoorTie.lean); close each card by the builder's one call (the guide's Derived/Test/ToyasCard.lean, 'card_holds'). Laid BY PROGRAM, IN A SANDBOX (cutbox-door.mjs). By AI agents, Wed Nov 11 2026. No macro, syntax, notation, axiom, sorry.
-/
import Derived.Test.YtbfbdemknggpkaaGreatDoorRows
import GoSem.ClaimSeven
namespace Go.Proofs.YtbfbdemknggpkaaGreatDoor
namespace Rows

/-- THE TIED CARD OF 'grottolaw04.RealsSingles'. -/
def realsSinglesCard : Claim7 := { stood := { row := realsSinglesRow, standIns := [], harness := (true, "d5d8eae5420c0a95634868419444d6ad53c2c664ca762c9ff7a4393849b6d072"), looks := false }, kinds := [], alts := [], laidByText := true, laidKinds := [.data, .data], laidTests := true, laidLooks := .later }
def RealsSinglesCardSaid : Prop := Claim7.holds Tryz.pinned (.plain (OpenSpec.ofChange realsSinglesSpec)) realsSinglesCard

/-- THE TIED CARD OF 'grottolaw04.RealsDoubles'. -/
def realsDoublesCard : Claim7 := { stood := { row := realsDoublesRow, standIns := [], harness := (true, "d5d8eae5420c0a95634868419444d6ad53c2c664ca762c9ff7a4393849b6d072"), looks := false }, kinds := [], alts := [], laidByText := true, laidKinds := [.data, .data], laidTests := true, laidLooks := .later }
def RealsDoublesCardSaid : Prop := Claim7.holds Tryz.pinned (.plain (OpenSpec.ofChange realsDoublesSpec)) realsDoublesCard

/-- THE SECOND FORM's CARD OF 'grottolaw04.RealsSingles'. -/
def realsSinglesUptoCard : Claim7 := { stood := { row := realsSinglesUptoRow, standIns := [], harness := (true, "d5d8eae5420c0a95634868419444d6ad53c2c664ca762c9ff7a4393849b6d072"), looks := false }, kinds := [], alts := [], laidByText := true, laidKinds := [.data, .data], laidTests := true, laidLooks := .later }
def RealsSinglesUptoCardSaid : Prop := Claim7.holds Tryz.pinned (.plain (OpenSpec.upto realsSinglesSpec)) realsSinglesUptoCard

/-- THE SECOND FORM's CARD OF 'grottolaw04.RealsDoubles'. -/
def realsDoublesUptoCard : Claim7 := { stood := { row := realsDoublesUptoRow, standIns := [], harness := (true, "d5d8eae5420c0a95634868419444d6ad53c2c664ca762c9ff7a4393849b6d072"), looks := false }, kinds := [], alts := [], laidByText := true, laidKinds := [.data, .data], laidTests := true, laidLooks := .later }
def RealsDoublesUptoCardSaid : Prop := Claim7.holds Tryz.pinned (.plain (OpenSpec.upto realsDoublesSpec)) realsDoublesUptoCard
end Rows
end Go.Proofs.YtbfbdemknggpkaaGreatDoor
