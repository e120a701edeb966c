/-
  No cell of these rows narrows 'for every input' (looked for: loops, veiled, ifaces, maps, wideKeys, modest, calm, conditions, laid).
  DERIVED. THE GIVEN ROWS OF THIS SEAT. 5 by the template 'for every input the law returns true; each argument reads behind the call as it read before'; 0 by the template 'total and deterministic' (their statements: YtejkaambbaejaaaTotals.lean).
  GIVEN WITH THE SEED: the statements are not yours to turn. If you find one false, say at which input.
  Laid BY PROGRAM, IN A SANDBOX (cutbox-rows.mjs): the forced cells as the released guide's own fill.sh prints them over the translation c54304ea99accf21… (all of the seat's roots in one cut). By AI agents, Wed Nov 11 2026. No macro, syntax, notation, axiom, sorry.
-/
import Derived.Test.YtejkaambbaejaaaChecked
import GoSem.Claim
import GoSem.ClaimJoined
import GoSem.ClaimMapViews
import Derived.JoinedTies
import Derived.KernelRfl
namespace Go.Proofs.Ytejkaambbaejaaa
/- THE CELL 'sum', in the pinned program and in every row, IS THE sha256 OF THE DUMP (.gsa) THAT YtejkaambbaejaaaProg.lean LOADS. Nothing in Lean hashes anything: it is a label: what it is worth is what the hold of that sum in a sandbox is worth. -/
noncomputable def Try.pinned : Pinned := { name := "ytejkaambbaejaaa", sum := "c54304ea99accf21b6310aee6f4049c2cfa375b26fcecdd6182c0d092636cdad", checked := Try.checked }
namespace Rows
def none {H : Type} : Left H := { results := [], args := [] }

/-- 'grottolaw13.FindKeys': WHATEVER THE INPUT: true; the input reads as it did. -/
def findKeysSpec : ChangeSpec := { name := "findKeys", fn := fun _ => fun
  | [d1, d2] => { results := [.lit (.bool true)], args := [d1, d2] }
  | _ => none }
def findKeysRow : OpenClaim := { program := "ytejkaambbaejaaa", sum := "c54304ea99accf21b6310aee6f4049c2cfa375b26fcecdd6182c0d092636cdad", func := "grotto/grottolaw13.FindKeys", spec := "findKeys", inPlace := ["internal/bytealg.Compare"], unfollowed := true, recurses := true, apart := false }
def FindKeysSaid : Prop := findKeysRow.holds Try.pinned (OpenSpec.ofChange findKeysSpec)

/-- ITS FALSE NEIGHBOUR: 'it returns false'. Refute it at one input. -/
def findKeysWrong : ChangeSpec := { name := "findKeys", fn := fun _ => fun
  | [d1, d2] => { results := [.lit (.bool false)], args := [d1, d2] }
  | _ => none }
def FindKeysWrongFalsely : Prop := findKeysRow.holds Try.pinned (OpenSpec.ofChange findKeysWrong)

/-- 'grottolaw13.FindRows': WHATEVER THE INPUT: true; the input reads as it did. -/
def findRowsSpec : ChangeSpec := { name := "findRows", fn := fun _ => fun
  | [d1, d2] => { results := [.lit (.bool true)], args := [d1, d2] }
  | _ => none }
def findRowsRow : OpenClaim := { program := "ytejkaambbaejaaa", sum := "c54304ea99accf21b6310aee6f4049c2cfa375b26fcecdd6182c0d092636cdad", func := "grotto/grottolaw13.FindRows", spec := "findRows", inPlace := ["internal/bytealg.Compare"], unfollowed := true, recurses := true, apart := false }
def FindRowsSaid : Prop := findRowsRow.holds Try.pinned (OpenSpec.ofChange findRowsSpec)

/-- ITS FALSE NEIGHBOUR: 'it returns false'. Refute it at one input. -/
def findRowsWrong : ChangeSpec := { name := "findRows", fn := fun _ => fun
  | [d1, d2] => { results := [.lit (.bool false)], args := [d1, d2] }
  | _ => none }
def FindRowsWrongFalsely : Prop := findRowsRow.holds Try.pinned (OpenSpec.ofChange findRowsWrong)

/-- 'grottolaw13.FindSorts': WHATEVER THE INPUT: true; the input reads as it did. -/
def findSortsSpec : ChangeSpec := { name := "findSorts", fn := fun _ => fun
  | [d1, d2] => { results := [.lit (.bool true)], args := [d1, d2] }
  | _ => none }
def findSortsRow : OpenClaim := { program := "ytejkaambbaejaaa", sum := "c54304ea99accf21b6310aee6f4049c2cfa375b26fcecdd6182c0d092636cdad", func := "grotto/grottolaw13.FindSorts", spec := "findSorts", inPlace := ["internal/bytealg.Compare"], unfollowed := true, recurses := true, apart := false }
def FindSortsSaid : Prop := findSortsRow.holds Try.pinned (OpenSpec.ofChange findSortsSpec)

/-- ITS FALSE NEIGHBOUR: 'it returns false'. Refute it at one input. -/
def findSortsWrong : ChangeSpec := { name := "findSorts", fn := fun _ => fun
  | [d1, d2] => { results := [.lit (.bool false)], args := [d1, d2] }
  | _ => none }
def FindSortsWrongFalsely : Prop := findSortsRow.holds Try.pinned (OpenSpec.ofChange findSortsWrong)

/-- 'grottolaw13.FindChains': WHATEVER THE INPUT: true; the input reads as it did. -/
def findChainsSpec : ChangeSpec := { name := "findChains", fn := fun _ => fun
  | [d1, d2] => { results := [.lit (.bool true)], args := [d1, d2] }
  | _ => none }
def findChainsRow : OpenClaim := { program := "ytejkaambbaejaaa", sum := "c54304ea99accf21b6310aee6f4049c2cfa375b26fcecdd6182c0d092636cdad", func := "grotto/grottolaw13.FindChains", spec := "findChains", inPlace := ["internal/bytealg.Compare"], unfollowed := true, recurses := true, apart := false }
def FindChainsSaid : Prop := findChainsRow.holds Try.pinned (OpenSpec.ofChange findChainsSpec)

/-- ITS FALSE NEIGHBOUR: 'it returns false'. Refute it at one input. -/
def findChainsWrong : ChangeSpec := { name := "findChains", fn := fun _ => fun
  | [d1, d2] => { results := [.lit (.bool false)], args := [d1, d2] }
  | _ => none }
def FindChainsWrongFalsely : Prop := findChainsRow.holds Try.pinned (OpenSpec.ofChange findChainsWrong)

/-- 'grottolaw13.FindSpans': WHATEVER THE INPUT: true; the input reads as it did. -/
def findSpansSpec : ChangeSpec := { name := "findSpans", fn := fun _ => fun
  | [d1, d2, d3, d4] => { results := [.lit (.bool true)], args := [d1, d2, d3, d4] }
  | _ => none }
def findSpansRow : OpenClaim := { program := "ytejkaambbaejaaa", sum := "c54304ea99accf21b6310aee6f4049c2cfa375b26fcecdd6182c0d092636cdad", func := "grotto/grottolaw13.FindSpans", spec := "findSpans", inPlace := ["internal/bytealg.Compare"], unfollowed := true, recurses := true, apart := false }
def FindSpansSaid : Prop := findSpansRow.holds Try.pinned (OpenSpec.ofChange findSpansSpec)

/-- ITS FALSE NEIGHBOUR: 'it returns false'. Refute it at one input. -/
def findSpansWrong : ChangeSpec := { name := "findSpans", fn := fun _ => fun
  | [d1, d2, d3, d4] => { results := [.lit (.bool false)], args := [d1, d2, d3, d4] }
  | _ => none }
def FindSpansWrongFalsely : Prop := findSpansRow.holds Try.pinned (OpenSpec.ofChange findSpansWrong)

/- THE SECOND FORM. 'bulk': how many values and letters a reading holds, each counted each time it is reached (what is shared counts as often as it is met; a slice's spare places count too). A statement '..UptoSaid' is the law's where the arguments, and the package variables that the reading takes, are together of bulk at most 1048576: NARROWER than '..Said'. Prove '..Said' where nothing that the law and all that it calls make is longer than what came in: it says more and counts as full. Else prove '..UptoSaid'. A law counts once. -/
mutual
def uptoBulk {H : Type} : DataW H → Nat
  | .lit (.string bytes) => bytes.length + 1
  | .lit _ => 1
  | .nil => 1
  | .ptr d => uptoBulk d + 1
  | .slice elems spare => uptoBulkAll elems + uptoBulkAll spare + 1
  | .agg parts => uptoBulkAll parts + 1
  | .iface _ d => uptoBulk d + 1
  | .map entries => uptoBulkEntries entries + 1
  | .held _ => 1
def uptoBulkAll {H : Type} : List (DataW H) → Nat
  | [] => 0
  | d :: r => uptoBulk d + uptoBulkAll r
def uptoBulkEntries {H : Type} : List (Lit × DataW H) → Nat
  | [] => 0
  | x :: r => uptoBulkEntry x + uptoBulkEntries r
def uptoBulkEntry {H : Type} : Lit × DataW H → Nat
  | (.string bytes, d) => bytes.length + uptoBulk d + 1
  | (_, d) => uptoBulk d + 1
 end
def uptoSmall : (H : Type) → List (DataW H) → Bool := fun _ ds => decide (uptoBulkAll ds ≤ 1048576)
def OpenSpec.upto (s : _root_.Go.ChangeSpec) : _root_.Go.OpenSpec := { _root_.Go.OpenSpec.ofChange s with cond := some uptoSmall }

/-- 'grottolaw13.FindKeys', WHERE WHAT IT READS IS OF BULK AT MOST 1048576: true; the input reads as it did. -/
def findKeysUptoRow : OpenClaim := { program := "ytejkaambbaejaaa", sum := "c54304ea99accf21b6310aee6f4049c2cfa375b26fcecdd6182c0d092636cdad", func := "grotto/grottolaw13.FindKeys", spec := "findKeys", inPlace := ["internal/bytealg.Compare"], unfollowed := true, recurses := true, apart := false, narrowed := true }
def FindKeysUptoSaid : Prop := findKeysUptoRow.holds Try.pinned (OpenSpec.upto findKeysSpec)

/-- 'grottolaw13.FindRows', WHERE WHAT IT READS IS OF BULK AT MOST 1048576: true; the input reads as it did. -/
def findRowsUptoRow : OpenClaim := { program := "ytejkaambbaejaaa", sum := "c54304ea99accf21b6310aee6f4049c2cfa375b26fcecdd6182c0d092636cdad", func := "grotto/grottolaw13.FindRows", spec := "findRows", inPlace := ["internal/bytealg.Compare"], unfollowed := true, recurses := true, apart := false, narrowed := true }
def FindRowsUptoSaid : Prop := findRowsUptoRow.holds Try.pinned (OpenSpec.upto findRowsSpec)

/-- 'grottolaw13.FindSorts', WHERE WHAT IT READS IS OF BULK AT MOST 1048576: true; the input reads as it did. -/
def findSortsUptoRow : OpenClaim := { program := "ytejkaambbaejaaa", sum := "c54304ea99accf21b6310aee6f4049c2cfa375b26fcecdd6182c0d092636cdad", func := "grotto/grottolaw13.FindSorts", spec := "findSorts", inPlace := ["internal/bytealg.Compare"], unfollowed := true, recurses := true, apart := false, narrowed := true }
def FindSortsUptoSaid : Prop := findSortsUptoRow.holds Try.pinned (OpenSpec.upto findSortsSpec)

/-- 'grottolaw13.FindChains', WHERE WHAT IT READS IS OF BULK AT MOST 1048576: true; the input reads as it did. -/
def findChainsUptoRow : OpenClaim := { program := "ytejkaambbaejaaa", sum := "c54304ea99accf21b6310aee6f4049c2cfa375b26fcecdd6182c0d092636cdad", func := "grotto/grottolaw13.FindChains", spec := "findChains", inPlace := ["internal/bytealg.Compare"], unfollowed := true, recurses := true, apart := false, narrowed := true }
def FindChainsUptoSaid : Prop := findChainsUptoRow.holds Try.pinned (OpenSpec.upto findChainsSpec)

/-- 'grottolaw13.FindSpans', WHERE WHAT IT READS IS OF BULK AT MOST 1048576: true; the input reads as it did. -/
def findSpansUptoRow : OpenClaim := { program := "ytejkaambbaejaaa", sum := "c54304ea99accf21b6310aee6f4049c2cfa375b26fcecdd6182c0d092636cdad", func := "grotto/grottolaw13.FindSpans", spec := "findSpans", inPlace := ["internal/bytealg.Compare"], unfollowed := true, recurses := true, apart := false, narrowed := true }
def FindSpansUptoSaid : Prop := findSpansUptoRow.holds Try.pinned (OpenSpec.upto findSpansSpec)

end Rows
end Go.Proofs.Ytejkaambbaejaaa
