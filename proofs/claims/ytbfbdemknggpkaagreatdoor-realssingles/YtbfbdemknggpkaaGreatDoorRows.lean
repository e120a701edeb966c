/-
  NARROWER THAN 'FOR EVERY INPUT', by the rows' own cells (each row's printed sentence says how): RealsSingles: laid · RealsDoubles: laid.
  DERIVED. THE GIVEN ROWS OF THIS SEAT. 2 by the template 'for every input the law returns true; each argument reads behind the call as it read before'; 0 by the template 'total and deterministic' (their statements: YtbfbdemknggpkaaGreatDoorTotals.lean).
  GIVEN WITH THE SEED: the statements are not yours to turn. If you find one false, say at which input.
  Laid BY PROGRAM, IN A SANDBOX (cutbox-rows.mjs): the forced cells as the released guide's own fill.sh prints them over the translation dadaa80499453a5e… (all of the seat's roots in one cut). By AI agents, Wed Nov 11 2026. No macro, syntax, notation, axiom, sorry.
-/
import Derived.Test.YtbfbdemknggpkaaGreatDoorChecked
import GoSem.Claim
import GoSem.ClaimJoined
import GoSem.ClaimMapViews
import Derived.JoinedTies
import Derived.KernelRfl
namespace Go.Proofs.YtbfbdemknggpkaaGreatDoor
/- THE CELL 'sum', in the pinned program and in every row, IS THE sha256 OF THE DUMP (.gsa) THAT YtbfbdemknggpkaaGreatDoorProg.lean LOADS. Nothing in Lean hashes anything: it is a label: what it is worth is what the hold of that sum in a sandbox is worth. -/
noncomputable def Tryz.pinned : Pinned := { name := "ytbfbdemknggpkaagreatdoor", sum := "dadaa80499453a5e99401743976f1808b0bdafc51c85100083187b52d2490a61", checked := Tryz.checked }
namespace Rows
def none {H : Type} : Left H := { results := [], args := [] }

/- WHAT THE LISTED PACKAGE-LEVEL VARIABLES READ AS WHEN THE CALL BEGINS. Each datum BY PROGRAM (the guide's laid-datum.mjs) off the statement by which the dump's own 'gosem.cut.vars' lays the variable. In a bare row this is a premise. The card (YtbfbdemknggpkaaGreatDoorCards.lean) ties it to the program's text. -/
def laid_grotto_reals_singles {H : Type} : DataW H := .agg [.lit (.int .i64 23), .lit (.int .i64 8)]
def laid_grotto_reals_doubles {H : Type} : DataW H := .agg [.lit (.int .i64 52), .lit (.int .i64 11)]

/-- 'grottolaw04.RealsSingles': WHATEVER THE INPUT: true; the input reads as it did. -/
def realsSinglesSpec : ChangeSpec := { name := "realsSingles", fn := fun _ => fun
  | [d1, d2, d3] => { results := [.lit (.bool true)], args := [d1, d2, d3] }
  | _ => none }
def realsSinglesRow : OpenClaim := { program := "ytbfbdemknggpkaagreatdoor", sum := "dadaa80499453a5e99401743976f1808b0bdafc51c85100083187b52d2490a61", func := "grotto/grottolaw04.RealsSingles", spec := "realsSingles", inPlace := ["math/bits.Add64", "math/bits.Sub64"], named := ["grotto/reals.singles", "math/bits.divideError", "math/bits.overflowError", "grotto/reals.doubles"], apart := false, laid := [("grotto/reals.singles", laid_grotto_reals_singles), ("grotto/reals.doubles", laid_grotto_reals_doubles)] }
def RealsSinglesSaid : Prop := realsSinglesRow.holds Tryz.pinned (OpenSpec.ofChange realsSinglesSpec)

/-- ITS FALSE NEIGHBOUR: 'it returns false'. Refute it at one input. -/
def realsSinglesWrong : ChangeSpec := { name := "realsSingles", fn := fun _ => fun
  | [d1, d2, d3] => { results := [.lit (.bool false)], args := [d1, d2, d3] }
  | _ => none }
def RealsSinglesWrongFalsely : Prop := realsSinglesRow.holds Tryz.pinned (OpenSpec.ofChange realsSinglesWrong)

/-- 'grottolaw04.RealsDoubles': WHATEVER THE INPUT: true; the input reads as it did. -/
def realsDoublesSpec : ChangeSpec := { name := "realsDoubles", fn := fun _ => fun
  | [d1, d2, d3] => { results := [.lit (.bool true)], args := [d1, d2, d3] }
  | _ => none }
def realsDoublesRow : OpenClaim := { program := "ytbfbdemknggpkaagreatdoor", sum := "dadaa80499453a5e99401743976f1808b0bdafc51c85100083187b52d2490a61", func := "grotto/grottolaw04.RealsDoubles", spec := "realsDoubles", inPlace := ["math/bits.Add64", "math/bits.Sub64"], named := ["grotto/reals.doubles", "math/bits.divideError", "math/bits.overflowError", "grotto/reals.singles"], apart := false, laid := [("grotto/reals.singles", laid_grotto_reals_singles), ("grotto/reals.doubles", laid_grotto_reals_doubles)] }
def RealsDoublesSaid : Prop := realsDoublesRow.holds Tryz.pinned (OpenSpec.ofChange realsDoublesSpec)

/-- ITS FALSE NEIGHBOUR: 'it returns false'. Refute it at one input. -/
def realsDoublesWrong : ChangeSpec := { name := "realsDoubles", fn := fun _ => fun
  | [d1, d2, d3] => { results := [.lit (.bool false)], args := [d1, d2, d3] }
  | _ => none }
def RealsDoublesWrongFalsely : Prop := realsDoublesRow.holds Tryz.pinned (OpenSpec.ofChange realsDoublesWrong)

/- THE SECOND FORM. 'bulk': how many values and letters a reading holds, each counted each time it is reached (what is shared counts as often as it is met; a slice's spare places count too). A statement '..UptoSaid' is the law's where the arguments, and the package variables that the reading takes, are together of bulk at most 1048576: NARROWER than '..Said'. Prove '..Said' where nothing that the law and all that it calls make is longer than what came in: it says more and counts as full. Else prove '..UptoSaid'. A law counts once. -/
mutual
def uptoBulk {H : Type} : DataW H → Nat
  | .lit (.string bytes) => bytes.length + 1
  | .lit _ => 1
  | .nil => 1
  | .ptr d => uptoBulk d + 1
  | .slice elems spare => uptoBulkAll elems + uptoBulkAll spare + 1
  | .agg parts => uptoBulkAll parts + 1
  | .iface _ d => uptoBulk d + 1
  | .map entries => uptoBulkEntries entries + 1
  | .held _ => 1
def uptoBulkAll {H : Type} : List (DataW H) → Nat
  | [] => 0
  | d :: r => uptoBulk d + uptoBulkAll r
def uptoBulkEntries {H : Type} : List (Lit × DataW H) → Nat
  | [] => 0
  | x :: r => uptoBulkEntry x + uptoBulkEntries r
def uptoBulkEntry {H : Type} : Lit × DataW H → Nat
  | (.string bytes, d) => bytes.length + uptoBulk d + 1
  | (_, d) => uptoBulk d + 1
 end
def uptoSmall : (H : Type) → List (DataW H) → Bool := fun _ ds => decide (uptoBulkAll ds ≤ 1048576)
def OpenSpec.upto (s : _root_.Go.ChangeSpec) : _root_.Go.OpenSpec := { _root_.Go.OpenSpec.ofChange s with cond := some uptoSmall }

/-- 'grottolaw04.RealsSingles', WHERE WHAT IT READS IS OF BULK AT MOST 1048576: true; the input reads as it did. -/
def realsSinglesUptoRow : OpenClaim := { program := "ytbfbdemknggpkaagreatdoor", sum := "dadaa80499453a5e99401743976f1808b0bdafc51c85100083187b52d2490a61", func := "grotto/grottolaw04.RealsSingles", spec := "realsSingles", inPlace := ["math/bits.Add64", "math/bits.Sub64"], named := ["grotto/reals.singles", "math/bits.divideError", "math/bits.overflowError", "grotto/reals.doubles"], apart := false, laid := [("grotto/reals.singles", laid_grotto_reals_singles), ("grotto/reals.doubles", laid_grotto_reals_doubles)], narrowed := true }
def RealsSinglesUptoSaid : Prop := realsSinglesUptoRow.holds Tryz.pinned (OpenSpec.upto realsSinglesSpec)

/-- 'grottolaw04.RealsDoubles', WHERE WHAT IT READS IS OF BULK AT MOST 1048576: true; the input reads as it did. -/
def realsDoublesUptoRow : OpenClaim := { program := "ytbfbdemknggpkaagreatdoor", sum := "dadaa80499453a5e99401743976f1808b0bdafc51c85100083187b52d2490a61", func := "grotto/grottolaw04.RealsDoubles", spec := "realsDoubles", inPlace := ["math/bits.Add64", "math/bits.Sub64"], named := ["grotto/reals.doubles", "math/bits.divideError", "math/bits.overflowError", "grotto/reals.singles"], apart := false, laid := [("grotto/reals.singles", laid_grotto_reals_singles), ("grotto/reals.doubles", laid_grotto_reals_doubles)], narrowed := true }
def RealsDoublesUptoSaid : Prop := realsDoublesUptoRow.holds Tryz.pinned (OpenSpec.upto realsDoublesSpec)

end Rows
end Go.Proofs.YtbfbdemknggpkaaGreatDoor
