/-
  No cell of these rows narrows 'for every input' (looked for: loops, veiled, ifaces, maps, wideKeys, modest, calm, conditions, laid).
  DERIVED. THE GIVEN ROWS OF THIS SEAT. 6 by the template 'for every input the law returns true; each argument reads behind the call as it read before'; 0 by the template 'total and deterministic' (their statements: YtkcdoadojoejjaaTotals.lean).
  GIVEN WITH THE SEED: the statements are not yours to turn. If you find one false, say at which input.
  Laid BY PROGRAM, IN A SANDBOX (cutbox-rows.mjs): the forced cells as the released guide's own fill.sh prints them over the translation 03941f1f1c9aabef… (all of the seat's roots in one cut). By AI agents, Wed Nov 11 2026. No macro, syntax, notation, axiom, sorry.
-/
import Derived.Test.YtkcdoadojoejjaaChecked
import GoSem.Claim
import GoSem.ClaimJoined
import GoSem.ClaimMapViews
import Derived.JoinedTies
import Derived.KernelRfl
namespace Go.Proofs.Ytkcdoadojoejjaa
/- THE CELL 'sum', in the pinned program and in every row, IS THE sha256 OF THE DUMP (.gsa) THAT YtkcdoadojoejjaaProg.lean LOADS. Nothing in Lean hashes anything: it is a label: what it is worth is what the hold of that sum in a sandbox is worth. -/
noncomputable def Try.pinned : Pinned := { name := "ytkcdoadojoejjaa", sum := "03941f1f1c9aabefa57e78862c18ffbed7ab66d51e1cea6be3989c66691c7864", checked := Try.checked }
namespace Rows
def none {H : Type} : Left H := { results := [], args := [] }

/-- 'grottolaw14.PanePlays': WHATEVER THE INPUT: true; the input reads as it did. -/
def panePlaysSpec : ChangeSpec := { name := "panePlays", fn := fun _ => fun
  | [d1, d2, d3] => { results := [.lit (.bool true)], args := [d1, d2, d3] }
  | _ => none }
def panePlaysRow : OpenClaim := { program := "ytkcdoadojoejjaa", sum := "03941f1f1c9aabefa57e78862c18ffbed7ab66d51e1cea6be3989c66691c7864", func := "grotto/grottolaw14.PanePlays", spec := "panePlays", unfollowed := true, recurses := true, apart := false }
def PanePlaysSaid : Prop := panePlaysRow.holds Try.pinned (OpenSpec.ofChange panePlaysSpec)

/-- ITS FALSE NEIGHBOUR: 'it returns false'. Refute it at one input. -/
def panePlaysWrong : ChangeSpec := { name := "panePlays", fn := fun _ => fun
  | [d1, d2, d3] => { results := [.lit (.bool false)], args := [d1, d2, d3] }
  | _ => none }
def PanePlaysWrongFalsely : Prop := panePlaysRow.holds Try.pinned (OpenSpec.ofChange panePlaysWrong)

/-- 'grottolaw14.PaneResizes': WHATEVER THE INPUT: true; the input reads as it did. -/
def paneResizesSpec : ChangeSpec := { name := "paneResizes", fn := fun _ => fun
  | [d1, d2, d3, d4, d5] => { results := [.lit (.bool true)], args := [d1, d2, d3, d4, d5] }
  | _ => none }
def paneResizesRow : OpenClaim := { program := "ytkcdoadojoejjaa", sum := "03941f1f1c9aabefa57e78862c18ffbed7ab66d51e1cea6be3989c66691c7864", func := "grotto/grottolaw14.PaneResizes", spec := "paneResizes", unfollowed := true, recurses := true, apart := false }
def PaneResizesSaid : Prop := paneResizesRow.holds Try.pinned (OpenSpec.ofChange paneResizesSpec)

/-- ITS FALSE NEIGHBOUR: 'it returns false'. Refute it at one input. -/
def paneResizesWrong : ChangeSpec := { name := "paneResizes", fn := fun _ => fun
  | [d1, d2, d3, d4, d5] => { results := [.lit (.bool false)], args := [d1, d2, d3, d4, d5] }
  | _ => none }
def PaneResizesWrongFalsely : Prop := paneResizesRow.holds Try.pinned (OpenSpec.ofChange paneResizesWrong)

/-- 'grottolaw14.PaneRefuses': WHATEVER THE INPUT: true; the input reads as it did. -/
def paneRefusesSpec : ChangeSpec := { name := "paneRefuses", fn := fun _ => fun
  | [d1, d2, d3, d4] => { results := [.lit (.bool true)], args := [d1, d2, d3, d4] }
  | _ => none }
def paneRefusesRow : OpenClaim := { program := "ytkcdoadojoejjaa", sum := "03941f1f1c9aabefa57e78862c18ffbed7ab66d51e1cea6be3989c66691c7864", func := "grotto/grottolaw14.PaneRefuses", spec := "paneRefuses", unfollowed := true, recurses := true, apart := false }
def PaneRefusesSaid : Prop := paneRefusesRow.holds Try.pinned (OpenSpec.ofChange paneRefusesSpec)

/-- ITS FALSE NEIGHBOUR: 'it returns false'. Refute it at one input. -/
def paneRefusesWrong : ChangeSpec := { name := "paneRefuses", fn := fun _ => fun
  | [d1, d2, d3, d4] => { results := [.lit (.bool false)], args := [d1, d2, d3, d4] }
  | _ => none }
def PaneRefusesWrongFalsely : Prop := paneRefusesRow.holds Try.pinned (OpenSpec.ofChange paneRefusesWrong)

/-- 'grottolaw14.PaneArranges': WHATEVER THE INPUT: true; the input reads as it did. -/
def paneArrangesSpec : ChangeSpec := { name := "paneArranges", fn := fun _ => fun
  | [d1, d2, d3, d4] => { results := [.lit (.bool true)], args := [d1, d2, d3, d4] }
  | _ => none }
def paneArrangesRow : OpenClaim := { program := "ytkcdoadojoejjaa", sum := "03941f1f1c9aabefa57e78862c18ffbed7ab66d51e1cea6be3989c66691c7864", func := "grotto/grottolaw14.PaneArranges", spec := "paneArranges", unfollowed := true, recurses := true, apart := false }
def PaneArrangesSaid : Prop := paneArrangesRow.holds Try.pinned (OpenSpec.ofChange paneArrangesSpec)

/-- ITS FALSE NEIGHBOUR: 'it returns false'. Refute it at one input. -/
def paneArrangesWrong : ChangeSpec := { name := "paneArranges", fn := fun _ => fun
  | [d1, d2, d3, d4] => { results := [.lit (.bool false)], args := [d1, d2, d3, d4] }
  | _ => none }
def PaneArrangesWrongFalsely : Prop := paneArrangesRow.holds Try.pinned (OpenSpec.ofChange paneArrangesWrong)

/-- 'grottolaw14.PaneGone': WHATEVER THE INPUT: true; the input reads as it did. -/
def paneGoneSpec : ChangeSpec := { name := "paneGone", fn := fun _ => fun
  | [d1, d2, d3, d4] => { results := [.lit (.bool true)], args := [d1, d2, d3, d4] }
  | _ => none }
def paneGoneRow : OpenClaim := { program := "ytkcdoadojoejjaa", sum := "03941f1f1c9aabefa57e78862c18ffbed7ab66d51e1cea6be3989c66691c7864", func := "grotto/grottolaw14.PaneGone", spec := "paneGone", unfollowed := true, recurses := true, apart := false }
def PaneGoneSaid : Prop := paneGoneRow.holds Try.pinned (OpenSpec.ofChange paneGoneSpec)

/-- ITS FALSE NEIGHBOUR: 'it returns false'. Refute it at one input. -/
def paneGoneWrong : ChangeSpec := { name := "paneGone", fn := fun _ => fun
  | [d1, d2, d3, d4] => { results := [.lit (.bool false)], args := [d1, d2, d3, d4] }
  | _ => none }
def PaneGoneWrongFalsely : Prop := paneGoneRow.holds Try.pinned (OpenSpec.ofChange paneGoneWrong)

/-- 'grottolaw14.PaneCloses': WHATEVER THE INPUT: true; the input reads as it did. -/
def paneClosesSpec : ChangeSpec := { name := "paneCloses", fn := fun _ => fun
  | [d1, d2, d3, d4] => { results := [.lit (.bool true)], args := [d1, d2, d3, d4] }
  | _ => none }
def paneClosesRow : OpenClaim := { program := "ytkcdoadojoejjaa", sum := "03941f1f1c9aabefa57e78862c18ffbed7ab66d51e1cea6be3989c66691c7864", func := "grotto/grottolaw14.PaneCloses", spec := "paneCloses", unfollowed := true, recurses := true, apart := false }
def PaneClosesSaid : Prop := paneClosesRow.holds Try.pinned (OpenSpec.ofChange paneClosesSpec)

/-- ITS FALSE NEIGHBOUR: 'it returns false'. Refute it at one input. -/
def paneClosesWrong : ChangeSpec := { name := "paneCloses", fn := fun _ => fun
  | [d1, d2, d3, d4] => { results := [.lit (.bool false)], args := [d1, d2, d3, d4] }
  | _ => none }
def PaneClosesWrongFalsely : Prop := paneClosesRow.holds Try.pinned (OpenSpec.ofChange paneClosesWrong)

/- THE SECOND FORM. 'bulk': how many values and letters a reading holds, each counted each time it is reached (what is shared counts as often as it is met; a slice's spare places count too). A statement '..UptoSaid' is the law's where the arguments, and the package variables that the reading takes, are together of bulk at most 1048576: NARROWER than '..Said'. Prove '..Said' where nothing that the law and all that it calls make is longer than what came in: it says more and counts as full. Else prove '..UptoSaid'. A law counts once. -/
mutual
def uptoBulk {H : Type} : DataW H → Nat
  | .lit (.string bytes) => bytes.length + 1
  | .lit _ => 1
  | .nil => 1
  | .ptr d => uptoBulk d + 1
  | .slice elems spare => uptoBulkAll elems + uptoBulkAll spare + 1
  | .agg parts => uptoBulkAll parts + 1
  | .iface _ d => uptoBulk d + 1
  | .map entries => uptoBulkEntries entries + 1
  | .held _ => 1
def uptoBulkAll {H : Type} : List (DataW H) → Nat
  | [] => 0
  | d :: r => uptoBulk d + uptoBulkAll r
def uptoBulkEntries {H : Type} : List (Lit × DataW H) → Nat
  | [] => 0
  | x :: r => uptoBulkEntry x + uptoBulkEntries r
def uptoBulkEntry {H : Type} : Lit × DataW H → Nat
  | (.string bytes, d) => bytes.length + uptoBulk d + 1
  | (_, d) => uptoBulk d + 1
 end
def uptoSmall : (H : Type) → List (DataW H) → Bool := fun _ ds => decide (uptoBulkAll ds ≤ 1048576)
def OpenSpec.upto (s : _root_.Go.ChangeSpec) : _root_.Go.OpenSpec := { _root_.Go.OpenSpec.ofChange s with cond := some uptoSmall }

/-- 'grottolaw14.PanePlays', WHERE WHAT IT READS IS OF BULK AT MOST 1048576: true; the input reads as it did. -/
def panePlaysUptoRow : OpenClaim := { program := "ytkcdoadojoejjaa", sum := "03941f1f1c9aabefa57e78862c18ffbed7ab66d51e1cea6be3989c66691c7864", func := "grotto/grottolaw14.PanePlays", spec := "panePlays", unfollowed := true, recurses := true, apart := false, narrowed := true }
def PanePlaysUptoSaid : Prop := panePlaysUptoRow.holds Try.pinned (OpenSpec.upto panePlaysSpec)

/-- 'grottolaw14.PaneResizes', WHERE WHAT IT READS IS OF BULK AT MOST 1048576: true; the input reads as it did. -/
def paneResizesUptoRow : OpenClaim := { program := "ytkcdoadojoejjaa", sum := "03941f1f1c9aabefa57e78862c18ffbed7ab66d51e1cea6be3989c66691c7864", func := "grotto/grottolaw14.PaneResizes", spec := "paneResizes", unfollowed := true, recurses := true, apart := false, narrowed := true }
def PaneResizesUptoSaid : Prop := paneResizesUptoRow.holds Try.pinned (OpenSpec.upto paneResizesSpec)

/-- 'grottolaw14.PaneRefuses', WHERE WHAT IT READS IS OF BULK AT MOST 1048576: true; the input reads as it did. -/
def paneRefusesUptoRow : OpenClaim := { program := "ytkcdoadojoejjaa", sum := "03941f1f1c9aabefa57e78862c18ffbed7ab66d51e1cea6be3989c66691c7864", func := "grotto/grottolaw14.PaneRefuses", spec := "paneRefuses", unfollowed := true, recurses := true, apart := false, narrowed := true }
def PaneRefusesUptoSaid : Prop := paneRefusesUptoRow.holds Try.pinned (OpenSpec.upto paneRefusesSpec)

/-- 'grottolaw14.PaneArranges', WHERE WHAT IT READS IS OF BULK AT MOST 1048576: true; the input reads as it did. -/
def paneArrangesUptoRow : OpenClaim := { program := "ytkcdoadojoejjaa", sum := "03941f1f1c9aabefa57e78862c18ffbed7ab66d51e1cea6be3989c66691c7864", func := "grotto/grottolaw14.PaneArranges", spec := "paneArranges", unfollowed := true, recurses := true, apart := false, narrowed := true }
def PaneArrangesUptoSaid : Prop := paneArrangesUptoRow.holds Try.pinned (OpenSpec.upto paneArrangesSpec)

/-- 'grottolaw14.PaneGone', WHERE WHAT IT READS IS OF BULK AT MOST 1048576: true; the input reads as it did. -/
def paneGoneUptoRow : OpenClaim := { program := "ytkcdoadojoejjaa", sum := "03941f1f1c9aabefa57e78862c18ffbed7ab66d51e1cea6be3989c66691c7864", func := "grotto/grottolaw14.PaneGone", spec := "paneGone", unfollowed := true, recurses := true, apart := false, narrowed := true }
def PaneGoneUptoSaid : Prop := paneGoneUptoRow.holds Try.pinned (OpenSpec.upto paneGoneSpec)

/-- 'grottolaw14.PaneCloses', WHERE WHAT IT READS IS OF BULK AT MOST 1048576: true; the input reads as it did. -/
def paneClosesUptoRow : OpenClaim := { program := "ytkcdoadojoejjaa", sum := "03941f1f1c9aabefa57e78862c18ffbed7ab66d51e1cea6be3989c66691c7864", func := "grotto/grottolaw14.PaneCloses", spec := "paneCloses", unfollowed := true, recurses := true, apart := false, narrowed := true }
def PaneClosesUptoSaid : Prop := paneClosesUptoRow.holds Try.pinned (OpenSpec.upto paneClosesSpec)

end Rows
end Go.Proofs.Ytkcdoadojoejjaa
