/- Layer 14, the program: the states of the page's example. -/
import Derived.Test.YtilfgbcbodjegaaP14x
import Derived.Test.YtilfgbcbodjegaaP14h
namespace Go.Proofs.Ytilfgbcbodjegaa
open Go.RowKit
set_option maxHeartbeats 1000000
set_option maxRecDepth 100000
set_option linter.unusedVariables false

def e0 : Ps := ⟨80, 24, 0, 0, []⟩
def e1 : Ps := ⟨80, 24, 1, 1, [⟨1, 2, 0, 0, 0, 0, 0, 0⟩]⟩
def e2 : Ps := ⟨80, 24, 3, 3, [⟨1, 2, 3, 0, 0, 0, 0, 0⟩, ⟨2, 3, 3, 0, 0, 0, 0, 0⟩, ⟨3, 4, 0, 2, 1, 18, 3, 2⟩]⟩
def e3 : Ps := ⟨80, 24, 3, 5, [⟨1, 2, 5, 0, 0, 0, 0, 0⟩, ⟨2, 3, 3, 0, 0, 0, 0, 0⟩, ⟨3, 4, 0, 2, 5, 18, 3, 2⟩, ⟨4, 2, 5, 0, 0, 0, 0, 0⟩, ⟨5, 4, 3, 1, 4, 33, 25, 4⟩]⟩
def e4 : Ps := ⟨80, 24, 5, 5, [⟨1, 2, 5, 0, 0, 0, 0, 0⟩, ⟨4, 2, 5, 0, 0, 0, 0, 0⟩, ⟨5, 4, 0, 1, 4, 33, 25, 4⟩]⟩
theorem open1 : openS e0 0 0 0 2 = e1 := by rfl
theorem open2 : openS e1 1 18 3 3 = e2 := by rfl
theorem open3 : openS e2 1 33 25 2 = e3 := by rfl
theorem may1 : mayE e0 0 0 2 = 0 := by rfl
theorem may2 : mayE e1 1 18 3 = 0 := by rfl
theorem may3 : mayE e2 1 33 2 = 0 := by rfl
theorem gone2 : goneL e3 3 2 = [2] := by rfl
theorem sib2 : sibW e3.L 2 = 5 := by rfl
theorem sort23 : sortI [2, 3] = [2, 3] := by
  unfold sortI
  exact List.mergeSort_of_pairwise (by decide)
theorem close2 : dropS (putS e3 3 5) [2, 3] = e4 := by rfl
theorem rct4 : rctF e3 3 4 = ⟨60, 3, 20, 21⟩ := by rfl
theorem rct1 : rctF e4 3 1 = ⟨0, 0, 60, 24⟩ := by rfl
end Go.Proofs.Ytilfgbcbodjegaa
