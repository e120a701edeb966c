/- The page's example (grottolaw08.live). -/
import Derived.Test.YtmebjbnglndfcaaE8m
namespace Go.Proofs.Ytmebjbnglndfcaa
open Go.RowKit
set_option maxHeartbeats 1000000
set_option maxRecDepth 100000
set_option linter.unusedVariables false

def e0 : Hs := ⟨4096, 0, 0, []⟩
def e1 : Hs := ⟨4096, 1024, 1280, [⟨1024, 100⟩]⟩
def e2 : Hs := ⟨4096, 1024, 1536, [⟨1024, 100⟩, ⟨1124, 300⟩]⟩
def e3 : Hs := ⟨4096, 1024, 1536, [⟨1124, 300⟩]⟩
def e4 : Hs := ⟨4096, 1024, 1536, [⟨1024, 50⟩, ⟨1124, 300⟩]⟩
def e5 : Hs := ⟨4096, 1024, 1536, [⟨1024, 50⟩, ⟨1124, 300⟩, ⟨1424, 60⟩]⟩
theorem m1 : mallocR e0 100 1024 = some (1024, e1) := by rfl
theorem m2 : mallocR e1 300 0 = some (1124, e2) := by rfl
theorem f3 : freeS e2 1024 = e3 := by rfl
theorem m4 : mallocR e3 50 0 = some (1024, e4) := by rfl
theorem m5 : mallocR e4 60 0 = some (1424, e5) := by rfl
theorem m6 : mallocR e5 4000 0 = none := by rfl
theorem o0 : OkS e0 := ok_new (by decide)
theorem o1 : OkS e1 := ok_malloc_to o0 m1
theorem o2 : OkS e2 := ok_malloc_to o1 m2
theorem o3 : OkS e3 := by have := ok_free 1024 o2; rw [f3] at this; exact this
theorem o4 : OkS e4 := ok_malloc_to o3 m4
theorem o5 : OkS e5 := ok_malloc_to o4 m5
end Go.Proofs.Ytmebjbnglndfcaa
