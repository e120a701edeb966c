/- The page's example (the laws' live). -/
import Derived.Test.YtpgppdkbkkljnaaH7k
import Derived.Lib.SlBytesConst
import Derived.Deep.OwnRows
namespace Go.Proofs.Ytpgppdkbkkljnaa
open Go.RowKit
set_option maxHeartbeats 1000000
set_option maxRecDepth 100000
set_option linter.unusedVariables false

theorem zeros_made (w : World) : Reads (w.alloc (.cells (madeCells #[.int .u8 0] 220) 5)) (some ⟨w.heap.size, 0, none⟩) 220 220 zer := by
  have e : madeCells #[.int .u8 0] 220 = (bytesV zer).toArray := by kernel_rfl
  rw [e]
  have := own_bs (owns_new w 0 zer (Nat.zero_le _) (by decide))
  exact this.reads 220 (Nat.le_refl _)
theorem live_a (w w2 : World) (o : Obj) (hb2 : Below w.drew.heap.size w.drew w2) : Below w.heap.size w (w2.alloc o) := by
  have h1 : Below w.heap.size w w2 := ((Below.refl w.heap.size w).drew).trans (hb2.mono (Nat.le_refl _))
  exact h1.alloc h1.size o
theorem live_b (w w2 : World) (o : Obj) (hb2 : Below (w.drew.alloc o).heap.size (w.drew.alloc o) w2) : Below w.heap.size w w2 := by
  have h1 : Below w.heap.size w (w.drew.alloc o) := ((Below.refl w.heap.size w).drew).alloc (Nat.le_refl _) o
  exact h1.trans (hb2.mono h1.size)
theorem marked_cell (w : World) (C : Array Value) (t : TypeId) (f : Nat × Nat) (i : Nat) : (w.alloc (.cells C t f)).cell? ⟨w.heap.size, i, none⟩ = C[i]? := by
  have hg : (w.alloc (.cells C t f)).heap[w.heap.size]? = some (.cells C t f) := heap_alloc_new _ _
  unfold World.cell?
  simp only
  rw [hg]
  rfl
theorem glux_reads (w : World) : Reads (w.alloc (.cells #[.int .u8 71, .int .u8 108, .int .u8 117, .int .u8 120] 5 (4, 4 + 1))) (some ⟨w.heap.size, 0, none⟩) 4 4 [71, 108, 117, 120] := by
  refine ⟨rfl, Nat.le_refl _, .inr ⟨_, rfl, fun i hi => ?_⟩⟩
  rw [plain_add, Nat.zero_add, marked_cell]
  match i, hi with
  | 0, _ => rfl
  | 1, _ => rfl
  | 2, _ => rfl
  | 3, _ => rfl
end Go.Proofs.Ytpgppdkbkkljnaa
