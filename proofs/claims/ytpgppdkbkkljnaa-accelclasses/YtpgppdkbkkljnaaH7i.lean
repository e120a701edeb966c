/- Contract of package header's layHeader: the bytes of a header. -/
import Derived.Test.YtpgppdkbkkljnaaH7g
import Derived.Lib.AppendStr
import Derived.Laws.MakeOwn
namespace Go.Proofs.Ytpgppdkbkkljnaa
open Go.RowKit
set_option maxHeartbeats 1000000
set_option maxRecDepth 100000
set_option linter.unusedVariables false

/-- a text's bytes as numbers -/
def idI (s : ByteArray) : List Int := s.data.toList.map fun b => (b.toNat : Int)
theorem idI_cells (s : ByteArray) : Lib.strCells s = bytesV (idI s) := by simp [Lib.strCells, idI, bytesV]
/-- words as bytes -/
def putsL (l : List Int) : List Int := l.flatMap fun x => putL x 4
/-- a header's bytes -/
def hdrL (h : Hd) : List Int := glul ++ putsL [h.v, h.ram, h.ext, h.en, h.st, h.start, h.tab, h.sum]
/-- a box that holds a header -/
def HBox (w : World) (g : Nat) (h : Hd) : Prop := w.heap[g]? = some (.cells #[.int .u32 h.v, .int .u32 h.ram, .int .u32 h.ext, .int .u32 h.en, .int .u32 h.st, .int .u32 h.start, .int .u32 h.tab, .int .u32 h.sum] 70 (0, 0))
theorem HBox.new (w : World) (h : Hd) : HBox (w.alloc (.cells #[.int .u32 h.v, .int .u32 h.ram, .int .u32 h.ext, .int .u32 h.en, .int .u32 h.st, .int .u32 h.start, .int .u32 h.tab, .int .u32 h.sum] 70)) w.heap.size h := heap_alloc_new _ _
theorem HBox.lt {w : World} {g : Nat} {h : Hd} (H : HBox w g h) : g < w.heap.size := by
  unfold HBox at H
  exact (Array.getElem?_eq_some_iff.1 H).1
theorem HBox.grown {w w' : World} {g : Nat} {h : Hd} {row : Option Nat} (H : HBox w g h) (hg : w.grownBy w' row) (hne : row ≠ some g) : HBox w' g h :=
  (hg.block g H.lt (fun e => hne e.symm)).trans H
theorem HBox.alloc {w : World} {g : Nat} {h : Hd} (H : HBox w g h) (o : Obj) : HBox (w.alloc o) g h :=
  H.grown (World.grownBy_alloc w o none) (by simp)
theorem HBox.later {w w' : World} {g : Nat} {h : Hd} (H : HBox w g h) (hb : Below w.heap.size w w') : HBox w' g h := (hb.block g H.lt).trans H
theorem HBox.ne {w : World} {g : Nat} {h : Hd} (H : HBox w g h) {base n : Nat} {v : Value} {xs : List Value} (ho : w.ownsRow base 5 1 v n xs) : v.ownBlock ≠ some g := by
  intro e
  rcases ho.2 with ⟨rfl, _⟩ | ⟨g', cap, cur, rfl, _, hg, _⟩
  · cases e
  · have e' : g' = g := by simpa [Value.ownBlock] using e
    subst e'
    unfold HBox at H
    rw [H] at hg
    simp at hg
theorem HBox.cells {w : World} {g : Nat} {h : Hd} (H : HBox w g h) : w.cell? ⟨g, 0, none⟩ = some (.int .u32 h.v) ∧ w.cell? ⟨g, 1, none⟩ = some (.int .u32 h.ram) ∧ w.cell? ⟨g, 2, none⟩ = some (.int .u32 h.ext) ∧ w.cell? ⟨g, 3, none⟩ = some (.int .u32 h.en) ∧ w.cell? ⟨g, 4, none⟩ = some (.int .u32 h.st) ∧ w.cell? ⟨g, 5, none⟩ = some (.int .u32 h.start) ∧ w.cell? ⟨g, 6, none⟩ = some (.int .u32 h.tab) ∧ w.cell? ⟨g, 7, none⟩ = some (.int .u32 h.sum) := by
  unfold HBox at H
  simp [World.cell?, H]
/-- what one word more leaves -/
theorem puts_snoc (l : List Int) (k : Nat) (x : Int) (h : l[k]? = some x) : putsL (l.take (k + 1)) = putsL (l.take k) ++ putL x 4 := by
  unfold putsL
  rw [List.take_add_one, h]
  simp
end Go.Proofs.Ytpgppdkbkkljnaa
