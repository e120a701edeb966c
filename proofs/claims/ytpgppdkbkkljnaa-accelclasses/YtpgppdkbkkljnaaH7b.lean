/- A header in a box of memory of the call's own: its eight cells. -/
import Derived.Test.YtpgppdkbkkljnaaH7a
namespace Go.Proofs.Ytpgppdkbkkljnaa
open Go.RowKit
set_option maxHeartbeats 1000000
set_option maxRecDepth 100000
set_option linter.unusedVariables false

def HdAt (w : World) (b : Nat) (h : Hd) : Prop := w.cell? ⟨b, 0, none⟩ = some (.int .u32 h.v) ∧ w.cell? ⟨b, 1, none⟩ = some (.int .u32 h.ram) ∧ w.cell? ⟨b, 2, none⟩ = some (.int .u32 h.ext) ∧ w.cell? ⟨b, 3, none⟩ = some (.int .u32 h.en) ∧ w.cell? ⟨b, 4, none⟩ = some (.int .u32 h.st) ∧ w.cell? ⟨b, 5, none⟩ = some (.int .u32 h.start) ∧ w.cell? ⟨b, 6, none⟩ = some (.int .u32 h.tab) ∧ w.cell? ⟨b, 7, none⟩ = some (.int .u32 h.sum) ∧ w.frozen? ⟨b, 0, none⟩ = false ∧ w.frozen? ⟨b, 1, none⟩ = false ∧ w.frozen? ⟨b, 2, none⟩ = false ∧ w.frozen? ⟨b, 3, none⟩ = false ∧ w.frozen? ⟨b, 4, none⟩ = false ∧ w.frozen? ⟨b, 5, none⟩ = false ∧ w.frozen? ⟨b, 6, none⟩ = false ∧ w.frozen? ⟨b, 7, none⟩ = false
def set8 (w : World) (b : Nat) (h : Hd) : World := (((((((w.setCell ⟨b, 0, none⟩ (.int .u32 h.v)).setCell ⟨b, 1, none⟩ (.int .u32 h.ram)).setCell ⟨b, 2, none⟩ (.int .u32 h.ext)).setCell ⟨b, 3, none⟩ (.int .u32 h.en)).setCell ⟨b, 4, none⟩ (.int .u32 h.st)).setCell ⟨b, 5, none⟩ (.int .u32 h.start)).setCell ⟨b, 6, none⟩ (.int .u32 h.tab)).setCell ⟨b, 7, none⟩ (.int .u32 h.sum)
theorem hd_fresh (X : World) (h : Hd) : HdAt (X.alloc (.cells #[.int .u32 h.v, .int .u32 h.ram, .int .u32 h.ext, .int .u32 h.en, .int .u32 h.st, .int .u32 h.start, .int .u32 h.tab, .int .u32 h.sum] 70)) X.heap.size h := by unfold HdAt; simp
theorem hd_zero (X : World) : HdAt (X.alloc (.cells #[.int .u32 0, .int .u32 0, .int .u32 0, .int .u32 0, .int .u32 0, .int .u32 0, .int .u32 0, .int .u32 0] 70)) X.heap.size hd0 := hd_fresh X hd0
theorem hd_lt {w : World} {b : Nat} {h : Hd} (H : HdAt w b h) : b < w.heap.size := World.block_lt_of_cell? _ _ H.1
theorem hd_of {X w2 : World} (hb : Below X.heap.size X w2) {b : Nat} {h : Hd} (H : HdAt X b h) : HdAt w2 b h := by
  have hl := hd_lt H
  obtain ⟨k0, k1, k2, k3, k4, k5, k6, k7, f0, f1, f2, f3, f4, f5, f6, f7⟩ := H
  exact ⟨cellLater hb k0, cellLater hb k1, cellLater hb k2, cellLater hb k3, cellLater hb k4, cellLater hb k5, cellLater hb k6, cellLater hb k7, (hb.frozen hl).trans f0, (hb.frozen hl).trans f1, (hb.frozen hl).trans f2, (hb.frozen hl).trans f3, (hb.frozen hl).trans f4, (hb.frozen hl).trans f5, (hb.frozen hl).trans f6, (hb.frozen hl).trans f7⟩
theorem set8_at (w : World) (b : Nat) (g h : Hd) (H : HdAt w b g) : HdAt (set8 w b h) b h := by
  obtain ⟨k0, k1, k2, k3, k4, k5, k6, k7, f0, f1, f2, f3, f4, f5, f6, f7⟩ := H
  have o : ∀ (Y : World) (i j : Nat) (v : Value), i ≠ j → (Y.setCell ⟨b, i, none⟩ v).cell? ⟨b, j, none⟩ = Y.cell? ⟨b, j, none⟩ := fun Y i j v hij => World.cell?_setCell_other _ _ _ _ (fun h => hij (congrArg Addr.off h))
  unfold set8
  refine ⟨?_, ?_, ?_, ?_, ?_, ?_, ?_, ?_, ?_, ?_, ?_, ?_, ?_, ?_, ?_, ?_⟩
  · rw [o _ 7 0 _ (by decide), o _ 6 0 _ (by decide), o _ 5 0 _ (by decide), o _ 4 0 _ (by decide), o _ 3 0 _ (by decide), o _ 2 0 _ (by decide), o _ 1 0 _ (by decide)]; exact World.cell?_setCell_same _ _ _ (by exact k0)
  · rw [o _ 7 1 _ (by decide), o _ 6 1 _ (by decide), o _ 5 1 _ (by decide), o _ 4 1 _ (by decide), o _ 3 1 _ (by decide), o _ 2 1 _ (by decide)]; exact World.cell?_setCell_same _ _ _ (by rw [o _ 0 1 _ (by decide)]; exact k1)
  · rw [o _ 7 2 _ (by decide), o _ 6 2 _ (by decide), o _ 5 2 _ (by decide), o _ 4 2 _ (by decide), o _ 3 2 _ (by decide)]; exact World.cell?_setCell_same _ _ _ (by rw [o _ 1 2 _ (by decide), o _ 0 2 _ (by decide)]; exact k2)
  · rw [o _ 7 3 _ (by decide), o _ 6 3 _ (by decide), o _ 5 3 _ (by decide), o _ 4 3 _ (by decide)]; exact World.cell?_setCell_same _ _ _ (by rw [o _ 2 3 _ (by decide), o _ 1 3 _ (by decide), o _ 0 3 _ (by decide)]; exact k3)
  · rw [o _ 7 4 _ (by decide), o _ 6 4 _ (by decide), o _ 5 4 _ (by decide)]; exact World.cell?_setCell_same _ _ _ (by rw [o _ 3 4 _ (by decide), o _ 2 4 _ (by decide), o _ 1 4 _ (by decide), o _ 0 4 _ (by decide)]; exact k4)
  · rw [o _ 7 5 _ (by decide), o _ 6 5 _ (by decide)]; exact World.cell?_setCell_same _ _ _ (by rw [o _ 4 5 _ (by decide), o _ 3 5 _ (by decide), o _ 2 5 _ (by decide), o _ 1 5 _ (by decide), o _ 0 5 _ (by decide)]; exact k5)
  · rw [o _ 7 6 _ (by decide)]; exact World.cell?_setCell_same _ _ _ (by rw [o _ 5 6 _ (by decide), o _ 4 6 _ (by decide), o _ 3 6 _ (by decide), o _ 2 6 _ (by decide), o _ 1 6 _ (by decide), o _ 0 6 _ (by decide)]; exact k6)
  · exact World.cell?_setCell_same _ _ _ (by rw [o _ 6 7 _ (by decide), o _ 5 7 _ (by decide), o _ 4 7 _ (by decide), o _ 3 7 _ (by decide), o _ 2 7 _ (by decide), o _ 1 7 _ (by decide), o _ 0 7 _ (by decide)]; exact k7)
  · simp only [World.frozen?_setCell]; exact f0
  · simp only [World.frozen?_setCell]; exact f1
  · simp only [World.frozen?_setCell]; exact f2
  · simp only [World.frozen?_setCell]; exact f3
  · simp only [World.frozen?_setCell]; exact f4
  · simp only [World.frozen?_setCell]; exact f5
  · simp only [World.frozen?_setCell]; exact f6
  · simp only [World.frozen?_setCell]; exact f7
theorem set8_below {B : Nat} (X w : World) (b : Nat) (h : Hd) (hb : Below B X w) (hB : B ≤ b) : Below B X (set8 w b h) :=
  ((((((((hb.setCell (p := ⟨b, 0, none⟩) hB _).setCell (p := ⟨b, 1, none⟩) hB _).setCell (p := ⟨b, 2, none⟩) hB _).setCell (p := ⟨b, 3, none⟩) hB _).setCell (p := ⟨b, 4, none⟩) hB _).setCell (p := ⟨b, 5, none⟩) hB _).setCell (p := ⟨b, 6, none⟩) hB _).setCell (p := ⟨b, 7, none⟩) hB _)
theorem set8_far (w : World) (b : Nat) (h : Hd) (c i : Nat) (hn : ¬ b = c) : (set8 w b h).cell? ⟨c, i, none⟩ = w.cell? ⟨c, i, none⟩ := by
  have q : ∀ (Y : World) (j : Nat) (v : Value), (Y.setCell ⟨b, j, none⟩ v).cell? ⟨c, i, none⟩ = Y.cell? ⟨c, i, none⟩ := fun Y j v => World.cell?_setCell_other _ _ _ _ (fun h => hn (congrArg Addr.block h))
  unfold set8
  rw [q, q, q, q, q, q, q, q]
theorem set8_bs {w : World} {g o L : Nat} {zs : List Int} (h : Bs w g o L zs) (b : Nat) (k : Hd) (hn : ¬ b = g) : Bs (set8 w b k) g o L zs :=
  ⟨h.1, fun i hi => by rw [set8_far _ _ _ _ _ hn]; exact h.2 i hi⟩
theorem set8_size (w : World) (b : Nat) (h : Hd) : (set8 w b h).heap.size = w.heap.size := by
  unfold set8
  simp only [World.size_setCell]
end Go.Proofs.Ytpgppdkbkkljnaa
