/- Boxes of parts of a pattern in memory: fresh ones, written ones. -/
import Derived.Test.YthfjjkikeebopaaDoorQ2c
import Derived.Deep.Cut
import Derived.Deep.CutRange
import Derived.Deep.LoopGhost
import Derived.Handy
namespace Go.Proofs.YthfjjkikeebopaaDoor
open Go.RowKit
set_option maxHeartbeats 1000000
set_option linter.unusedVariables false

/-- a fresh box of parts -/
def ZPs (w : World) (b : Nat) : Prop := w.cell? ⟨b, 0, none⟩ = some (.int .i64 0) ∧ w.cell? ⟨b, 1, none⟩ = some (.bool false) ∧ w.cell? ⟨b, 2, none⟩ = some (.int .i64 0) ∧ w.cell? ⟨b, 3, none⟩ = some (.int .u64 0) ∧ w.frozen? ⟨b, 0, none⟩ = false ∧ w.frozen? ⟨b, 1, none⟩ = false ∧ w.frozen? ⟨b, 2, none⟩ = false ∧ w.frozen? ⟨b, 3, none⟩ = false
theorem zp_of {X w2 : World} (hb : Below X.heap.size X w2) (b : Nat) (h : ZPs X b) : ZPs w2 b := by
  obtain ⟨h0, h1, h2, h3, k0, k1, k2, k3⟩ := h
  have hl : b < X.heap.size := World.block_lt_of_cell? _ _ h0
  exact ⟨cellLater hb h0, cellLater hb h1, cellLater hb h2, cellLater hb h3, (hb.frozen hl).trans k0, (hb.frozen hl).trans k1, (hb.frozen hl).trans k2, (hb.frozen hl).trans k3⟩
theorem zp_alloc {X : World} (o : Obj) (b : Nat) (h : ZPs X b) : ZPs (X.alloc o) b := zp_of ((Below.refl _ _).alloc (Nat.le_refl _) _) b h
theorem zp_fresh (X : World) : ZPs (X.alloc (.cells #[.int .i64 0, .bool false, .int .i64 0, .int .u64 0] 52)) X.heap.size := by unfold ZPs; simp
/-- four cells of a block written -/
def set4 (X : World) (b : Nat) (a0 a1 a2 a3 : Value) : World := (((X.setCell ⟨b, 0, none⟩ a0).setCell ⟨b, 1, none⟩ a1).setCell ⟨b, 2, none⟩ a2).setCell ⟨b, 3, none⟩ a3
theorem set4_far (X : World) (b : Nat) (a0 a1 a2 a3 : Value) (c i : Nat) (h : ¬ b = c) : (set4 X b a0 a1 a2 a3).cell? ⟨c, i, none⟩ = X.cell? ⟨c, i, none⟩ := by
  unfold set4
  rw [World.cell?_setCell_far _ _ _ _ h, World.cell?_setCell_far _ _ _ _ h, World.cell?_setCell_far _ _ _ _ h, World.cell?_setCell_far _ _ _ _ h]
theorem set4_at (X : World) (b : Nat) (a0 a1 a2 a3 u0 u1 u2 u3 : Value) (h0 : X.cell? ⟨b, 0, none⟩ = some u0) (h1 : X.cell? ⟨b, 1, none⟩ = some u1) (h2 : X.cell? ⟨b, 2, none⟩ = some u2) (h3 : X.cell? ⟨b, 3, none⟩ = some u3) :
    (set4 X b a0 a1 a2 a3).cell? ⟨b, 0, none⟩ = some a0 ∧ (set4 X b a0 a1 a2 a3).cell? ⟨b, 1, none⟩ = some a1 ∧ (set4 X b a0 a1 a2 a3).cell? ⟨b, 2, none⟩ = some a2 ∧ (set4 X b a0 a1 a2 a3).cell? ⟨b, 3, none⟩ = some a3 := by
  have o : ∀ (Y : World) (i j : Nat) (v : Value), i ≠ j → (Y.setCell ⟨b, i, none⟩ v).cell? ⟨b, j, none⟩ = Y.cell? ⟨b, j, none⟩ := fun Y i j v hij => World.cell?_setCell_other _ _ _ _ (fun h => hij (congrArg Addr.off h))
  unfold set4
  refine ⟨?_, ?_, ?_, ?_⟩
  · rw [o _ 3 0 _ (by decide), o _ 2 0 _ (by decide), o _ 1 0 _ (by decide)]; exact World.cell?_setCell_same _ _ _ h0
  · rw [o _ 3 1 _ (by decide), o _ 2 1 _ (by decide)]; exact World.cell?_setCell_same _ _ _ (by rw [o _ 0 1 _ (by decide)]; exact h1)
  · rw [o _ 3 2 _ (by decide)]; exact World.cell?_setCell_same _ _ _ (by rw [o _ 1 2 _ (by decide), o _ 0 2 _ (by decide)]; exact h2)
  · exact World.cell?_setCell_same _ _ _ (by rw [o _ 2 3 _ (by decide), o _ 1 3 _ (by decide), o _ 0 3 _ (by decide)]; exact h3)
theorem set4_below {B : Nat} {a X : World} (h : Below B a X) (b : Nat) (hb : B ≤ b) (a0 a1 a2 a3 : Value) : Below B a (set4 X b a0 a1 a2 a3) :=
  (((h.setCell (p := ⟨b, 0, none⟩) hb _).setCell (p := ⟨b, 1, none⟩) hb _).setCell (p := ⟨b, 2, none⟩) hb _).setCell (p := ⟨b, 3, none⟩) hb _
theorem zp_set4 {X : World} {b c : Nat} (h : ZPs X b) (hn : ¬ c = b) (a0 a1 a2 a3 : Value) : ZPs (set4 X c a0 a1 a2 a3) b := by
  obtain ⟨h0, h1, h2, h3, k0, k1, k2, k3⟩ := h
  refine ⟨(set4_far _ _ _ _ _ _ _ _ hn).trans h0, (set4_far _ _ _ _ _ _ _ _ hn).trans h1, (set4_far _ _ _ _ _ _ _ _ hn).trans h2, (set4_far _ _ _ _ _ _ _ _ hn).trans h3, ?_, ?_, ?_, ?_⟩ <;> (unfold set4; simp only [World.frozen?_setCell]; assumption)
/-- parts of a pattern at a block, which may be written -/
def PsAt (w : World) (b : Nat) (K : Int) (n : Bool) (E M : Int) : Prop := w.cell? ⟨b, 0, none⟩ = some (.int .i64 K) ∧ w.cell? ⟨b, 1, none⟩ = some (.bool n) ∧ w.cell? ⟨b, 2, none⟩ = some (.int .i64 E) ∧ w.cell? ⟨b, 3, none⟩ = some (.int .u64 M) ∧ w.frozen? ⟨b, 0, none⟩ = false ∧ w.frozen? ⟨b, 1, none⟩ = false ∧ w.frozen? ⟨b, 2, none⟩ = false ∧ w.frozen? ⟨b, 3, none⟩ = false
theorem ps_of {X w2 : World} (hb : Below X.heap.size X w2) {b : Nat} {K E M : Int} {n : Bool} (h : PsAt X b K n E M) : PsAt w2 b K n E M := by
  obtain ⟨h0, h1, h2, h3, k0, k1, k2, k3⟩ := h
  have hl : b < X.heap.size := World.block_lt_of_cell? _ _ h0
  exact ⟨cellLater hb h0, cellLater hb h1, cellLater hb h2, cellLater hb h3, (hb.frozen hl).trans k0, (hb.frozen hl).trans k1, (hb.frozen hl).trans k2, (hb.frozen hl).trans k3⟩
theorem ps_fresh (X : World) (K E M : Int) (n : Bool) : PsAt (X.alloc (.cells #[.int .i64 K, .bool n, .int .i64 E, .int .u64 M] 52)) X.heap.size K n E M := by unfold PsAt; simp
theorem ps_alloc {X : World} (o : Obj) {b : Nat} {K E M : Int} {n : Bool} (h : PsAt X b K n E M) : PsAt (X.alloc o) b K n E M := ps_of ((Below.refl _ _).alloc (Nat.le_refl _) _) h
theorem ps_set4 {X : World} {b c : Nat} {K E M : Int} {n : Bool} (h : PsAt X b K n E M) (hn : ¬ c = b) (a0 a1 a2 a3 : Value) : PsAt (set4 X c a0 a1 a2 a3) b K n E M := by
  obtain ⟨h0, h1, h2, h3, k0, k1, k2, k3⟩ := h
  refine ⟨(set4_far _ _ _ _ _ _ _ _ hn).trans h0, (set4_far _ _ _ _ _ _ _ _ hn).trans h1, (set4_far _ _ _ _ _ _ _ _ hn).trans h2, (set4_far _ _ _ _ _ _ _ _ hn).trans h3, ?_, ?_, ?_, ?_⟩ <;> (unfold set4; simp only [World.frozen?_setCell]; assumption)
theorem ps_put {X : World} {b : Nat} {K E M : Int} {n : Bool} (h : PsAt X b K n E M) (K' E' M' : Int) (n' : Bool) : PsAt (set4 X b (.int .i64 K') (.bool n') (.int .i64 E') (.int .u64 M')) b K' n' E' M' := by
  obtain ⟨h0, h1, h2, h3, k0, k1, k2, k3⟩ := h
  obtain ⟨i0, i1, i2, i3⟩ := set4_at X b (.int .i64 K') (.bool n') (.int .i64 E') (.int .u64 M') _ _ _ _ h0 h1 h2 h3
  refine ⟨i0, i1, i2, i3, ?_, ?_, ?_, ?_⟩ <;> (unfold set4; simp only [World.frozen?_setCell]; assumption)
theorem ps_zero {X : World} {b : Nat} : ZPs X b ↔ PsAt X b 0 false 0 0 := Iff.rfl
end Go.Proofs.YthfjjkikeebopaaDoor
