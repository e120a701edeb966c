/- Contract of the document's plus (package grottoref03): the exact sum. -/
import Derived.Test.YtfjpiahgnojlhaaS3e
namespace Go.Proofs.Ytfjpiahgnojlhaa
open Go.RowKit
set_option maxRecDepth 100000
set_option maxHeartbeats 1000000
set_option linter.unusedVariables false

/-- an exact number in a box that may be written -/
def RsAt (w : World) (b : Nat) (S : Int) (v : Value) (E : Int) : Prop := w.cell? ⟨b, 0, none⟩ = some (.int .i64 S) ∧ w.cell? ⟨b, 1, none⟩ = some v ∧ w.cell? ⟨b, 2, none⟩ = some (.int .i64 E) ∧ w.frozen? ⟨b, 0, none⟩ = false ∧ w.frozen? ⟨b, 1, none⟩ = false ∧ w.frozen? ⟨b, 2, none⟩ = false
theorem rs_of {X w2 : World} (hb : Below X.heap.size X w2) {b : Nat} {S E : Int} {v : Value} (h : RsAt X b S v E) : RsAt w2 b S v E := by
  obtain ⟨h0, h1, h2, k0, k1, k2⟩ := h
  have hl : b < X.heap.size := World.block_lt_of_cell? _ _ h0
  exact ⟨cellLater hb h0, cellLater hb h1, cellLater hb h2, (hb.frozen hl).trans k0, (hb.frozen hl).trans k1, (hb.frozen hl).trans k2⟩
theorem rs_fresh (X : World) (S E : Int) (a : Option Addr) (l c : Nat) : RsAt (X.alloc (.cells #[.int .i64 S, .slice a l c, .int .i64 E] 76)) X.heap.size S (.slice a l c) E := by unfold RsAt; simp
theorem rs_alloc {X : World} (o : Obj) {b : Nat} {S E : Int} {v : Value} (h : RsAt X b S v E) : RsAt (X.alloc o) b S v E := rs_of ((Below.refl _ _).alloc (Nat.le_refl _) _) h
theorem rs_set3 {X : World} {b c : Nat} {S E : Int} {v : Value} (h : RsAt X b S v E) (hn : ¬ c = b) (a0 a1 a2 : Value) : RsAt (set3 X c a0 a1 a2) b S v E := by
  obtain ⟨h0, h1, h2, k0, k1, k2⟩ := h
  refine ⟨(set3_far _ _ _ _ _ _ _ hn).trans h0, (set3_far _ _ _ _ _ _ _ hn).trans h1, (set3_far _ _ _ _ _ _ _ hn).trans h2, ?_, ?_, ?_⟩ <;> (unfold set3; simp only [World.frozen?_setCell]; assumption)
theorem rs_put {X : World} {b : Nat} {S E : Int} {v : Value} (h : RsAt X b S v E) (S' E' : Int) (v' : Value) : RsAt (set3 X b (.int .i64 S') v' (.int .i64 E')) b S' v' E' := by
  obtain ⟨h0, h1, h2, k0, k1, k2⟩ := h
  obtain ⟨i0, i1, i2⟩ := set3_at X b (.int .i64 S') v' (.int .i64 E') _ _ _ h0 h1 h2
  refine ⟨i0, i1, i2, ?_, ?_, ?_⟩ <;> (unfold set3; simp only [World.frozen?_setCell]; assumption)
def PlusRet (w : World) (S e : Int) (L : Nat) (r : Ending) (w' : World) : Prop :=
  ∃ s a l c ds N, r = .returned (.agg #[.int .i64 s, .slice a l c, .int .i64 e]) ∧ HasNat w' a l c ds N ∧ (s = 1 ∨ s = -1) ∧ s * N = S ∧ l ≤ L ∧ Below w.heap.size w w' ∧ ∀ p, a = some p → w.heap.size ≤ p.block
end Go.Proofs.Ytfjpiahgnojlhaa
