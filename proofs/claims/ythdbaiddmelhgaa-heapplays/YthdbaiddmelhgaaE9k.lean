/- An act in both. -/
import Derived.Test.YthdbaiddmelhgaaE9j
namespace Go.Proofs.Ythdbaiddmelhgaa
open Go.RowKit
set_option maxHeartbeats 1000000
set_option maxRecDepth 100000
set_option linter.unusedVariables false

/-- what an act leaves: both heaps are alike -/
def DoesR (B d : Nat) (w0 w' : World) (m : Nat) (e : Ending) : Prop := ∃ h' s', e = .returned (.tuple #[.pointer (some ⟨h', 0, none⟩), .bool true]) ∧ HalfS B h' d w0 w' s' s' [] ∧ OkS s' ∧ s'.most = m
/-- the act, as it lies in the call's own block -/
def actO (k : Int) (n a x : Nat) (l : Value) : Obj := .cells #[.int .i64 k, .int .u32 n, .int .u32 a, .int .u32 x, l] 35
theorem act_cells {w w' : World} {q : Nat} {k : Int} {n a x : Nat} {l : Value} (h : w.heap[q]? = some (actO k n a x l)) : w.cell? ⟨q, 0, none⟩ = some (.int .i64 k) ∧ w.cell? ⟨q, 1, none⟩ = some (.int .u32 n) ∧ w.cell? ⟨q, 2, none⟩ = some (.int .u32 a) ∧ w.cell? ⟨q, 3, none⟩ = some (.int .u32 x) ∧ w.cell? ⟨q, 4, none⟩ = some l := by
  unfold actO at h
  refine ⟨by simp [World.cell?, h], by simp [World.cell?, h], by simp [World.cell?, h], by simp [World.cell?, h], by simp [World.cell?, h]⟩
theorem does_0 (B h d : Nat) (s : Hs) (w0 w : World) (n a x : Nat) (l : Value) (r : HalfS B h d w0 w s s []) (ok : OkS s) (hn : n < 4294967296) (hx : x < 4294967296) :
    Calls Try.prog 7 #[.pointer (some ⟨h, 0, none⟩), .pointer (some ⟨d, 0, none⟩), .agg #[.int .i64 0, .int .u32 n, .int .u32 a, .int .u32 x, l]] w fun e w' => DoesR B d w0 w' s.most e := by
  have ok' := hidden (And.intro (ok_malloc n x ok) (most_malloc s n x))
  have hba : Below w.heap.size w (w.alloc (actO 0 n a x l)) := (Below.refl _ _).alloc (Nat.le_refl _) _
  have HR : Hid (HalfS B h d w0 (w.alloc (actO 0 n a x l)) s s [w.heap.size]) := r.fresh hba w.heap.size (Nat.le_refl _) (by simp)
  have HQ := hidden (heap_alloc_new w (actO 0 n a x l))
  have HM := hidden fun w1 (r1 : HalfS B h d w0 w1 s s [w.heap.size]) => HalfS.malloc (n := n) (x := x) r1 ok hn hx
  have HD := hidden fun w1 (r1 : HalfS B h d w0 w1 (mallocS s n x) s [w.heap.size]) => HalfS.dmalloc (n := n) (x := x) r1 ok hn hx
  have HK : Hid (∀ w1, Kept (w.alloc (actO 0 n a x l)) w1 [w.heap.size] → w1.heap[w.heap.size]? = some (actO 0 n a x l)) := fun w1 hk => by rw [hk _ (List.mem_singleton.2 rfl)]; exact HQ.out
  clear r ok hba
  generalize mallocA s n x = A at *
  generalize mallocB s n x = b at *
  generalize mallocS s n x = s1 at *
  generalize s.most = m at *
  go_enter Try.func7, Try.ntmps7
  go_wp2_with (first | (go_at_call 14; refine (HM.out _ HR.out).mono ?_; rintro e w1 ⟨rfl, r1, k1⟩; have R1 := hidden r1; clear r1; obtain ⟨j0, j1, j2, j3, j4⟩ := act_cells (w' := w) (HK.out _ k1)) | (go_at_call 17; refine (HD.out _ R1.out).mono ?_; rintro e w2 ⟨rfl, r2, k2⟩; have R2 := hidden r2; clear r2))
  go_ret2
  exact ⟨h, s1, rfl, R2.out.less (by simp), ok'.out.1, ok'.out.2⟩
end Go.Proofs.Ythdbaiddmelhgaa
