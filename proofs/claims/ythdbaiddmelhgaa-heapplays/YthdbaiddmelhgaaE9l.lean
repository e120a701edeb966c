/- An act in both: Free. -/
import Derived.Test.YthdbaiddmelhgaaE9k
namespace Go.Proofs.Ythdbaiddmelhgaa
open Go.RowKit
set_option maxHeartbeats 1000000
set_option maxRecDepth 100000
set_option linter.unusedVariables false

theorem does_1 (B h d : Nat) (s : Hs) (w0 w : World) (n a x : Nat) (l : Value) (r : HalfS B h d w0 w s s []) (ok : OkS s) :
    Calls Try.prog 7 #[.pointer (some ⟨h, 0, none⟩), .pointer (some ⟨d, 0, none⟩), .agg #[.int .i64 1, .int .u32 n, .int .u32 a, .int .u32 x, l]] w fun e w' => DoesR B d w0 w' s.most e := by
  have ok' := hidden (And.intro (ok_free a ok) (most_free s a))
  have hba : Below w.heap.size w (w.alloc (actO 1 n a x l)) := (Below.refl _ _).alloc (Nat.le_refl _) _
  have HR : Hid (HalfS B h d w0 (w.alloc (actO 1 n a x l)) s s [w.heap.size]) := r.fresh hba w.heap.size (Nat.le_refl _) (by simp)
  have HQ := hidden (heap_alloc_new w (actO 1 n a x l))
  have RD := hidden (HR.out.later ((Below.refl _ _).drew)).1
  have HM := hidden fun w1 (r1 : HalfS B h d w0 w1 s s [w.heap.size]) => HalfS.free a r1 ok
  have HD := hidden fun w1 (r1 : HalfS B h d w0 w1 (freeS s a) s [w.heap.size]) => HalfS.dfree a r1 ok
  have HK : Hid (∀ w1, Kept (w.alloc (actO 1 n a x l)) w1 [w.heap.size] → w1.heap[w.heap.size]? = some (actO 1 n a x l)) := fun w1 hk => by rw [hk _ (List.mem_singleton.2 rfl)]; exact HQ.out
  clear r ok hba
  generalize freeE s a = A at *
  generalize freeS s a = s1 at *
  generalize s.most = m at *
  go_enter Try.func7, Try.ntmps7
  go_wp2_with fail
  go_region_held3 (fun w' => w'.cell? ⟨w.heap.size, 2, none⟩ = some (.int .u32 a)) (first | assumption | go_keep) (first | (go_at_call 15; refine (HM.out _ RD.out).mono ?_; rintro e w1 ⟨rfl, r1, k1⟩; have R1 := hidden r1; clear r1; obtain ⟨j0, j1, j2, j3, j4⟩ := act_cells (w' := w) (HK.out _ k1)) | (go_at_call 16; refine (num8 _ _).mono ?_; rintro e w9 ⟨rfl, rfl⟩) | (go_at_call 18; refine (HD.out _ R1.out).mono ?_; rintro e w2 ⟨rfl, r2, k2⟩; have R2 := hidden r2; clear r2; obtain ⟨j5, j6, j7, j8, j9⟩ := act_cells (w' := w) (HK.out _ (k1.trans k2))) | fail)
  go_wp2
  go_ret2
  exact ⟨h, s1, rfl, R2.out.less (by simp), ok'.out.1, ok'.out.2⟩
theorem does_5 (B h d : Nat) (s : Hs) (w0 w : World) (k : Int) (n a x : Nat) (l : Value) (r : HalfS B h d w0 w s s []) (ok : OkS s) (h0 : k ≠ 0) (h1 : k ≠ 1) (h2 : k ≠ 2) (h3 : k ≠ 3) (h4 : k ≠ 4) :
    Calls Try.prog 7 #[.pointer (some ⟨h, 0, none⟩), .pointer (some ⟨d, 0, none⟩), .agg #[.int .i64 k, .int .u32 n, .int .u32 a, .int .u32 x, l]] w fun e w' => DoesR B d w0 w' s.most e := by
  have hba : Below w.heap.size w (w.alloc (actO k n a x l)) := (Below.refl _ _).alloc (Nat.le_refl _) _
  have HR := hidden (r.later hba).1
  have HO := hidden ok
  clear r ok hba
  go_enter Try.func7, Try.ntmps7
  go_wp2
  go_ret2
  exact ⟨h, s, rfl, HR.out, HO.out, rfl⟩
end Go.Proofs.Ythdbaiddmelhgaa
