/- An act in both, whatever its kind. -/
import Derived.Test.YthdbaiddmelhgaaE9o
namespace Go.Proofs.Ythdbaiddmelhgaa
open Go.RowKit
set_option maxHeartbeats 1000000
set_option maxRecDepth 100000
set_option linter.unusedVariables false

theorem does_any (B h d : Nat) (s : Hs) (w0 w : World) (r : Ac) (hB : w0.heap.size = B) (rr : HalfS B h d w0 w s s []) (ok : OkS s) (hr : AcOk w0 r) (hll : r.ll ≤ 9000) :
    Calls Try.prog 7 #[.pointer (some ⟨h, 0, none⟩), .pointer (some ⟨d, 0, none⟩), .agg #[.int .i64 r.k, .int .u32 r.n, .int .u32 r.a, .int .u32 r.e, .slice r.lo r.ll r.lc]] w fun e w' => DoesR B d w0 w' s.most e := by
  obtain ⟨a1, a2, a3, a4, a5, a6, a7⟩ := hr
  by_cases q0 : r.k = 0
  · rw [q0]; exact does_0 B h d s w0 w _ _ _ _ rr ok a3 a5
  by_cases q1 : r.k = 1
  · rw [q1]; exact does_1 B h d s w0 w _ _ _ _ rr ok
  by_cases q2 : r.k = 2
  · rw [q2]; exact does_2 B h d s w0 w _ _ _ _ rr ok a3
  by_cases q3 : r.k = 3
  · rw [q3]; exact does_3 B h d s w0 w _ _ _ _ _ _ r.lb rr ok a4 a5 (fun w1 hb => a6.1.below (by rw [hB]; exact hb)) a6.2 hll
  by_cases q4 : r.k = 4
  · rw [q4]; exact does_4 B h d s w0 w _ _ _ _ rr ok
  exact does_5 B h d s w0 w _ _ _ _ _ rr ok q0 q1 q2 q3 q4
theorem sum_mem : ∀ {rs : List Ac} {r : Ac}, r ∈ rs → r.ll ≤ sumL rs
  | x :: xs, r, h => by
    rcases List.mem_cons.1 h with rfl | h
    · simp [sumL]
    · have := sum_mem h
      simp [sumL] at this ⊢
      omega
end Go.Proofs.Ythdbaiddmelhgaa
