/- Layer 14, the program: Rect and Arrangement of a nil tree. -/
import Derived.Test.YtilfgbcbodjegaaP14w
import Derived.Test.YtilfgbcbodjegaaP14n
namespace Go.Proofs.Ytilfgbcbodjegaa
open Go.RowKit
set_option maxHeartbeats 1000000
set_option maxRecDepth 100000
set_option linter.unusedVariables false

theorem rect_nil (x : Int) (w : World) :
    Calls Try.prog 14 #[.pointer none, .int .i64 x] w fun e w' => e = .returned (.tuple #[.agg #[.int .i64 0, .int .i64 0, .int .i64 0, .int .i64 0], .bool false]) ∧ Below w.heap.size w w' := by
  have HA : Hid (∀ w1, KpB w w1 w.heap.size → Calls Try.prog 36 #[.pointer none, .int .i64 x] w1 fun e w' => e = .returned (.pointer none) ∧ Hid (KpB w w' w.heap.size)) := hidden (fun w1 h1 => (at_nil x w1).mono (fun e w' hh => ⟨hh.1, hidden (by rw [hh.2]; exact h1)⟩))
  have HK : Hid (KpB w (w.alloc (.cells #[.int .i64 0, .int .i64 0, .int .i64 0, .int .i64 0] 36)) w.heap.size) := hidden ⟨(Below.refl _ _).alloc (Nat.le_refl _) _, heap_alloc_new w _⟩
  go_enter Try.func14, Try.ntmps14
  go_upto_region 1 with fail
  generalize w.alloc (.cells #[.int .i64 0, .int .i64 0, .int .i64 0, .int .i64 0] 36) = W at *
  obtain ⟨G, hG⟩ : ∃ G, w.heap.size = G := ⟨_, rfl⟩
  have HG : Hid (w.heap.size ≤ G) := hidden (by omega)
  rw [hG] at HK HA
  rw [hG]
  clear hG
  go_wp2_with (first | (go_at_call 36; refine (HA.out _ HK.out).mono ?_; rintro e w2 ⟨rfl, HK2⟩; obtain ⟨y0, y1, y2, y3, x0, x1, x2, x3⟩ := HK2.out.cells) | fail)
  exact bodyPost_ret (v := .tuple #[.agg #[.int .i64 0, .int .i64 0, .int .i64 0, .int .i64 0], .bool false]) (by simp [results, Try.results14, go_sem, y0, y1, y2, y3]) rfl ⟨rfl, below_set (below_set (below_set (below_set HK2.out.bel G 0 _ HG.out) G 1 _ HG.out) G 2 _ HG.out) G 3 _ HG.out⟩
theorem arrangement_nil (x : Int) (w : World) : Calls Try.prog 28 #[.pointer none, .int .i64 x] w fun e w' => e = .returned (.tuple #[.int .i64 0, .int .u32 0, .int .i64 0, .int .i64 8]) ∧ w' = w := by
  have HA := hidden (pairAt_nil x w)
  go_enter Try.func28, Try.ntmps28
  go_wp2_with (first | (go_at_call 48; refine HA.out.mono ?_; rintro e w1 ⟨rfl, e1⟩; rw [e1]; clear e1) | fail)
  exact bodyPost_ret (v := .tuple #[.int .i64 0, .int .u32 0, .int .i64 0, .int .i64 8]) (by simp [results, Try.results28, go_sem]) rfl ⟨rfl, rfl⟩
theorem close_none {B m : Nat} {v : Value} {s : Ps} {w : World} (h : PAt B w m v s) (ho : OkP s) (x : Int) (hx : ∀ d ∈ s.L, d.n ≠ x) :
    Calls Try.prog 23 #[.pointer (some ⟨m, 0, none⟩), .int .i64 x] w fun e w' => e = .returned (.tuple #[.slice none 0 0, .int .i64 5]) ∧ Below w.heap.size w w' := by
  have HA := hidden (at_none h ho.so (by have := ho.few; omega) x hx)
  clear h ho hx
  go_enter Try.func23, Try.ntmps23
  go_wp2_with (first | (go_at_call 36; refine HA.out.mono ?_; rintro e w1 ⟨rfl, hb1⟩; have HB1 := hidden hb1; clear hb1) | fail)
  go_ret2
  exact ⟨rfl, HB1.out⟩
end Go.Proofs.Ytilfgbcbodjegaa
