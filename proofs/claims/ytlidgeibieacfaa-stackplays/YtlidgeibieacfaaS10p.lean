/- Contracts on a nil stack; Bytes, Copy. -/
import Derived.Test.YtlidgeibieacfaaS10o
import Derived.Test.YtlidgeibieacfaaS10q
namespace Go.Proofs.Ytlidgeibieacfaa
open Go.RowKit
set_option maxHeartbeats 1000000
set_option maxRecDepth 100000
set_option linter.unusedVariables false

theorem kLocal_nil (x n : Int) (w : World) : Calls Try.prog 37 #[.pointer none, .int .u32 x, .int .i64 n] w fun e w' => e = .returned (.tuple #[.int .u32 0, .int .i64 8]) ∧ w' = w := by
  go_enter Try.func37, Try.ntmps37
  go_wp2_with (go_at_call 69; refine (klacksL_nil _ _ _).mono ?_; rintro e w1 ⟨rfl, rfl⟩)
  go_ret2
  exact ⟨rfl, rfl⟩
theorem kSetLocal_nil (x n y : Int) (w : World) : Calls Try.prog 39 #[.pointer none, .int .u32 x, .int .i64 n, .int .u32 y] w fun e w' => e = .returned (.int .i64 8) ∧ w' = w := by
  go_enter Try.func39, Try.ntmps39
  go_wp2_with (go_at_call 69; refine (klacksL_nil _ _ _).mono ?_; rintro e w1 ⟨rfl, rfl⟩)
  go_ret
  exact ⟨rfl, rfl⟩
theorem kArgs_nil (v : Value) (w : World) (hv : v.oneCell' = true) : Calls Try.prog 35 #[.pointer none, v] w fun e w' => e = .returned (.int .i64 8) ∧ Below w.heap.size w w' := by
  go_enter Try.func35, Try.ntmps35
  go_wp2_with (go_at_call 52; refine (klacks_nil _ _).mono ?_; rintro e w1 ⟨rfl, rfl⟩)
  go_ret
  exact ⟨rfl, (Below.refl _ _).alloc (Nat.le_refl _) _⟩
theorem kDup_nil (x : Int) (w : World) : Calls Try.prog 28 #[.pointer none, .int .u32 x] w fun e w' => e = .returned (.int .i64 8) ∧ w' = w := by
  go_enter Try.func28, Try.ntmps28
  go_wp2_with (go_at_call 51; refine (kroomf_nil _ _ _).mono ?_; rintro e w1 ⟨rfl, rfl⟩)
  go_ret
  exact ⟨rfl, rfl⟩
theorem kThrow_nil (x : Int) (w : World) : Calls Try.prog 74 #[.pointer none, .int .u32 x] w fun e w' => e = .returned (.int .i64 8) ∧ Below w.heap.size w w' := by
  have hb1 : Below w.heap.size w (w.alloc (.cells #[.pointer none] 25)) := (Below.refl _ _).alloc (Nat.le_refl _) _
  go_enter Try.func74, Try.ntmps74
  go_wp2
  have hc : ((w.alloc (.cells #[.pointer none] 25)).alloc (.cells #[.int .i64 8] 26)).cell? ⟨w.heap.size + 1, 0, none⟩ = some (.int .i64 8) := by
    have := cell_of_one (heap_alloc_new (w.alloc (.cells #[.pointer none] 25)) (.cells #[.int .i64 8] 26))
    rwa [World.size_alloc] at this
  refine bodyPost_ret (v := .int .i64 8) (by simp [results, Try.results74, go_sem, hc]) rfl ⟨rfl, hb1.alloc (by simp) _⟩
theorem kLoad_nil (v : Value) (w : World) : Calls Try.prog 76 #[.pointer none, v] w fun e w' => e = .returned (.int .i64 8) ∧ w' = w := by
  go_enter Try.func76, Try.ntmps76
  go_wp2
  go_ret
  exact ⟨rfl, rfl⟩
theorem kBytes_nil (w : World) : Calls Try.prog 11 #[.pointer none] w fun e w' => e = .returned (.slice none 0 0) ∧ w' = w := by
  go_enter Try.func11, Try.ntmps11
  go_wp2
  go_ret
  exact ⟨rfl, rfl⟩
theorem kCopy_nil (w : World) : Calls Try.prog 78 #[.pointer none] w fun e w' => e = .returned (.pointer none) ∧ w' = w := by
  go_enter Try.func78, Try.ntmps78
  go_wp2
  go_ret
  exact ⟨rfl, rfl⟩
theorem kBytes_any (B m : Nat) (v : Value) (s : Ks) (w : World) (h : KAt B w m v s) (hl : s.bs.length ≤ 2000000) :
    Calls Try.prog 11 #[.pointer (some ⟨m, 0, none⟩)] w fun e w' => ∃ a' c', e = .returned (.slice a' s.bs.length c') ∧ w'.ownsRow w.heap.size 5 1 (.slice a' s.bs.length c') s.bs.length (bytesV s.bs) ∧ Below w.heap.size w w' := by
  obtain ⟨a, c, rfl, kc⟩ := h.kc'
  have HC := hidden (bclone_any a _ c s.bs w kc.rd hl)
  have c1 := kc.c1
  clear h kc
  generalize s.bs.length = L at *
  go_enter Try.func11, Try.ntmps11
  go_wp2_with (go_at_call 45; refine HC.out.mono ?_; rintro e w1 ⟨a', c', rfl, ho, hb⟩)
  go_ret
  exact ⟨a', c', rfl, ho, hb⟩
theorem num10 (n : Int) (w : World) : Calls Try.prog 7 #[.int .i64 n] w fun e w' => e = .returned (.int .i64 n) ∧ w' = w := by
  go_enter Try.func7, Try.ntmps7
  go_wp2
  go_ret
  exact ⟨rfl, rfl⟩
end Go.Proofs.Ytlidgeibieacfaa
