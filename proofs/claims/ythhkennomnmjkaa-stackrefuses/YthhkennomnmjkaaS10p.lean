/- Contracts on a nil stack; Bytes, Copy. -/
import Derived.Test.YthhkennomnmjkaaS10o
import Derived.Test.YthhkennomnmjkaaS10q
namespace Go.Proofs.Ythhkennomnmjkaa
open Go.RowKit
set_option maxHeartbeats 1000000
set_option maxRecDepth 100000
set_option linter.unusedVariables false

theorem kLocal_nil (x n : Int) (w : World) : Calls Try.prog 40 #[.pointer none, .int .u32 x, .int .i64 n] w fun e w' => e = .returned (.tuple #[.int .u32 0, .int .i64 8]) ∧ w' = w := by
  go_enter Try.func40, Try.ntmps40
  go_wp2_with (go_at_call 69; refine (klacksL_nil _ _ _).mono ?_; rintro e w1 ⟨rfl, rfl⟩)
  go_ret2
  exact ⟨rfl, rfl⟩
theorem kSetLocal_nil (x n y : Int) (w : World) : Calls Try.prog 42 #[.pointer none, .int .u32 x, .int .i64 n, .int .u32 y] w fun e w' => e = .returned (.int .i64 8) ∧ w' = w := by
  go_enter Try.func42, Try.ntmps42
  go_wp2_with (go_at_call 69; refine (klacksL_nil _ _ _).mono ?_; rintro e w1 ⟨rfl, rfl⟩)
  go_ret
  exact ⟨rfl, rfl⟩
theorem kArgs_nil (v : Value) (w : World) (hv : v.oneCell' = true) : Calls Try.prog 38 #[.pointer none, v] w fun e w' => e = .returned (.int .i64 8) ∧ Below w.heap.size w w' := by
  go_enter Try.func38, Try.ntmps38
  go_wp2_with (go_at_call 51; refine (klacks_nil _ _).mono ?_; rintro e w1 ⟨rfl, rfl⟩)
  go_ret
  exact ⟨rfl, (Below.refl _ _).alloc (Nat.le_refl _) _⟩
theorem kDup_nil (x : Int) (w : World) : Calls Try.prog 32 #[.pointer none, .int .u32 x] w fun e w' => e = .returned (.int .i64 8) ∧ w' = w := by
  go_enter Try.func32, Try.ntmps32
  go_wp2_with (go_at_call 50; refine (kroomf_nil _ _ _).mono ?_; rintro e w1 ⟨rfl, rfl⟩)
  go_ret
  exact ⟨rfl, rfl⟩
theorem kThrow_nil (x : Int) (w : World) : Calls Try.prog 74 #[.pointer none, .int .u32 x] w fun e w' => e = .returned (.int .i64 8) ∧ Below w.heap.size w w' := by
  have hb1 : Below w.heap.size w (w.alloc (.cells #[.pointer none] 30)) := (Below.refl _ _).alloc (Nat.le_refl _) _
  go_enter Try.func74, Try.ntmps74
  go_wp2
  have hc : ((w.alloc (.cells #[.pointer none] 30)).alloc (.cells #[.int .i64 8] 43)).cell? ⟨w.heap.size + 1, 0, none⟩ = some (.int .i64 8) := by
    have := cell_of_one (heap_alloc_new (w.alloc (.cells #[.pointer none] 30)) (.cells #[.int .i64 8] 43))
    rwa [World.size_alloc] at this
  refine bodyPost_ret (v := .int .i64 8) (by simp [results, Try.results74, go_sem, hc]) rfl ⟨rfl, hb1.alloc (by simp) _⟩
theorem kLoad_nil (v : Value) (w : World) : Calls Try.prog 76 #[.pointer none, v] w fun e w' => e = .returned (.int .i64 8) ∧ w' = w := by
  go_enter Try.func76, Try.ntmps76
  go_wp2
  go_ret
  exact ⟨rfl, rfl⟩
theorem kBytes_nil (w : World) : Calls Try.prog 7 #[.pointer none] w fun e w' => e = .returned (.slice none 0 0) ∧ w' = w := by
  go_enter Try.func7, Try.ntmps7
  go_wp2
  go_ret
  exact ⟨rfl, rfl⟩
theorem kCopy_nil (w : World) : Calls Try.prog 79 #[.pointer none] w fun e w' => e = .returned (.pointer none) ∧ w' = w := by
  go_enter Try.func79, Try.ntmps79
  go_wp2
  go_ret
  exact ⟨rfl, rfl⟩
theorem kBytes_any (B m : Nat) (v : Value) (s : Ks) (w : World) (h : KAt B w m v s) (hl : s.bs.length ≤ 2000000) :
    Calls Try.prog 7 #[.pointer (some ⟨m, 0, none⟩)] w fun e w' => ∃ a' c', e = .returned (.slice a' s.bs.length c') ∧ w'.ownsRow w.heap.size 5 1 (.slice a' s.bs.length c') s.bs.length (bytesV s.bs) ∧ Below w.heap.size w w' := by
  obtain ⟨a, c, rfl, kc⟩ := h.kc'
  have HC := hidden (bclone_any a _ c s.bs w kc.rd hl)
  have c1 := kc.c1
  clear h kc
  generalize s.bs.length = L at *
  go_enter Try.func7, Try.ntmps7
  go_wp2_with (go_at_call 24; refine HC.out.mono ?_; rintro e w1 ⟨a', c', rfl, ho, hb⟩)
  go_ret
  exact ⟨a', c', rfl, ho, hb⟩
theorem num10 (n : Int) (w : World) : Calls Try.prog 14 #[.int .i64 n] w fun e w' => e = .returned (.int .i64 n) ∧ w' = w := by
  go_enter Try.func14, Try.ntmps14
  go_wp2
  go_ret
  exact ⟨rfl, rfl⟩
end Go.Proofs.Ythhkennomnmjkaa
