/- A nil memory; the walk of MemoryNil. -/
import Derived.Test.YthfjjkikeebopaaY9R
namespace Go.Proofs.Ythfjjkikeebopaa
open Go.RowKit
set_option maxHeartbeats 1000000
set_option maxRecDepth 100000
set_option linter.unusedVariables false

theorem protectN (a b : Int) (w : World) : Calls Try.prog 8 #[.pointer none, .int .u32 a, .int .u32 b] w fun e w' => e = .returned (.tuple #[]) ∧ w' = w := by
  go_enter Try.func8, Try.ntmps8
  go_wp2
  exact bodyPost_ret (v := .tuple #[]) (by simp [results, Try.results8, go_sem]) rfl ⟨rfl, rfl⟩
theorem restartN (w : World) : Calls Try.prog 17 #[.pointer none] w fun e w' => e = .returned (.tuple #[]) ∧ w' = w := by
  go_enter Try.func17, Try.ntmps17
  go_wp2
  exact bodyPost_ret (v := .tuple #[]) (by simp [results, Try.results17, go_sem]) rfl ⟨rfl, rfl⟩
theorem readN (a n : Int) (w : World) : Calls Try.prog 18 #[.pointer none, .int .u32 a, .int .i64 n] w fun e w' => e = .returned (.tuple #[.int .u32 0, .int .i64 8]) ∧ w' = w := by
  go_enter Try.func18, Try.ntmps18
  go_wp2
  go_ret2
  exact ⟨rfl, rfl⟩
theorem writeN (a n x : Int) (w : World) : Calls Try.prog 19 #[.pointer none, .int .u32 a, .int .i64 n, .int .u32 x] w fun e w' => e = .returned (.int .i64 8) ∧ w' = w := by
  go_enter Try.func19, Try.ntmps19
  go_wp2
  go_ret
  exact ⟨rfl, rfl⟩
theorem fillN (a n : Int) (w : World) : Calls Try.prog 20 #[.pointer none, .int .u32 a, .int .u32 n] w fun e w' => e = .returned (.int .i64 8) ∧ w' = w := by
  go_enter Try.func20, Try.ntmps20
  go_wp2
  go_ret
  exact ⟨rfl, rfl⟩
theorem moveN (a b n : Int) (w : World) : Calls Try.prog 21 #[.pointer none, .int .u32 a, .int .u32 b, .int .u32 n] w fun e w' => e = .returned (.int .i64 8) ∧ w' = w := by
  go_enter Try.func21, Try.ntmps21
  go_wp2
  go_ret
  exact ⟨rfl, rfl⟩
theorem resizeN (n : Int) (w : World) : Calls Try.prog 22 #[.pointer none, .int .u32 n] w fun e w' => e = .returned (.bool false) ∧ w' = w := by
  go_enter Try.func22, Try.ntmps22
  go_wp2
  go_ret
  exact ⟨rfl, rfl⟩
theorem mallocMN (n : Int) (w : World) : Calls Try.prog 15 #[.pointer none, .int .u32 n] w fun e w' => e = .returned (.int .u32 0) ∧ w' = w := by
  go_enter Try.func15, Try.ntmps15
  go_wp2
  go_ret
  exact ⟨rfl, rfl⟩
theorem freeMN (n : Int) (w : World) : Calls Try.prog 23 #[.pointer none, .int .u32 n] w fun e w' => e = .returned (.int .i64 8) ∧ w' = w := by
  go_enter Try.func23, Try.ntmps23
  go_wp2
  go_ret
  exact ⟨rfl, rfl⟩
theorem loadMN (v u : Value) (n : Int) (w : World) : Calls Try.prog 11 #[.pointer none, v, .int .u32 n, u] w fun e w' => e = .returned (.int .i64 8) ∧ w' = w := by
  go_enter Try.func11, Try.ntmps11
  go_wp2
  go_ret
  exact ⟨rfl, rfl⟩
theorem heapMN (w : World) : Calls Try.prog 9 #[.pointer none] w fun e w' => e = .returned (.tuple #[.int .u32 0, .slice none 0 0]) ∧ w' = w := by
  go_enter Try.func9, Try.ntmps9
  go_wp2
  go_ret2
  exact ⟨rfl, rfl⟩
theorem sizeMN (w : World) : Calls Try.prog 16 #[.pointer none] w fun e w' => e = .returned (.int .u32 0) ∧ w' = w := by
  go_enter Try.func16, Try.ntmps16
  go_wp2
  go_ret
  exact ⟨rfl, rfl⟩
theorem bytesMN (w : World) : Calls Try.prog 12 #[.pointer none] w fun e w' => e = .returned (.slice none 0 0) ∧ w' = w := by
  go_enter Try.func12, Try.ntmps12
  go_wp2
  go_ret
  exact ⟨rfl, rfl⟩
theorem gameMN (w : World) : Calls Try.prog 25 #[.pointer none] w fun e w' => e = .returned (.slice none 0 0) ∧ w' = w := by
  go_enter Try.func25, Try.ntmps25
  go_wp2
  go_ret
  exact ⟨rfl, rfl⟩
theorem copyMN (w : World) : Calls Try.prog 26 #[.pointer none] w fun e w' => e = .returned (.pointer none) ∧ w' = w := by
  go_enter Try.func26, Try.ntmps26
  go_wp2
  go_ret
  exact ⟨rfl, rfl⟩
theorem headerMN (w : World) : Calls Try.prog 24 #[.pointer none] w fun e w' => e = .returned (.agg #[.int .u32 0, .int .u32 0, .int .u32 0, .int .u32 0, .int .u32 0, .int .u32 0, .int .u32 0, .int .u32 0]) ∧ Below w.heap.size w w' := by
  go_enter Try.func24, Try.ntmps24
  go_wp2
  refine bodyPost_ret (v := .agg #[.int .u32 0, .int .u32 0, .int .u32 0, .int .u32 0, .int .u32 0, .int .u32 0, .int .u32 0, .int .u32 0]) (by simp [results, Try.results24, go_sem]) rfl ⟨rfl, ?_⟩
  exact (Below.refl _ _).alloc (Nat.le_refl _) _
theorem memoryNil_walk (n k : Int) (a : Option Addr) (len cap : Nat) (zs : List Int) (w : World) (hn : (Lit.int .u32 n).wf = true) (hk : (Lit.int .i64 k).wf = true) (hb : IsRow .u8 w a len cap zs) :
    Calls Try.prog 4 #[.int .u32 n, .int .i64 k, .slice a len cap] w fun e w' => e = .returned (.bool true) ∧ Below w.heap.size w w' := by
  clear hn hk
  have hlen := (reads_of_row hb).2.2
  have HL : Hid (∀ w1, Below w.heap.size w w1 → Calls Try.prog 6 #[] w1 fun e w' => e = .returned (.bool true) ∧ Below w.heap.size w w') := fun w1 hb1 => (live_any w1).mono (fun e w' hh => ⟨hh.1, hb1.trans (hh.2.mono hb1.size)⟩)
  clear hb
  have hb0 := Below.refl w.heap.size w
  by_cases hl : 16384 < len
  · have c1 : (16384 : Int) < (len : Int) := by omega
    go_enter Try.func4, Try.ntmps4
    go_wp2_with (go_at_call 6; refine (HL.out _ hb0).mono ?_; rintro e w1 ⟨rfl, hb1⟩)
    go_ret
    exact ⟨rfl, hb1⟩
  · have c1 : ¬ (16384 : Int) < (len : Int) := by omega
    go_enter Try.func4, Try.ntmps4
    go_wp2_with (first | (go_at_call 8; refine (protectN _ _ _).mono ?_; rintro e w1 ⟨rfl, rfl⟩) | (go_at_call 17; refine (restartN _).mono ?_; rintro e w1 ⟨rfl, rfl⟩) | (go_at_call 18; refine (readN _ _ _).mono ?_; rintro e w1 ⟨rfl, rfl⟩) | (go_at_call 9; refine (heapMN _).mono ?_; rintro e w1 ⟨rfl, rfl⟩) | (go_at_call 19; refine (writeN _ _ _ _).mono ?_; rintro e w1 ⟨rfl, rfl⟩) | (go_at_call 20; refine (fillN _ _ _).mono ?_; rintro e w1 ⟨rfl, rfl⟩) | (go_at_call 21; refine (moveN _ _ _ _).mono ?_; rintro e w1 ⟨rfl, rfl⟩) | (go_at_call 22; refine (resizeN _ _).mono ?_; rintro e w1 ⟨rfl, rfl⟩) | (go_at_call 15; refine (mallocMN _ _).mono ?_; rintro e w1 ⟨rfl, rfl⟩) | (go_at_call 23; refine (freeMN _ _).mono ?_; rintro e w1 ⟨rfl, rfl⟩) | (go_at_call 11; refine (loadMN _ _ _ _).mono ?_; rintro e w1 ⟨rfl, rfl⟩) | (go_at_call 16; refine (sizeMN _).mono ?_; rintro e w1 ⟨rfl, rfl⟩) | (go_at_call 24; refine (headerMN _).mono ?_; rintro e w2 ⟨rfl, hb2⟩) | (go_at_call 12; refine (bytesMN _).mono ?_; rintro e w1 ⟨rfl, e9⟩; rw [e9]; clear e9) | (go_at_call 25; refine (gameMN _).mono ?_; rintro e w1 ⟨rfl, e9⟩; rw [e9]; clear e9) | (go_at_call 26; refine (copyMN _).mono ?_; rintro e w1 ⟨rfl, e9⟩; rw [e9]; clear e9) | (go_at_call 10; refine (num9 _ _).mono ?_; rintro e w3 ⟨rfl, rfl⟩) | (go_at_call 6; refine (HL.out _ hb2).mono ?_; rintro e w4 ⟨rfl, hb4⟩) | fail)
    go_ret
    exact ⟨rfl, hb4⟩
end Go.Proofs.Ythfjjkikeebopaa
