/- Layer 15, the program: a nil shelf. -/
import Derived.Test.YtolfhobdckjnhaaU15b
namespace Go.Proofs.Ytolfhobdckjnhaa
open Go.RowKit
set_option maxHeartbeats 1000000
set_option maxRecDepth 100000
set_option linter.unusedVariables false

theorem mayOpen_nil (nm : ByteArray) (md : Int) (w : World) : Calls Try.prog 27 #[.pointer none, .string nm, .int .i64 md] w fun e w' => e = .returned (.int .i64 8) ∧ w' = w := by
  go_enter Try.func27, Try.ntmps27
  go_wp2
  go_ret
  exact ⟨rfl, rfl⟩
theorem open_nil (nm : ByteArray) (md : Int) (wide : Bool) (w : World) : Calls Try.prog 9 #[.pointer none, .string nm, .int .i64 md, .bool wide] w fun e w' => e = .returned (.tuple #[.int .i64 0, .int .i64 8]) ∧ w' = w := by
  have HM := hidden (mayOpen_nil nm md w)
  go_enter Try.func9, Try.ntmps9
  go_wp2_with (first | (go_at_call 27; refine HM.out.mono ?_; rintro e w1 ⟨rfl, e1⟩; rw [e1]; clear e1) | fail)
  go_ret2
  exact ⟨rfl, rfl⟩
theorem buffer_nil (a : Option Addr) (n c : Nat) (md : Int) (wide : Bool) (w : World) : Calls Try.prog 10 #[.pointer none, .slice a n c, .int .i64 md, .bool wide] w fun e w' => e = .returned (.tuple #[.int .i64 0, .int .i64 8]) ∧ w' = w := by
  go_enter Try.func10, Try.ntmps10
  go_wp2
  go_ret2
  exact ⟨rfl, rfl⟩
theorem readerAt_nil (x : Int) (w : World) : Calls Try.prog 33 #[.pointer none, .int .i64 x] w fun e w' => e = .returned (.tuple #[.pointer none, .int .i64 8]) ∧ w' = w := by
  have HA := hidden (at_nil x w)
  go_enter Try.func33, Try.ntmps33
  go_wp2_with (first | (go_at_call 35; refine HA.out.mono ?_; rintro e w1 ⟨rfl, e1⟩; rw [e1]; clear e1) | fail)
  go_ret2
  exact ⟨rfl, rfl⟩
theorem read_nil (x : Int) (w : World) : Calls Try.prog 11 #[.pointer none, .int .i64 x] w fun e w' => e = .returned (.tuple #[.int .u32 0, .bool false, .int .i64 8]) ∧ w' = w := by
  have HA := hidden (readerAt_nil x w)
  go_enter Try.func11, Try.ntmps11
  go_wp2_with (first | (go_at_call 33; refine HA.out.mono ?_; rintro e w1 ⟨rfl, e1⟩; rw [e1]; clear e1) | fail)
  exact bodyPost_ret (v := .tuple #[.int .u32 0, .bool false, .int .i64 8]) (by simp [results, Try.results11, go_sem]) rfl ⟨rfl, rfl⟩
theorem line_nil (x y : Int) (w : World) : Calls Try.prog 12 #[.pointer none, .int .i64 x, .int .i64 y] w fun e w' => e = .returned (.tuple #[.slice none 0 0, .int .i64 8]) ∧ w' = w := by
  have HA := hidden (readerAt_nil x w)
  go_enter Try.func12, Try.ntmps12
  go_wp2_with (first | (go_at_call 33; refine HA.out.mono ?_; rintro e w1 ⟨rfl, e1⟩; rw [e1]; clear e1) | fail)
  go_ret2
  exact ⟨rfl, rfl⟩
theorem tell_nil (x : Int) (w : World) : Calls Try.prog 13 #[.pointer none, .int .i64 x] w fun e w' => e = .returned (.tuple #[.int .i64 0, .int .i64 0, .int .i64 8]) ∧ w' = w := by
  have HA := hidden (at_nil x w)
  go_enter Try.func13, Try.ntmps13
  go_wp2_with (first | (go_at_call 35; refine HA.out.mono ?_; rintro e w1 ⟨rfl, e1⟩; rw [e1]; clear e1) | fail)
  exact bodyPost_ret (v := .tuple #[.int .i64 0, .int .i64 0, .int .i64 8]) (by simp [results, Try.results13, go_sem]) rfl ⟨rfl, rfl⟩
theorem close_nil (x : Int) (w : World) : Calls Try.prog 14 #[.pointer none, .int .i64 x] w fun e w' => e = .returned (.tuple #[.int .u32 0, .int .u32 0, .slice none 0 0, .int .i64 8]) ∧ Below w.heap.size w w' := by
  have HA := hidden (at_nil x w)
  go_enter Try.func14, Try.ntmps14
  go_wp2_with (first | (go_at_call 35; refine HA.out.mono ?_; rintro e w1 ⟨rfl, e1⟩; rw [e1]; clear e1) | fail)
  exact bodyPost_ret (v := .tuple #[.int .u32 0, .int .u32 0, .slice none 0 0, .int .i64 8]) (by simp [results, Try.results14, go_sem]) rfl ⟨rfl, (Below.refl _ _).alloc (Nat.le_refl _) _⟩
theorem get_nil (nm : ByteArray) (w : World) : Calls Try.prog 15 #[.pointer none, .string nm] w fun e w' => e = .returned (.tuple #[.slice none 0 0, .bool false]) ∧ w' = w := by
  go_enter Try.func15, Try.ntmps15
  go_wp2
  go_ret2
  exact ⟨rfl, rfl⟩
theorem total_nil (w : World) : Calls Try.prog 16 #[.pointer none] w fun e w' => e = .returned (.int .i64 0) ∧ w' = w := by
  go_enter Try.func16, Try.ntmps16
  go_wp2
  go_ret
  exact ⟨rfl, rfl⟩
theorem names_nil (w : World) : Calls Try.prog 17 #[.pointer none] w fun e w' => e = .returned (.slice none 0 0) ∧ w' = w := by
  go_enter Try.func17, Try.ntmps17
  go_wp2
  go_ret
  exact ⟨rfl, rfl⟩
theorem streams_nil (w : World) : Calls Try.prog 18 #[.pointer none] w fun e w' => e = .returned (.slice none 0 0) ∧ w' = w := by
  go_enter Try.func18, Try.ntmps18
  go_wp2
  go_ret
  exact ⟨rfl, rfl⟩
theorem delete_nil (nm : ByteArray) (w : World) : Calls Try.prog 19 #[.pointer none, .string nm] w fun e w' => e = .returned (.bool false) ∧ w' = w := by
  go_enter Try.func19, Try.ntmps19
  go_wp2
  go_ret
  exact ⟨rfl, rfl⟩
theorem mayPut_nil (nm : ByteArray) (n : Int) (w : World) : Calls Try.prog 44 #[.pointer none, .string nm, .int .i64 n] w fun e w' => e = .returned (.int .i64 8) ∧ w' = w := by
  go_enter Try.func44, Try.ntmps44
  go_wp2
  go_ret
  exact ⟨rfl, rfl⟩
theorem put_nil (nm : ByteArray) (a : Option Addr) (n c : Nat) (w : World) : Calls Try.prog 21 #[.pointer none, .string nm, .slice a n c] w fun e w' => e = .returned (.int .i64 8) ∧ w' = w := by
  have HM := hidden (mayPut_nil nm n w)
  go_enter Try.func21, Try.ntmps21
  go_wp2_with (first | (go_at_call 44; refine HM.out.mono ?_; rintro e w1 ⟨rfl, e1⟩; rw [e1]; clear e1) | fail)
  go_ret
  exact ⟨rfl, rfl⟩
theorem write_nil (x : Int) (a : Option Addr) (n c : Nat) (w : World) : Calls Try.prog 22 #[.pointer none, .int .i64 x, .slice a n c] w fun e w' => e = .returned (.int .i64 8) ∧ w' = w := by
  have HA := hidden (at_nil x w)
  go_enter Try.func22, Try.ntmps22
  go_wp2_with (first | (go_at_call 35; refine HA.out.mono ?_; rintro e w1 ⟨rfl, e1⟩; rw [e1]; clear e1) | fail)
  go_ret
  exact ⟨rfl, rfl⟩
theorem seek_nil (x y z : Int) (w : World) : Calls Try.prog 23 #[.pointer none, .int .i64 x, .int .i64 y, .int .i64 z] w fun e w' => e = .returned (.int .i64 8) ∧ w' = w := by
  have HA := hidden (at_nil x w)
  go_enter Try.func23, Try.ntmps23
  go_wp2_with (first | (go_at_call 35; refine HA.out.mono ?_; rintro e w1 ⟨rfl, e1⟩; rw [e1]; clear e1) | fail)
  go_ret
  exact ⟨rfl, rfl⟩
end Go.Proofs.Ytolfhobdckjnhaa
