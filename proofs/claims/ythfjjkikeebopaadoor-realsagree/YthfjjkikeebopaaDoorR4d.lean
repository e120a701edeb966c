/- Contracts of package reals: what is reckoned of patterns. -/
import Derived.Test.YthfjjkikeebopaaDoorG4
namespace Go.Proofs.YthfjjkikeebopaaDoor
open Go.RowKit
set_option maxRecDepth 100000
set_option maxHeartbeats 400000
set_option linter.unusedVariables false

theorem reck32_1 (m x a b R Q g : Int) (w : World) (a0 : 0 ≤ a) (a1 : a < 4294967296) (b0 : 0 ≤ b) (b1 : b < 4294967296) (r0 : 0 ≤ R) (r1 : R < 4294967296)
    (H : Hid (∀ w, Calls Tryd.prog 17 #[.agg #[.int .i64 m, .int .i64 x], .int .u64 a, .int .u64 b] w fun r w' => r = .returned (.tuple #[.int .u64 R, .int .i64 g]) ∧ Below w.heap.size w w'))
    : Calls Tryd.prog 10 #[.agg #[.int .i64 m, .int .i64 x], .int .i64 1, .int .u32 a, .int .u32 b] w fun r w' => r = .returned (.tuple #[.int .u32 R, .int .i64 g]) ∧ Below w.heap.size w w' := by
  go_enter Tryd.func10, Tryd.ntmps10
  go_wp2_with (go_at_call 17; refine (H.out _).mono ?_; rintro r w1 ⟨rfl, hb⟩)
  go_ret2
  exact ⟨rfl, box_below _ hb⟩
theorem reck32_2 (m x a b R Q g : Int) (w : World) (a0 : 0 ≤ a) (a1 : a < 4294967296) (b0 : 0 ≤ b) (b1 : b < 4294967296) (r0 : 0 ≤ R) (r1 : R < 4294967296)
    (H : Hid (∀ w, Calls Tryd.prog 18 #[.agg #[.int .i64 m, .int .i64 x], .int .u64 a, .int .u64 b] w fun r w' => r = .returned (.tuple #[.int .u64 R, .int .i64 g]) ∧ Below w.heap.size w w'))
    : Calls Tryd.prog 10 #[.agg #[.int .i64 m, .int .i64 x], .int .i64 2, .int .u32 a, .int .u32 b] w fun r w' => r = .returned (.tuple #[.int .u32 R, .int .i64 g]) ∧ Below w.heap.size w w' := by
  go_enter Tryd.func10, Tryd.ntmps10
  go_wp2_with (go_at_call 18; refine (H.out _).mono ?_; rintro r w1 ⟨rfl, hb⟩)
  go_ret2
  exact ⟨rfl, box_below _ hb⟩
theorem reck32_3 (m x a b R Q g : Int) (w : World) (a0 : 0 ≤ a) (a1 : a < 4294967296) (b0 : 0 ≤ b) (b1 : b < 4294967296) (r0 : 0 ≤ R) (r1 : R < 4294967296)
    (H : Hid (∀ w, Calls Tryd.prog 19 #[.agg #[.int .i64 m, .int .i64 x], .int .u64 a, .int .u64 b] w fun r w' => r = .returned (.tuple #[.int .u64 R, .int .i64 g]) ∧ Below w.heap.size w w'))
    : Calls Tryd.prog 10 #[.agg #[.int .i64 m, .int .i64 x], .int .i64 3, .int .u32 a, .int .u32 b] w fun r w' => r = .returned (.tuple #[.int .u32 R, .int .i64 g]) ∧ Below w.heap.size w w' := by
  go_enter Tryd.func10, Tryd.ntmps10
  go_wp2_with (go_at_call 19; refine (H.out _).mono ?_; rintro r w1 ⟨rfl, hb⟩)
  go_ret2
  exact ⟨rfl, box_below _ hb⟩
theorem reck32_4 (m x a b R Q g : Int) (w : World) (a0 : 0 ≤ a) (a1 : a < 4294967296) (b0 : 0 ≤ b) (b1 : b < 4294967296) (r0 : 0 ≤ R) (r1 : R < 4294967296)
    (H : Hid (∀ w, Calls Tryd.prog 20 #[.agg #[.int .i64 m, .int .i64 x], .int .u64 a, .int .u64 b] w fun r w' => r = .returned (.tuple #[.int .u64 R, .int .i64 g]) ∧ Below w.heap.size w w'))
    : Calls Tryd.prog 10 #[.agg #[.int .i64 m, .int .i64 x], .int .i64 4, .int .u32 a, .int .u32 b] w fun r w' => r = .returned (.tuple #[.int .u32 R, .int .i64 g]) ∧ Below w.heap.size w w' := by
  go_enter Tryd.func10, Tryd.ntmps10
  go_wp2_with (go_at_call 20; refine (H.out _).mono ?_; rintro r w1 ⟨rfl, hb⟩)
  go_ret2
  exact ⟨rfl, box_below _ hb⟩
theorem reck32_5 (m x a b R Q g : Int) (w : World) (a0 : 0 ≤ a) (a1 : a < 4294967296) (b0 : 0 ≤ b) (b1 : b < 4294967296) (r0 : 0 ≤ R) (r1 : R < 4294967296)
    (H : Hid (∀ w, Calls Tryd.prog 21 #[.agg #[.int .i64 m, .int .i64 x], .int .u64 a, .int .u64 b] w fun r w' => r = .returned (.tuple #[.int .u64 R, .int .u64 Q, .int .i64 g]) ∧ Below w.heap.size w w'))
    : Calls Tryd.prog 10 #[.agg #[.int .i64 m, .int .i64 x], .int .i64 5, .int .u32 a, .int .u32 b] w fun r w' => r = .returned (.tuple #[.int .u32 R, .int .i64 g]) ∧ Below w.heap.size w w' := by
  go_enter Tryd.func10, Tryd.ntmps10
  go_wp2_with (go_at_call 21; refine (H.out _).mono ?_; rintro r w1 ⟨rfl, hb⟩)
  go_ret2
  exact ⟨rfl, box_below _ hb⟩
theorem reck32_6 (m x a b R Q g : Int) (w : World) (a0 : 0 ≤ a) (a1 : a < 4294967296) (b0 : 0 ≤ b) (b1 : b < 4294967296) (r0 : 0 ≤ R) (r1 : R < 4294967296)
    (H : Hid (∀ w, Calls Tryd.prog 21 #[.agg #[.int .i64 m, .int .i64 x], .int .u64 a, .int .u64 b] w fun r w' => r = .returned (.tuple #[.int .u64 Q, .int .u64 R, .int .i64 g]) ∧ Below w.heap.size w w'))
    : Calls Tryd.prog 10 #[.agg #[.int .i64 m, .int .i64 x], .int .i64 6, .int .u32 a, .int .u32 b] w fun r w' => r = .returned (.tuple #[.int .u32 R, .int .i64 g]) ∧ Below w.heap.size w w' := by
  go_enter Tryd.func10, Tryd.ntmps10
  go_wp2_with (go_at_call 21; refine (H.out _).mono ?_; rintro r w1 ⟨rfl, hb⟩)
  go_ret2
  exact ⟨rfl, box_below _ hb⟩
theorem reck32_7 (m x a b R Q g : Int) (w : World) (a0 : 0 ≤ a) (a1 : a < 4294967296) (b0 : 0 ≤ b) (b1 : b < 4294967296) (r0 : 0 ≤ R) (r1 : R < 4294967296)
    (H : Hid (∀ w, Calls Tryd.prog 22 #[.agg #[.int .i64 m, .int .i64 x], .int .u64 a] w fun r w' => r = .returned (.tuple #[.int .u64 R, .int .i64 g]) ∧ Below w.heap.size w w'))
    : Calls Tryd.prog 10 #[.agg #[.int .i64 m, .int .i64 x], .int .i64 7, .int .u32 a, .int .u32 b] w fun r w' => r = .returned (.tuple #[.int .u32 R, .int .i64 g]) ∧ Below w.heap.size w w' := by
  go_enter Tryd.func10, Tryd.ntmps10
  go_wp2_with (go_at_call 22; refine (H.out _).mono ?_; rintro r w1 ⟨rfl, hb⟩)
  go_ret2
  exact ⟨rfl, box_below _ hb⟩
theorem reck32_8 (m x a b R Q g : Int) (w : World) (a0 : 0 ≤ a) (a1 : a < 4294967296) (b0 : 0 ≤ b) (b1 : b < 4294967296) (r0 : 0 ≤ R) (r1 : R < 4294967296)
    (H : Hid (∀ w, Calls Tryd.prog 23 #[.agg #[.int .i64 m, .int .i64 x], .int .u64 a] w fun r w' => r = .returned (.tuple #[.int .u64 R, .int .i64 g]) ∧ Below w.heap.size w w'))
    : Calls Tryd.prog 10 #[.agg #[.int .i64 m, .int .i64 x], .int .i64 8, .int .u32 a, .int .u32 b] w fun r w' => r = .returned (.tuple #[.int .u32 R, .int .i64 g]) ∧ Below w.heap.size w w' := by
  go_enter Tryd.func10, Tryd.ntmps10
  go_wp2_with (go_at_call 23; refine (H.out _).mono ?_; rintro r w1 ⟨rfl, hb⟩)
  go_ret2
  exact ⟨rfl, box_below _ hb⟩
theorem reck32_9 (m x a b R Q g : Int) (w : World) (a0 : 0 ≤ a) (a1 : a < 4294967296) (b0 : 0 ≤ b) (b1 : b < 4294967296) (r0 : 0 ≤ R) (r1 : R < 4294967296)
    (H : Hid (∀ w, Calls Tryd.prog 24 #[.agg #[.int .i64 m, .int .i64 x], .int .u64 a] w fun r w' => r = .returned (.tuple #[.int .u64 R, .int .i64 g]) ∧ Below w.heap.size w w'))
    : Calls Tryd.prog 10 #[.agg #[.int .i64 m, .int .i64 x], .int .i64 9, .int .u32 a, .int .u32 b] w fun r w' => r = .returned (.tuple #[.int .u32 R, .int .i64 g]) ∧ Below w.heap.size w w' := by
  go_enter Tryd.func10, Tryd.ntmps10
  go_wp2_with (go_at_call 24; refine (H.out _).mono ?_; rintro r w1 ⟨rfl, hb⟩)
  go_ret2
  exact ⟨rfl, box_below _ hb⟩
theorem reck32_no (m x op a b : Int) (w : World) (a0 : 0 ≤ a) (a1 : a < 4294967296) (b0 : 0 ≤ b) (b1 : b < 4294967296) (h : op < 1 ∨ 9 < op)
    : Calls Tryd.prog 10 #[.agg #[.int .i64 m, .int .i64 x], .int .i64 op, .int .u32 a, .int .u32 b] w fun r w' => r = .returned (.tuple #[.int .u32 0, .int .i64 1]) ∧ Below w.heap.size w w' := by
  have h1 : (op == 1) = false := by simp; omega
  have h2 : (op == 2) = false := by simp; omega
  have h3 : (op == 3) = false := by simp; omega
  have h4 : (op == 4) = false := by simp; omega
  have h5 : (op == 5) = false := by simp; omega
  have h6 : (op == 6) = false := by simp; omega
  have h7 : (op == 7) = false := by simp; omega
  have h8 : (op == 8) = false := by simp; omega
  have h9 : (op == 9) = false := by simp; omega
  clear h
  go_enter Tryd.func10, Tryd.ntmps10
  go_wp2
  go_ret2
  exact ⟨rfl, (Below.refl _ _).alloc (Nat.le_refl _) _⟩
theorem pSingle (op a b R g : Int) (w : World) (hl : Laid w)
    (HF : Hid (∀ w, Calls Tryd.prog 10 #[.agg #[.int .i64 23, .int .i64 8], .int .i64 op, .int .u32 a, .int .u32 b] w fun r w' => r = .returned (.tuple #[.int .u32 R, .int .i64 g]) ∧ Below w.heap.size w w'))
    : Calls Tryd.prog 4 #[.int .i64 op, .int .u32 a, .int .u32 b] w fun r w' => r = .returned (.tuple #[.int .u32 R, .int .i64 g]) ∧ Below w.heap.size w w' := by
  obtain ⟨l0, l1, l2, l3⟩ := hl
  go_enter Tryd.func4, Tryd.ntmps4
  go_wp2_with (go_at_call 10; refine (HF.out _).mono ?_; rintro r w1 ⟨rfl, hb⟩)
  go_ret2
  exact ⟨rfl, hb⟩
theorem reck64_1 (m x a b R Q g : Int) (w : World) (a0 : 0 ≤ a) (a1 : a < 18446744073709551616) (b0 : 0 ≤ b) (b1 : b < 18446744073709551616) (r0 : 0 ≤ R) (r1 : R < 18446744073709551616)
    (H : Hid (∀ w, Calls Tryd.prog 17 #[.agg #[.int .i64 m, .int .i64 x], .int .u64 a, .int .u64 b] w fun r w' => r = .returned (.tuple #[.int .u64 R, .int .i64 g]) ∧ Below w.heap.size w w'))
    : Calls Tryd.prog 11 #[.agg #[.int .i64 m, .int .i64 x], .int .i64 1, .int .u64 a, .int .u64 b] w fun r w' => r = .returned (.tuple #[.int .u64 R, .int .i64 g]) ∧ Below w.heap.size w w' := by
  go_enter Tryd.func11, Tryd.ntmps11
  go_wp2_with (go_at_call 17; refine (H.out _).mono ?_; rintro r w1 ⟨rfl, hb⟩)
  go_ret2
  exact ⟨rfl, box_below _ hb⟩
theorem reck64_2 (m x a b R Q g : Int) (w : World) (a0 : 0 ≤ a) (a1 : a < 18446744073709551616) (b0 : 0 ≤ b) (b1 : b < 18446744073709551616) (r0 : 0 ≤ R) (r1 : R < 18446744073709551616)
    (H : Hid (∀ w, Calls Tryd.prog 18 #[.agg #[.int .i64 m, .int .i64 x], .int .u64 a, .int .u64 b] w fun r w' => r = .returned (.tuple #[.int .u64 R, .int .i64 g]) ∧ Below w.heap.size w w'))
    : Calls Tryd.prog 11 #[.agg #[.int .i64 m, .int .i64 x], .int .i64 2, .int .u64 a, .int .u64 b] w fun r w' => r = .returned (.tuple #[.int .u64 R, .int .i64 g]) ∧ Below w.heap.size w w' := by
  go_enter Tryd.func11, Tryd.ntmps11
  go_wp2_with (go_at_call 18; refine (H.out _).mono ?_; rintro r w1 ⟨rfl, hb⟩)
  go_ret2
  exact ⟨rfl, box_below _ hb⟩
theorem reck64_3 (m x a b R Q g : Int) (w : World) (a0 : 0 ≤ a) (a1 : a < 18446744073709551616) (b0 : 0 ≤ b) (b1 : b < 18446744073709551616) (r0 : 0 ≤ R) (r1 : R < 18446744073709551616)
    (H : Hid (∀ w, Calls Tryd.prog 19 #[.agg #[.int .i64 m, .int .i64 x], .int .u64 a, .int .u64 b] w fun r w' => r = .returned (.tuple #[.int .u64 R, .int .i64 g]) ∧ Below w.heap.size w w'))
    : Calls Tryd.prog 11 #[.agg #[.int .i64 m, .int .i64 x], .int .i64 3, .int .u64 a, .int .u64 b] w fun r w' => r = .returned (.tuple #[.int .u64 R, .int .i64 g]) ∧ Below w.heap.size w w' := by
  go_enter Tryd.func11, Tryd.ntmps11
  go_wp2_with (go_at_call 19; refine (H.out _).mono ?_; rintro r w1 ⟨rfl, hb⟩)
  go_ret2
  exact ⟨rfl, box_below _ hb⟩
theorem reck64_4 (m x a b R Q g : Int) (w : World) (a0 : 0 ≤ a) (a1 : a < 18446744073709551616) (b0 : 0 ≤ b) (b1 : b < 18446744073709551616) (r0 : 0 ≤ R) (r1 : R < 18446744073709551616)
    (H : Hid (∀ w, Calls Tryd.prog 20 #[.agg #[.int .i64 m, .int .i64 x], .int .u64 a, .int .u64 b] w fun r w' => r = .returned (.tuple #[.int .u64 R, .int .i64 g]) ∧ Below w.heap.size w w'))
    : Calls Tryd.prog 11 #[.agg #[.int .i64 m, .int .i64 x], .int .i64 4, .int .u64 a, .int .u64 b] w fun r w' => r = .returned (.tuple #[.int .u64 R, .int .i64 g]) ∧ Below w.heap.size w w' := by
  go_enter Tryd.func11, Tryd.ntmps11
  go_wp2_with (go_at_call 20; refine (H.out _).mono ?_; rintro r w1 ⟨rfl, hb⟩)
  go_ret2
  exact ⟨rfl, box_below _ hb⟩
theorem reck64_5 (m x a b R Q g : Int) (w : World) (a0 : 0 ≤ a) (a1 : a < 18446744073709551616) (b0 : 0 ≤ b) (b1 : b < 18446744073709551616) (r0 : 0 ≤ R) (r1 : R < 18446744073709551616)
    (H : Hid (∀ w, Calls Tryd.prog 21 #[.agg #[.int .i64 m, .int .i64 x], .int .u64 a, .int .u64 b] w fun r w' => r = .returned (.tuple #[.int .u64 R, .int .u64 Q, .int .i64 g]) ∧ Below w.heap.size w w'))
    : Calls Tryd.prog 11 #[.agg #[.int .i64 m, .int .i64 x], .int .i64 5, .int .u64 a, .int .u64 b] w fun r w' => r = .returned (.tuple #[.int .u64 R, .int .i64 g]) ∧ Below w.heap.size w w' := by
  go_enter Tryd.func11, Tryd.ntmps11
  go_wp2_with (go_at_call 21; refine (H.out _).mono ?_; rintro r w1 ⟨rfl, hb⟩)
  go_ret2
  exact ⟨rfl, box_below _ hb⟩
theorem reck64_6 (m x a b R Q g : Int) (w : World) (a0 : 0 ≤ a) (a1 : a < 18446744073709551616) (b0 : 0 ≤ b) (b1 : b < 18446744073709551616) (r0 : 0 ≤ R) (r1 : R < 18446744073709551616)
    (H : Hid (∀ w, Calls Tryd.prog 21 #[.agg #[.int .i64 m, .int .i64 x], .int .u64 a, .int .u64 b] w fun r w' => r = .returned (.tuple #[.int .u64 Q, .int .u64 R, .int .i64 g]) ∧ Below w.heap.size w w'))
    : Calls Tryd.prog 11 #[.agg #[.int .i64 m, .int .i64 x], .int .i64 6, .int .u64 a, .int .u64 b] w fun r w' => r = .returned (.tuple #[.int .u64 R, .int .i64 g]) ∧ Below w.heap.size w w' := by
  go_enter Tryd.func11, Tryd.ntmps11
  go_wp2_with (go_at_call 21; refine (H.out _).mono ?_; rintro r w1 ⟨rfl, hb⟩)
  go_ret2
  exact ⟨rfl, box_below _ hb⟩
theorem reck64_7 (m x a b R Q g : Int) (w : World) (a0 : 0 ≤ a) (a1 : a < 18446744073709551616) (b0 : 0 ≤ b) (b1 : b < 18446744073709551616) (r0 : 0 ≤ R) (r1 : R < 18446744073709551616)
    (H : Hid (∀ w, Calls Tryd.prog 22 #[.agg #[.int .i64 m, .int .i64 x], .int .u64 a] w fun r w' => r = .returned (.tuple #[.int .u64 R, .int .i64 g]) ∧ Below w.heap.size w w'))
    : Calls Tryd.prog 11 #[.agg #[.int .i64 m, .int .i64 x], .int .i64 7, .int .u64 a, .int .u64 b] w fun r w' => r = .returned (.tuple #[.int .u64 R, .int .i64 g]) ∧ Below w.heap.size w w' := by
  go_enter Tryd.func11, Tryd.ntmps11
  go_wp2_with (go_at_call 22; refine (H.out _).mono ?_; rintro r w1 ⟨rfl, hb⟩)
  go_ret2
  exact ⟨rfl, box_below _ hb⟩
theorem reck64_8 (m x a b R Q g : Int) (w : World) (a0 : 0 ≤ a) (a1 : a < 18446744073709551616) (b0 : 0 ≤ b) (b1 : b < 18446744073709551616) (r0 : 0 ≤ R) (r1 : R < 18446744073709551616)
    (H : Hid (∀ w, Calls Tryd.prog 23 #[.agg #[.int .i64 m, .int .i64 x], .int .u64 a] w fun r w' => r = .returned (.tuple #[.int .u64 R, .int .i64 g]) ∧ Below w.heap.size w w'))
    : Calls Tryd.prog 11 #[.agg #[.int .i64 m, .int .i64 x], .int .i64 8, .int .u64 a, .int .u64 b] w fun r w' => r = .returned (.tuple #[.int .u64 R, .int .i64 g]) ∧ Below w.heap.size w w' := by
  go_enter Tryd.func11, Tryd.ntmps11
  go_wp2_with (go_at_call 23; refine (H.out _).mono ?_; rintro r w1 ⟨rfl, hb⟩)
  go_ret2
  exact ⟨rfl, box_below _ hb⟩
theorem reck64_9 (m x a b R Q g : Int) (w : World) (a0 : 0 ≤ a) (a1 : a < 18446744073709551616) (b0 : 0 ≤ b) (b1 : b < 18446744073709551616) (r0 : 0 ≤ R) (r1 : R < 18446744073709551616)
    (H : Hid (∀ w, Calls Tryd.prog 24 #[.agg #[.int .i64 m, .int .i64 x], .int .u64 a] w fun r w' => r = .returned (.tuple #[.int .u64 R, .int .i64 g]) ∧ Below w.heap.size w w'))
    : Calls Tryd.prog 11 #[.agg #[.int .i64 m, .int .i64 x], .int .i64 9, .int .u64 a, .int .u64 b] w fun r w' => r = .returned (.tuple #[.int .u64 R, .int .i64 g]) ∧ Below w.heap.size w w' := by
  go_enter Tryd.func11, Tryd.ntmps11
  go_wp2_with (go_at_call 24; refine (H.out _).mono ?_; rintro r w1 ⟨rfl, hb⟩)
  go_ret2
  exact ⟨rfl, box_below _ hb⟩
theorem reck64_no (m x op a b : Int) (w : World) (a0 : 0 ≤ a) (a1 : a < 18446744073709551616) (b0 : 0 ≤ b) (b1 : b < 18446744073709551616) (h : op < 1 ∨ 9 < op)
    : Calls Tryd.prog 11 #[.agg #[.int .i64 m, .int .i64 x], .int .i64 op, .int .u64 a, .int .u64 b] w fun r w' => r = .returned (.tuple #[.int .u64 0, .int .i64 1]) ∧ Below w.heap.size w w' := by
  have h1 : (op == 1) = false := by simp; omega
  have h2 : (op == 2) = false := by simp; omega
  have h3 : (op == 3) = false := by simp; omega
  have h4 : (op == 4) = false := by simp; omega
  have h5 : (op == 5) = false := by simp; omega
  have h6 : (op == 6) = false := by simp; omega
  have h7 : (op == 7) = false := by simp; omega
  have h8 : (op == 8) = false := by simp; omega
  have h9 : (op == 9) = false := by simp; omega
  clear h
  go_enter Tryd.func11, Tryd.ntmps11
  go_wp2
  go_ret2
  exact ⟨rfl, (Below.refl _ _).alloc (Nat.le_refl _) _⟩
theorem pDouble (op a b R g : Int) (w : World) (hl : Laid w)
    (HF : Hid (∀ w, Calls Tryd.prog 11 #[.agg #[.int .i64 52, .int .i64 11], .int .i64 op, .int .u64 a, .int .u64 b] w fun r w' => r = .returned (.tuple #[.int .u64 R, .int .i64 g]) ∧ Below w.heap.size w w'))
    : Calls Tryd.prog 5 #[.int .i64 op, .int .u64 a, .int .u64 b] w fun r w' => r = .returned (.tuple #[.int .u64 R, .int .i64 g]) ∧ Below w.heap.size w w' := by
  obtain ⟨l0, l1, l2, l3⟩ := hl
  go_enter Tryd.func5, Tryd.ntmps5
  go_wp2_with (go_at_call 11; refine (HF.out _).mono ?_; rintro r w1 ⟨rfl, hb⟩)
  go_ret2
  exact ⟨rfl, hb⟩
end Go.Proofs.YthfjjkikeebopaaDoor
