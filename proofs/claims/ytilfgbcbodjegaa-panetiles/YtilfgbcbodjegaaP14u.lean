/- Layer 14, the program: a nil tree; Root, Resize, pairAt. -/
import Derived.Test.YtilfgbcbodjegaaP14t
namespace Go.Proofs.Ytilfgbcbodjegaa
open Go.RowKit
set_option maxHeartbeats 1000000
set_option maxRecDepth 100000
set_option linter.unusedVariables false

theorem root_nil (w : World) : Calls Try.prog 27 #[.pointer none] w fun e w' => e = .returned (.int .i64 0) ∧ w' = w := by
  go_enter Try.func27, Try.ntmps27
  go_wp2
  go_ret
  exact ⟨rfl, rfl⟩
theorem windows_nil (w : World) : Calls Try.prog 13 #[.pointer none] w fun e w' => e = .returned (.slice none 0 0) ∧ w' = w := by
  go_enter Try.func13, Try.ntmps13
  go_wp2
  go_ret
  exact ⟨rfl, rfl⟩
theorem resize_nil (x y : Int) (w : World) : Calls Try.prog 31 #[.pointer none, .int .i64 x, .int .i64 y] w fun e w' => e = .returned (.int .i64 8) ∧ w' = w := by
  go_enter Try.func31, Try.ntmps31
  go_wp2
  go_ret
  exact ⟨rfl, rfl⟩
theorem close_nil (x : Int) (w : World) : Calls Try.prog 23 #[.pointer none, .int .i64 x] w fun e w' => e = .returned (.tuple #[.slice none 0 0, .int .i64 8]) ∧ w' = w := by
  go_enter Try.func23, Try.ntmps23
  go_wp2
  go_ret2
  exact ⟨rfl, rfl⟩
theorem pairAt_nil (x : Int) (w : World) : Calls Try.prog 48 #[.pointer none, .int .i64 x] w fun e w' => e = .returned (.tuple #[.pointer none, .int .i64 8]) ∧ w' = w := by
  go_enter Try.func48, Try.ntmps48
  go_wp2
  go_ret2
  exact ⟨rfl, rfl⟩
theorem kind_nil (x : Int) (w : World) : Calls Try.prog 15 #[.pointer none, .int .i64 x] w fun e w' => e = .returned (.int .i64 0) ∧ w' = w := by
  have HA := hidden (at_nil x w)
  go_enter Try.func15, Try.ntmps15
  go_wp2_with (first | (go_at_call 36; refine HA.out.mono ?_; rintro e w1 ⟨rfl, e1⟩; rw [e1]; clear e1) | fail)
  go_ret
  exact ⟨rfl, rfl⟩
theorem parent_nil (x : Int) (w : World) : Calls Try.prog 21 #[.pointer none, .int .i64 x] w fun e w' => e = .returned (.int .i64 0) ∧ w' = w := by
  have HA := hidden (at_nil x w)
  go_enter Try.func21, Try.ntmps21
  go_wp2_with (first | (go_at_call 36; refine HA.out.mono ?_; rintro e w1 ⟨rfl, e1⟩; rw [e1]; clear e1) | fail)
  go_ret
  exact ⟨rfl, rfl⟩
theorem kids_nil (x : Int) (w : World) : Calls Try.prog 17 #[.pointer none, .int .i64 x] w fun e w' => e = .returned (.tuple #[.int .i64 0, .int .i64 0]) ∧ w' = w := by
  have HA := hidden (at_nil x w)
  go_enter Try.func17, Try.ntmps17
  go_wp2_with (first | (go_at_call 36; refine HA.out.mono ?_; rintro e w1 ⟨rfl, e1⟩; rw [e1]; clear e1) | fail)
  go_ret2
  exact ⟨rfl, rfl⟩
theorem root_any {B m : Nat} {v : Value} {s : Ps} {w : World} (h : PAt B w m v s) : Calls Try.prog 27 #[.pointer (some ⟨m, 0, none⟩)] w fun e w' => e = .returned (.int .i64 s.root) ∧ w' = w := by
  obtain ⟨d0, d1, d2, d3, d4, d5⟩ := h.cells
  clear h
  go_enter Try.func27, Try.ntmps27
  go_wp2
  go_ret
  exact ⟨rfl, rfl⟩
theorem resize_bad {m : Nat} {w : World} (x y : Int) (h : scrB x y = false) : Calls Try.prog 31 #[.pointer (some ⟨m, 0, none⟩), .int .i64 x, .int .i64 y] w fun e w' => e = .returned (.int .i64 1) ∧ w' = w := by
  have HS := hidden (isScreen_any x y w)
  rw [h] at HS
  go_enter Try.func31, Try.ntmps31
  go_wp2_with (first | (go_at_call 52; refine HS.out.mono ?_; rintro e w1 ⟨rfl, e1⟩; rw [e1]; clear e1) | fail)
  go_ret
  exact ⟨rfl, rfl⟩
theorem resize_good {B m : Nat} {v : Value} {s : Ps} {w : World} (h : PAt B w m v s) (x y : Int) (hs : scrB x y = true) : Calls Try.prog 31 #[.pointer (some ⟨m, 0, none⟩), .int .i64 x, .int .i64 y] w fun e w' => e = .returned (.int .i64 0) ∧ PAt B w' m v { s with w := x, h := y } ∧ Fm w w' (TP m v) (TP m v) := by
  obtain ⟨d0, d1, d2, d3, d4, d5⟩ := h.cells
  have HS := hidden (isScreen_any x y w)
  rw [hs] at HS
  obtain ⟨a1, a2⟩ := h.set0 x
  obtain ⟨a3, a4⟩ := a1.set1 y
  have HE := hidden (And.intro a3 (a2.trans a4))
  have HE2 := hidden (drew_fin HE.out)
  obtain ⟨b1, b2⟩ := h.set1 y
  obtain ⟨b3, b4⟩ := b1.set0 x
  have HE3 := hidden (And.intro b3 (b2.trans b4))
  clear h a1 a2 a3 a4 b1 b2 b3 b4 hs
  go_enter Try.func31, Try.ntmps31
  go_wp2_with (first | (go_at_call 52; refine HS.out.mono ?_; rintro e w1 ⟨rfl, e1⟩; rw [e1]; clear e1) | fail)
  all_goals go_ret
  all_goals first | exact ⟨rfl, HE.out⟩ | exact ⟨rfl, HE2.out⟩ | exact ⟨rfl, HE3.out⟩
theorem sibling_nil (x : Int) (w : World) : Calls Try.prog 26 #[.pointer none, .int .i64 x] w fun e w' => e = .returned (.int .i64 0) ∧ w' = w := by
  have HA := hidden (parent_nil x w)
  have HB := hidden (kids_nil 0 w)
  by_cases hx : (0 : Int) = x
  · have q1 : ((0 : Int) == x) = true := by simp [hx]
    clear hx
    go_enter Try.func26, Try.ntmps26
    go_wp2_with (first | (go_at_call 21; refine HA.out.mono ?_; rintro e w1 ⟨rfl, e1⟩; rw [e1]; clear e1) | (go_at_call 17; refine HB.out.mono ?_; rintro e w1 ⟨rfl, e1⟩; rw [e1]; clear e1) | fail)
    go_ret
    exact ⟨rfl, rfl⟩
  · have q1 : ((0 : Int) == x) = false := by simp [hx]
    clear hx
    go_enter Try.func26, Try.ntmps26
    go_wp2_with (first | (go_at_call 21; refine HA.out.mono ?_; rintro e w1 ⟨rfl, e1⟩; rw [e1]; clear e1) | (go_at_call 17; refine HB.out.mono ?_; rintro e w1 ⟨rfl, e1⟩; rw [e1]; clear e1) | fail)
    go_ret
    exact ⟨rfl, rfl⟩
theorem arrange_nil (x y z k : Int) (w : World) : Calls Try.prog 29 #[.pointer none, .int .i64 x, .int .i64 y, .int .u32 z, .int .i64 k] w fun e w' => e = .returned (.int .i64 8) ∧ w' = w := by
  have HA := hidden (pairAt_nil x w)
  go_enter Try.func29, Try.ntmps29
  go_wp2_with (first | (go_at_call 48; refine HA.out.mono ?_; rintro e w1 ⟨rfl, e1⟩; rw [e1]; clear e1) | fail)
  go_ret
  exact ⟨rfl, rfl⟩
theorem mayOpen_nil (x y k : Int) (w : World) : Calls Try.prog 38 #[.pointer none, .int .i64 x, .int .i64 y, .int .i64 k] w fun e w' => e = .returned (.int .i64 8) ∧ w' = w := by
  go_enter Try.func38, Try.ntmps38
  go_wp2
  go_ret
  exact ⟨rfl, rfl⟩
theorem open_nil (x y z k : Int) (w : World) : Calls Try.prog 19 #[.pointer none, .int .i64 x, .int .i64 y, .int .u32 z, .int .i64 k] w fun e w' => e = .returned (.tuple #[.int .i64 0, .int .i64 8]) ∧ w' = w := by
  have HA := hidden (mayOpen_nil x y k w)
  go_enter Try.func19, Try.ntmps19
  go_wp2_with (first | (go_at_call 38; refine HA.out.mono ?_; rintro e w1 ⟨rfl, e1⟩; rw [e1]; clear e1) | fail)
  go_ret2
  exact ⟨rfl, rfl⟩
end Go.Proofs.Ytilfgbcbodjegaa
