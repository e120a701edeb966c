/- The walk of CodeJumps: where each branch leads is as the document says. -/
import Derived.Test.YtepknlmmccfnmaaC11l
namespace Go.Proofs.Ytepknlmmccfnmaa
open Go.RowKit
set_option maxHeartbeats 1000000
set_option maxRecDepth 100000
set_option linter.unusedVariables false

theorem of_any (n : Int) (w : World) :
    Calls Try.prog 23 #[.int .i64 n] w fun e w' => e = .returned (.int .u32 (n % 4294967296)) ∧ w' = w := by
  go_enter Try.func23, Try.ntmps23
  go_wp2
  go_ret
  refine ⟨ret_int ?_, rfl⟩
  rw [and32]; omega
theorem djump_back (next x : Int) (w : World) (h0 : 0 ≤ x) (h : x < 2) : Calls Try.prog 14 #[.int .u32 next, .int .u32 x] w fun e w' => e = .returned (.tuple #[.int .u32 0, .bool true, .int .u32 x]) ∧ w' = w := by
  rcases (show x = 0 ∨ x = 1 by omega) with rfl | rfl
  all_goals (
    go_enter Try.func14, Try.ntmps14
    go_wp2
    go_ret3
    exact ⟨rfl, rfl⟩)
theorem djump_to (next x : Int) (w : World) (hn : 0 ≤ next ∧ next ≤ 4294967295) (hx : 0 ≤ x ∧ x ≤ 4294967295) (h : ¬ x < 2) : Calls Try.prog 14 #[.int .u32 next, .int .u32 x] w fun e w' => e = .returned (.tuple #[.int .u32 ((next + x - 2) % 4294967296), .bool false, .int .u32 0]) ∧ w' = w := by
  have q0 : (x == 0) = false := by simp; omega
  have q1 : (x == 1) = false := by simp; omega
  have hw1 : IntKind.i64.wrap next = next := by rw [IntKind.wrap_i64]; omega
  have hw2 : IntKind.i64.wrap x = x := by rw [IntKind.wrap_i64]; omega
  have hw3 : IntKind.i64.wrap (next + x) = next + x := by rw [IntKind.wrap_i64]; omega
  have hw4 : IntKind.i64.wrap (next + x - 2) = next + x - 2 := by rw [IntKind.wrap_i64]; omega
  have HO := hidden fun wx => of_any (next + x - 2) wx
  generalize (next + x - 2) % 4294967296 = V at *
  go_enter Try.func14, Try.ntmps14
  go_wp2_with (first | (go_at_call 23; refine (HO.out _).mono ?_; rintro e w1 ⟨rfl, rfl⟩))
  go_ret3
  exact ⟨rfl, rfl⟩
theorem codeJumps_walk (next x : Int) (w : World) (hn : (Lit.int .u32 next).wf = true) (hx : (Lit.int .u32 x).wf = true) :
    Calls Try.prog 5 #[.int .u32 next, .int .u32 x] w fun e w' => e = .returned (.bool true) ∧ Below w.heap.size w w' := by
  have b0 := bounds_u32 hn
  have b1 := bounds_u32 hx
  have hb0 := Below.refl w.heap.size w
  have HLV := hidden (live_any w)
  have HJ2 := hidden fun wx => jump_to next 2 wx (by decide)
  rw [show (next + 2 - 2) % 4294967296 = next by omega] at HJ2
  clear hn hx
  by_cases h : x < 2
  · have HA := hidden fun wx => jump_back next x wx h
    have HB := hidden fun wx => djump_back next x wx b1.1 h
    have h2 : ¬ x = 2 := by omega
    go_enter Try.func5, Try.ntmps5
    go_wp2_with (first | (go_at_call 13; (with_reducible refine (HA.out _).mono ?_); rintro e w1 ⟨rfl, rfl⟩) | (go_at_call 13; (with_reducible refine (HJ2.out _).mono ?_); rintro e w1 ⟨rfl, rfl⟩) | (go_at_call 14; refine (HB.out _).mono ?_; rintro e w1 ⟨rfl, rfl⟩) | (go_at_call 6; refine HLV.out.mono ?_; rintro e wl ⟨rfl, hbl⟩))
    go_ret
    exact ⟨rfl, hbl⟩
  · have HA := hidden fun wx => jump_to next x wx h
    have HB := hidden fun wx => djump_to next x wx b0 b1 h
    generalize (next + x - 2) % 4294967296 = V at *
    go_enter Try.func5, Try.ntmps5
    go_wp2_with (first | (go_at_call 13; (with_reducible refine (HA.out _).mono ?_); rintro e w1 ⟨rfl, rfl⟩) | (go_at_call 13; (with_reducible refine (HJ2.out _).mono ?_); rintro e w1 ⟨rfl, rfl⟩) | (go_at_call 14; refine (HB.out _).mono ?_; rintro e w1 ⟨rfl, rfl⟩) | (go_at_call 6; refine HLV.out.mono ?_; rintro e wl ⟨rfl, hbl⟩))
    go_ret
    exact ⟨rfl, hbl⟩
end Go.Proofs.Ytepknlmmccfnmaa
