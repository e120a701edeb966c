/- The walk of WordAligns: for any two words the next multiple is as the page says, and none is between. -/
import Derived.Test.YtckkbiohkflknabDoorTabs
namespace Go.Proofs.YtckkbiohkflknabDoor
open Go.RowKit
set_option maxHeartbeats 1000000

theorem alignR_zero (a : Int) (w : World) :
    Calls Tryd.prog 12 #[.int .u32 a, .int .u32 0] w fun e w' => e = .returned (.tuple #[.int .u32 0, .bool false]) ∧ w' = w := by
  go_enter Tryd.func12, Tryd.ntmps12
  go_wp2
  go_ret2
  exact ⟨rfl, rfl⟩
theorem alignR_no (a b : Int) (w : World) (a0 : 0 ≤ a) (a1 : a ≤ 4294967295) (b0 : 0 < b) (b1 : b ≤ 4294967295) (h : 4294967295 < upW a b) :
    Calls Tryd.prog 12 #[.int .u32 a, .int .u32 b] w fun e w' => e = .returned (.tuple #[.int .u32 0, .bool false]) ∧ w' = w := by
  have hz : (b == 0) = false := by simp; omega
  have hu := up_of a b b0
  have h2 := Int.emod_nonneg a (show b ≠ 0 by omega)
  have h3 := Int.emod_lt_of_pos a b0
  by_cases hm : a % b = 0
  · rw [if_pos hm] at hu; omega
  rw [if_neg hm] at hu
  have hn : (a % b == 0) = false := by simpa using hm
  have hlt : 4294967296 ≤ a + b - a % b := by omega
  clear hu hm h
  have hz1 : 0 ≤ b := by omega
  go_enter Tryd.func12, Tryd.ntmps12
  go_wp2
  go_ret2
  exact ⟨rfl, rfl⟩
theorem alignR_yes (a b : Int) (w : World) (a0 : 0 ≤ a) (a1 : a ≤ 4294967295) (b0 : 0 < b) (b1 : b ≤ 4294967295) (h : upW a b ≤ 4294967295) :
    Calls Tryd.prog 12 #[.int .u32 a, .int .u32 b] w fun e w' => e = .returned (.tuple #[.int .u32 (upW a b), .bool true]) ∧ w' = w := by
  have hz : (b == 0) = false := by simp; omega
  have hu := up_of a b b0
  have h2 := Int.emod_nonneg a (show b ≠ 0 by omega)
  have h3 := Int.emod_lt_of_pos a b0
  have hz1 : 0 ≤ b := by omega
  by_cases hm : a % b = 0
  · rw [if_pos hm] at hu
    have hn : (a % b == 0) = true := by simpa using hm
    rw [hu]
    clear hu hm h
    go_enter Tryd.func12, Tryd.ntmps12
    go_wp2
    go_ret2
    exact ⟨ret_two (by omega), rfl⟩
  · rw [if_neg hm] at hu
    have hn : (a % b == 0) = false := by simpa using hm
    have hlt : a + b - a % b ≤ 4294967295 := by omega
    rw [hu]
    clear hu hm h
    go_enter Tryd.func12, Tryd.ntmps12
    go_wp2
    go_ret2
    exact ⟨ret_two (by omega), rfl⟩
theorem wordAligns_walk (a0 a1 : Int) (w : World) (w0 : (Lit.int .u32 a0).wf = true) (w1 : (Lit.int .u32 a1).wf = true) (ht : Laid w) :
    Calls Tryd.prog 5 #[.int .u32 a0, .int .u32 a1] w fun e w' => e = .returned (.bool true) ∧ Below w.heap.size w w' := by
  have b0 := bounds_u32 w0
  have b1 := bounds_u32 w1
  clear w0 w1
  by_cases hz : a1 = 0
  · subst hz
    go_enter Tryd.func5, Tryd.ntmps5
    go_wp2_with (first | (go_at_call 11; refine (align_zero _ _).mono ?_; rintro e w' ⟨rfl, rfl⟩) | (go_at_call 12; refine (alignR_zero _ _).mono ?_; rintro e w' ⟨rfl, rfl⟩) | (go_at_call 6; refine (live_any _ ht).mono ?_; rintro e w' ⟨rfl, hb⟩))
    go_ret
    exact ⟨rfl, hb⟩
  · have hp : 0 < a1 := by omega
    have hz2 : (a1 == 0) = false := by simpa using hz
    have hu := up_bd a0 a1 b0.1 hp
    by_cases hb : 4294967295 < upW a0 a1
    · go_enter Tryd.func5, Tryd.ntmps5
      go_wp2_with (first | (go_at_call 11; refine (align_no _ _ _ b0.1 b0.2 hp b1.2 (by omega)).mono ?_; rintro e w' ⟨rfl, rfl⟩) | (go_at_call 12; refine (alignR_no _ _ _ b0.1 b0.2 hp b1.2 (by omega)).mono ?_; rintro e w' ⟨rfl, rfl⟩) | (go_at_call 6; refine (live_any _ ht).mono ?_; rintro e w' ⟨rfl, hb⟩))
      go_ret
      exact ⟨rfl, hb⟩
    · obtain ⟨u1, u2, u3, u4⟩ := hu
      have u5 : (upW a0 a1 % a1 == 0) = true := by simpa using u4
      have u6 : upW a0 a1 - a0 < a1 := by omega
      have u7 : upW a0 a1 ≤ 4294967295 := by omega
      clear u4
      go_enter Tryd.func5, Tryd.ntmps5
      go_wp2_with (first | (go_at_call 11; refine (align_yes _ _ _ b0.1 b0.2 hp b1.2 (by omega)).mono ?_; rintro e w' ⟨rfl, rfl⟩) | (go_at_call 12; refine (alignR_yes _ _ _ b0.1 b0.2 hp b1.2 (by omega)).mono ?_; rintro e w' ⟨rfl, rfl⟩) | (go_at_call 6; refine (live_any _ ht).mono ?_; rintro e w' ⟨rfl, hb⟩))
      go_ret
      exact ⟨rfl, hb⟩
end Go.Proofs.YtckkbiohkflknabDoor
