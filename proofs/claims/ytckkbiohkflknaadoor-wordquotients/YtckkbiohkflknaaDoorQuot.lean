/- The walk of WordQuotients: for any two words a word is quotient times divisor and what is left. -/
import Derived.Test.YtckkbiohkflknaaDoorTabs
import Derived.Test.YtckkbiohkflknaaDoorRefs2
import Derived.WalkLawsBesides
namespace Go.Proofs.YtckkbiohkflknaaDoor
open Go.RowKit
set_option maxHeartbeats 1000000
theorem quot_back (a b : Int) (a0 : 0 ≤ a) (a1 : a ≤ 4294967295) : (divW a b * b + modW a b) % 4294967296 = a := by
  have e1 : divW a b % 4294967296 = (wrap32 a).tdiv (wrap32 b) % 4294967296 := by unfold divW; rw [wrap32_mod]; omega
  have e2 : modW a b % 4294967296 = (wrap32 a).tmod (wrap32 b) % 4294967296 := by unfold modW; omega
  have e3 : b % 4294967296 = wrap32 b % 4294967296 := (wrap32_mod b).symm
  rw [Int.add_emod, Int.mul_emod, e1, e2, e3, ← Int.mul_emod, ← Int.add_emod, Int.mul_comm, Int.mul_tdiv_add_tmod, wrap32_mod]
  omega
theorem mod_facts (a b : Int) (hb : wrap32 b ≠ 0) :
    (0 ≤ wrap32 a → 0 ≤ wrap32 (modW a b)) ∧ (wrap32 a ≤ 0 → wrap32 (modW a b) ≤ 0) ∧ wrap32 (modW a b) < max (wrap32 b) (-wrap32 b) ∧ -wrap32 (modW a b) < max (wrap32 b) (-wrap32 b) := by
  have hx := wrap32_range a
  have hy := wrap32_range b
  have e : wrap32 (modW a b) = (wrap32 a).tmod (wrap32 b) := by
    have h1 := tmod_signs (wrap32 a) (wrap32 b)
    have h2 := Int.emod_lt_of_pos ((wrap32 a).natAbs : Int) (show (0 : Int) < (wrap32 b).natAbs by omega)
    have h3 := Int.emod_nonneg ((wrap32 a).natAbs : Int) (show ((wrap32 b).natAbs : Int) ≠ 0 by omega)
    unfold modW
    generalize (wrap32 a).tmod (wrap32 b) = t at *
    have ht : -2147483648 ≤ t ∧ t ≤ 2147483647 := by split at h1 <;> omega
    unfold wrap32; omega
  have h1 := tmod_signs (wrap32 a) (wrap32 b)
  have h2 := Int.emod_lt_of_pos ((wrap32 a).natAbs : Int) (show (0 : Int) < (wrap32 b).natAbs by omega)
  have h3 := Int.emod_nonneg ((wrap32 a).natAbs : Int) (show ((wrap32 b).natAbs : Int) ≠ 0 by omega)
  have h4 : wrap32 a = 0 → ((wrap32 a).natAbs : Int) % ((wrap32 b).natAbs : Int) = 0 := by intro h; rw [h]; simp
  rw [e]
  generalize (wrap32 a).tmod (wrap32 b) = t at *
  generalize ((wrap32 a).natAbs : Int) % ((wrap32 b).natAbs : Int) = m at *
  split at h1 <;> omega
theorem wordQuotients_walk (a0 a1 : Int) (w : World) (w0 : (Lit.int .u32 a0).wf = true) (w1 : (Lit.int .u32 a1).wf = true) (ht : Laid w) :
    Calls Tryd.prog 6 #[.int .u32 a0, .int .u32 a1] w fun e w' => e = .returned (.bool true) ∧ Below w.heap.size w w' := by
  have b0 := bounds_u32 w0
  have b1 := bounds_u32 w1
  clear w0 w1
  by_cases hz : a1 = 0
  · subst hz
    go_enter Tryd.func6, Tryd.ntmps6
    go_wp2_with (first | (go_at_call 19; refine (div_zero _ _).mono ?_; rintro e w' ⟨rfl, rfl⟩) | (go_at_call 20; refine (mod_zero _ _).mono ?_; rintro e w' ⟨rfl, rfl⟩) | (go_at_call 14; refine (num_any _ _).mono ?_; rintro e w' ⟨rfl, rfl⟩) | (go_at_call 9; refine (live_any _ ht).mono ?_; rintro e w' ⟨rfl, hb⟩))
    go_ret
    exact ⟨rfl, hb⟩
  · have hz2 : (a1 == 0) = false := by simpa using hz
    have hr : 0 ≤ modW a0 a1 ∧ modW a0 a1 ≤ 4294967295 := by unfold modW; omega
    have hx := wrap32_range a0
    have hy := wrap32_range a1
    have hzz := wrap32_range (modW a0 a1)
    have hq := quot_back a0 a1 b0.1 b0.2
    obtain ⟨f1, f2, f3, f4⟩ := mod_facts a0 a1 (by rw [Ne, wrap32_zero a1 b1.1 b1.2]; exact hz)
    have hw := int_any (modW a0 a1)
    have hc : (0 < wrap32 a0 ∧ 0 ≤ wrap32 (modW a0 a1)) ∨ (wrap32 a0 = 0 ∧ wrap32 (modW a0 a1) = 0) ∨ (wrap32 a0 < 0 ∧ wrap32 (modW a0 a1) ≤ 0) := by omega
    clear f1 f2 hw
    rcases hc with ⟨c1, c2⟩ | ⟨c1, c2⟩ | ⟨c1, c2⟩
    all_goals
      go_enter Tryd.func6, Tryd.ntmps6
      go_wp2_with (first | (go_at_call 19; refine (div_any _ _ _ hz2 b1.1 b1.2).mono ?_; rintro e w' ⟨rfl, rfl⟩) | (go_at_call 20; refine (mod_any _ _ _ hz2 b1.1 b1.2).mono ?_; rintro e w' ⟨rfl, rfl⟩) | (go_at_call 23; refine (int_any _ _ (by omega) (by omega)).mono ?_; rintro e w' ⟨rfl, rfl⟩) | (go_at_call 14; refine (num_any _ _).mono ?_; rintro e w' ⟨rfl, rfl⟩) | (go_at_call 9; refine (live_any _ ht).mono ?_; rintro e w' ⟨rfl, hb⟩))
      go_ret
      exact ⟨rfl, hb⟩
end Go.Proofs.YtckkbiohkflknaaDoor
