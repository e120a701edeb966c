/- Contracts of the document's patterns (package grottoref02: Whole, Zero, Inf, NaN): a pattern out of its sign, field and fraction. -/
import Derived.Test.YtkbeceedafkhcaaR2a
import Derived.Deep.RegionHeld3
namespace Go.Proofs.Ytkbeceedafkhcaa
open Go.RowKit
set_option maxHeartbeats 400000

/-- the sign's bit -/
theorem whole_any (m e : Nat) (neg : Bool) (field frac : Int) (w : World) (hm : m ≤ 52) (he : e ≤ 11) (f0 : 0 ≤ field) (f1 : field ≤ p2 e - 1) (c0 : 0 ≤ frac) (c1 : frac ≤ p2 m - 1) :
    Calls Try.prog 34 #[.agg #[.int .i64 m, .int .i64 e], .bool neg, .int .u64 field, .int .u64 frac] w fun r w' => r = .returned (.int .u64 (field * p2 m + frac + sgnW neg (m + e))) ∧ w' = w.alloc (.cells #[.int .i64 m, .int .i64 e] 23) := by
  have hpm := p2_pos m
  have hpe := p2_pos e
  have hme : p2 (m + e) = p2 m * p2 e := p2_add m e
  have hle : p2 (m + e) ≤ 9223372036854775808 := p2_le63 (by omega)
  have hx : field * p2 m + frac ≤ p2 (m + e) - 1 ∧ 0 ≤ field * p2 m ∧ field * p2 m ≤ p2 (m + e) - 1 := by
    have h1 : field * p2 m ≤ (p2 e - 1) * p2 m := Int.mul_le_mul_of_nonneg_right f1 (by omega)
    have h2 : (p2 e - 1) * p2 m = p2 (m + e) - p2 m := by rw [hme, Int.sub_mul, Int.mul_comm (p2 e)]; omega
    have h3 := Int.mul_nonneg f0 (Int.le_of_lt hpm)
    omega
  have HM := hidden (fun w => power_any m w (by omega))
  have HE : Hid (∀ w, Calls Try.prog 31 #[.int .i64 ((m : Int) + (e : Int))] w fun r w' => r = .returned (.int .u64 (p2 (m + e))) ∧ w' = w) := hidden fun w => by
    have := power_any (m + e) w (by omega)
    rwa [show (((m + e : Nat)) : Int) = (m : Int) + (e : Int) by omega] at this
  clear hme
  have S0 : Hid (sgnW false (m + e) = 0) := hidden rfl
  have S1 : Hid (sgnW true (m + e) = p2 (m + e)) := hidden rfl
  generalize p2 (m + e) = PE at *
  obtain ⟨hx1, hx2, hx3⟩ := hx
  cases neg
  · go_enter Try.func34, Try.ntmps34
    go_wp2_with (go_at_call 31; refine (HM.out _).mono ?_; rintro r w1 ⟨rfl, hw⟩; subst hw)
    go_ret
    exact ⟨ret_int (by rw [S0.out, Int.add_zero]), rfl⟩
  · go_enter Try.func34, Try.ntmps34
    go_wp2_with fail
    refine (HM.out _).mono ?_
    rintro r w1 ⟨rfl, hw⟩
    subst hw
    go_wp2_with fail
    refine (HE.out _).mono ?_
    rintro r w1 ⟨rfl, hw⟩
    subst hw
    go_wp2
    go_ret
    exact ⟨ret_int (by rw [S1.out]), rfl⟩
theorem zero_any (m e : Nat) (neg : Bool) (w : World) (hm : m ≤ 52) (he : e ≤ 11) :
    Calls Try.prog 19 #[.agg #[.int .i64 m, .int .i64 e], .bool neg] w fun r w' => r = .returned (.int .u64 (sgnW neg (m + e))) ∧ w' = (w.alloc (.cells #[.int .i64 m, .int .i64 e] 23)).alloc (.cells #[.int .i64 m, .int .i64 e] 23) := by
  have hpm := p2_pos m
  have hpe := p2_pos e
  go_enter Try.func19, Try.ntmps19
  go_wp2_with fail
  refine (whole_any m e neg 0 0 _ hm he (by omega) (by omega) (by omega) (by omega)).mono ?_
  rintro r w1 ⟨rfl, hw⟩
  subst hw
  go_wp2
  go_ret
  exact ⟨ret_int (by simp), rfl⟩
theorem inf_any (m e : Nat) (neg : Bool) (w : World) (hm : m ≤ 52) (he : e ≤ 11) :
    Calls Try.prog 17 #[.agg #[.int .i64 m, .int .i64 e], .bool neg] w fun r w' => r = .returned (.int .u64 ((p2 e - 1) * p2 m + sgnW neg (m + e))) ∧ Below w.heap.size w w' := by
  have hpm := p2_pos m
  have hpe := p2_pos e
  have hle := p2_le63 (show e ≤ 63 by omega)
  have hw1 : Hid (IntKind.u64.wrap (p2 e - 1) = p2 e - 1) := hidden (by rw [IntKind.wrap_u64]; omega)
  have HP := hidden (fun w => power_any e w (by omega))
  have HW := hidden (fun w => whole_any m e neg (p2 e - 1) 0 w hm he (by omega) (by omega) (by omega) (by omega))
  rw [← hw1.out] at HW
  generalize p2 e = PE at *
  go_enter Try.func17, Try.ntmps17
  go_wp2_with fail
  go_region_held3 (fun w' => w'.cell? ⟨w.heap.size, 0, none⟩ = some (.int .i64 m) ∧ w'.cell? ⟨w.heap.size, 1, none⟩ = some (.int .i64 e)) (go_keep) (first | (go_at_call 31; refine (HP.out _).mono ?_; rintro r w1 ⟨rfl, hw⟩; subst hw) | (go_at_call 34; refine (HW.out _).mono ?_; rintro r w1 ⟨rfl, hw⟩; subst hw))
  all_goals
    go_wp2
    go_ret
    refine ⟨ret_int ?_, (((Below.refl _ _).alloc (Nat.le_refl _) _).drew).alloc (by simp) _⟩
    rw [hw1.out]
theorem nan_any (m e : Nat) (w : World) (hm : m ≤ 52) (hm0 : 1 ≤ m) (he : e ≤ 11) :
    Calls Try.prog 15 #[.agg #[.int .i64 m, .int .i64 e]] w fun r w' => r = .returned (.int .u64 ((p2 e - 1) * p2 m + p2 (m - 1))) ∧ Below w.heap.size w w' := by
  have hpm := p2_pos m
  have hpe := p2_pos e
  have hpm1 := p2_pos (m - 1)
  have hle := p2_le63 (show e ≤ 63 by omega)
  have hmm : p2 m = 2 * p2 (m - 1) := by rw [← p2_succ, show m - 1 + 1 = m by omega]
  have hw1 : Hid (IntKind.u64.wrap (p2 e - 1) = p2 e - 1) := hidden (by rw [IntKind.wrap_u64]; omega)
  have hw2 : Hid (IntKind.i64.wrap ((m : Int) - 1) = (m : Int) - 1) := hidden (by rw [wrapi _ (by omega) (by omega)])
  have HP := hidden (fun w => power_any e w (by omega))
  have HQ : Hid (∀ w, Calls Try.prog 31 #[.int .i64 (IntKind.i64.wrap ((m : Int) - 1))] w fun r w' => r = .returned (.int .u64 (p2 (m - 1))) ∧ w' = w) := hidden fun w => by
    have := power_any (m - 1) w (by omega)
    rw [hw2.out]
    rwa [show (((m - 1 : Nat)) : Int) = (m : Int) - 1 by omega] at this
  have HW := hidden (fun w => whole_any m e false (p2 e - 1) (p2 (m - 1)) w hm he (by omega) (by omega) (by omega) (by omega))
  have S0 : Hid (sgnW false (m + e) = 0) := hidden rfl
  rw [← hw1.out] at HW
  clear hmm
  generalize p2 e = PE at *
  generalize p2 (m - 1) = PM at *
  go_enter Try.func15, Try.ntmps15
  go_wp2_with fail
  go_region_held3 (fun w' => w'.cell? ⟨w.heap.size, 0, none⟩ = some (.int .i64 m) ∧ w'.cell? ⟨w.heap.size, 1, none⟩ = some (.int .i64 e)) (go_keep) (first | (go_at_call_of 31 (Value.int IntKind.i64 (e : Int)); refine (HP.out _).mono ?_; rintro r w1 ⟨rfl, hw⟩; subst hw) | (go_at_call 31; refine (HQ.out _).mono ?_; rintro r w1 ⟨rfl, hw⟩; subst hw) | (go_at_call 34; refine (HW.out _).mono ?_; rintro r w1 ⟨rfl, hw⟩; subst hw))
  all_goals
    go_wp2
    go_ret
    refine ⟨ret_int ?_, (((Below.refl _ _).alloc (Nat.le_refl _) _).drew).alloc (by simp) _⟩
    rw [hw1.out, S0.out, Int.add_zero]
end Go.Proofs.Ytkbeceedafkhcaa
