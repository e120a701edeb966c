/- Contracts of the document's own reckonings (package grottoref01: Int, Of, abs, Div, Mod, Shl, Shr, Sar, Extend, Holds): for all words each answers the same as package word's. -/
import Derived.Test.YtckkbiohkflknaaDoorWords
import Derived.Test.YtckkbiohkflknaaDoorHolds
namespace Go.Proofs.YtckkbiohkflknaaDoor
open Go.RowKit
set_option maxHeartbeats 1000000

theorem shl_any (a n : Int) (w : World) (h0 : 0 ≤ n) (_h1 : n ≤ 4294967295) :
    Calls Tryd.prog 18 #[.int .u32 a, .int .u32 n] w fun e w' => e = .returned (.int .u32 (shlW a n)) ∧ w' = w := by
  go_enter Tryd.func18, Tryd.ntmps18
  go_wp2
  go_ret
  exact ⟨rfl, rfl⟩
theorem shr_any (a n : Int) (w : World) (h0 : 0 ≤ n) (_h1 : n ≤ 4294967295) :
    Calls Tryd.prog 25 #[.int .u32 a, .int .u32 n] w fun e w' => e = .returned (.int .u32 (shrW a n)) ∧ w' = w := by
  go_enter Tryd.func25, Tryd.ntmps25
  go_wp2
  go_ret
  exact ⟨rfl, rfl⟩
theorem of_any (n : Int) (w : World) :
    Calls Tryd.prog 37 #[.int .i64 n] w fun e w' => e = .returned (.int .u32 (n % 4294967296)) ∧ w' = w := by
  go_enter Tryd.func37, Tryd.ntmps37
  go_wp2
  go_ret
  refine ⟨ret_int ?_, rfl⟩
  rw [and32]; omega
theorem int_any (n : Int) (w : World) (h0 : 0 ≤ n) (h1 : n ≤ 4294967295) :
    Calls Tryd.prog 23 #[.int .u32 n] w fun e w' => e = .returned (.int .i64 (wrap32 n)) ∧ w' = w := by
  go_enter Tryd.func23, Tryd.ntmps23
  go_wp2
  all_goals
    go_ret
    refine ⟨ret_int ?_, rfl⟩
    unfold wrap32; omega
theorem abs_any (n : Int) (w : World) (h0 : -9223372036854775807 ≤ n) (h1 : n ≤ 9223372036854775807) :
    Calls Tryd.prog 36 #[.int .i64 n] w fun e w' => e = .returned (.int .i64 n.natAbs) ∧ w' = w := by
  go_enter Tryd.func36, Tryd.ntmps36
  go_wp2
  all_goals
    go_ret
    refine ⟨ret_int ?_, rfl⟩
    omega
theorem shlR_any (a n : Int) (w : World) (a0 : 0 ≤ a) (a1 : a ≤ 4294967295) (h0 : 0 ≤ n) (h1 : n ≤ 4294967295) :
    Calls Tryd.prog 24 #[.int .u32 a, .int .u32 n] w fun e w' => e = .returned (.int .u32 (shlW a n)) ∧ w' = w := by
  obtain ⟨m, rfl⟩ := Int.eq_ofNat_of_zero_le h0
  go_enter Tryd.func24, Tryd.ntmps24
  go_wp2
  go_loop [0, 1, 5] (fun x y i => ∃ k : Nat, k ≤ 32 ∧ k ≤ m ∧ i = .int .i64 k ∧ y = .int .u32 ((m : Int) - k) ∧ x = .int .u32 (a * 2 ^ k % 4294967296)) (fun _ _ i => 32 - (intOf i).toNat)
  case atStart => exact ⟨0, by omega, by omega, rfl, by simp, by simp; omega⟩
  case round =>
    obtain ⟨k, hk, hkm, rfl, rfl, rfl⟩ := hrel
    have hb : 0 ≤ a * 2 ^ k % 4294967296 ∧ a * 2 ^ k % 4294967296 ≤ 4294967295 := by omega
    have hs := hidden (shl_step a k)
    have hdef : Hid (shlW a m = a * 2 ^ (min m 32) % 4294967296) := by unfold shlW; simp [Hid]
    generalize hx : a * 2 ^ k % 4294967296 = x at hb hs ⊢
    have HX := hidden hx
    clear hx
    by_cases hlt : k < 32
    · by_cases hlt2 : k < m
      · have hlt3 : (0 : Int) < m - k := by omega
        go_wp2_with (go_at_call 37; refine (of_any _ _).mono ?_; rintro e w' ⟨rfl, rfl⟩)
        go_round
        case rel => exact ⟨k + 1, by omega, by omega, by go_num, by go_num, by rw [← hs.out]⟩
        case measure => simp [intOf]; omega
      · have hlt3 : ¬ (0 : Int) < m - k := by omega
        go_wp2
        go_ret
        refine ⟨ret_int ?_, rfl⟩
        rw [hdef.out, ← HX.out, min_done m k hk hkm (by omega)]
    · go_wp2
      go_ret
      refine ⟨ret_int ?_, rfl⟩
      rw [hdef.out, ← HX.out, min_done m k hk hkm (by omega)]
theorem shrR_any (a n : Int) (w : World) (a0 : 0 ≤ a) (a1 : a ≤ 4294967295) (h0 : 0 ≤ n) (h1 : n ≤ 4294967295) :
    Calls Tryd.prog 26 #[.int .u32 a, .int .u32 n] w fun e w' => e = .returned (.int .u32 (shrW a n)) ∧ w' = w := by
  obtain ⟨m, rfl⟩ := Int.eq_ofNat_of_zero_le h0
  go_enter Tryd.func26, Tryd.ntmps26
  go_wp2
  go_loop [0, 1, 5] (fun x y i => ∃ k : Nat, k ≤ 32 ∧ k ≤ m ∧ i = .int .i64 k ∧ y = .int .u32 ((m : Int) - k) ∧ x = .int .u32 (a / 2 ^ k)) (fun _ _ i => 32 - (intOf i).toNat)
  case atStart => exact ⟨0, by omega, by omega, rfl, by simp, by simp⟩
  case round =>
    obtain ⟨k, hk, hkm, rfl, rfl, rfl⟩ := hrel
    have hb := shr_bd a k a0 a1
    have hs := hidden (shr_step a k)
    have hdef : Hid (shrW a m = a / 2 ^ (min m 32)) := by unfold shrW; simp [Hid]
    generalize hx : a / 2 ^ k = x at hb hs ⊢
    have HX := hidden hx
    clear hx
    by_cases hlt : k < 32
    · by_cases hlt2 : k < m
      · have hlt3 : (0 : Int) < m - k := by omega
        go_wp2
        go_round
        case rel => exact ⟨k + 1, by omega, by omega, by go_num, by go_num, by rw [← hs.out]⟩
        case measure => simp [intOf]; omega
      · have hlt3 : ¬ (0 : Int) < m - k := by omega
        go_wp2
        go_ret
        refine ⟨ret_int ?_, rfl⟩
        rw [hdef.out, ← HX.out, min_done m k hk hkm (by omega)]
    · go_wp2
      go_ret
      refine ⟨ret_int ?_, rfl⟩
      rw [hdef.out, ← HX.out, min_done m k hk hkm (by omega)]
theorem sarR_any (a n : Int) (w : World) (a0 : 0 ≤ a) (a1 : a ≤ 4294967295) (h0 : 0 ≤ n) (h1 : n ≤ 4294967295) :
    Calls Tryd.prog 28 #[.int .u32 a, .int .u32 n] w fun e w' => e = .returned (.int .u32 (sarW a n)) ∧ w' = w := by
  obtain ⟨m, rfl⟩ := Int.eq_ofNat_of_zero_le h0
  have ht := top_of a a0 a1
  have htb : 0 ≤ a / 2147483648 ∧ a / 2147483648 ≤ 1 := by omega
  have hdef : Hid (sarW a m = wrap32 a / 2 ^ (min m 32) % 4294967296) := by unfold sarW; simp [Hid]
  have hst : Hid (wrap32 a / 2 ^ 0 % 4294967296 = a) := by
    show _ = _
    simp; rw [wrap32_mod]; omega
  have hr := wrap32_range a
  generalize wrap32 a = s at *
  have hstep : Hid (∀ k : Nat, s / 2 ^ k % 4294967296 / 2 + a / 2147483648 * 2147483648 = s / 2 ^ (k + 1) % 4294967296) := hidden fun k => sar_step s _ k hr.1 hr.2 ht
  have hx : Hid (∀ k : Nat, 0 ≤ s / 2 ^ k % 4294967296 ∧ s / 2 ^ k % 4294967296 ≤ 4294967295 ∧ s / 2 ^ k % 4294967296 / 2 + a / 2147483648 * 2147483648 ≤ 4294967295) := hidden fun k => by
    have := hstep.out k
    omega
  clear ht
  go_enter Tryd.func28, Tryd.ntmps28
  go_wp2
  go_loop [0, 1, 6] (fun x y i => ∃ k : Nat, k ≤ 32 ∧ k ≤ m ∧ i = .int .i64 k ∧ y = .int .u32 ((m : Int) - k) ∧ x = .int .u32 (s / 2 ^ k % 4294967296)) (fun _ _ i => 32 - (intOf i).toNat)
  case atStart => exact ⟨0, by omega, by omega, rfl, by simp, by rw [hst.out]⟩
  case round =>
    obtain ⟨k, hk, hkm, rfl, rfl, rfl⟩ := hrel
    have hb := hx.out k
    have hs := hidden (hstep.out k)
    generalize hq : s / 2 ^ k % 4294967296 = x at hb hs ⊢
    have HX := hidden hq
    generalize a / 2147483648 = top at *
    clear hq
    by_cases hlt : k < 32
    · by_cases hlt2 : k < m
      · have hlt3 : (0 : Int) < m - k := by omega
        go_wp2
        go_round
        case rel => exact ⟨k + 1, by omega, by omega, by go_num, by go_num, by rw [← hs.out]⟩
        case measure => simp [intOf]; omega
      · have hlt3 : ¬ (0 : Int) < m - k := by omega
        go_wp2
        go_ret
        refine ⟨ret_int ?_, rfl⟩
        rw [hdef.out, ← HX.out, min_done m k hk hkm (by omega)]
    · go_wp2
      go_ret
      refine ⟨ret_int ?_, rfl⟩
      rw [hdef.out, ← HX.out, min_done m k hk hkm (by omega)]
theorem extR_any (a n : Int) (w : World) (a0 : 0 ≤ a) (a1 : a ≤ 4294967295) :
    Calls Tryd.prog 30 #[.int .u32 a, .int .i64 n] w fun e w' => e = .returned (.int .u32 (extW a n)) ∧ w' = w := by
  by_cases h1 : n = 1
  · subst h1
    go_enter Tryd.func30, Tryd.ntmps30
    go_wp2_with (go_at_call 37; refine (of_any _ _).mono ?_; rintro e w' ⟨rfl, rfl⟩)
    all_goals
      go_ret
      refine ⟨ret_int ?_, rfl⟩
      simp only [extW, if_true]
      omega
  by_cases h2 : n = 2
  · subst h2
    go_enter Tryd.func30, Tryd.ntmps30
    go_wp2_with (go_at_call 37; refine (of_any _ _).mono ?_; rintro e w' ⟨rfl, rfl⟩)
    all_goals
      go_ret
      refine ⟨ret_int ?_, rfl⟩
      simp only [extW, if_true, if_neg (show ¬ (2 : Int) = 1 by decide)]
      omega
  have e : extW a n = a := by simp [extW, h1, h2]
  have n1 : (n == 1) = false := by simpa using h1
  have n2 : (n == 2) = false := by simpa using h2
  rw [e]
  clear h1 h2 e
  go_enter Tryd.func30, Tryd.ntmps30
  go_wp2
  go_ret
  exact ⟨rfl, rfl⟩
end Go.Proofs.YtckkbiohkflknaaDoor
