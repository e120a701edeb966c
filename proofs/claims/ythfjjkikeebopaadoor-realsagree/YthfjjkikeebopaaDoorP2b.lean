/- Contracts of package round's bitLength and nearestUnits. -/
import Derived.Test.YthfjjkikeebopaaDoorP2a
import Derived.Test.YthfjjkikeebopaaDoorShelf
import Derived.Lib.BitFns
namespace Go.Proofs.YthfjjkikeebopaaDoor
open Go.RowKit
set_option maxHeartbeats 1000000
set_option linter.unusedVariables false

theorem lib_bl_nat (n : Nat) (h : n < 2 ^ 64) : Lib.bitLen n = if n = 0 then 0 else n.log2 + 1 := by
  induction n using Nat.strongRecOn with
  | _ n ih =>
    by_cases h0 : n = 0
    · subst h0; rfl
    · rw [Lib.bitLen_half n h0 h, ih (n / 2) (by omega) (by omega), if_neg h0, Nat.log2_def n]
      by_cases h2 : 2 ≤ n
      · rw [if_pos h2, if_neg (by omega)]; omega
      · obtain rfl : n = 1 := by omega
        simp
theorem lib_bl (x : Int) (h0 : 0 ≤ x) (h1 : x ≤ 18446744073709551615) : Lib.bitLen x.toNat = bl x := by
  rw [lib_bl_nat _ (by omega)]
  unfold bl
  split <;> split <;> omega
theorem plen64 (x : Int) (w : World) (h0 : 0 ≤ x) (h1 : x ≤ 18446744073709551615) :
    Calls Tryd.prog 60 #[.int .u64 x] w fun e w' => e = .returned (.int .i64 (bl x)) ∧ w' = w := by
  have := Tryd.bits_Len64 x w h0 h1
  rwa [lib_bl x h0 h1] at this
theorem bl_words (hi lo : Int) (a0 : 0 < hi) (b0 : 0 ≤ lo) (b1 : lo ≤ 18446744073709551615) : bl (hi * 18446744073709551616 + lo) = 64 + bl hi := by
  obtain ⟨x, y, z⟩ := bl_bd hi a0
  refine bl_of (.inr ⟨by omega, ?_, ?_⟩)
  · rw [show 64 + bl hi - 1 = bl hi - 1 + 64 by omega, p2_add, p2_64]; omega
  · rw [Nat.add_comm, p2_add, p2_64]; omega
theorem bl_64 (x : Int) (h0 : 0 ≤ x) (h1 : x ≤ 18446744073709551615) : bl x ≤ 64 := bl_le h0 (by rw [p2_64]; omega)
theorem pbitlen_any (N hi lo : Int) (w : World) (hN : hi * 18446744073709551616 + lo = N) (a0 : 0 ≤ hi) (a1 : hi ≤ 18446744073709551615) (b0 : 0 ≤ lo) (b1 : lo ≤ 18446744073709551615) :
    Calls Tryd.prog 54 #[.int .u64 hi, .int .u64 lo] w fun r w' => r = .returned (.int .i64 (bl N)) ∧ w' = w := by
  subst hN
  by_cases hc : hi = 0
  · subst hc
    go_enter Tryd.func54, Tryd.ntmps54
    go_wp2_with (go_at_call 60; refine (plen64 _ _ b0 b1).mono ?_; rintro r w1 ⟨rfl, hw⟩; obtain rfl := hw.symm)
    go_ret
    exact ⟨ret_int (by simp), rfl⟩
  · have H := hidden (bl_words hi lo (by omega) b0 b1)
    have hk : (bl hi : Int) ≤ 64 := by exact_mod_cast bl_64 hi a0 a1
    have hb : (hi != 0) = true := by simp [hc]
    go_enter Tryd.func54, Tryd.ntmps54
    go_wp2_with (go_at_call 60; refine (plen64 _ _ a0 a1).mono ?_; rintro r w1 ⟨rfl, hw⟩; obtain rfl := hw.symm)
    go_ret
    exact ⟨ret_int (by rw [H.out]; omega), rfl⟩
theorem pnear_any (N hi lo n : Int) (more : Bool) (w : World) (hN : hi * 18446744073709551616 + lo = N) (a0 : 0 ≤ hi) (a1 : hi ≤ 18446744073709551615) (b0 : 0 ≤ lo) (b1 : lo ≤ 18446744073709551615)
    (n0 : -100000 ≤ n) (n1 : n ≤ 100000) (f0 : n ≤ 0 → N * p2 (-n).toNat < 18446744073709551616) (f1 : 0 < n → N / p2 (n - 1).toNat / 2 < 18446744073709551615) :
    Calls Tryd.prog 57 #[.int .u64 hi, .int .u64 lo, .int .i64 n, .bool more] w fun r w' => r = .returned (.int .u64 (unitsI N n more)) ∧ ∃ q, w' = w.drewN q := by
  by_cases hc : n ≤ 0
  · have hC : Hid (∀ w, Calls Tryd.prog 66 #[.int .u64 hi, .int .u64 lo, .int .i64 (-n)] w fun r w' => r = .returned (.tuple #[.int .u64 (hiW (N * p2 (-n).toNat)), .int .u64 (loW (N * p2 (-n).toNat))]) ∧ ∃ q, w' = w.drewN q) := hidden fun w => by
      have := pshl_any N hi lo (-n).toNat w hN a0 a1 b0 b1 (by omega)
      rwa [show (((-n).toNat : Nat) : Int) = -n by omega] at this
    have hR : Hid (loW (N * p2 (-n).toNat) = unitsI N n more) := hidden (by
      unfold unitsI loW
      rw [if_pos hc]
      exact Int.emod_eq_of_lt (Int.mul_nonneg (by omega) (Int.le_of_lt (p2_pos _))) (f0 hc))
    clear f0 f1
    generalize hiW (N * p2 (-n).toNat) = A at *
    generalize loW (N * p2 (-n).toNat) = B at *
    go_enter Tryd.func57, Tryd.ntmps57
    go_wp2_with (go_at_call 66; refine (hC.out _).mono ?_; rintro r w1 ⟨rfl, q, hw⟩; subst hw)
    go_ret
    exact ⟨ret_int hR.out, _, rfl⟩
  · have hC1 : Hid (∀ w, Calls Tryd.prog 67 #[.int .u64 hi, .int .u64 lo, .int .i64 (n - 1)] w fun r w' => r = .returned (.tuple #[.int .u64 (hiW (N / p2 (n - 1).toNat)), .int .u64 (loW (N / p2 (n - 1).toNat))]) ∧ ∃ q, w' = w.drewN q) := hidden fun w => by
      have := pshr_any N hi lo (n - 1).toNat w hN a0 a1 b0 b1 (by omega)
      rwa [show (((n - 1).toNat : Nat) : Int) = n - 1 by omega] at this
    have hP := p2_pos (n - 1).toNat
    have hH0 : 0 ≤ N / p2 (n - 1).toNat := Int.ediv_nonneg (by omega) (by omega)
    have hH1 : N / p2 (n - 1).toNat ≤ N := Int.ediv_le_self _ (by omega)
    have hE := Int.mul_ediv_add_emod N (p2 (n - 1).toNat)
    have hM0 := Int.emod_nonneg N (show p2 (n - 1).toNat ≠ 0 by omega)
    have hR : unitsI N n more = N / p2 (n - 1).toNat / 2 + (if N / p2 (n - 1).toNat % 2 = 1 ∧ (more = true ∨ N % p2 (n - 1).toNat ≠ 0 ∨ N / p2 (n - 1).toNat / 2 % 2 = 1) then 1 else 0) := by
      unfold unitsI rnd
      rw [if_neg hc, show n.toNat - 1 = (n - 1).toNat by omega]
    have hf := f1 (by omega)
    clear f0 f1
    generalize N / p2 (n - 1).toNat = H at *
    have hW := words_eq H hH0 (by omega)
    have hh := hiW_bd H
    have hl := loW_bd H
    have hC2 : Hid (∀ w, Calls Tryd.prog 66 #[.int .u64 (hiW H), .int .u64 (loW H), .int .i64 (n - 1)] w fun r w' => r = .returned (.tuple #[.int .u64 (hiW (H * p2 (n - 1).toNat)), .int .u64 (loW (H * p2 (n - 1).toNat))]) ∧ ∃ q, w' = w.drewN q) := hidden fun w => by
      have := pshl_any H (hiW H) (loW H) (n - 1).toNat w hW hh.1 hh.2 hl.1 hl.2 (by omega)
      rwa [show (((n - 1).toNat : Nat) : Int) = n - 1 by omega] at this
    have hC3 : Hid (∀ w, Calls Tryd.prog 67 #[.int .u64 (hiW H), .int .u64 (loW H), .int .i64 1] w fun r w' => r = .returned (.tuple #[.int .u64 (hiW (H / 2)), .int .u64 (H / 2)]) ∧ ∃ q, w' = w.drewN q) := hidden fun w => by
      have := pshr_any H (hiW H) (loW H) 1 w hW hh.1 hh.2 hl.1 hl.2 (by omega)
      have e2 : p2 1 = 2 := rfl
      have e3 : loW (H / 2) = H / 2 := by unfold loW; omega
      rw [e2, e3] at this
      exact this
    have hodd : loW H % 2 = H % 2 := by unfold loW; omega
    rw [Int.mul_comm] at hE
    have hb1 : hiW (H * p2 (n - 1).toNat) ≠ hi ∨ loW (H * p2 (n - 1).toNat) ≠ lo ∨ N % p2 (n - 1).toNat = 0 := by
      by_cases h1 : hiW (H * p2 (n - 1).toNat) = hi
      case neg => exact .inl h1
      by_cases h2 : loW (H * p2 (n - 1).toNat) = lo
      case neg => exact .inr (.inl h2)
      refine .inr (.inr ?_)
      have := words_eq (H * p2 (n - 1).toNat) (Int.mul_nonneg hH0 (by omega)) (by omega)
      rw [h1, h2] at this
      omega
    have hb2 : N % p2 (n - 1).toNat = 0 → hiW (H * p2 (n - 1).toNat) = hi ∧ loW (H * p2 (n - 1).toNat) = lo := by
      intro h1
      have h3 : H * p2 (n - 1).toNat = hi * 18446744073709551616 + lo := by omega
      rw [h3]
      exact words_of hi lo a0 a1 b0 b1
    generalize N % p2 (n - 1).toNat = M at *
    have h2b : 0 ≤ H / 2 := by omega
    have hw2 := hiW_bd (H / 2)
    have hw3 := hiW_bd (H * p2 (n - 1).toNat)
    have hw4 := loW_bd (H * p2 (n - 1).toNat)
    generalize hiW (H * p2 (n - 1).toNat) = A at *
    generalize loW (H * p2 (n - 1).toNat) = B at *
    generalize hiW (H / 2) = C at *
    generalize hiW H = D at *
    generalize loW H = E at *
    clear hE hW hH1 hH0
    have hR' := hidden hR
    have hb1' := hidden hb1
    have hb2' := hidden hb2
    clear hR hb1 hb2
    have hodd' := hidden hodd
    clear hodd
    generalize hU : H / 2 = U at *
    have hU' := hidden hU
    clear hU
    have handE : Hid (bits .and .u64 E 1 = E % 2) := hidden (and_low 1 E hl.1 (by omega) (by decide))
    have handU : Hid (bits .and .u64 U 1 = U % 2) := hidden (and_low 1 U h2b (by omega) (by decide))
    cases more
    · by_cases e1 : A = hi
      · have e1' : (A != hi) = false := by simp [e1]
        by_cases e2 : B = lo
        · have e2' : (B != lo) = false := by simp [e2]
          go_enter Tryd.func57, Tryd.ntmps57
          go_wp2_with fail
          refine (hC1.out _).mono ?_; rintro r w1 ⟨rfl, q, hw⟩; subst hw
          go_wp2_with fail
          refine (hC2.out _).mono ?_; rintro r w1 ⟨rfl, q2, hw⟩; subst hw
          go_wp2_with fail
          refine (hC3.out _).mono ?_; rintro r w1 ⟨rfl, q3, hw⟩; subst hw
          go_wp2
          all_goals
            go_ret
            refine ⟨ret_int ?_, _, rfl⟩
            have z1 := hb1'.out
            have z2 := hb2'.out
            have z3 := hodd'.out
            have z4 := handE.out
            have z5 := handU.out
            try simp only [beq_iff_eq, beq_eq_false_iff_ne] at *
            rw [hR'.out]
            simp only [Bool.false_eq_true, false_or]
            split <;> omega
        · have e2' : (B != lo) = true := by simp [e2]
          go_enter Tryd.func57, Tryd.ntmps57
          go_wp2_with fail
          refine (hC1.out _).mono ?_; rintro r w1 ⟨rfl, q, hw⟩; subst hw
          go_wp2_with fail
          refine (hC2.out _).mono ?_; rintro r w1 ⟨rfl, q2, hw⟩; subst hw
          go_wp2_with fail
          refine (hC3.out _).mono ?_; rintro r w1 ⟨rfl, q3, hw⟩; subst hw
          go_wp2
          all_goals
            go_ret
            refine ⟨ret_int ?_, _, rfl⟩
            have z1 := hb1'.out
            have z2 := hb2'.out
            have z3 := hodd'.out
            have z4 := handE.out
            have z5 := handU.out
            rw [hR'.out]
            simp only [Bool.false_eq_true, false_or]
            split <;> omega
      · have e1' : (A != hi) = true := by simp [e1]
        go_enter Tryd.func57, Tryd.ntmps57
        go_wp2_with fail
        refine (hC1.out _).mono ?_; rintro r w1 ⟨rfl, q, hw⟩; subst hw
        go_wp2_with fail
        refine (hC2.out _).mono ?_; rintro r w1 ⟨rfl, q2, hw⟩; subst hw
        go_wp2_with fail
        refine (hC3.out _).mono ?_; rintro r w1 ⟨rfl, q3, hw⟩; subst hw
        go_wp2
        all_goals
          go_ret
          refine ⟨ret_int ?_, _, rfl⟩
          have z1 := hb1'.out
          have z2 := hb2'.out
          have z3 := hodd'.out
          have z4 := handE.out
          have z5 := handU.out
          rw [hR'.out]
          simp only [Bool.false_eq_true, false_or]
          split <;> omega
    · go_enter Tryd.func57, Tryd.ntmps57
      go_wp2_with fail
      refine (hC1.out _).mono ?_; rintro r w1 ⟨rfl, q, hw⟩; subst hw
      go_wp2_with fail
      refine (hC2.out _).mono ?_; rintro r w1 ⟨rfl, q2, hw⟩; subst hw
      go_wp2_with fail
      refine (hC3.out _).mono ?_; rintro r w1 ⟨rfl, q3, hw⟩; subst hw
      go_wp2
      all_goals
        go_ret
        refine ⟨ret_int ?_, _, rfl⟩
        have z1 := hb1'.out
        have z2 := hb2'.out
        have z3 := hodd'.out
        have z4 := handE.out
        have z5 := handU.out
        rw [hR'.out]
        simp only [true_or, and_true]
        split <;> omega
end Go.Proofs.YthfjjkikeebopaaDoor
