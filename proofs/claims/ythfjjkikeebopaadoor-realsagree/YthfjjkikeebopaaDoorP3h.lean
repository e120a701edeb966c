/- Contract of package soft's squareRoot. -/
import Derived.Test.YthfjjkikeebopaaDoorP3g
import Derived.Test.YthfjjkikeebopaaDoorM3c
namespace Go.Proofs.YthfjjkikeebopaaDoor
open Go.RowKit
set_option maxRecDepth 100000
set_option maxHeartbeats 400000
set_option linter.unusedVariables false

theorem and_one_i (n : Int) : bits .and .i64 n 1 = n % 2 := by
  have e1 : (BitVec.ofInt 64 1).toNat = 2 ^ 1 - 1 := rfl
  show IntKind.i64.wrap ((BitVec.ofInt 64 n &&& BitVec.ofInt 64 1).toNat : Nat) = n % 2
  rw [BitVec.toNat_and, e1, Nat.and_two_pow_sub_one_eq_mod, BitVec.toNat_ofInt]
  have h2 : ((2 ^ 64 : Nat) : Int) = 18446744073709551616 := rfl
  rw [h2]
  have h3 : (((n % 18446744073709551616).toNat % 2 ^ 1 : Nat) : Int) = n % 2 := by omega
  rw [h3]
  exact wrapi _ (by omega) (by omega)
theorem half_bit (j : Nat) (h : 0 < j) : p2 j / 2 = p2 (j - 1) := by
  have : p2 j = 2 * p2 (j - 1) := by rw [← p2_succ]; congr 1; omega
  omega
theorem proot (K E M : Int) (n : Bool) (w : World) (a0 : 0 < M) (a1 : M < 9223372036854775808) (e1 : -3000 ≤ E ∧ E ≤ 3000) :
    Calls Tryd.prog 42 #[partsV K n E M] w fun r w' => ∃ R, IsRoot (rootS E M * 18446744073709551616) R ∧ r = .returned (.tuple #[.int .u64 R, .int .i64 (rootE E M), .bool (decide (R * R ≠ rootS E M * 18446744073709551616))]) ∧ Below w.heap.size w w' := by
  obtain ⟨c1, c2, c3, c4⟩ := upE_ok E M a0 a1
  obtain ⟨b1, -, -⟩ := up_full M a0 (by omega) _ rfl
  have HL := hidden (fun w => plz64 M w (by omega) (by omega))
  have hu : upE E M = if (E - ((64 - bl M : Nat) : Int)) % 2 = 0 then 64 - bl M else 64 - bl M - 1 := rfl
  have hbl : 0 < 64 - bl M := by
    have := bl_le (Int.le_of_lt a0) (show M < p2 63 by rw [p2_63]; exact a1)
    omega
  have hu0 : ((64 - bl M : Nat) : Int) ≤ 64 := by omega
  have hS : Hid (rootS E M = M * p2 (upE E M)) := rfl
  have hEE : Hid (rootE E M = (E - (upE E M : Int) - 64) / 2) := rfl
  have k1 := and_one_i (E - ((64 - bl M : Nat) : Int))
  generalize rootS E M = S at *
  generalize rootE E M = SC at *
  generalize hU : upE E M = U at *
  generalize 64 - bl M = u at *
  have hs : IntKind.u64.wrap (M * 2 ^ U) = S := by rw [hS.out, IntKind.wrap_u64]; show M * p2 U % _ = _; omega
  rw [← hS.out] at c3 c4
  have kt : IntKind.i64.wrap ((E - (U : Int) - 64).tdiv 2) = SC := by
    rw [hEE.out]
    have : (E - (U : Int) - 64).tdiv 2 = (E - (U : Int) - 64) / 2 := by
      obtain ⟨q, hq⟩ : ∃ q, E - (U : Int) - 64 = 2 * q := ⟨(E - (U : Int) - 64) / 2, by omega⟩
      rw [hq, Int.mul_tdiv_cancel_left _ (by decide), Int.mul_ediv_cancel_left _ (by decide)]
    rw [this]
    exact wrapi _ (by omega) (by omega)
  clear hS hEE
  have ps1 := ps_fresh w K E M n
  have HB3 := hidden (((Below.refl w.heap.size w).alloc (Nat.le_refl _) (prt K n E M)))
  have hsp : (bits .and .i64 (E - (u : Int)) 1 = 0 ∧ U = u) ∨ (bits .and .i64 (E - (u : Int)) 1 = 1 ∧ U = u - 1) := by
    rw [k1]
    split at hu
    · left; omega
    · right; omega
  clear k1 hu
  rcases hsp with ⟨k1, rfl⟩ | ⟨k1, hU1⟩
  all_goals
    try (have kw : IntKind.i64.wrap ((u : Int) - 1) = (U : Int) := by rw [wrapi _ (by omega) (by omega)]; omega)
    try clear hU1
    clear hU
    go_enter Tryd.func42, Tryd.ntmps42
    go_upto_region 1 with fail
    change Code.wp _ _ _ _ (w.alloc (prt K n E M))
    generalize w.alloc (prt K n E M) = w3 at *
    obtain ⟨f0, f1, f2, f3, v0, v1, v2, v3⟩ := ps1
    go_wp2_with (go_at_call 58; refine (HL.out _).mono ?_; rintro r w1 ⟨rfl, hw1⟩; obtain rfl := hw1.symm)
    have HSt := hidden (root_start S (by omega) c4)
    go_loop [2, 7] (fun vr vb => ∃ R B : Int, vr = .int .u64 R ∧ vb = .int .u64 B ∧ 0 ≤ R ∧ R < 18446744073709551616 ∧ ((∃ j : Nat, j ≤ 63 ∧ B = p2 j ∧ RootAt (S * 18446744073709551616) R (j + 1)) ∨ (B = 0 ∧ RootAt (S * 18446744073709551616) R 0))) (fun _ vb => (intOf vb).toNat)
    case atStart => exact ⟨0, 9223372036854775808, rfl, rfl, by omega, by omega, .inl ⟨63, by omega, p2_63.symm, HSt.out⟩⟩
    case round =>
      obtain ⟨R, B, rfl, rfl, r0, r1, hat⟩ := hrel
      rcases hat with ⟨j, hj, hB, hat⟩ | ⟨rfl, hat⟩
      · have hB0 : 0 < B := by rw [hB]; exact p2_pos j
        have hB1 : B < 18446744073709551616 := by rw [hB]; exact p2_lt64 hj
        have hbd := hat.step_bd c4 hj
        rw [← hB] at hbd
        have hor : bits .or .u64 R B = R + B := or_join (j + 1) R B r0 r1 hat.2.1 (by omega) (by rw [hB, p2_succ]; have := p2_pos j; omega) hB1
        have hbz : (B == 0) = false := by simp; omega
        have hbn : (B != 0) = true := by simp; omega
        have hnx : Hid ((∃ i : Nat, i ≤ 63 ∧ B / 2 = p2 i ∧ j = i + 1) ∨ (B / 2 = 0 ∧ j = 0)) := hidden (by
          rcases Nat.eq_zero_or_pos j with h | h
          · right; rw [hB, h, p2_0]; exact ⟨by decide, rfl⟩
          · left; exact ⟨j - 1, by omega, by rw [hB]; exact half_bit j h, by omega⟩)
        have HAT := hidden hat
        have HBJ := hidden hB
        clear hat hB
        obtain ⟨P, hP⟩ : ∃ P, R + B = P := ⟨_, rfl⟩
        rw [hP] at hor hbd
        have HPP := hidden hP
        have hPq : 0 ≤ P := by omega
        clear hP
        have HM := hidden (fun w => pmul64 P P w hPq hbd hPq hbd)
        have hPP : 0 ≤ P * P := Int.mul_nonneg hPq hPq
        have hsw := hidden (sq_words (P * P) S hPP)
        obtain ⟨H, hH⟩ : ∃ H, P * P / 18446744073709551616 = H := ⟨_, rfl⟩
        obtain ⟨L, hL⟩ : ∃ L, P * P % 18446744073709551616 = L := ⟨_, rfl⟩
        rw [hH, hL] at HM hsw
        clear hH hL
        have hyes : Hid ((H < S ∨ (H = S ∧ L = 0)) → ∀ B', (∃ i : Nat, i ≤ 63 ∧ B' = p2 i ∧ j = i + 1) ∨ (B' = 0 ∧ j = 0) → ∃ R B'' : Int, Value.int .u64 P = .int .u64 R ∧ Value.int .u64 B' = .int .u64 B'' ∧ 0 ≤ R ∧ R < 18446744073709551616 ∧ ((∃ j : Nat, j ≤ 63 ∧ B'' = p2 j ∧ RootAt (S * 18446744073709551616) R (j + 1)) ∨ (B'' = 0 ∧ RootAt (S * 18446744073709551616) R 0))) := hidden (by
          intro h B' hB'
          have h1 := HAT.out.yes (by rw [← HBJ.out, HPP.out]; exact hsw.out.1 h)
          rw [← HBJ.out, HPP.out] at h1
          refine ⟨P, B', rfl, rfl, hPq, by omega, ?_⟩
          rcases hB' with ⟨i, hi, hb, rfl⟩ | ⟨hb, rfl⟩
          · exact .inl ⟨i, hi, hb, h1⟩
          · exact .inr ⟨hb, h1⟩)
        have hno : Hid (¬ (H < S ∨ (H = S ∧ L = 0)) → ∀ B', (∃ i : Nat, i ≤ 63 ∧ B' = p2 i ∧ j = i + 1) ∨ (B' = 0 ∧ j = 0) → ∃ R' B'' : Int, Value.int .u64 R = .int .u64 R' ∧ Value.int .u64 B' = .int .u64 B'' ∧ 0 ≤ R' ∧ R' < 18446744073709551616 ∧ ((∃ j : Nat, j ≤ 63 ∧ B'' = p2 j ∧ RootAt (S * 18446744073709551616) R' (j + 1)) ∨ (B'' = 0 ∧ RootAt (S * 18446744073709551616) R' 0))) := hidden (by
          intro h B' hB'
          have h1 := HAT.out.no (by rw [← HBJ.out, HPP.out]; exact fun h2 => h (hsw.out.2 h2))
          refine ⟨R, B', rfl, rfl, r0, r1, ?_⟩
          rcases hB' with ⟨i, hi, hb, rfl⟩ | ⟨hb, rfl⟩
          · exact .inl ⟨i, hi, hb, h1⟩
          · exact .inr ⟨hb, h1⟩)
        clear hsw HAT HBJ HPP hPP
        by_cases g1 : H < S
        · go_wp2_with (go_at_call 37; refine (HM.out _).mono ?_; rintro r w1 ⟨rfl, hw1⟩; obtain rfl := hw1.symm)
          go_round
          case rel => exact hyes.out (.inl g1) _ hnx.out
          case measure => simp [intOf]; omega
        · by_cases g2 : H = S
          · have g2' : (H == S) = true := by simpa using g2
            by_cases g3 : L = 0
            · have g3' : (L == 0) = true := by simpa using g3
              have Y := hidden (hyes.out (.inr ⟨g2, g3⟩))
              clear g2 g3 hyes hno
              go_wp2_with (go_at_call 37; refine (HM.out _).mono ?_; rintro r w1 ⟨rfl, hw1⟩; obtain rfl := hw1.symm)
              go_round
              case rel => exact Y.out _ hnx.out
              case measure => simp [intOf]; omega
            · have g3' : (L == 0) = false := by simpa using g3
              have Y := hidden (hno.out (by omega))
              clear g2 g3 hyes hno
              go_wp2_with (go_at_call 37; refine (HM.out _).mono ?_; rintro r w1 ⟨rfl, hw1⟩; obtain rfl := hw1.symm)
              go_round
              case rel => exact Y.out _ hnx.out
              case measure => simp [intOf]; omega
          · have g2' : (H == S) = false := by simpa using g2
            have Y := hidden (hno.out (by omega))
            clear g2 hyes hno
            go_wp2_with (go_at_call 37; refine (HM.out _).mono ?_; rintro r w1 ⟨rfl, hw1⟩; obtain rfl := hw1.symm)
            go_round
            case rel => exact Y.out _ hnx.out
            case measure => simp [intOf]; omega
      · have HM := hidden (fun w => pmul64 R R w r0 (by omega) r0 (by omega))
        have hPP : 0 ≤ R * R := Int.mul_nonneg r0 r0
        have hsw := hidden (sq_words_eq (R * R) S hPP)
        have HRT := hidden hat.done
        clear hat
        obtain ⟨H, hH⟩ : ∃ H, R * R / 18446744073709551616 = H := ⟨_, rfl⟩
        obtain ⟨L, hL⟩ : ∃ L, R * R % 18446744073709551616 = L := ⟨_, rfl⟩
        rw [hH, hL] at HM hsw
        clear hH hL hPP
        by_cases g1 : H = S
        · have g1' : (H != S) = false := by simp [g1]
          have HG := hidden g1
          clear g1
          go_wp2_with (go_at_call 37; refine (HM.out _).mono ?_; rintro r w1 ⟨rfl, hw1⟩; obtain rfl := hw1.symm)
          go_quiet (fail)
          go_wp2
          go_ret3
          refine ⟨R, HRT.out, ?_, below_drewN HB3.out _⟩
          have e : (L != 0) = decide (R * R ≠ S * 18446744073709551616) := by
            rw [bne_dec]
            exact decide_eq_decide.2 ⟨fun h => hsw.out.1 (.inr h), fun h => (hsw.out.2 h).resolve_left (fun h2 => h2 HG.out)⟩
          rw [← e]
          rfl
        · have g1' : (H != S) = true := by simp [g1]
          have HG := hidden g1
          clear g1
          go_wp2_with (go_at_call 37; refine (HM.out _).mono ?_; rintro r w1 ⟨rfl, hw1⟩; obtain rfl := hw1.symm)
          go_quiet (fail)
          go_wp2
          go_ret3
          refine ⟨R, HRT.out, ?_, below_drewN HB3.out _⟩
          have e : true = decide (R * R ≠ S * 18446744073709551616) := (decide_eq_true (hsw.out.1 (.inl HG.out))).symm
          rw [← e]
          rfl
end Go.Proofs.YthfjjkikeebopaaDoor
