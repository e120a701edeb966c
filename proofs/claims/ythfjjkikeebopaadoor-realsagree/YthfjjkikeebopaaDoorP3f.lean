/- Contract of the library's Div64 where the divisor's highest bit is set (walked: the shelf has none). -/
import Derived.Test.YthfjjkikeebopaaDoorP3c
import Derived.Test.YthfjjkikeebopaaDoorD3m
namespace Go.Proofs.YthfjjkikeebopaaDoor
open Go.RowKit
set_option maxHeartbeats 400000
set_option linter.unusedVariables false

theorem plz64 (x : Int) (w : World) (h0 : 0 ≤ x) (h1 : x ≤ 18446744073709551615) :
    Calls Tryd.prog 58 #[.int .u64 x] w fun e w' => e = .returned (.int .i64 ((64 - bl x : Nat) : Int)) ∧ w' = w := by
  have h := Tryd.bits_LeadingZeros64 x w h0 h1
  rw [lib_bl x h0 h1] at h
  have hb := bl_64 x h0 h1
  refine h.mono ?_
  rintro r w' ⟨rfl, rfl⟩
  exact ⟨ret_int (by omega), rfl⟩
theorem or_zero (a : Int) (a0 : 0 ≤ a) (a1 : a ≤ 18446744073709551615) : bits .or .u64 a 0 = a := by
  have h := or_join 0 a 0 a0 (by omega) (by rw [p2_0, Int.emod_one]) (by omega) (by rw [p2_0]; omega) (by omega)
  omega
theorem and_32 (a : Int) (a0 : 0 ≤ a) (a1 : a ≤ 18446744073709551615) : bits .and .u64 a 4294967295 = a % 4294967296 := by
  have h := and_low 32 a a0 (by omega) (by omega)
  have e : p2 32 = 4294967296 := by decide +kernel
  rw [e] at h
  exact h
theorem tdiv_u (a b : Int) (a0 : 0 ≤ a) (a1 : a ≤ 18446744073709551615) (b0 : 0 < b) : IntKind.u64.wrap (a.tdiv b) = a / b := by
  rw [Int.tdiv_eq_ediv_of_nonneg a0, IntKind.wrap_u64]
  have h1 : 0 ≤ a / b := Int.ediv_nonneg a0 (by omega)
  have h2 : a / b ≤ a := Int.ediv_le_self _ a0
  omega
theorem pdiv64 (hi lo y : Int) (w : World) (y0 : 9223372036854775808 ≤ y) (y1 : y ≤ 18446744073709551615) (h0 : 0 < hi) (h1 : hi < y) (l0 : 0 ≤ lo) (l1 : lo ≤ 18446744073709551615) :
    Calls Tryd.prog 59 #[.int .u64 hi, .int .u64 lo, .int .u64 y] w fun r w' => r = .returned (.tuple #[.int .u64 ((hi * 18446744073709551616 + lo) / y), .int .u64 ((hi * 18446744073709551616 + lo) % y)]) ∧ w' = w := by
  have HL : Hid (∀ w, Calls Tryd.prog 58 #[.int .u64 y] w fun r w' => r = .returned (.int .i64 0) ∧ w' = w) := hidden fun w => by
    have h := plz64 y w (by omega) y1
    have hb : bl y = 64 := by
      have h2 := lt_bl (N := y) (k := 63) (by rw [p2_63]; omega)
      have h3 := bl_64 y (by omega) y1
      omega
    rw [hb] at h
    exact h
  have hy : (y == 0) = false := by simp; omega
  have hh : (hi == 0) = false := by simp; omega
  obtain ⟨a, ha⟩ : ∃ a, y / 4294967296 = a := ⟨_, rfl⟩
  obtain ⟨b, hb⟩ : ∃ b, y % 4294967296 = b := ⟨_, rfl⟩
  obtain ⟨c, hc⟩ : ∃ c, lo / 4294967296 = c := ⟨_, rfl⟩
  obtain ⟨d, hd⟩ : ∃ d, lo % 4294967296 = d := ⟨_, rfl⟩
  have hA : 2147483648 ≤ a ∧ a < 4294967296 ∧ 0 ≤ b ∧ b < 4294967296 ∧ 0 ≤ c ∧ c < 4294967296 ∧ 0 ≤ d ∧ d < 4294967296 := by omega
  obtain ⟨a0, a1, b0, b1, c0, c1, d0, d1⟩ := hA
  have hY : Hid (y = a * 4294967296 + b) := hidden (by omega)
  have hLo : Hid (lo = c * 4294967296 + d) := hidden (by omega)
  have k1 : bits .and .u64 y 4294967295 = b := by rw [and_32 y (by omega) y1]; exact hb
  have k2 : bits .and .u64 lo 4294967295 = d := by rw [and_32 lo l0 l1]; exact hd
  have k3 : lo / 18446744073709551616 = 0 := by omega
  have k4 : bits .or .u64 hi 0 = hi := or_zero hi (by omega) (by omega)
  have hab : (a == 0) = false := by simp; omega
  have hab' : ¬ a = 0 := by omega
  obtain ⟨S1, S2, S3⟩ := dg_start hi c y a b hY.out a0 a1 b0 b1 (by omega) h1 c0 c1
  have k5 : IntKind.u64.wrap (hi.tdiv a) = hi / a := tdiv_u hi a (by omega) (by omega) (by omega)
  have hq1 := Int.ediv_le_self a (show 0 ≤ hi by omega)
  obtain ⟨Q1, hQ1⟩ : ∃ Q1, hi / a = Q1 := ⟨_, rfl⟩
  rw [hQ1] at k5 S1 S2 S3
  have hdw := dg_two hi lo y c d (by omega) hLo.out (by omega) h1 c0 d0 d1
  have hrs := dg_rest hi c y (by omega) y1 (by omega) c0
  have hT := dg_t hi c y (by omega) (by omega) h1 c0 c1
  obtain ⟨T1, hT1⟩ : ∃ T1, (hi * 4294967296 + c) / y = T1 := ⟨_, rfl⟩
  have hU0 := Int.emod_nonneg (hi * 4294967296 + c) (show y ≠ 0 by omega)
  have hU1 := Int.emod_lt_of_pos (hi * 4294967296 + c) (show 0 < y by omega)
  obtain ⟨U, hU⟩ : ∃ U, (hi * 4294967296 + c) % y = U := ⟨_, rfl⟩
  rw [hT1, hU] at hdw
  rw [hT1, hU] at hrs
  rw [hU] at hU0 hU1
  rw [hT1] at hT
  obtain ⟨V1, V2, V3⟩ := dg_start U d y a b hY.out a0 a1 b0 b1 hU0 hU1 d0 d1
  have k6 : IntKind.u64.wrap (U.tdiv a) = U / a := tdiv_u U a hU0 (by omega) (by omega)
  obtain ⟨Q0, hQ0⟩ : ∃ Q0, U / a = Q0 := ⟨_, rfl⟩
  rw [hQ0] at k6 V1 V2 V3
  have hrs2 := dg_rest U d y (by omega) y1 hU0 d0
  have hT2 := dg_t U d y (by omega) hU0 hU1 d0 d1
  obtain ⟨T0, hT0⟩ : ∃ T0, (U * 4294967296 + d) / y = T0 := ⟨_, rfl⟩
  obtain ⟨R, hR⟩ : ∃ R, (U * 4294967296 + d) % y = R := ⟨_, rfl⟩
  rw [hT0, hR] at hdw hrs2
  rw [hT0] at hT2
  have HD := hidden hdw
  have k7 : IntKind.u64.wrap (hi - IntKind.u64.wrap (Q1 * a)) = hi - Q1 * a := by
    have e := S1.eq; have r0 := S1.r0
    have : 0 ≤ Q1 * a := Int.mul_nonneg S3 (by omega)
    rw [IntKind.wrap_u64, IntKind.wrap_u64]; omega
  have k8 : IntKind.u64.wrap (U - IntKind.u64.wrap (Q0 * a)) = U - Q0 * a := by
    have e := V1.eq; have r0 := V1.r0
    have : 0 ≤ Q0 * a := Int.mul_nonneg V3 (by omega)
    rw [IntKind.wrap_u64, IntKind.wrap_u64]; omega
  obtain ⟨r1, hr1⟩ : ∃ r1, hi - Q1 * a = r1 := ⟨_, rfl⟩
  obtain ⟨r2, hr2⟩ : ∃ r2, U - Q0 * a = r2 := ⟨_, rfl⟩
  rw [hr1] at k7 S1 S2
  rw [hr2] at k8 V1 V2
  have k9 : IntKind.u64.wrap (IntKind.u64.wrap (T1 * 4294967296) + T0) = T1 * 4294967296 + T0 := by rw [IntKind.wrap_u64, IntKind.wrap_u64]; omega
  have HS1 := hidden S1
  have HV1 := hidden V1
  have HT1 := hidden hT1
  have HT0 := hidden hT0
  have HA := hidden ha
  clear hdw S1 V1 hT1 hT0 hU hQ1 hQ0 hr1 hr2 hR hq1 hb hd
  go_enter Tryd.func59, Tryd.ntmps59
  go_wp2_with (go_at_call 58; refine (HL.out _).mono ?_; rintro r w1 ⟨rfl, hw1⟩; obtain rfl := hw1.symm)
  go_loop [15, 16] (fun vq vr => ∃ q r : Int, vq = .int .u64 q ∧ vr = .int .u64 r ∧ 0 ≤ q ∧ r < 4294967296 ∧ DgAt hi c y a b q r) (fun vq _ => (intOf vq).toNat)
  case atStart => exact ⟨Q1, r1, rfl, rfl, by omega, by omega, HS1.out⟩
  case round =>
    obtain ⟨q, r, rfl, rfl, hq0, hr1, hdg⟩ := hrel
    have hq1 := hdg.top
    have hr0 := hdg.r0
    have HDG := hidden hdg
    clear hdg
    have hpr := dg_prod q b hq0 hq1 b0 b1
    obtain ⟨QB, hQB⟩ : ∃ QB, q * b = QB := ⟨_, rfl⟩
    rw [hQB] at hpr
    have HQB := hidden hQB
    by_cases hc1 : 4294967296 ≤ q
    · obtain ⟨g1, g2⟩ := dg_true hi c y a b q r hY.out a0 b0 (by omega) (by omega) c0 c1 HDG.out (.inl hc1)
      have kq : IntKind.u64.wrap (q - 1) = q - 1 := by rw [IntKind.wrap_u64]; omega
      have G2 := hidden g2
      clear g2
      by_cases hbr : 4294967296 ≤ r + a
      · have hqt : q - 1 = T1 := by rw [← HT1.out]; exact dg_break hi c y a b _ _ hY.out a0 b0 b1 c0 G2.out (by omega) (by omega) hbr
        obtain rfl : q = T1 + 1 := by omega
        have ex1 : T1 + 1 - 1 = T1 := by omega
        skip
        go_wp2
        go_loop [18, 16] (fun vq vr => ∃ q r : Int, vq = .int .u64 q ∧ vr = .int .u64 r ∧ 0 ≤ q ∧ r < 4294967296 ∧ DgAt U d y a b q r) (fun vq _ => (intOf vq).toNat)
        case atStart => exact ⟨Q0, r2, rfl, rfl, by omega, by omega, HV1.out⟩
        case round =>
          obtain ⟨q, r, rfl, rfl, hq0, hr1, hdg⟩ := hrel
          have hq1 := hdg.top
          have hr0 := hdg.r0
          have HDG := hidden hdg
          clear hdg
          have hpr := dg_prod q b hq0 hq1 b0 b1
          obtain ⟨QB, hQB⟩ : ∃ QB, q * b = QB := ⟨_, rfl⟩
          rw [hQB] at hpr
          have HQB := hidden hQB
          by_cases hc1 : 4294967296 ≤ q
          · obtain ⟨g1, g2⟩ := dg_true U d y a b q r hY.out a0 b0 (by omega) (by omega) d0 d1 HDG.out (.inl hc1)
            have kq : IntKind.u64.wrap (q - 1) = q - 1 := by rw [IntKind.wrap_u64]; omega
            have G2 := hidden g2
            clear g2
            by_cases hbr : 4294967296 ≤ r + a
            · have hqt : q - 1 = T0 := by rw [← HT0.out]; exact dg_break U d y a b _ _ hY.out a0 b0 b1 d0 G2.out (by omega) (by omega) hbr
              obtain rfl : q = T0 + 1 := by omega
              skip
              have ex1 : T0 + 1 - 1 = T0 := by omega
              go_wp2
              go_ret2
              exact ⟨by rw [HD.out.1, HD.out.2]; rfl, rfl⟩
            · go_wp2
              go_round
              case rel => exact ⟨q - 1, r + a, rfl, rfl, by omega, by omega, G2.out⟩
              case measure => simp [intOf]; omega
          · by_cases hc2 : 4294967296 * r + d < QB
            · obtain ⟨g1, g2⟩ := dg_true U d y a b q r hY.out a0 b0 (by omega) (by omega) d0 d1 HDG.out (.inr (by rw [HQB.out]; exact hc2))
              have kq : IntKind.u64.wrap (q - 1) = q - 1 := by rw [IntKind.wrap_u64]; omega
              have G2 := hidden g2
              clear g2
              by_cases hbr : 4294967296 ≤ r + a
              · have hqt : q - 1 = T0 := by rw [← HT0.out]; exact dg_break U d y a b _ _ hY.out a0 b0 b1 d0 G2.out (by omega) (by omega) hbr
                obtain rfl : q = T0 + 1 := by omega
                skip
                have ex1 : T0 + 1 - 1 = T0 := by omega
                go_wp2
                go_ret2
                exact ⟨by rw [HD.out.1, HD.out.2]; rfl, rfl⟩
              · go_wp2
                go_round
                case rel => exact ⟨q - 1, r + a, rfl, rfl, by omega, by omega, G2.out⟩
                case measure => simp [intOf]; omega
            · have hqt : q = T0 := by rw [← HT0.out]; exact dg_false U d y a b q r hY.out a0 b0 HDG.out (by rw [HQB.out]; omega)
              subst hqt
              skip
              go_wp2
              go_ret2
              exact ⟨by rw [HD.out.1, HD.out.2]; rfl, rfl⟩
      · go_wp2
        go_round
        case rel => exact ⟨q - 1, r + a, rfl, rfl, by omega, by omega, G2.out⟩
        case measure => simp [intOf]; omega
    · by_cases hc2 : 4294967296 * r + c < QB
      · obtain ⟨g1, g2⟩ := dg_true hi c y a b q r hY.out a0 b0 (by omega) (by omega) c0 c1 HDG.out (.inr (by rw [HQB.out]; exact hc2))
        have kq : IntKind.u64.wrap (q - 1) = q - 1 := by rw [IntKind.wrap_u64]; omega
        have G2 := hidden g2
        clear g2
        by_cases hbr : 4294967296 ≤ r + a
        · have hqt : q - 1 = T1 := by rw [← HT1.out]; exact dg_break hi c y a b _ _ hY.out a0 b0 b1 c0 G2.out (by omega) (by omega) hbr
          obtain rfl : q = T1 + 1 := by omega
          have ex1 : T1 + 1 - 1 = T1 := by omega
          skip
          go_wp2
          go_loop [18, 16] (fun vq vr => ∃ q r : Int, vq = .int .u64 q ∧ vr = .int .u64 r ∧ 0 ≤ q ∧ r < 4294967296 ∧ DgAt U d y a b q r) (fun vq _ => (intOf vq).toNat)
          case atStart => exact ⟨Q0, r2, rfl, rfl, by omega, by omega, HV1.out⟩
          case round =>
            obtain ⟨q, r, rfl, rfl, hq0, hr1, hdg⟩ := hrel
            have hq1 := hdg.top
            have hr0 := hdg.r0
            have HDG := hidden hdg
            clear hdg
            have hpr := dg_prod q b hq0 hq1 b0 b1
            obtain ⟨QB, hQB⟩ : ∃ QB, q * b = QB := ⟨_, rfl⟩
            rw [hQB] at hpr
            have HQB := hidden hQB
            by_cases hc1 : 4294967296 ≤ q
            · obtain ⟨g1, g2⟩ := dg_true U d y a b q r hY.out a0 b0 (by omega) (by omega) d0 d1 HDG.out (.inl hc1)
              have kq : IntKind.u64.wrap (q - 1) = q - 1 := by rw [IntKind.wrap_u64]; omega
              have G2 := hidden g2
              clear g2
              by_cases hbr : 4294967296 ≤ r + a
              · have hqt : q - 1 = T0 := by rw [← HT0.out]; exact dg_break U d y a b _ _ hY.out a0 b0 b1 d0 G2.out (by omega) (by omega) hbr
                obtain rfl : q = T0 + 1 := by omega
                skip
                have ex1 : T0 + 1 - 1 = T0 := by omega
                go_wp2
                go_ret2
                exact ⟨by rw [HD.out.1, HD.out.2]; rfl, rfl⟩
              · go_wp2
                go_round
                case rel => exact ⟨q - 1, r + a, rfl, rfl, by omega, by omega, G2.out⟩
                case measure => simp [intOf]; omega
            · by_cases hc2 : 4294967296 * r + d < QB
              · obtain ⟨g1, g2⟩ := dg_true U d y a b q r hY.out a0 b0 (by omega) (by omega) d0 d1 HDG.out (.inr (by rw [HQB.out]; exact hc2))
                have kq : IntKind.u64.wrap (q - 1) = q - 1 := by rw [IntKind.wrap_u64]; omega
                have G2 := hidden g2
                clear g2
                by_cases hbr : 4294967296 ≤ r + a
                · have hqt : q - 1 = T0 := by rw [← HT0.out]; exact dg_break U d y a b _ _ hY.out a0 b0 b1 d0 G2.out (by omega) (by omega) hbr
                  obtain rfl : q = T0 + 1 := by omega
                  skip
                  have ex1 : T0 + 1 - 1 = T0 := by omega
                  go_wp2
                  go_ret2
                  exact ⟨by rw [HD.out.1, HD.out.2]; rfl, rfl⟩
                · go_wp2
                  go_round
                  case rel => exact ⟨q - 1, r + a, rfl, rfl, by omega, by omega, G2.out⟩
                  case measure => simp [intOf]; omega
              · have hqt : q = T0 := by rw [← HT0.out]; exact dg_false U d y a b q r hY.out a0 b0 HDG.out (by rw [HQB.out]; omega)
                subst hqt
                skip
                go_wp2
                go_ret2
                exact ⟨by rw [HD.out.1, HD.out.2]; rfl, rfl⟩
        · go_wp2
          go_round
          case rel => exact ⟨q - 1, r + a, rfl, rfl, by omega, by omega, G2.out⟩
          case measure => simp [intOf]; omega
      · have hqt : q = T1 := by rw [← HT1.out]; exact dg_false hi c y a b q r hY.out a0 b0 HDG.out (by rw [HQB.out]; omega)
        subst hqt
        skip
        go_wp2
        go_loop [18, 16] (fun vq vr => ∃ q r : Int, vq = .int .u64 q ∧ vr = .int .u64 r ∧ 0 ≤ q ∧ r < 4294967296 ∧ DgAt U d y a b q r) (fun vq _ => (intOf vq).toNat)
        case atStart => exact ⟨Q0, r2, rfl, rfl, by omega, by omega, HV1.out⟩
        case round =>
          obtain ⟨q, r, rfl, rfl, hq0, hr1, hdg⟩ := hrel
          have hq1 := hdg.top
          have hr0 := hdg.r0
          have HDG := hidden hdg
          clear hdg
          have hpr := dg_prod q b hq0 hq1 b0 b1
          obtain ⟨QB, hQB⟩ : ∃ QB, q * b = QB := ⟨_, rfl⟩
          rw [hQB] at hpr
          have HQB := hidden hQB
          by_cases hc1 : 4294967296 ≤ q
          · obtain ⟨g1, g2⟩ := dg_true U d y a b q r hY.out a0 b0 (by omega) (by omega) d0 d1 HDG.out (.inl hc1)
            have kq : IntKind.u64.wrap (q - 1) = q - 1 := by rw [IntKind.wrap_u64]; omega
            have G2 := hidden g2
            clear g2
            by_cases hbr : 4294967296 ≤ r + a
            · have hqt : q - 1 = T0 := by rw [← HT0.out]; exact dg_break U d y a b _ _ hY.out a0 b0 b1 d0 G2.out (by omega) (by omega) hbr
              obtain rfl : q = T0 + 1 := by omega
              skip
              have ex1 : T0 + 1 - 1 = T0 := by omega
              go_wp2
              go_ret2
              exact ⟨by rw [HD.out.1, HD.out.2]; rfl, rfl⟩
            · go_wp2
              go_round
              case rel => exact ⟨q - 1, r + a, rfl, rfl, by omega, by omega, G2.out⟩
              case measure => simp [intOf]; omega
          · by_cases hc2 : 4294967296 * r + d < QB
            · obtain ⟨g1, g2⟩ := dg_true U d y a b q r hY.out a0 b0 (by omega) (by omega) d0 d1 HDG.out (.inr (by rw [HQB.out]; exact hc2))
              have kq : IntKind.u64.wrap (q - 1) = q - 1 := by rw [IntKind.wrap_u64]; omega
              have G2 := hidden g2
              clear g2
              by_cases hbr : 4294967296 ≤ r + a
              · have hqt : q - 1 = T0 := by rw [← HT0.out]; exact dg_break U d y a b _ _ hY.out a0 b0 b1 d0 G2.out (by omega) (by omega) hbr
                obtain rfl : q = T0 + 1 := by omega
                skip
                have ex1 : T0 + 1 - 1 = T0 := by omega
                go_wp2
                go_ret2
                exact ⟨by rw [HD.out.1, HD.out.2]; rfl, rfl⟩
              · go_wp2
                go_round
                case rel => exact ⟨q - 1, r + a, rfl, rfl, by omega, by omega, G2.out⟩
                case measure => simp [intOf]; omega
            · have hqt : q = T0 := by rw [← HT0.out]; exact dg_false U d y a b q r hY.out a0 b0 HDG.out (by rw [HQB.out]; omega)
              subst hqt
              skip
              go_wp2
              go_ret2
              exact ⟨by rw [HD.out.1, HD.out.2]; rfl, rfl⟩
end Go.Proofs.YthfjjkikeebopaaDoor
