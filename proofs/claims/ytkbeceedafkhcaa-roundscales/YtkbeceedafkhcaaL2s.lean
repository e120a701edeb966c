/- The walk of RoundScales: one number, told by another power of 2, has one pattern. -/
import Derived.Test.YtkbeceedafkhcaaL2a
namespace Go.Proofs.Ytkbeceedafkhcaa
open Go.RowKit
set_option maxHeartbeats 2000000
set_option linter.unusedVariables false

theorem roundScales_walk (a0 b0 a1 a2 a3 : Int) (w : World) (w0 : (Lit.int .i64 a0).wf = true) (x0 : (Lit.int .i64 b0).wf = true) (w1 : (Lit.int .u64 a1).wf = true) (w2 : (Lit.int .i64 a2).wf = true) (w3 : (Lit.int .i64 a3).wf = true) :
    Calls Try.prog 8 #[.agg #[.int .i64 a0, .int .i64 b0], .int .u64 a1, .int .i64 a2, .int .i64 a3] w fun r w' => r = .returned (.bool true) ∧ Below w.heap.size w w' := by
  have c0 := bounds_i64 w0
  have c1 := bounds_i64 x0
  have c2 := bounds_u64 w1
  have c3 := bounds_i64 w2
  have c4 := bounds_i64 w3
  clear w0 x0 w1 w2 w3
  have HL := hidden live_any
  by_cases hout : a3 < 0 ∨ 63 < a3 ∨ a2 < -4032 ∨ 4096 < a2
  · have hc : a3 < 0 ∨ (0 ≤ a3 ∧ 63 < a3) ∨ (0 ≤ a3 ∧ a3 ≤ 63 ∧ a2 < -4032) ∨ (0 ≤ a3 ∧ a3 ≤ 63 ∧ -4032 ≤ a2 ∧ 4096 < a2) := by omega
    clear hout
    rcases hc with h | ⟨h, h5⟩ | ⟨h, h5, h6⟩ | ⟨h, h5, h6, h7⟩
    all_goals
      go_enter Try.func8, Try.ntmps8
      go_wp2_with (go_at_call 20; refine (HL.out _).mono ?_; rintro r w1 ⟨rfl, hb1⟩)
      go_ret
      exact ⟨rfl, box_below _ hb1⟩
  · have hout' : 0 ≤ a3 ∧ a3 ≤ 63 ∧ -4032 ≤ a2 ∧ a2 ≤ 4096 := by omega
    clear hout
    obtain ⟨h1, h2, h3, h4⟩ := hout'
    obtain ⟨k, rfl⟩ := Int.eq_ofNat_of_zero_le h1
    have k1 : IntKind.i64.wrap (a2 - (k : Int)) = a2 - k := wrapi _ (by omega) (by omega)
    have hall : ∃ X g : Int, Hid (∀ w, Calls Try.prog 21 #[.agg #[.int .i64 a0, .int .i64 b0], .bool true, .int .u64 0, .int .u64 a1, .int .i64 a2, .bool false] w fun r w' => r = .returned (.tuple #[.int .u64 X, .int .i64 g]) ∧ Below w.heap.size w w') ∧
        Hid (∀ w, Calls Try.prog 21 #[.agg #[.int .i64 a0, .int .i64 b0], .bool true, .int .u64 (if k = 0 then 0 else a1 / 2 ^ (64 - k)), .int .u64 (IntKind.u64.wrap (a1 * 2 ^ k)), .int .i64 (a2 - k), .bool false] w fun r w' => r = .returned (.tuple #[.int .u64 X, .int .i64 g]) ∧ Below w.heap.size w w') := by
      by_cases hok : okF a0 b0
      · obtain ⟨m, rfl⟩ := Int.eq_ofNat_of_zero_le (show 0 ≤ a0 by have := hok.1; omega)
        obtain ⟨x, rfl⟩ := Int.eq_ofNat_of_zero_le (show 0 ≤ b0 by have := hok.2.2.1; omega)
        have hkk : (if k = 0 then 0 else a1 / 2 ^ (64 - k)) * 18446744073709551616 + IntKind.u64.wrap (a1 * 2 ^ k) = a1 * p2 k ∧ 0 ≤ (if k = 0 then 0 else a1 / 2 ^ (64 - k)) ∧ (if k = 0 then 0 else a1 / 2 ^ (64 - k)) ≤ 18446744073709551615 := by
          have hs := p2_split64 k (by omega)
          have hP := p2_pos k
          have hQ := p2_pos (64 - k)
          rw [IntKind.wrap_u64]
          split
          · rename_i hk0
            subst hk0
            simp only [show (2 : Int) ^ 0 = 1 by rfl, show p2 0 = 1 by rfl]
            omega
          · have e2 : a1 * p2 k / 18446744073709551616 = a1 / p2 (64 - k) := by
              rw [← hs, Int.mul_comm a1]; exact Int.mul_ediv_mul_of_pos _ _ hP
            have e3 : a1 / p2 (64 - k) ≤ a1 := Int.ediv_le_self _ c2.1
            have e4 : 0 ≤ a1 / p2 (64 - k) := Int.ediv_nonneg c2.1 (by omega)
            show a1 / p2 (64 - k) * 18446744073709551616 + a1 * p2 k % 18446744073709551616 = a1 * p2 k ∧ 0 ≤ a1 / p2 (64 - k) ∧ a1 / p2 (64 - k) ≤ 18446744073709551615
            omega
        have hwr : 0 ≤ IntKind.u64.wrap (a1 * 2 ^ k) ∧ IntKind.u64.wrap (a1 * 2 ^ k) ≤ 18446744073709551615 := by rw [IntKind.wrap_u64]; omega
        refine ⟨packP m x a1 a2 false + sgnW true (m + x), 0, hidden fun w => ?_, hidden fun w => ?_⟩
        · exact ppack_any m x true false a1 0 a1 a2 w hok (by omega) (by omega) (by omega) (by decide) (by decide) c2.1 c2.2 (fun h => by cases h)
        · have h := ppack_any m x true false (a1 * p2 k) (if k = 0 then 0 else a1 / 2 ^ (64 - k)) (IntKind.u64.wrap (a1 * 2 ^ k)) (a2 - k) w hok (by omega) (by omega) hkk.1 hkk.2.1 hkk.2.2 hwr.1 hwr.2 (fun h => by cases h)
          rw [pack_scale m x a1 a2 k c2.1] at h
          exact h
      · exact ⟨0, 1, hidden fun w => ppack_fmt _ _ _ _ _ _ _ w hok, hidden fun w => ppack_fmt _ _ _ _ _ _ _ w hok⟩
    obtain ⟨X, g, P1, P2⟩ := hall
    by_cases hz : k = 0
    · rw [if_pos hz] at P2
      have hz' : (k : Int) ≤ 0 := by omega
      clear hz
      go_enter Try.func8, Try.ntmps8
      go_wp2_with fail
      refine (P1.out _).mono ?_
      rintro r w1 ⟨rfl, hb1⟩
      have d0 : w1.cell? ⟨w.heap.size, 0, none⟩ = some (.int .i64 a0) := cellLater hb1 (by simp)
      have d1 : w1.cell? ⟨w.heap.size, 1, none⟩ = some (.int .i64 b0) := cellLater hb1 (by simp)
      have HB1 := hidden (box_below _ hb1)
      clear hb1
      go_wp2_with fail
      go_region_held3 (fun w' => w'.cell? ⟨w.heap.size, 0, none⟩ = some (.int .i64 a0) ∧ w'.cell? ⟨w.heap.size, 1, none⟩ = some (.int .i64 b0)) (first | (go_keep; done) | exact ⟨cellLater (by assumption) (And.left (by assumption)), cellLater (by assumption) (And.right (by assumption))⟩) (first | (go_at_call 21; refine (P2.out _).mono ?_; rintro r w2 ⟨rfl, hb2⟩))
      all_goals
        have HB2 := hidden hb2
        clear hb2
        go_wp2_with (go_at_call 20; refine (HL.out _).mono ?_; rintro r w3 ⟨rfl, hb3⟩)
        go_ret
        exact ⟨rfl, HB1.out.drew.trans ((HB2.out.trans (hb3.mono HB2.out.size)).mono HB1.out.drew.size)⟩
    · rw [if_neg hz] at P2
      have hz' : 0 < (k : Int) := by omega
      go_enter Try.func8, Try.ntmps8
      go_wp2_with fail
      refine (P1.out _).mono ?_
      rintro r w1 ⟨rfl, hb1⟩
      have d0 : w1.cell? ⟨w.heap.size, 0, none⟩ = some (.int .i64 a0) := cellLater hb1 (by simp)
      have d1 : w1.cell? ⟨w.heap.size, 1, none⟩ = some (.int .i64 b0) := cellLater hb1 (by simp)
      have HB1 := hidden (box_below _ hb1)
      clear hb1
      go_wp2_with fail
      go_region_held3 (fun w' => w'.cell? ⟨w.heap.size, 0, none⟩ = some (.int .i64 a0) ∧ w'.cell? ⟨w.heap.size, 1, none⟩ = some (.int .i64 b0)) (first | (go_keep; done) | exact ⟨cellLater (by assumption) (And.left (by assumption)), cellLater (by assumption) (And.right (by assumption))⟩) (first | (go_at_call 21; refine (P2.out _).mono ?_; rintro r w2 ⟨rfl, hb2⟩))
      all_goals
        have HB2 := hidden hb2
        clear hb2
        go_wp2_with (go_at_call 20; refine (HL.out _).mono ?_; rintro r w3 ⟨rfl, hb3⟩)
        go_ret
        exact ⟨rfl, HB1.out.drew.trans ((HB2.out.trans (hb3.mono HB2.out.size)).mono HB1.out.drew.size)⟩
end Go.Proofs.Ytkbeceedafkhcaa
