/- The walk of RoundMore: what is a little greater has the pattern of the number or the next one. -/
import Derived.Test.YtkbeceedafkhcabL2a
namespace Go.Proofs.Ytkbeceedafkhcab
open Go.RowKit
set_option maxHeartbeats 4000000
set_option linter.unusedVariables false

theorem more_err (a0 b0 a1 a2 : Int) (w : World) (hP : Hid (∀ more w, Calls Try.prog 4 #[.agg #[.int .i64 a0, .int .i64 b0], .bool false, .int .u64 0, .int .u64 a1, .int .i64 a2, .bool more] w fun r w' => r = .returned (.tuple #[.int .u64 0, .int .i64 1]) ∧ Below w.heap.size w w')) :
    Calls Try.prog 3 #[.agg #[.int .i64 a0, .int .i64 b0], .int .u64 a1, .int .i64 a2] w fun r w' => r = .returned (.bool true) ∧ Below w.heap.size w w' := by
  have HL := hidden live_any
  have HM1 := hidden (fun w => num_any 1 w (by decide) (by decide))
  go_enter Try.func3, Try.ntmps3
  go_wp2_with fail
  refine (hP.out _ _).mono ?_
  rintro r w1 ⟨rfl, hb1⟩
  have d0 : w1.cell? ⟨w.heap.size, 0, none⟩ = some (.int .i64 a0) := cellLater hb1 (by simp)
  have d1 : w1.cell? ⟨w.heap.size, 1, none⟩ = some (.int .i64 b0) := cellLater hb1 (by simp)
  have HB1 := hidden (box_below _ hb1)
  clear hb1
  go_wp2_with fail
  refine (hP.out _ _).mono ?_
  rintro r w2 ⟨rfl, hb2⟩
  replace HB1 := hidden (HB1.out.trans (hb2.mono HB1.out.size))
  clear hb2
  go_wp2_with (first | (go_at_call 5; refine (HM1.out _).mono ?_; rintro r w7 ⟨rfl, hw⟩; obtain rfl := hw.symm) | (go_at_call 6; refine (HL.out _).mono ?_; rintro r w4 ⟨rfl, hb4⟩))
  go_ret
  exact ⟨rfl, HB1.out.trans (hb4.mono HB1.out.size)⟩
theorem more_few (m x : Nat) (a1 a2 X : Int) (w : World) (hm : (m : Int) ≤ 52) (c0 : 0 ≤ a1) (h1 : a1 < p2 (m + 2)) (hP : Hid (∀ w, Calls Try.prog 4 #[fmtV m x, .bool false, .int .u64 0, .int .u64 a1, .int .i64 a2, .bool false] w fun r w' => r = .returned (.tuple #[.int .u64 X, .int .i64 0]) ∧ Below w.heap.size w w'))
    (hQ : Hid (∀ w, Calls Try.prog 4 #[fmtV m x, .bool false, .int .u64 0, .int .u64 a1, .int .i64 a2, .bool true] w fun r w' => r = .returned (.tuple #[.int .u64 0, .int .i64 1]) ∧ Below w.heap.size w w')) :
    Calls Try.prog 3 #[fmtV m x, .int .u64 a1, .int .i64 a2] w fun r w' => r = .returned (.bool true) ∧ Below w.heap.size w w' := by
  have HL := hidden live_any
  have HM := hidden (fun w => num_any 0 w (by decide) (by decide))
  have HM1 := hidden (fun w => num_any 1 w (by decide) (by decide))
  have hs : (a1 / 2 ^ (m + 2) == 0) = true := by
    show (a1 / p2 (m + 2) == 0) = true
    rw [Int.ediv_eq_zero_of_lt c0 h1]; rfl
  clear h1
  go_enter Try.func3, Try.ntmps3
  go_wp2_with fail
  refine (hP.out _).mono ?_
  rintro r w1 ⟨rfl, hb1⟩
  have d0 : w1.cell? ⟨w.heap.size, 0, none⟩ = some (.int .i64 m) := cellLater hb1 (by simp)
  have d1 : w1.cell? ⟨w.heap.size, 1, none⟩ = some (.int .i64 x) := cellLater hb1 (by simp)
  have HB1 := hidden (box_below _ hb1)
  clear hb1
  go_wp2_with fail
  refine (hQ.out _).mono ?_
  rintro r w2 ⟨rfl, hb2⟩
  replace d0 := cellLater hb2 d0
  replace d1 := cellLater hb2 d1
  replace HB1 := hidden (HB1.out.trans (hb2.mono HB1.out.size))
  clear hb2
  go_wp2_with (first | (go_at_call_of 5 (Value.int IntKind.i64 0); refine (HM.out _).mono ?_; rintro r w7 ⟨rfl, hw⟩; obtain rfl := hw.symm) | (go_at_call_of 5 (Value.int IntKind.i64 1); refine (HM1.out _).mono ?_; rintro r w7 ⟨rfl, hw⟩; obtain rfl := hw.symm) | (go_at_call 6; refine (HL.out _).mono ?_; rintro r w4 ⟨rfl, hb4⟩))
  go_ret
  exact ⟨rfl, HB1.out.trans (hb4.mono HB1.out.size)⟩
theorem more_all (m x : Nat) (a1 a2 X Y Z g : Int) (w : World) (hm : (m : Int) ≤ 52) (c0 : 0 ≤ a1) (c1 : a1 ≤ 18446744073709551615) (e0 : -4096 ≤ a2) (e1 : a2 ≤ 4096) (hX : 0 ≤ X) (hX1 : X ≤ 18446744073709551614) (hXY : Y = X ∨ Y = X + 1) (hg : (g = 0 ∧ Z = Y) ∨ g = 1) (hP : Hid (∀ w, Calls Try.prog 4 #[fmtV m x, .bool false, .int .u64 0, .int .u64 a1, .int .i64 a2, .bool false] w fun r w' => r = .returned (.tuple #[.int .u64 X, .int .i64 0]) ∧ Below w.heap.size w w'))
    (hQ : Hid (∀ w, Calls Try.prog 4 #[fmtV m x, .bool false, .int .u64 0, .int .u64 a1, .int .i64 a2, .bool true] w fun r w' => r = .returned (.tuple #[.int .u64 Y, .int .i64 0]) ∧ Below w.heap.size w w'))
    (hR : Hid (∀ w, Calls Try.prog 4 #[fmtV m x, .bool false, .int .u64 (a1 / 9223372036854775808), .int .u64 (a1 * 2 % 18446744073709551616 + 1), .int .i64 (a2 - 1), .bool false] w fun r w' => r = .returned (.tuple #[.int .u64 Z, .int .i64 g]) ∧ Below w.heap.size w w')) :
    Calls Try.prog 3 #[fmtV m x, .int .u64 a1, .int .i64 a2] w fun r w' => r = .returned (.bool true) ∧ Below w.heap.size w w' := by
  have HL := hidden live_any
  have HM := hidden (fun w => num_any 0 w (by decide) (by decide))
  have HM1 := hidden (fun w => num_any 1 w (by decide) (by decide))
  have HXY := hidden hXY
  clear hXY
  go_enter Try.func3, Try.ntmps3
  go_wp2_with fail
  refine (hP.out _).mono ?_
  rintro r w1 ⟨rfl, hb1⟩
  have d0 : w1.cell? ⟨w.heap.size, 0, none⟩ = some (.int .i64 m) := cellLater hb1 (by simp)
  have d1 : w1.cell? ⟨w.heap.size, 1, none⟩ = some (.int .i64 x) := cellLater hb1 (by simp)
  have HB1 := hidden (box_below _ hb1)
  clear hb1
  go_wp2_with fail
  refine (hQ.out _).mono ?_
  rintro r w2 ⟨rfl, hb2⟩
  replace d0 := cellLater hb2 d0
  replace d1 := cellLater hb2 d1
  replace HB1 := hidden (HB1.out.trans (hb2.mono HB1.out.size))
  clear hb2
  go_wp2_with (first | (go_at_call_of 5 (Value.int IntKind.i64 0); refine (HM.out _).mono ?_; rintro r w7 ⟨rfl, hw⟩; obtain rfl := hw.symm))
  have hLO : bits .or .u64 (IntKind.u64.wrap (a1 * 2)) 1 = a1 * 2 % 18446744073709551616 + 1 := by
    rw [IntKind.wrap_u64, or_join 1 _ 1 (by omega) (by omega) (show a1 * 2 % 18446744073709551616 % 2 = 0 by omega) (by omega) (show (1 : Int) < 2 by omega) (by omega)]
  rw [hLO]
  refine (hR.out _).mono ?_
  rintro r w3 ⟨rfl, hb3⟩
  replace HB1 := hidden (HB1.out.trans (hb3.mono HB1.out.size))
  clear hb3 hP hQ hR
  rcases HXY.out with h | h
  · subst h
    rcases hg with ⟨rfl, rfl⟩ | rfl
    all_goals
      go_wp2_with (first | (go_at_call_of 5 (Value.int IntKind.i64 0); refine (HM.out _).mono ?_; rintro r w7 ⟨rfl, hw⟩; obtain rfl := hw.symm) | (go_at_call_of 5 (Value.int IntKind.i64 1); refine (HM1.out _).mono ?_; rintro r w7 ⟨rfl, hw⟩; obtain rfl := hw.symm) | (go_at_call 6; refine (HL.out _).mono ?_; rintro r w4 ⟨rfl, hb4⟩))
      go_ret
      exact ⟨rfl, HB1.out.trans (hb4.mono HB1.out.size)⟩
  · subst h
    have hne : (X + 1 == X) = false := by simp; omega
    rcases hg with ⟨rfl, rfl⟩ | rfl
    all_goals
      go_wp2_with (first | (go_at_call_of 5 (Value.int IntKind.i64 0); refine (HM.out _).mono ?_; rintro r w7 ⟨rfl, hw⟩; obtain rfl := hw.symm) | (go_at_call_of 5 (Value.int IntKind.i64 1); refine (HM1.out _).mono ?_; rintro r w7 ⟨rfl, hw⟩; obtain rfl := hw.symm) | (go_at_call 6; refine (HL.out _).mono ?_; rintro r w4 ⟨rfl, hb4⟩))
      go_ret
      exact ⟨rfl, HB1.out.trans (hb4.mono HB1.out.size)⟩
theorem roundMore_walk (a0 b0 a1 a2 : Int) (w : World) (w0 : (Lit.int .i64 a0).wf = true) (x0 : (Lit.int .i64 b0).wf = true) (w1 : (Lit.int .u64 a1).wf = true) (w2 : (Lit.int .i64 a2).wf = true) :
    Calls Try.prog 3 #[.agg #[.int .i64 a0, .int .i64 b0], .int .u64 a1, .int .i64 a2] w fun r w' => r = .returned (.bool true) ∧ Below w.heap.size w w' := by
  have c2 := bounds_u64 w1
  by_cases hok : okF a0 b0
  · by_cases he : -4096 ≤ a2 ∧ a2 ≤ 4096
    · obtain ⟨e0, e1⟩ := he
      obtain ⟨m, rfl⟩ := Int.eq_ofNat_of_zero_le (show 0 ≤ a0 by have := hok.1; omega)
      obtain ⟨x, rfl⟩ := Int.eq_ofNat_of_zero_le (show 0 ≤ b0 by have := hok.2.2.1; omega)
      have P1 := fun w => ppack_any m x false false a1 0 a1 a2 w hok e0 e1 (by omega) (by decide) (by decide) c2.1 c2.2 (fun h => by cases h)
      have es : sgnW false (m + x) = 0 := rfl
      by_cases hk : m + 3 ≤ bl a1
      · have P2 := fun w => ppack_any m x false true a1 0 a1 a2 w hok e0 e1 (by omega) (by decide) (by decide) c2.1 c2.2 (fun h => by omega)
        obtain ⟨q1, q2⟩ := pack_more m x a1 a2 hk
        have hb := pack_bd m x a1 a2 false c2.1 (by have := hok.2.2.1; omega)
        have ht := top_bd m x hok
        have hlow : 0 ≤ a1 * 2 % 18446744073709551616 + 1 ∧ a1 * 2 % 18446744073709551616 + 1 ≤ 18446744073709551615 := by omega
        rw [es, Int.add_zero] at P1 P2
        by_cases he' : -4095 ≤ a2
        · have P3 := fun w => ppack_any m x false false (2 * a1 + 1) (a1 / 9223372036854775808) (a1 * 2 % 18446744073709551616 + 1) (a2 - 1) w hok (by omega) (by omega) (by omega) (by omega) (by omega) hlow.1 hlow.2 (fun h => by cases h)
          rw [es, Int.add_zero, q1] at P3
          exact more_all m x a1 a2 _ _ _ 0 w hok.2.1 c2.1 c2.2 e0 e1 hb.1 (by omega) q2 (.inl ⟨rfl, rfl⟩) (hidden P1) (hidden P2) (hidden P3)
        · exact more_all m x a1 a2 _ _ 0 1 w hok.2.1 c2.1 c2.2 e0 e1 hb.1 (by omega) q2 (.inr rfl) (hidden P1) (hidden P2) (hidden fun w => ppack_e _ _ _ _ _ _ _ w hok (by omega))
      · have hlt : a1 < p2 (m + 2) := by
          rcases Int.lt_or_le a1 (p2 (m + 2)) with h | h
          · exact h
          · have := lt_bl h; omega
        exact more_few m x a1 a2 _ w hok.2.1 c2.1 hlt (hidden P1) (hidden fun w => ppack_few m x false a1 0 a1 a2 w hok e0 e1 (by omega) (by decide) (by decide) c2.1 c2.2 (by omega))
    · exact more_err a0 b0 a1 a2 w (hidden fun more w => ppack_e a0 b0 false more 0 a1 a2 w hok (by omega))
  · exact more_err a0 b0 a1 a2 w (hidden fun more w => ppack_fmt a0 b0 false more 0 a1 a2 w hok)
end Go.Proofs.Ytkbeceedafkhcab
