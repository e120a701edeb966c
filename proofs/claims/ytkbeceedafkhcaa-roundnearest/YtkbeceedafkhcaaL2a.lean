/- The statements' own small functions (num, single) and the page's examples (live), which come out true. -/
import Derived.Test.YtkbeceedafkhcaaP2d
import Derived.Test.YtkbeceedafkhcaaP2e
namespace Go.Proofs.Ytkbeceedafkhcaa
open Go.RowKit
set_option maxHeartbeats 2000000
set_option linter.unusedVariables false

theorem num_any (n : Int) (w : World) (n0 : 0 ≤ n) (n1 : n ≤ 1) : Calls Try.prog 11 #[.int .i64 n] w fun r w' => r = .returned (.int .i64 n) ∧ w' = w := by
  go_enter Try.func11, Try.ntmps11
  go_wp2
  go_ret
  exact ⟨ret_int (by (try unfold wrap64); omega), rfl⟩
theorem single_any (w : World) : Calls Try.prog 36 #[] w fun r w' => r = .returned (.agg #[.int .i64 23, .int .i64 8]) ∧ Below w.heap.size w w' := by
  go_enter Try.func36, Try.ntmps36
  go_wp2
  refine bodyPost_ret (v := .agg #[.int .i64 23, .int .i64 8]) (by simp [results, Try.results36, go_sem]) rfl ⟨rfl, ?_⟩
  exact (Below.refl _ _).alloc (Nat.le_refl _) _
theorem live_any (w : World) : Calls Try.prog 20 #[] w fun r w' => r = .returned (.bool true) ∧ Below w.heap.size w w' := by
  have okS : okF ((23 : Nat) : Int) ((8 : Nat) : Int) := by unfold okF; omega
  have okT : okF ((2 : Nat) : Int) ((2 : Nat) : Int) := by unfold okF; omega
  have HO : Hid (∀ w, Calls Try.prog 9 #[.agg #[.int .i64 23, .int .i64 8], .int .u64 1065353216] w fun r w' => r = .returned (.tuple #[.agg #[.int .i64 2, .bool false, .int .i64 (-23), .int .u64 8388608], .int .i64 0]) ∧ Below w.heap.size w w') := hidden fun w => by
    have h := popen_any 23 8 1065353216 w okS (by decide) (by decide) (by decide +kernel)
    have e : openV 23 8 1065353216 = .agg #[.int .i64 2, .bool false, .int .i64 (-23), .int .u64 8388608] := by
      unfold openV partsV
      rw [show kindI 23 8 1065353216 = 2 by decide +kernel, show negI 23 8 1065353216 = false by decide +kernel, show expI 23 8 1065353216 = -23 by decide +kernel, show manI 23 8 1065353216 = 8388608 by decide +kernel]
    rw [e] at h
    exact h
  have H1 : Hid (∀ w, Calls Try.prog 21 #[.agg #[.int .i64 23, .int .i64 8], .bool false, .int .u64 0, .int .u64 1, .int .i64 0, .bool false] w fun r w' => r = .returned (.tuple #[.int .u64 1065353216, .int .i64 0]) ∧ Below w.heap.size w w') := hidden fun w => by
    have h := ppack_any 23 8 false false 1 0 1 0 w okS (by decide) (by decide) (by decide) (by decide) (by decide) (by decide) (by decide) (by decide)
    rw [show packP 23 8 1 0 false + sgnW false (23 + 8) = 1065353216 by decide +kernel] at h
    exact h
  have H2 : Hid (∀ w, Calls Try.prog 21 #[.agg #[.int .i64 2, .int .i64 2], .bool false, .int .u64 0, .int .u64 11, .int .i64 (-3), .bool false] w fun r w' => r = .returned (.tuple #[.int .u64 6, .int .i64 0]) ∧ Below w.heap.size w w') := hidden fun w => by
    have h := ppack_any 2 2 false false 11 0 11 (-3) w okT (by decide) (by decide) (by decide) (by decide) (by decide) (by decide) (by decide) (by decide)
    rw [show packP 2 2 11 (-3) false + sgnW false (2 + 2) = 6 by decide +kernel] at h
    exact h
  have H3 : Hid (∀ w, Calls Try.prog 21 #[.agg #[.int .i64 2, .int .i64 2], .bool true, .int .u64 0, .int .u64 15, .int .i64 (-2), .bool false] w fun r w' => r = .returned (.tuple #[.int .u64 28, .int .i64 0]) ∧ Below w.heap.size w w') := hidden fun w => by
    have h := ppack_any 2 2 true false 15 0 15 (-2) w okT (by decide) (by decide) (by decide) (by decide) (by decide) (by decide) (by decide) (by decide)
    rw [show packP 2 2 15 (-2) false + sgnW true (2 + 2) = 28 by decide +kernel] at h
    exact h
  have HC := hidden (fun w => pcheck_no 1 2 w (by unfold okF; omega))
  have HS := hidden single_any
  have HM := hidden (fun w => num_any 0 w (by decide) (by decide))
  have HM1 := hidden (fun w => num_any 1 w (by decide) (by decide))
  go_enter Try.func20, Try.ntmps20
  go_wp2_with fail
  refine (HS.out _).mono ?_
  rintro r w1 ⟨rfl, hb1⟩
  go_wp2_with fail
  refine (HO.out _).mono ?_
  rintro r w2 ⟨rfl, hb2⟩
  have hA : Below w.heap.size w (w2.alloc (.cells #[.int .i64 2, .bool false, .int .i64 (-23), .int .u64 8388608] 26)) := (hb1.trans (hb2.mono hb1.size)).alloc (hb1.trans (hb2.mono hb1.size)).size _
  go_wp2_with fail
  refine (HS.out _).mono ?_
  rintro r w3 ⟨rfl, hb3⟩
  go_wp2_with fail
  refine (H1.out _).mono ?_
  rintro r w4 ⟨rfl, hb4⟩
  go_wp2_with fail
  refine (H2.out _).mono ?_
  rintro r w5 ⟨rfl, hb5⟩
  go_wp2_with fail
  refine (H3.out _).mono ?_
  rintro r w6 ⟨rfl, hb6⟩
  have hB := hb3.trans ((hb4.trans ((hb5.trans (hb6.mono hb5.size)).mono hb4.size)).mono hb3.size)
  have hC := hA.trans (hB.mono hA.size)
  have c0 : w6.cell? ⟨w2.heap.size, 0, none⟩ = some (.int .i64 2) := cellLater hB (by simp)
  have c1 : w6.cell? ⟨w2.heap.size, 1, none⟩ = some (.bool false) := cellLater hB (by simp)
  have c2 : w6.cell? ⟨w2.heap.size, 2, none⟩ = some (.int .i64 (-23)) := cellLater hB (by simp)
  have c3 : w6.cell? ⟨w2.heap.size, 3, none⟩ = some (.int .u64 8388608) := cellLater hB (by simp)
  clear hb3 hb4 hb5 hb6 hB hA hb1 hb2
  have HK := hidden hC
  clear hC
  go_wp2_with (first | (go_at_call_of 11 (Value.int IntKind.i64 0); refine (HM.out _).mono ?_; rintro r w7 ⟨rfl, hw⟩; obtain rfl := hw.symm) | (go_at_call_of 11 (Value.int IntKind.i64 1); refine (HM1.out _).mono ?_; rintro r w7 ⟨rfl, hw⟩; obtain rfl := hw.symm) | (go_at_call 12; refine (HC.out _).mono ?_; rintro r w7 ⟨rfl, hw⟩; subst hw))
  go_ret
  exact ⟨rfl, HK.out.alloc HK.out.size _⟩
end Go.Proofs.Ytkbeceedafkhcaa
