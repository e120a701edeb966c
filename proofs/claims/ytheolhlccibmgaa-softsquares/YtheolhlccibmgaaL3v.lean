/- The walk of SoftSquares, leaf by leaf: its callees' answers are given. -/
import Derived.Test.YtheolhlccibmgaaP3b
import Derived.Test.YtheolhlccibmgaaL3a
import Derived.Deep.Cut
import Derived.Deep.CutRange
import Derived.Deep.RegionHeld3
namespace Go.Proofs.Ytheolhlccibmgaa
open Go.RowKit
set_option maxRecDepth 100000
set_option maxHeartbeats 1000000
set_option linter.unusedVariables false
theorem rbox4 (K E M : Int) (n : Bool) (w : World) : ∃ w5, w5 = w.alloc (.cells #[.int .i64 K, .bool n, .int .i64 E, .int .u64 M] 26) ∧ Below w.heap.size w w5 ∧ w5.cell? ⟨w.heap.size, 0, none⟩ = some (.int .i64 K) ∧ w5.cell? ⟨w.heap.size, 1, none⟩ = some (.bool n) ∧ w5.cell? ⟨w.heap.size, 2, none⟩ = some (.int .i64 E) ∧ w5.cell? ⟨w.heap.size, 3, none⟩ = some (.int .u64 M) :=
  ⟨_, rfl, (Below.refl _ _).alloc (Nat.le_refl _) _, by simp, by simp, by simp, by simp⟩

theorem sq_e (m x a K E M : Int) (n : Bool) (w : World)
    (HL : Hid (∀ w, Calls Try.prog 6 #[] w fun r w' => r = .returned (.bool true) ∧ Below w.heap.size w w')) (HM0 : Hid (∀ w, Calls Try.prog 11 #[.int .i64 0] w fun r w' => r = .returned (.int .i64 0) ∧ w' = w)) (HM1 : Hid (∀ w, Calls Try.prog 11 #[.int .i64 1] w fun r w' => r = .returned (.int .i64 1) ∧ w' = w)) (H1 : Hid (∀ w, Calls Try.prog 5 #[.agg #[.int .i64 m, .int .i64 x], .int .u64 a] w fun r w' => r = .returned (.tuple #[partsV K n E M, .int .i64 1]) ∧ Below w.heap.size w w')) :
    Calls Try.prog 3 #[.agg #[.int .i64 m, .int .i64 x], .int .u64 a] w fun r w' => r = .returned (.bool true) ∧ Below w.heap.size w w' := by
  have c0 : (w.alloc (.cells #[.int .i64 m, .int .i64 x] 23)).cell? ⟨w.heap.size, 0, none⟩ = some (.int .i64 m) := by simp
  have c1 : (w.alloc (.cells #[.int .i64 m, .int .i64 x] 23)).cell? ⟨w.heap.size, 1, none⟩ = some (.int .i64 x) := by simp
  have HB := hidden ((Below.refl w.heap.size w).alloc (Nat.le_refl _) (.cells #[.int .i64 m, .int .i64 x] 23))
  go_enter Try.func3, Try.ntmps3
  go_upto_region 1 with fail
  generalize w.alloc (.cells #[.int .i64 m, .int .i64 x] 23) = w5 at *
  go_upto_region 2 with (first | (go_at_call_of 5 (Value.int IntKind.u64 a); refine (H1.out _).mono ?_; rintro r w9 ⟨rfl, hb⟩; replace c0 := cellLater hb c0; replace c1 := cellLater hb c1; replace HB := hidden (HB.out.trans (hb.mono HB.out.size)); clear hb))
  change Code.wp _ _ _ _ (w9.alloc (.cells #[.int .i64 K, .bool n, .int .i64 E, .int .u64 M] 26))
  obtain ⟨wA, hwA, hb, a0, a1, a2, a3⟩ := rbox4 K E M n w9
  rw [← hwA]
  clear hwA
  replace c0 := cellLater hb c0; replace c1 := cellLater hb c1; replace HB := hidden (HB.out.trans (hb.mono HB.out.size)); clear hb
  generalize w9.heap.size = j1 at *
  clear w9
  go_wp2_with (first | (go_at_call_of 11 (Value.int IntKind.i64 0); refine (HM0.out _).mono ?_; rintro r w9 ⟨rfl, hw⟩; obtain rfl := hw.symm) | (go_at_call_of 11 (Value.int IntKind.i64 1); refine (HM1.out _).mono ?_; rintro r w9 ⟨rfl, hw⟩; obtain rfl := hw.symm) | (go_at_call 6; refine (HL.out _).mono ?_; rintro r w9 ⟨rfl, hb⟩; replace HB := hidden (HB.out.trans (hb.mono HB.out.size)); clear hb))
  go_ret
  exact ⟨rfl, HB.out⟩

theorem sq_k (m x a K E M : Int) (n : Bool) (w : World) (k0 : (K != 2) = true)
    (HL : Hid (∀ w, Calls Try.prog 6 #[] w fun r w' => r = .returned (.bool true) ∧ Below w.heap.size w w')) (HM0 : Hid (∀ w, Calls Try.prog 11 #[.int .i64 0] w fun r w' => r = .returned (.int .i64 0) ∧ w' = w)) (HM1 : Hid (∀ w, Calls Try.prog 11 #[.int .i64 1] w fun r w' => r = .returned (.int .i64 1) ∧ w' = w)) (H1 : Hid (∀ w, Calls Try.prog 5 #[.agg #[.int .i64 m, .int .i64 x], .int .u64 a] w fun r w' => r = .returned (.tuple #[partsV K n E M, .int .i64 0]) ∧ Below w.heap.size w w')) :
    Calls Try.prog 3 #[.agg #[.int .i64 m, .int .i64 x], .int .u64 a] w fun r w' => r = .returned (.bool true) ∧ Below w.heap.size w w' := by
  have c0 : (w.alloc (.cells #[.int .i64 m, .int .i64 x] 23)).cell? ⟨w.heap.size, 0, none⟩ = some (.int .i64 m) := by simp
  have c1 : (w.alloc (.cells #[.int .i64 m, .int .i64 x] 23)).cell? ⟨w.heap.size, 1, none⟩ = some (.int .i64 x) := by simp
  have HB := hidden ((Below.refl w.heap.size w).alloc (Nat.le_refl _) (.cells #[.int .i64 m, .int .i64 x] 23))
  go_enter Try.func3, Try.ntmps3
  go_upto_region 1 with fail
  generalize w.alloc (.cells #[.int .i64 m, .int .i64 x] 23) = w5 at *
  go_upto_region 2 with (first | (go_at_call_of 5 (Value.int IntKind.u64 a); refine (H1.out _).mono ?_; rintro r w9 ⟨rfl, hb⟩; replace c0 := cellLater hb c0; replace c1 := cellLater hb c1; replace HB := hidden (HB.out.trans (hb.mono HB.out.size)); clear hb))
  change Code.wp _ _ _ _ (w9.alloc (.cells #[.int .i64 K, .bool n, .int .i64 E, .int .u64 M] 26))
  obtain ⟨wA, hwA, hb, a0, a1, a2, a3⟩ := rbox4 K E M n w9
  rw [← hwA]
  clear hwA
  replace c0 := cellLater hb c0; replace c1 := cellLater hb c1; replace HB := hidden (HB.out.trans (hb.mono HB.out.size)); clear hb
  generalize w9.heap.size = j1 at *
  clear w9
  go_wp2_with (first | (go_at_call_of 11 (Value.int IntKind.i64 0); refine (HM0.out _).mono ?_; rintro r w9 ⟨rfl, hw⟩; obtain rfl := hw.symm) | (go_at_call_of 11 (Value.int IntKind.i64 1); refine (HM1.out _).mono ?_; rintro r w9 ⟨rfl, hw⟩; obtain rfl := hw.symm) | (go_at_call 6; refine (HL.out _).mono ?_; rintro r w9 ⟨rfl, hb⟩; replace HB := hidden (HB.out.trans (hb.mono HB.out.size)); clear hb))
  go_ret
  exact ⟨rfl, HB.out⟩

theorem sq_sub (m x a E M B Q : Int) (n : Bool) (w : World) (m0 : 2 ≤ m) (m1 : m ≤ 52) (E0 : -3000 ≤ E) (E1 : E ≤ 3000) (B0 : 0 ≤ B) (B1 : B ≤ 2000) (M0 : 0 ≤ M) (M1 : M ≤ 18446744073709551615) (hQ : M / 2 ^ m.toNat = Q) (h1 : (Q == 0) = true)
    (HL : Hid (∀ w, Calls Try.prog 6 #[] w fun r w' => r = .returned (.bool true) ∧ Below w.heap.size w w')) (HM0 : Hid (∀ w, Calls Try.prog 11 #[.int .i64 0] w fun r w' => r = .returned (.int .i64 0) ∧ w' = w)) (HM1 : Hid (∀ w, Calls Try.prog 11 #[.int .i64 1] w fun r w' => r = .returned (.int .i64 1) ∧ w' = w)) (HBi : Hid (∀ w, Calls Try.prog 7 #[.agg #[.int .i64 m, .int .i64 x]] w fun r w' => r = .returned (.int .i64 B) ∧ w' = w.alloc (.cells #[.int .i64 m, .int .i64 x] 23))) (H1 : Hid (∀ w, Calls Try.prog 5 #[.agg #[.int .i64 m, .int .i64 x], .int .u64 a] w fun r w' => r = .returned (.tuple #[partsV 2 n E M, .int .i64 0]) ∧ Below w.heap.size w w'))  :
    Calls Try.prog 3 #[.agg #[.int .i64 m, .int .i64 x], .int .u64 a] w fun r w' => r = .returned (.bool true) ∧ Below w.heap.size w w' := by
  have hw1 : IntKind.i64.wrap (E + m) = E + m := by rw [IntKind.wrap_i64]; omega
  have c0 : (w.alloc (.cells #[.int .i64 m, .int .i64 x] 23)).cell? ⟨w.heap.size, 0, none⟩ = some (.int .i64 m) := by simp
  have c1 : (w.alloc (.cells #[.int .i64 m, .int .i64 x] 23)).cell? ⟨w.heap.size, 1, none⟩ = some (.int .i64 x) := by simp
  have HB := hidden ((Below.refl w.heap.size w).alloc (Nat.le_refl _) (.cells #[.int .i64 m, .int .i64 x] 23))
  go_enter Try.func3, Try.ntmps3
  go_upto_region 1 with fail
  generalize w.alloc (.cells #[.int .i64 m, .int .i64 x] 23) = w5 at *
  go_upto_region 2 with (first | (go_at_call_of 5 (Value.int IntKind.u64 a); refine (H1.out _).mono ?_; rintro r w9 ⟨rfl, hb⟩; replace c0 := cellLater hb c0; replace c1 := cellLater hb c1; replace HB := hidden (HB.out.trans (hb.mono HB.out.size)); clear hb))
  change Code.wp _ _ _ _ (w9.alloc (.cells #[.int .i64 2, .bool n, .int .i64 E, .int .u64 M] 26))
  obtain ⟨wA, hwA, hb, a0, a1, a2, a3⟩ := rbox4 2 E M n w9
  rw [← hwA]
  clear hwA
  replace c0 := cellLater hb c0; replace c1 := cellLater hb c1; replace HB := hidden (HB.out.trans (hb.mono HB.out.size)); clear hb
  generalize w9.heap.size = j1 at *
  clear w9
  go_upto_region 4 with fail
  go_cut [7, 8] from 27 to 35 (fun s7 s8 wx => s7 = .int .i64 (E + m) ∧ s8 = .int .i64 (B / 2 - 1) ∧ wx.cell? ⟨w.heap.size, 0, none⟩ = some (.int .i64 m) ∧ wx.cell? ⟨w.heap.size, 1, none⟩ = some (.int .i64 x) ∧ wx.cell? ⟨j1, 0, none⟩ = some (.int .i64 2) ∧ wx.cell? ⟨j1, 1, none⟩ = some (.bool n) ∧ wx.cell? ⟨j1, 2, none⟩ = some (.int .i64 E) ∧ wx.cell? ⟨j1, 3, none⟩ = some (.int .u64 M) ∧ Below w.heap.size w wx)
  case first =>
    have hHB := HB.out
    have hsz := hHB.size
    have hB2 : IntKind.i64.wrap (IntKind.i64.wrap (B.tdiv 2) - 1) = B / 2 - 1 := by rw [Int.tdiv_eq_ediv_of_nonneg B0, IntKind.wrap_i64, IntKind.wrap_i64]; omega
    go_region_held3 (fun w' => w'.cell? ⟨w.heap.size, 0, none⟩ = some (.int .i64 m) ∧ w'.cell? ⟨w.heap.size, 1, none⟩ = some (.int .i64 x) ∧ w'.cell? ⟨j1, 0, none⟩ = some (.int .i64 2) ∧ w'.cell? ⟨j1, 1, none⟩ = some (.bool n) ∧ w'.cell? ⟨j1, 2, none⟩ = some (.int .i64 E) ∧ w'.cell? ⟨j1, 3, none⟩ = some (.int .u64 M)) (go_keep) (first | (go_at_call 7; refine (HBi.out _).mono ?_; rintro r w1 ⟨rfl, hw⟩; subst hw))
    all_goals (try go_wp2_with fail)
    all_goals go_meet
    all_goals exact ⟨rfl, by first | rfl | exact congrArg (Value.int IntKind.i64) hB2, by go_keep, by go_keep, by go_keep, by go_keep, by go_keep, by go_keep, by first | exact (hHB.alloc hsz _).drew | exact hHB.alloc hsz _⟩
  case rest =>
    obtain ⟨rfl, rfl, d0, d1, d2, d3, d4, d5, hb⟩ := hcut
    replace HB := hidden hb
    clear hb c0 c1 a0 a1 a2 a3
    have c0 := d0
    have c1 := d1
    have a0 := d2
    have a1 := d3
    have a2 := d4
    have a3 := d5
    clear d0 d1 d2 d3 d4 d5
    go_wp2_with (first | (go_at_call_of 11 (Value.int IntKind.i64 0); refine (HM0.out _).mono ?_; rintro r w9 ⟨rfl, hw⟩; obtain rfl := hw.symm) | (go_at_call_of 11 (Value.int IntKind.i64 1); refine (HM1.out _).mono ?_; rintro r w9 ⟨rfl, hw⟩; obtain rfl := hw.symm) | (go_at_call 6; refine (HL.out _).mono ?_; rintro r w9 ⟨rfl, hb⟩; replace HB := hidden (HB.out.trans (hb.mono HB.out.size)); clear hb))
    go_ret
    exact ⟨rfl, HB.out⟩

theorem sq_hi (m x a E M B Q : Int) (n : Bool) (w : World) (m0 : 2 ≤ m) (m1 : m ≤ 52) (E0 : -3000 ≤ E) (E1 : E ≤ 3000) (B0 : 0 ≤ B) (B1 : B ≤ 2000) (M0 : 0 ≤ M) (M1 : M ≤ 18446744073709551615) (hQ : M / 2 ^ m.toNat = Q) (h1 : (Q == 0) = false) (h2 : B / 2 - 1 < E + m)
    (HL : Hid (∀ w, Calls Try.prog 6 #[] w fun r w' => r = .returned (.bool true) ∧ Below w.heap.size w w')) (HM0 : Hid (∀ w, Calls Try.prog 11 #[.int .i64 0] w fun r w' => r = .returned (.int .i64 0) ∧ w' = w)) (HM1 : Hid (∀ w, Calls Try.prog 11 #[.int .i64 1] w fun r w' => r = .returned (.int .i64 1) ∧ w' = w)) (HBi : Hid (∀ w, Calls Try.prog 7 #[.agg #[.int .i64 m, .int .i64 x]] w fun r w' => r = .returned (.int .i64 B) ∧ w' = w.alloc (.cells #[.int .i64 m, .int .i64 x] 23))) (H1 : Hid (∀ w, Calls Try.prog 5 #[.agg #[.int .i64 m, .int .i64 x], .int .u64 a] w fun r w' => r = .returned (.tuple #[partsV 2 n E M, .int .i64 0]) ∧ Below w.heap.size w w'))  :
    Calls Try.prog 3 #[.agg #[.int .i64 m, .int .i64 x], .int .u64 a] w fun r w' => r = .returned (.bool true) ∧ Below w.heap.size w w' := by
  have hw1 : IntKind.i64.wrap (E + m) = E + m := by rw [IntKind.wrap_i64]; omega
  have c0 : (w.alloc (.cells #[.int .i64 m, .int .i64 x] 23)).cell? ⟨w.heap.size, 0, none⟩ = some (.int .i64 m) := by simp
  have c1 : (w.alloc (.cells #[.int .i64 m, .int .i64 x] 23)).cell? ⟨w.heap.size, 1, none⟩ = some (.int .i64 x) := by simp
  have HB := hidden ((Below.refl w.heap.size w).alloc (Nat.le_refl _) (.cells #[.int .i64 m, .int .i64 x] 23))
  go_enter Try.func3, Try.ntmps3
  go_upto_region 1 with fail
  generalize w.alloc (.cells #[.int .i64 m, .int .i64 x] 23) = w5 at *
  go_upto_region 2 with (first | (go_at_call_of 5 (Value.int IntKind.u64 a); refine (H1.out _).mono ?_; rintro r w9 ⟨rfl, hb⟩; replace c0 := cellLater hb c0; replace c1 := cellLater hb c1; replace HB := hidden (HB.out.trans (hb.mono HB.out.size)); clear hb))
  change Code.wp _ _ _ _ (w9.alloc (.cells #[.int .i64 2, .bool n, .int .i64 E, .int .u64 M] 26))
  obtain ⟨wA, hwA, hb, a0, a1, a2, a3⟩ := rbox4 2 E M n w9
  rw [← hwA]
  clear hwA
  replace c0 := cellLater hb c0; replace c1 := cellLater hb c1; replace HB := hidden (HB.out.trans (hb.mono HB.out.size)); clear hb
  generalize w9.heap.size = j1 at *
  clear w9
  go_upto_region 4 with fail
  go_cut [7, 8] from 27 to 35 (fun s7 s8 wx => s7 = .int .i64 (E + m) ∧ s8 = .int .i64 (B / 2 - 1) ∧ wx.cell? ⟨w.heap.size, 0, none⟩ = some (.int .i64 m) ∧ wx.cell? ⟨w.heap.size, 1, none⟩ = some (.int .i64 x) ∧ wx.cell? ⟨j1, 0, none⟩ = some (.int .i64 2) ∧ wx.cell? ⟨j1, 1, none⟩ = some (.bool n) ∧ wx.cell? ⟨j1, 2, none⟩ = some (.int .i64 E) ∧ wx.cell? ⟨j1, 3, none⟩ = some (.int .u64 M) ∧ Below w.heap.size w wx)
  case first =>
    have hHB := HB.out
    have hsz := hHB.size
    have hB2 : IntKind.i64.wrap (IntKind.i64.wrap (B.tdiv 2) - 1) = B / 2 - 1 := by rw [Int.tdiv_eq_ediv_of_nonneg B0, IntKind.wrap_i64, IntKind.wrap_i64]; omega
    go_region_held3 (fun w' => w'.cell? ⟨w.heap.size, 0, none⟩ = some (.int .i64 m) ∧ w'.cell? ⟨w.heap.size, 1, none⟩ = some (.int .i64 x) ∧ w'.cell? ⟨j1, 0, none⟩ = some (.int .i64 2) ∧ w'.cell? ⟨j1, 1, none⟩ = some (.bool n) ∧ w'.cell? ⟨j1, 2, none⟩ = some (.int .i64 E) ∧ w'.cell? ⟨j1, 3, none⟩ = some (.int .u64 M)) (go_keep) (first | (go_at_call 7; refine (HBi.out _).mono ?_; rintro r w1 ⟨rfl, hw⟩; subst hw))
    all_goals (try go_wp2_with fail)
    all_goals go_meet
    all_goals exact ⟨rfl, by first | rfl | exact congrArg (Value.int IntKind.i64) hB2, by go_keep, by go_keep, by go_keep, by go_keep, by go_keep, by go_keep, by first | exact (hHB.alloc hsz _).drew | exact hHB.alloc hsz _⟩
  case rest =>
    obtain ⟨rfl, rfl, d0, d1, d2, d3, d4, d5, hb⟩ := hcut
    replace HB := hidden hb
    clear hb c0 c1 a0 a1 a2 a3
    have c0 := d0
    have c1 := d1
    have a0 := d2
    have a1 := d3
    have a2 := d4
    have a3 := d5
    clear d0 d1 d2 d3 d4 d5
    go_wp2_with (first | (go_at_call_of 11 (Value.int IntKind.i64 0); refine (HM0.out _).mono ?_; rintro r w9 ⟨rfl, hw⟩; obtain rfl := hw.symm) | (go_at_call_of 11 (Value.int IntKind.i64 1); refine (HM1.out _).mono ?_; rintro r w9 ⟨rfl, hw⟩; obtain rfl := hw.symm) | (go_at_call 6; refine (HL.out _).mono ?_; rintro r w9 ⟨rfl, hb⟩; replace HB := hidden (HB.out.trans (hb.mono HB.out.size)); clear hb))
    go_ret
    exact ⟨rfl, HB.out⟩

theorem sq_lo (m x a E M B Q : Int) (n : Bool) (w : World) (m0 : 2 ≤ m) (m1 : m ≤ 52) (E0 : -3000 ≤ E) (E1 : E ≤ 3000) (B0 : 0 ≤ B) (B1 : B ≤ 2000) (M0 : 0 ≤ M) (M1 : M ≤ 18446744073709551615) (hQ : M / 2 ^ m.toNat = Q) (h1 : (Q == 0) = false) (h2 : ¬ B / 2 - 1 < E + m) (h3 : E + m < -(B / 2 - 1))
    (HL : Hid (∀ w, Calls Try.prog 6 #[] w fun r w' => r = .returned (.bool true) ∧ Below w.heap.size w w')) (HM0 : Hid (∀ w, Calls Try.prog 11 #[.int .i64 0] w fun r w' => r = .returned (.int .i64 0) ∧ w' = w)) (HM1 : Hid (∀ w, Calls Try.prog 11 #[.int .i64 1] w fun r w' => r = .returned (.int .i64 1) ∧ w' = w)) (HBi : Hid (∀ w, Calls Try.prog 7 #[.agg #[.int .i64 m, .int .i64 x]] w fun r w' => r = .returned (.int .i64 B) ∧ w' = w.alloc (.cells #[.int .i64 m, .int .i64 x] 23))) (H1 : Hid (∀ w, Calls Try.prog 5 #[.agg #[.int .i64 m, .int .i64 x], .int .u64 a] w fun r w' => r = .returned (.tuple #[partsV 2 n E M, .int .i64 0]) ∧ Below w.heap.size w w'))  :
    Calls Try.prog 3 #[.agg #[.int .i64 m, .int .i64 x], .int .u64 a] w fun r w' => r = .returned (.bool true) ∧ Below w.heap.size w w' := by
  have hw1 : IntKind.i64.wrap (E + m) = E + m := by rw [IntKind.wrap_i64]; omega
  have c0 : (w.alloc (.cells #[.int .i64 m, .int .i64 x] 23)).cell? ⟨w.heap.size, 0, none⟩ = some (.int .i64 m) := by simp
  have c1 : (w.alloc (.cells #[.int .i64 m, .int .i64 x] 23)).cell? ⟨w.heap.size, 1, none⟩ = some (.int .i64 x) := by simp
  have HB := hidden ((Below.refl w.heap.size w).alloc (Nat.le_refl _) (.cells #[.int .i64 m, .int .i64 x] 23))
  go_enter Try.func3, Try.ntmps3
  go_upto_region 1 with fail
  generalize w.alloc (.cells #[.int .i64 m, .int .i64 x] 23) = w5 at *
  go_upto_region 2 with (first | (go_at_call_of 5 (Value.int IntKind.u64 a); refine (H1.out _).mono ?_; rintro r w9 ⟨rfl, hb⟩; replace c0 := cellLater hb c0; replace c1 := cellLater hb c1; replace HB := hidden (HB.out.trans (hb.mono HB.out.size)); clear hb))
  change Code.wp _ _ _ _ (w9.alloc (.cells #[.int .i64 2, .bool n, .int .i64 E, .int .u64 M] 26))
  obtain ⟨wA, hwA, hb, a0, a1, a2, a3⟩ := rbox4 2 E M n w9
  rw [← hwA]
  clear hwA
  replace c0 := cellLater hb c0; replace c1 := cellLater hb c1; replace HB := hidden (HB.out.trans (hb.mono HB.out.size)); clear hb
  generalize w9.heap.size = j1 at *
  clear w9
  go_upto_region 4 with fail
  go_cut [7, 8] from 27 to 35 (fun s7 s8 wx => s7 = .int .i64 (E + m) ∧ s8 = .int .i64 (B / 2 - 1) ∧ wx.cell? ⟨w.heap.size, 0, none⟩ = some (.int .i64 m) ∧ wx.cell? ⟨w.heap.size, 1, none⟩ = some (.int .i64 x) ∧ wx.cell? ⟨j1, 0, none⟩ = some (.int .i64 2) ∧ wx.cell? ⟨j1, 1, none⟩ = some (.bool n) ∧ wx.cell? ⟨j1, 2, none⟩ = some (.int .i64 E) ∧ wx.cell? ⟨j1, 3, none⟩ = some (.int .u64 M) ∧ Below w.heap.size w wx)
  case first =>
    have hHB := HB.out
    have hsz := hHB.size
    have hB2 : IntKind.i64.wrap (IntKind.i64.wrap (B.tdiv 2) - 1) = B / 2 - 1 := by rw [Int.tdiv_eq_ediv_of_nonneg B0, IntKind.wrap_i64, IntKind.wrap_i64]; omega
    go_region_held3 (fun w' => w'.cell? ⟨w.heap.size, 0, none⟩ = some (.int .i64 m) ∧ w'.cell? ⟨w.heap.size, 1, none⟩ = some (.int .i64 x) ∧ w'.cell? ⟨j1, 0, none⟩ = some (.int .i64 2) ∧ w'.cell? ⟨j1, 1, none⟩ = some (.bool n) ∧ w'.cell? ⟨j1, 2, none⟩ = some (.int .i64 E) ∧ w'.cell? ⟨j1, 3, none⟩ = some (.int .u64 M)) (go_keep) (first | (go_at_call 7; refine (HBi.out _).mono ?_; rintro r w1 ⟨rfl, hw⟩; subst hw))
    all_goals (try go_wp2_with fail)
    all_goals go_meet
    all_goals exact ⟨rfl, by first | rfl | exact congrArg (Value.int IntKind.i64) hB2, by go_keep, by go_keep, by go_keep, by go_keep, by go_keep, by go_keep, by first | exact (hHB.alloc hsz _).drew | exact hHB.alloc hsz _⟩
  case rest =>
    obtain ⟨rfl, rfl, d0, d1, d2, d3, d4, d5, hb⟩ := hcut
    replace HB := hidden hb
    clear hb c0 c1 a0 a1 a2 a3
    have c0 := d0
    have c1 := d1
    have a0 := d2
    have a1 := d3
    have a2 := d4
    have a3 := d5
    clear d0 d1 d2 d3 d4 d5
    go_wp2_with (first | (go_at_call_of 11 (Value.int IntKind.i64 0); refine (HM0.out _).mono ?_; rintro r w9 ⟨rfl, hw⟩; obtain rfl := hw.symm) | (go_at_call_of 11 (Value.int IntKind.i64 1); refine (HM1.out _).mono ?_; rintro r w9 ⟨rfl, hw⟩; obtain rfl := hw.symm) | (go_at_call 6; refine (HL.out _).mono ?_; rintro r w9 ⟨rfl, hb⟩; replace HB := hidden (HB.out.trans (hb.mono HB.out.size)); clear hb))
    go_ret
    exact ⟨rfl, HB.out⟩

theorem sq_f (m x a E M B Q X : Int) (w : World) (m0 : 2 ≤ m) (m1 : m ≤ 52) (E0 : -3000 ≤ E) (E1 : E ≤ 3000) (B0 : 0 ≤ B) (B1 : B ≤ 2000) (M0 : 0 ≤ M) (M1 : M ≤ 18446744073709551615) (hQ : M / 2 ^ m.toNat = Q) (h1 : (Q == 0) = false) (h2 : ¬ B / 2 - 1 < E + m) (h3 : ¬ E + m < -(B / 2 - 1))
    (HL : Hid (∀ w, Calls Try.prog 6 #[] w fun r w' => r = .returned (.bool true) ∧ Below w.heap.size w w')) (HM0 : Hid (∀ w, Calls Try.prog 11 #[.int .i64 0] w fun r w' => r = .returned (.int .i64 0) ∧ w' = w)) (HM1 : Hid (∀ w, Calls Try.prog 11 #[.int .i64 1] w fun r w' => r = .returned (.int .i64 1) ∧ w' = w)) (HBi : Hid (∀ w, Calls Try.prog 7 #[.agg #[.int .i64 m, .int .i64 x]] w fun r w' => r = .returned (.int .i64 B) ∧ w' = w.alloc (.cells #[.int .i64 m, .int .i64 x] 23))) (H1 : Hid (∀ w, Calls Try.prog 5 #[.agg #[.int .i64 m, .int .i64 x], .int .u64 a] w fun r w' => r = .returned (.tuple #[partsV 2 false E M, .int .i64 0]) ∧ Below w.heap.size w w')) (H2 : Hid (∀ w, Calls Try.prog 8 #[.agg #[.int .i64 m, .int .i64 x], .int .u64 a, .int .u64 a] w fun r w' => r = .returned (.tuple #[.int .u64 X, .int .i64 0]) ∧ Below w.heap.size w w')) (H3 : Hid (∀ w, Calls Try.prog 9 #[.agg #[.int .i64 m, .int .i64 x], .int .u64 X] w fun r w' => r = .returned (.tuple #[.int .u64 a, .int .i64 0]) ∧ Below w.heap.size w w')) :
    Calls Try.prog 3 #[.agg #[.int .i64 m, .int .i64 x], .int .u64 a] w fun r w' => r = .returned (.bool true) ∧ Below w.heap.size w w' := by
  have hw1 : IntKind.i64.wrap (E + m) = E + m := by rw [IntKind.wrap_i64]; omega
  have c0 : (w.alloc (.cells #[.int .i64 m, .int .i64 x] 23)).cell? ⟨w.heap.size, 0, none⟩ = some (.int .i64 m) := by simp
  have c1 : (w.alloc (.cells #[.int .i64 m, .int .i64 x] 23)).cell? ⟨w.heap.size, 1, none⟩ = some (.int .i64 x) := by simp
  have HB := hidden ((Below.refl w.heap.size w).alloc (Nat.le_refl _) (.cells #[.int .i64 m, .int .i64 x] 23))
  go_enter Try.func3, Try.ntmps3
  go_upto_region 1 with fail
  generalize w.alloc (.cells #[.int .i64 m, .int .i64 x] 23) = w5 at *
  go_upto_region 2 with (first | (go_at_call_of 5 (Value.int IntKind.u64 a); refine (H1.out _).mono ?_; rintro r w9 ⟨rfl, hb⟩; replace c0 := cellLater hb c0; replace c1 := cellLater hb c1; replace HB := hidden (HB.out.trans (hb.mono HB.out.size)); clear hb))
  change Code.wp _ _ _ _ (w9.alloc (.cells #[.int .i64 2, .bool false, .int .i64 E, .int .u64 M] 26))
  obtain ⟨wA, hwA, hb, a0, a1, a2, a3⟩ := rbox4 2 E M false w9
  rw [← hwA]
  clear hwA
  replace c0 := cellLater hb c0; replace c1 := cellLater hb c1; replace HB := hidden (HB.out.trans (hb.mono HB.out.size)); clear hb
  generalize w9.heap.size = j1 at *
  clear w9
  go_upto_region 4 with fail
  go_cut [7, 8] from 27 to 35 (fun s7 s8 wx => s7 = .int .i64 (E + m) ∧ s8 = .int .i64 (B / 2 - 1) ∧ wx.cell? ⟨w.heap.size, 0, none⟩ = some (.int .i64 m) ∧ wx.cell? ⟨w.heap.size, 1, none⟩ = some (.int .i64 x) ∧ wx.cell? ⟨j1, 0, none⟩ = some (.int .i64 2) ∧ wx.cell? ⟨j1, 1, none⟩ = some (.bool false) ∧ wx.cell? ⟨j1, 2, none⟩ = some (.int .i64 E) ∧ wx.cell? ⟨j1, 3, none⟩ = some (.int .u64 M) ∧ Below w.heap.size w wx)
  case first =>
    have hHB := HB.out
    have hsz := hHB.size
    have hB2 : IntKind.i64.wrap (IntKind.i64.wrap (B.tdiv 2) - 1) = B / 2 - 1 := by rw [Int.tdiv_eq_ediv_of_nonneg B0, IntKind.wrap_i64, IntKind.wrap_i64]; omega
    go_region_held3 (fun w' => w'.cell? ⟨w.heap.size, 0, none⟩ = some (.int .i64 m) ∧ w'.cell? ⟨w.heap.size, 1, none⟩ = some (.int .i64 x) ∧ w'.cell? ⟨j1, 0, none⟩ = some (.int .i64 2) ∧ w'.cell? ⟨j1, 1, none⟩ = some (.bool false) ∧ w'.cell? ⟨j1, 2, none⟩ = some (.int .i64 E) ∧ w'.cell? ⟨j1, 3, none⟩ = some (.int .u64 M)) (go_keep) (first | (go_at_call 7; refine (HBi.out _).mono ?_; rintro r w1 ⟨rfl, hw⟩; subst hw))
    all_goals (try go_wp2_with fail)
    all_goals go_meet
    all_goals exact ⟨rfl, by first | rfl | exact congrArg (Value.int IntKind.i64) hB2, by go_keep, by go_keep, by go_keep, by go_keep, by go_keep, by go_keep, by first | exact (hHB.alloc hsz _).drew | exact hHB.alloc hsz _⟩
  case rest =>
    obtain ⟨rfl, rfl, d0, d1, d2, d3, d4, d5, hb⟩ := hcut
    replace HB := hidden hb
    clear hb c0 c1 a0 a1 a2 a3
    have c0 := d0
    have c1 := d1
    have a0 := d2
    have a1 := d3
    have a2 := d4
    have a3 := d5
    clear d0 d1 d2 d3 d4 d5
    go_wp2_with (first | (go_at_call 8; refine (H2.out _).mono ?_; rintro r w9 ⟨rfl, hb⟩; replace c0 := cellLater hb c0; replace c1 := cellLater hb c1; replace a0 := cellLater hb a0; replace a1 := cellLater hb a1; replace a2 := cellLater hb a2; replace a3 := cellLater hb a3; replace HB := hidden (HB.out.trans (hb.mono HB.out.size)); clear hb) | (go_at_call 9; refine (H3.out _).mono ?_; rintro r w9 ⟨rfl, hb⟩; replace c0 := cellLater hb c0; replace c1 := cellLater hb c1; replace a0 := cellLater hb a0; replace a1 := cellLater hb a1; replace a2 := cellLater hb a2; replace a3 := cellLater hb a3; replace HB := hidden (HB.out.trans (hb.mono HB.out.size)); clear hb) | (go_at_call_of 11 (Value.int IntKind.i64 0); refine (HM0.out _).mono ?_; rintro r w9 ⟨rfl, hw⟩; obtain rfl := hw.symm) | (go_at_call_of 11 (Value.int IntKind.i64 1); refine (HM1.out _).mono ?_; rintro r w9 ⟨rfl, hw⟩; obtain rfl := hw.symm) | (go_at_call 6; refine (HL.out _).mono ?_; rintro r w9 ⟨rfl, hb⟩; replace HB := hidden (HB.out.trans (hb.mono HB.out.size)); clear hb))
    go_ret
    exact ⟨rfl, HB.out⟩

theorem sq_t (m x a E M B Q X Y : Int) (w : World) (m0 : 2 ≤ m) (m1 : m ≤ 52) (E0 : -3000 ≤ E) (E1 : E ≤ 3000) (B0 : 0 ≤ B) (B1 : B ≤ 2000) (M0 : 0 ≤ M) (M1 : M ≤ 18446744073709551615) (hQ : M / 2 ^ m.toNat = Q) (h1 : (Q == 0) = false) (h2 : ¬ B / 2 - 1 < E + m) (h3 : ¬ E + m < -(B / 2 - 1))
    (HL : Hid (∀ w, Calls Try.prog 6 #[] w fun r w' => r = .returned (.bool true) ∧ Below w.heap.size w w')) (HM0 : Hid (∀ w, Calls Try.prog 11 #[.int .i64 0] w fun r w' => r = .returned (.int .i64 0) ∧ w' = w)) (HM1 : Hid (∀ w, Calls Try.prog 11 #[.int .i64 1] w fun r w' => r = .returned (.int .i64 1) ∧ w' = w)) (HBi : Hid (∀ w, Calls Try.prog 7 #[.agg #[.int .i64 m, .int .i64 x]] w fun r w' => r = .returned (.int .i64 B) ∧ w' = w.alloc (.cells #[.int .i64 m, .int .i64 x] 23))) (H1 : Hid (∀ w, Calls Try.prog 5 #[.agg #[.int .i64 m, .int .i64 x], .int .u64 a] w fun r w' => r = .returned (.tuple #[partsV 2 true E M, .int .i64 0]) ∧ Below w.heap.size w w')) (H2 : Hid (∀ w, Calls Try.prog 8 #[.agg #[.int .i64 m, .int .i64 x], .int .u64 a, .int .u64 a] w fun r w' => r = .returned (.tuple #[.int .u64 X, .int .i64 0]) ∧ Below w.heap.size w w')) (H3 : Hid (∀ w, Calls Try.prog 9 #[.agg #[.int .i64 m, .int .i64 x], .int .u64 X] w fun r w' => r = .returned (.tuple #[.int .u64 Y, .int .i64 0]) ∧ Below w.heap.size w w')) (H4 : Hid (∀ w, Calls Try.prog 10 #[.agg #[.int .i64 m, .int .i64 x], .int .u64 a] w fun r w' => r = .returned (.int .u64 Y) ∧ Below w.heap.size w w')) :
    Calls Try.prog 3 #[.agg #[.int .i64 m, .int .i64 x], .int .u64 a] w fun r w' => r = .returned (.bool true) ∧ Below w.heap.size w w' := by
  have hw1 : IntKind.i64.wrap (E + m) = E + m := by rw [IntKind.wrap_i64]; omega
  have c0 : (w.alloc (.cells #[.int .i64 m, .int .i64 x] 23)).cell? ⟨w.heap.size, 0, none⟩ = some (.int .i64 m) := by simp
  have c1 : (w.alloc (.cells #[.int .i64 m, .int .i64 x] 23)).cell? ⟨w.heap.size, 1, none⟩ = some (.int .i64 x) := by simp
  have HB := hidden ((Below.refl w.heap.size w).alloc (Nat.le_refl _) (.cells #[.int .i64 m, .int .i64 x] 23))
  go_enter Try.func3, Try.ntmps3
  go_upto_region 1 with fail
  generalize w.alloc (.cells #[.int .i64 m, .int .i64 x] 23) = w5 at *
  go_upto_region 2 with (first | (go_at_call_of 5 (Value.int IntKind.u64 a); refine (H1.out _).mono ?_; rintro r w9 ⟨rfl, hb⟩; replace c0 := cellLater hb c0; replace c1 := cellLater hb c1; replace HB := hidden (HB.out.trans (hb.mono HB.out.size)); clear hb))
  change Code.wp _ _ _ _ (w9.alloc (.cells #[.int .i64 2, .bool true, .int .i64 E, .int .u64 M] 26))
  obtain ⟨wA, hwA, hb, a0, a1, a2, a3⟩ := rbox4 2 E M true w9
  rw [← hwA]
  clear hwA
  replace c0 := cellLater hb c0; replace c1 := cellLater hb c1; replace HB := hidden (HB.out.trans (hb.mono HB.out.size)); clear hb
  generalize w9.heap.size = j1 at *
  clear w9
  go_upto_region 4 with fail
  go_cut [7, 8] from 27 to 35 (fun s7 s8 wx => s7 = .int .i64 (E + m) ∧ s8 = .int .i64 (B / 2 - 1) ∧ wx.cell? ⟨w.heap.size, 0, none⟩ = some (.int .i64 m) ∧ wx.cell? ⟨w.heap.size, 1, none⟩ = some (.int .i64 x) ∧ wx.cell? ⟨j1, 0, none⟩ = some (.int .i64 2) ∧ wx.cell? ⟨j1, 1, none⟩ = some (.bool true) ∧ wx.cell? ⟨j1, 2, none⟩ = some (.int .i64 E) ∧ wx.cell? ⟨j1, 3, none⟩ = some (.int .u64 M) ∧ Below w.heap.size w wx)
  case first =>
    have hHB := HB.out
    have hsz := hHB.size
    have hB2 : IntKind.i64.wrap (IntKind.i64.wrap (B.tdiv 2) - 1) = B / 2 - 1 := by rw [Int.tdiv_eq_ediv_of_nonneg B0, IntKind.wrap_i64, IntKind.wrap_i64]; omega
    go_region_held3 (fun w' => w'.cell? ⟨w.heap.size, 0, none⟩ = some (.int .i64 m) ∧ w'.cell? ⟨w.heap.size, 1, none⟩ = some (.int .i64 x) ∧ w'.cell? ⟨j1, 0, none⟩ = some (.int .i64 2) ∧ w'.cell? ⟨j1, 1, none⟩ = some (.bool true) ∧ w'.cell? ⟨j1, 2, none⟩ = some (.int .i64 E) ∧ w'.cell? ⟨j1, 3, none⟩ = some (.int .u64 M)) (go_keep) (first | (go_at_call 7; refine (HBi.out _).mono ?_; rintro r w1 ⟨rfl, hw⟩; subst hw))
    all_goals (try go_wp2_with fail)
    all_goals go_meet
    all_goals exact ⟨rfl, by first | rfl | exact congrArg (Value.int IntKind.i64) hB2, by go_keep, by go_keep, by go_keep, by go_keep, by go_keep, by go_keep, by first | exact (hHB.alloc hsz _).drew | exact hHB.alloc hsz _⟩
  case rest =>
    obtain ⟨rfl, rfl, d0, d1, d2, d3, d4, d5, hb⟩ := hcut
    replace HB := hidden hb
    clear hb c0 c1 a0 a1 a2 a3
    have c0 := d0
    have c1 := d1
    have a0 := d2
    have a1 := d3
    have a2 := d4
    have a3 := d5
    clear d0 d1 d2 d3 d4 d5
    go_wp2_with (first | (go_at_call 8; refine (H2.out _).mono ?_; rintro r w9 ⟨rfl, hb⟩; replace c0 := cellLater hb c0; replace c1 := cellLater hb c1; replace a0 := cellLater hb a0; replace a1 := cellLater hb a1; replace a2 := cellLater hb a2; replace a3 := cellLater hb a3; replace HB := hidden (HB.out.trans (hb.mono HB.out.size)); clear hb) | (go_at_call 9; refine (H3.out _).mono ?_; rintro r w9 ⟨rfl, hb⟩; replace c0 := cellLater hb c0; replace c1 := cellLater hb c1; replace a0 := cellLater hb a0; replace a1 := cellLater hb a1; replace a2 := cellLater hb a2; replace a3 := cellLater hb a3; replace HB := hidden (HB.out.trans (hb.mono HB.out.size)); clear hb) | (go_at_call 10; refine (H4.out _).mono ?_; rintro r w9 ⟨rfl, hb⟩; replace c0 := cellLater hb c0; replace c1 := cellLater hb c1; replace a0 := cellLater hb a0; replace a1 := cellLater hb a1; replace a2 := cellLater hb a2; replace a3 := cellLater hb a3; replace HB := hidden (HB.out.trans (hb.mono HB.out.size)); clear hb) | (go_at_call_of 11 (Value.int IntKind.i64 0); refine (HM0.out _).mono ?_; rintro r w9 ⟨rfl, hw⟩; obtain rfl := hw.symm) | (go_at_call_of 11 (Value.int IntKind.i64 1); refine (HM1.out _).mono ?_; rintro r w9 ⟨rfl, hw⟩; obtain rfl := hw.symm) | (go_at_call 6; refine (HL.out _).mono ?_; rintro r w9 ⟨rfl, hb⟩; replace HB := hidden (HB.out.trans (hb.mono HB.out.size)); clear hb))
    go_ret
    exact ⟨rfl, HB.out⟩

end Go.Proofs.Ytheolhlccibmgaa
