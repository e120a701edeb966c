/- The statements' own small functions of stage 3 (num, single) and the page's examples (live), which come out true. -/
import Derived.Test.YtnjgknklcfdjlaaP3q
namespace Go.Proofs.Ytnjgknklcfdjlaa
open Go.RowKit
set_option maxRecDepth 100000
set_option maxHeartbeats 1000000
set_option linter.unusedVariables false

theorem num_any (n : Int) (w : World) (n0 : 0 ≤ n) (n1 : n ≤ 1) : Calls Try.prog 7 #[.int .i64 n] w fun r w' => r = .returned (.int .i64 n) ∧ w' = w := by
  go_enter Try.func7, Try.ntmps7
  go_wp2
  go_ret
  exact ⟨ret_int (by (try unfold wrap64); omega), rfl⟩
theorem single_any (w : World) : Calls Try.prog 17 #[] w fun r w' => r = .returned (.agg #[.int .i64 23, .int .i64 8]) ∧ Below w.heap.size w w' := by
  go_enter Try.func17, Try.ntmps17
  go_wp2
  refine bodyPost_ret (v := .agg #[.int .i64 23, .int .i64 8]) (by simp [results, Try.results17, go_sem]) rfl ⟨rfl, ?_⟩
  exact (Below.refl _ _).alloc (Nat.le_refl _) _
theorem okS : okF ((23 : Nat) : Int) ((8 : Nat) : Int) := by unfold okF; omega
theorem finS (a : Int) (h : kindI 23 8 a = 2) : FinP 23 8 (expI 23 8 a) (manI 23 8 a) := fin_of 23 8 a (by decide) h
theorem live_any (w : World) : Calls Try.prog 5 #[] w fun r w' => r = .returned (.bool true) ∧ Below w.heap.size w w' := by
  have o1 := fun (a b : Int) (a0 : 0 ≤ a) (a1 : a ≤ 18446744073709551615) (ha : bl a ≤ 1 + 8 + 23) (b0 : 0 ≤ b) (b1 : b ≤ 18446744073709551615) (hb : bl b ≤ 1 + 8 + 23) => popen2 23 8 a b okS a0 a1 ha b0 b1 hb
  have H1 : Hid (∀ w, Calls Try.prog 8 #[.agg #[.int .i64 23, .int .i64 8], .int .u64 1065353216, .int .u64 1065353216] w fun r w' => r = .returned (.tuple #[.int .u64 1073741824, .int .i64 0]) ∧ Below w.heap.size w w') := hidden fun w => by
    have h := padd_k 23 8 1065353216 1065353216 _ _ _ _ _ _ _ _ w okS (kind_all 23 8 1065353216) (kind_all 23 8 1065353216) (finS _) (finS _) (o1 _ _ (by decide) (by decide) (by decide +kernel) (by decide) (by decide) (by decide +kernel))
    rw [show addK 23 8 1065353216 1065353216 (kindI 23 8 1065353216) (negI 23 8 1065353216) (expI 23 8 1065353216) (manI 23 8 1065353216) (kindI 23 8 1065353216) (negI 23 8 1065353216) (expI 23 8 1065353216) (manI 23 8 1065353216) = 1073741824 by decide +kernel] at h
    exact h
  have H2 : Hid (∀ w, Calls Try.prog 11 #[.agg #[.int .i64 23, .int .i64 8], .int .u64 1065353216, .int .u64 1077936128] w fun r w' => r = .returned (.tuple #[.int .u64 1051372203, .int .i64 0]) ∧ Below w.heap.size w w') := hidden fun w => by
    have h := pdiv_k 23 8 1065353216 1077936128 _ _ _ _ _ _ _ _ w okS (kind_all 23 8 1065353216) (kind_all 23 8 1077936128) (finS _) (finS _) (o1 _ _ (by decide) (by decide) (by decide +kernel) (by decide) (by decide) (by decide +kernel))
    rw [show divK 23 8 (kindI 23 8 1065353216) (negI 23 8 1065353216) (expI 23 8 1065353216) (manI 23 8 1065353216) (kindI 23 8 1077936128) (negI 23 8 1077936128) (expI 23 8 1077936128) (manI 23 8 1077936128) = 1051372203 by decide +kernel] at h
    exact h
  have H3 : Hid (∀ w, Calls Try.prog 12 #[.agg #[.int .i64 23, .int .i64 8], .int .u64 1073741824] w fun r w' => r = .returned (.tuple #[.int .u64 1068827891, .int .i64 0]) ∧ Below w.heap.size w w') := hidden fun w => by
    have h := psqrt_k 23 8 1073741824 _ _ _ 13043817825332782212 _ w okS (kind_all 23 8 1073741824) (finS _) (fun _ => ⟨by decide, by decide +kernel, by decide +kernel⟩) (popen1 23 8 1073741824 okS (by decide) (by decide) (by decide +kernel))
    rw [show sqrtK 23 8 1073741824 (kindI 23 8 1073741824) (negI 23 8 1073741824) (expI 23 8 1073741824) (manI 23 8 1073741824) 13043817825332782212 = 1068827891 by decide +kernel] at h
    exact h
  have H4 : Hid (∀ w, Calls Try.prog 18 #[.agg #[.int .i64 23, .int .i64 8], .int .u64 1088421888, .int .u64 3221225472] w fun r w' => r = .returned (.tuple #[.int .u64 1065353216, .int .u64 3225419776, .int .i64 0]) ∧ Below w.heap.size w w') := hidden fun w => by
    have h := pmod_k 23 8 1088421888 3221225472 _ _ _ _ _ _ _ _ w okS (kind_all 23 8 1088421888) (kind_all 23 8 3221225472) (finS _) (finS _) (o1 _ _ (by decide) (by decide) (by decide +kernel) (by decide) (by decide) (by decide +kernel))
    rw [show restK 23 8 1088421888 (kindI 23 8 1088421888) (negI 23 8 1088421888) (expI 23 8 1088421888) (manI 23 8 1088421888) (kindI 23 8 3221225472) (negI 23 8 3221225472) (expI 23 8 3221225472) (manI 23 8 3221225472) = 1065353216 by decide +kernel, show quoK 23 8 (kindI 23 8 1088421888) (negI 23 8 1088421888) (expI 23 8 1088421888) (manI 23 8 1088421888) (kindI 23 8 3221225472) (negI 23 8 3221225472) (expI 23 8 3221225472) (manI 23 8 3221225472) = 3225419776 by decide +kernel] at h
    exact h
  have H5 : Hid (∀ w, Calls Try.prog 19 #[.agg #[.int .i64 23, .int .i64 8], .int .u64 3204448256] w fun r w' => r = .returned (.tuple #[.int .u64 3212836864, .int .i64 0]) ∧ Below w.heap.size w w') := hidden fun w => pfloor 23 8 3204448256 _ _ w (hidden fun w => by
    have h := pwb_k 23 8 3204448256 _ _ _ _ true w okS (kind_all 23 8 3204448256) (finS _) (popen1 23 8 3204448256 okS (by decide) (by decide) (by decide +kernel))
    rw [show besideK 23 8 3204448256 (kindI 23 8 3204448256) (negI 23 8 3204448256) (expI 23 8 3204448256) (manI 23 8 3204448256) true = 3212836864 by decide +kernel] at h
    exact h)
  have H6 : Hid (∀ w, Calls Try.prog 20 #[.agg #[.int .i64 23, .int .i64 8], .int .u64 3204448256] w fun r w' => r = .returned (.tuple #[.int .u64 2147483648, .int .i64 0]) ∧ Below w.heap.size w w') := hidden fun w => pceil 23 8 3204448256 _ _ w (hidden fun w => by
    have h := pwb_k 23 8 3204448256 _ _ _ _ false w okS (kind_all 23 8 3204448256) (finS _) (popen1 23 8 3204448256 okS (by decide) (by decide) (by decide +kernel))
    rw [show besideK 23 8 3204448256 (kindI 23 8 3204448256) (negI 23 8 3204448256) (expI 23 8 3204448256) (manI 23 8 3204448256) false = 2147483648 by decide +kernel] at h
    exact h)
  have HS := hidden single_any
  have HM := hidden (fun w => num_any 0 w (by decide) (by decide))
  clear o1
  go_enter Try.func5, Try.ntmps5
  go_wp2_with fail
  refine (HS.out _).mono ?_
  rintro r w1 ⟨rfl, hb1⟩
  have hZ : Below w1.heap.size w1 (w1.alloc (.cells #[.int .i64 23, .int .i64 8] 23)) := (Below.refl _ _).alloc (Nat.le_refl _) _
  have HB := hidden (hb1.trans (hZ.mono hb1.size))
  have c0 : (w1.alloc (.cells #[.int .i64 23, .int .i64 8] 23)).cell? ⟨w1.heap.size, 0, none⟩ = some (.int .i64 23) := by simp
  have c1 : (w1.alloc (.cells #[.int .i64 23, .int .i64 8] 23)).cell? ⟨w1.heap.size, 1, none⟩ = some (.int .i64 8) := by simp
  clear hZ hb1
  go_upto_region 2 with fail
  generalize w1.alloc (.cells #[.int .i64 23, .int .i64 8] 23) = w5 at *
  go_wp2_with (first | (go_at_call 8; refine (H1.out _).mono ?_; rintro r w9 ⟨rfl, hb⟩; have c0 := cellLater hb c0; have c1 := cellLater hb c1; have HB := hidden (HB.out.trans (hb.mono HB.out.size)); clear hb) | (go_at_call 11; refine (H2.out _).mono ?_; rintro r w9 ⟨rfl, hb⟩; have c0 := cellLater hb c0; have c1 := cellLater hb c1; have HB := hidden (HB.out.trans (hb.mono HB.out.size)); clear hb) | (go_at_call 12; refine (H3.out _).mono ?_; rintro r w9 ⟨rfl, hb⟩; have c0 := cellLater hb c0; have c1 := cellLater hb c1; have HB := hidden (HB.out.trans (hb.mono HB.out.size)); clear hb) | (go_at_call 18; refine (H4.out _).mono ?_; rintro r w9 ⟨rfl, hb⟩; have c0 := cellLater hb c0; have c1 := cellLater hb c1; have HB := hidden (HB.out.trans (hb.mono HB.out.size)); clear hb) | (go_at_call 19; refine (H5.out _).mono ?_; rintro r w9 ⟨rfl, hb⟩; have c0 := cellLater hb c0; have c1 := cellLater hb c1; have HB := hidden (HB.out.trans (hb.mono HB.out.size)); clear hb) | (go_at_call 20; refine (H6.out _).mono ?_; rintro r w9 ⟨rfl, hb⟩; have c0 := cellLater hb c0; have c1 := cellLater hb c1; have HB := hidden (HB.out.trans (hb.mono HB.out.size)); clear hb) | (go_at_call 7; refine (HM.out _).mono ?_; rintro r w9 ⟨rfl, hw⟩; obtain rfl := hw.symm))
  go_ret
  exact ⟨rfl, HB.out⟩
end Go.Proofs.Ytnjgknklcfdjlaa
