/- The statements' own small functions of stage 4 (num) and the page's examples (live), which come out true wherever the two variables read as the program's text lays them. -/
import Derived.Test.YthfjjkikeebopaaDoorR4a
import Derived.Test.YthfjjkikeebopaaDoorR4c
import Derived.Test.YthfjjkikeebopaaDoorR4d
import Derived.Test.YthfjjkikeebopaaDoorW3n
import Derived.Test.YthfjjkikeebopaaDoorP3st
namespace Go.Proofs.YthfjjkikeebopaaDoor
open Go.RowKit
set_option maxRecDepth 100000
set_option maxHeartbeats 1000000
set_option linter.unusedVariables false

theorem num4_any (n : Int) (w : World) (n0 : 0 ≤ n) (n1 : n ≤ 1) : Calls Tryd.prog 7 #[.int .i64 n] w fun r w' => r = .returned (.int .i64 n) ∧ w' = w := by
  go_enter Tryd.func7, Tryd.ntmps7
  go_wp2
  go_ret
  exact ⟨ret_int (by (try unfold wrap64); omega), rfl⟩
theorem ok23 : okF ((23 : Nat) : Int) ((8 : Nat) : Int) := by unfold okF; omega
theorem ok52 : okF ((52 : Nat) : Int) ((11 : Nat) : Int) := by unfold okF; omega
theorem fin23 (a : Int) (h : kindI 23 8 a = 2) : FinP 23 8 (expI 23 8 a) (manI 23 8 a) := fin_of 23 8 a (by decide) h
theorem fin52 (a : Int) (h : kindI 52 11 a = 2) : FinP 52 11 (expI 52 11 a) (manI 52 11 a) := fin_of 52 11 a (by decide) h
theorem lv1 (w : World) (hl : Laid w) : Calls Tryd.prog 4 #[.int .i64 1, .int .u32 1065353216, .int .u32 1065353216] w fun r w' => r = .returned (.tuple #[.int .u32 1073741824, .int .i64 0]) ∧ Below w.heap.size w w' :=
  pSingle 1 1065353216 1065353216 1073741824 0 w hl (hidden fun w => reck32_1 23 8 1065353216 1065353216 1073741824 0 0 w (by decide) (by decide) (by decide) (by decide) (by decide) (by decide) (hidden fun w => by
    have h := padd_k 23 8 1065353216 1065353216 _ _ _ _ _ _ _ _ w ok23 (kind_all 23 8 1065353216) (kind_all 23 8 1065353216) (fin23 _) (fin23 _) (popen2 23 8 _ _ ok23 (by decide) (by decide) (by decide +kernel) (by decide) (by decide) (by decide +kernel))
    rw [show addK 23 8 1065353216 1065353216 (kindI 23 8 1065353216) (negI 23 8 1065353216) (expI 23 8 1065353216) (manI 23 8 1065353216) (kindI 23 8 1065353216) (negI 23 8 1065353216) (expI 23 8 1065353216) (manI 23 8 1065353216) = 1073741824 by decide +kernel] at h
    exact h))
theorem lv2 (w : World) (hl : Laid w) : Calls Tryd.prog 5 #[.int .i64 3, .int .u64 4613937818241073152, .int .u64 13835058055282163712] w fun r w' => r = .returned (.tuple #[.int .u64 13841813454723219456, .int .i64 0]) ∧ Below w.heap.size w w' :=
  pDouble 3 4613937818241073152 13835058055282163712 13841813454723219456 0 w hl (hidden fun w => reck64_3 52 11 4613937818241073152 13835058055282163712 13841813454723219456 0 0 w (by decide) (by decide) (by decide) (by decide) (by decide) (by decide) (hidden fun w => by
    have h := pmul_k 52 11 4613937818241073152 13835058055282163712 _ _ _ _ _ _ _ _ w ok52 (kind_all 52 11 4613937818241073152) (kind_all 52 11 13835058055282163712) (fin52 _) (fin52 _) (popen2 52 11 _ _ ok52 (by decide) (by decide) (by decide +kernel) (by decide) (by decide) (by decide +kernel))
    rw [show mulK 52 11 (kindI 52 11 4613937818241073152) (negI 52 11 4613937818241073152) (expI 52 11 4613937818241073152) (manI 52 11 4613937818241073152) (kindI 52 11 13835058055282163712) (negI 52 11 13835058055282163712) (expI 52 11 13835058055282163712) (manI 52 11 13835058055282163712) = 13841813454723219456 by decide +kernel] at h
    exact h))
theorem lv3 (w : World) (hl : Laid w) : Calls Tryd.prog 13 #[.int .u32 4294967295] w fun r w' => r = .returned (.int .u32 3212836864) ∧ Below w.heap.size w w' := by
  have h := singleOf_c 4294967295 w hl (by decide) (by decide)
  rw [show ofI 23 8 4294967295 = 3212836864 by decide +kernel] at h
  exact h
theorem lv4 (w : World) (hl : Laid w) : Calls Tryd.prog 14 #[.int .u32 3223322624, .bool true] w fun r w' => r = .returned (.int .u32 4294967293) ∧ Below w.heap.size w w' := by
  have HO := popen1 23 8 3223322624 ok23 (by decide) (by decide) (by decide +kernel)
  rw [show kindI 23 8 3223322624 = 2 by decide +kernel, show negI 23 8 3223322624 = true by decide +kernel, show expI 23 8 3223322624 = -22 by decide +kernel, show manI 23 8 3223322624 = 10485760 by decide +kernel] at HO
  have HP : Hid (∀ w, Calls Tryd.prog 63 #[partsV 2 true (-22) 10485760, .bool true] w fun r w' => r = .returned (.int .u64 3) ∧ Below w.heap.size w w') := hidden fun w => by
    have h := pwpart_near1 2 (-22) 10485760 true 22 w (by decide) (by decide) (by decide) (by decide) (by decide) (by decide +kernel)
    rw [show min (10485760 / p2 22 + 1) 1099511627776 = (3 : Int) by decide +kernel] at h
    exact h
  exact singleInt_c 3223322624 4294967293 true w hl (hidden fun w => toint32 23 8 3223322624 3 0 true true w (by decide) (by decide) (by decide) (by decide) (hidden fun w => pwhole_fin 23 8 3223322624 2 (-22) 10485760 3 true true w HO HP rfl rfl))
theorem lv5 (w : World) (hl : Laid w) : Calls Tryd.prog 14 #[.int .u32 4286578688, .bool false] w fun r w' => r = .returned (.int .u32 2147483648) ∧ Below w.heap.size w w' := by
  have HO := popen1 23 8 4286578688 ok23 (by decide) (by decide) (by decide +kernel)
  rw [show kindI 23 8 4286578688 = 3 by decide +kernel, show negI 23 8 4286578688 = true by decide +kernel] at HO
  exact singleInt_c 4286578688 2147483648 false w hl (hidden fun w => toint32 23 8 4286578688 1099511627776 0 false true w (by decide) (by decide) (by decide) (by decide) (hidden fun w => pwhole_inf 23 8 4286578688 3 _ _ true false w HO rfl rfl))
theorem lv6 (w : World) (hl : Laid w) : Calls Tryd.prog 6 #[.int .u32 1065353216] w fun r w' => r = .returned (.int .u64 4607182418800017408) ∧ Below w.heap.size w w' := by
  refine widen_c 1065353216 4607182418800017408 w hl (hidden fun w => conv_u64 23 8 52 11 1065353216 4607182418800017408 0 w (by decide) (by decide) (by decide) (by decide) (hidden fun w => ?_))
  have h := pconv_k 23 8 52 11 1065353216 _ _ _ _ w ok23 ok52 (patK 23 8 1065353216 ok23 (by decide) (by decide +kernel)) (popen1 23 8 1065353216 ok23 (by decide) (by decide) (by decide +kernel))
  rw [show convK 52 11 (kindI 23 8 1065353216) (negI 23 8 1065353216) (expI 23 8 1065353216) (manI 23 8 1065353216) = 4607182418800017408 by decide +kernel] at h
  exact h
theorem lv7 (w : World) (hl : Laid w) : Calls Tryd.prog 15 #[.int .i64 1, .int .u32 1065353216, .int .u32 1069547520, .int .u32 3204448256] w fun r w' => r = .returned (.bool true) ∧ Below w.heap.size w w' := by
  have HA := popen1 23 8 1065353216 ok23 (by decide) (by decide) (by decide +kernel)
  have HB := popen1 23 8 1069547520 ok23 (by decide) (by decide) (by decide +kernel)
  have k3 : ∀ (a : Int) (k : Int) (w : World) (v : Bool), 0 ≤ a → a ≤ 18446744073709551615 → bl a ≤ 1 + 8 + 23 → (kindI 23 8 a == k) = v → Calls Tryd.prog 47 #[.agg #[.int .i64 23, .int .i64 8], .int .u64 a, .int .i64 k] w fun r w' => r = .returned (.bool v) ∧ Below w.heap.size w w' := fun a k w v h0 h1 h2 hv => by
    have h := pkind 23 8 a _ _ _ k 0 _ w (popen1 23 8 a ok23 h0 h1 h2)
    rw [hv] at h
    exact h
  have HS : Hid (∀ w, Calls Tryd.prog 18 #[.agg #[.int .i64 23, .int .i64 8], .int .u64 1065353216, .int .u64 1069547520] w fun r w' => r = .returned (.tuple #[.int .u64 3204448256, .int .i64 0]) ∧ Below w.heap.size w w') := hidden fun w => by
    have h := psub_k 23 8 1065353216 1069547520 _ _ _ _ _ _ _ _ w ok23 (by decide) (by decide +kernel) (kind_all 23 8 1065353216) (kind_all 23 8 (turnI (23 + 8) 1069547520)) (fin23 _) (fin23 _) (popen2 23 8 _ _ ok23 (by decide) (by decide) (by decide +kernel) (by decide +kernel) (by decide +kernel) (by decide +kernel))
    rw [show addK 23 8 1065353216 (turnI (23 + 8) 1069547520) (kindI 23 8 1065353216) (negI 23 8 1065353216) (expI 23 8 1065353216) (manI 23 8 1065353216) (kindI 23 8 (turnI (23 + 8) 1069547520)) (negI 23 8 (turnI (23 + 8) 1069547520)) (expI 23 8 (turnI (23 + 8) 1069547520)) (manI 23 8 (turnI (23 + 8) 1069547520)) = 3204448256 by decide +kernel] at h
    exact h
  have HW : Hid (∀ w, Calls Tryd.prog 65 #[.agg #[.int .i64 23, .int .i64 8], .int .u64 3204448256] w fun r w' => r = .returned (.int .u64 1056964608) ∧ Below w.heap.size w w') := hidden fun w => by
    have h := pbare 23 8 3204448256 w ok23 (by decide) (by decide +kernel)
    rw [show (3204448256 : Int) % p2 (23 + 8) = 1056964608 by decide +kernel] at h
    exact h
  have HC : Hid (∀ w, Calls Tryd.prog 64 #[.agg #[.int .i64 23, .int .i64 8], .int .u64 1056964608, .int .u64 1056964608] w fun r w' => r = .returned (.tuple #[.int .i64 0, .bool true, .int .i64 0]) ∧ Below w.heap.size w w') := hidden fun w => by
    have h := pcmp_k 23 8 1056964608 1056964608 _ _ _ _ _ _ _ _ w ok23 (by decide) (by decide +kernel) (by decide) (by decide +kernel) (popen2 23 8 1056964608 1056964608 ok23 (by decide) (by decide) (by decide +kernel) (by decide) (by decide) (by decide +kernel))
    rw [show cmpR 23 8 1056964608 1056964608 (kindI 23 8 1056964608) (kindI 23 8 1056964608) = 0 by decide +kernel, show cmpOk (kindI 23 8 1056964608) (kindI 23 8 1056964608) = true by decide +kernel] at h
    exact h
  have HC2 := hidden fun w => pcmp_k 23 8 1065353216 1069547520 _ _ _ _ _ _ _ _ w ok23 (by decide) (by decide +kernel) (by decide) (by decide +kernel) (popen2 23 8 1065353216 1069547520 ok23 (by decide) (by decide) (by decide +kernel) (by decide) (by decide) (by decide +kernel))
  have HN : Hid (∀ w, Calls Tryd.prog 46 #[.agg #[.int .i64 23, .int .i64 8], .int .u64 1065353216, .int .u64 1069547520, .int .u64 3204448256] w fun r w' => r = .returned (.bool true) ∧ Below w.heap.size w w') := hidden fun w => pnear_num 23 8 1065353216 1069547520 3204448256 3204448256 1056964608 1056964608 0 0 0 false false true w rfl (hidden fun w => k3 _ _ _ _ (by decide) (by decide) (by decide +kernel) (by decide +kernel)) (hidden fun w => k3 _ _ _ _ (by decide) (by decide) (by decide +kernel) (by decide +kernel)) HS HW HW HC
  exact pSingleHolds 1 1065353216 1069547520 3204448256 true w hl (hidden fun w => pholds32 23 8 1 1065353216 1069547520 3204448256 true false false _ w (by decide) (by decide) (by decide) (by decide) (by decide) (by decide) HN (hidden fun w => k3 _ _ _ _ (by decide) (by decide) (by decide +kernel) (by decide +kernel)) (hidden fun w => k3 _ _ _ _ (by decide) (by decide) (by decide +kernel) (by decide +kernel)) (hidden fun w => pinorder 23 8 1 1065353216 1069547520 _ 0 _ w HC2))
theorem live4_any (w : World) (hl : Laid w) : Calls Tryd.prog 8 #[] w fun r w' => r = .returned (.bool true) ∧ Below w.heap.size w w' := by
  have H1 := hidden lv1
  have H2 := hidden lv2
  have H3 := hidden lv3
  have H4 := hidden lv4
  have H5 := hidden lv5
  have H6 := hidden lv6
  have H7 := hidden lv7
  have HM := hidden (fun w => num4_any 0 w (by decide) (by decide))
  have HL := hidden hl
  have HB := hidden (Below.refl w.heap.size w)
  clear hl
  go_enter Tryd.func8, Tryd.ntmps8
  go_wp2_with (first | (go_at_call 4; refine (H1.out _ HL.out).mono ?_; rintro r w9 ⟨rfl, hb⟩; have HL := hidden (HL.out.later hb); have HB := hidden (HB.out.trans (hb.mono HB.out.size)); clear hb) | (go_at_call 5; refine (H2.out _ HL.out).mono ?_; rintro r w9 ⟨rfl, hb⟩; have HL := hidden (HL.out.later hb); have HB := hidden (HB.out.trans (hb.mono HB.out.size)); clear hb) | (go_at_call 13; refine (H3.out _ HL.out).mono ?_; rintro r w9 ⟨rfl, hb⟩; have HL := hidden (HL.out.later hb); have HB := hidden (HB.out.trans (hb.mono HB.out.size)); clear hb) | (go_at_call_of 14 (Value.bool true); refine (H4.out _ HL.out).mono ?_; rintro r w9 ⟨rfl, hb⟩; have HL := hidden (HL.out.later hb); have HB := hidden (HB.out.trans (hb.mono HB.out.size)); clear hb) | (go_at_call_of 14 (Value.bool false); refine (H5.out _ HL.out).mono ?_; rintro r w9 ⟨rfl, hb⟩; have HL := hidden (HL.out.later hb); have HB := hidden (HB.out.trans (hb.mono HB.out.size)); clear hb) | (go_at_call 6; refine (H6.out _ HL.out).mono ?_; rintro r w9 ⟨rfl, hb⟩; have HL := hidden (HL.out.later hb); have HB := hidden (HB.out.trans (hb.mono HB.out.size)); clear hb) | (go_at_call 15; refine (H7.out _ HL.out).mono ?_; rintro r w9 ⟨rfl, hb⟩; have HL := hidden (HL.out.later hb); have HB := hidden (HB.out.trans (hb.mono HB.out.size)); clear hb) | (go_at_call 7; refine (HM.out _).mono ?_; rintro r w9 ⟨rfl, hw⟩; obtain rfl := hw.symm))
  go_ret
  exact ⟨rfl, HB.out⟩
end Go.Proofs.YthfjjkikeebopaaDoor
