/- The walk of SoftWider, leaf by leaf: its callees' answers are given. -/
import Derived.Test.YtnjgknklcfdjlaaP3b
import Derived.Test.YtnjgknklcfdjlaaL3a
namespace Go.Proofs.Ytnjgknklcfdjlaa
open Go.RowKit
set_option maxRecDepth 100000
set_option maxHeartbeats 1000000
set_option linter.unusedVariables false
theorem rbox (K E M : Int) (n : Bool) (w : World) : ∃ w5, w5 = w.alloc (.cells #[.int .i64 K, .bool n, .int .i64 E, .int .u64 M] 26) ∧ Below w.heap.size w w5 ∧ w5.cell? ⟨w.heap.size, 0, none⟩ = some (.int .i64 K) ∧ w5.cell? ⟨w.heap.size, 1, none⟩ = some (.bool n) :=
  ⟨_, rfl, (Below.refl _ _).alloc (Nat.le_refl _) _, by simp, by simp⟩
theorem gbox (G GX : Int) (w : World) : ∃ w5, w5 = w.alloc (.cells #[.int .i64 G, .int .i64 GX] 23) ∧ Below w.heap.size w w5 ∧ w5.cell? ⟨w.heap.size, 0, none⟩ = some (.int .i64 G) ∧ w5.cell? ⟨w.heap.size, 1, none⟩ = some (.int .i64 GX) :=
  ⟨_, rfl, (Below.refl _ _).alloc (Nat.le_refl _) _, by simp, by simp⟩

theorem wid_m (m x G GX a b K1 E1 M1 K2 E2 M2 d e : Int) (n1 n2 : Bool) (w : World) (hG : wrap64 (wrap64 (2 * m) + 4) = G) (hGX : IntKind.i64.wrap (x + 2) = GX) (q1 : 23 < m)
    (HL : Hid (∀ w, Calls Try.prog 5 #[] w fun r w' => r = .returned (.bool true) ∧ Below w.heap.size w w')) (HM0 : Hid (∀ w, Calls Try.prog 7 #[.int .i64 0] w fun r w' => r = .returned (.int .i64 0) ∧ w' = w)) (HM1 : Hid (∀ w, Calls Try.prog 7 #[.int .i64 1] w fun r w' => r = .returned (.int .i64 1) ∧ w' = w))
    (H1 : Hid (∀ w, Calls Try.prog 4 #[.agg #[.int .i64 m, .int .i64 x], .int .u64 a] w fun r w' => r = .returned (.tuple #[partsV K1 n1 E1 M1, .int .i64 d]) ∧ Below w.heap.size w w')) (H2 : Hid (∀ w, Calls Try.prog 4 #[.agg #[.int .i64 m, .int .i64 x], .int .u64 b] w fun r w' => r = .returned (.tuple #[partsV K2 n2 E2 M2, .int .i64 e]) ∧ Below w.heap.size w w')) :
    Calls Try.prog 3 #[.agg #[.int .i64 m, .int .i64 x], .int .u64 a, .int .u64 b] w fun r w' => r = .returned (.bool true) ∧ Below w.heap.size w w' := by
  have Q1 := hidden q1
  clear q1
  have c0 : (w.alloc (.cells #[.int .i64 m, .int .i64 x] 23)).cell? ⟨w.heap.size, 0, none⟩ = some (.int .i64 m) := by simp
  have c1 : (w.alloc (.cells #[.int .i64 m, .int .i64 x] 23)).cell? ⟨w.heap.size, 1, none⟩ = some (.int .i64 x) := by simp
  have HB := hidden ((Below.refl w.heap.size w).alloc (Nat.le_refl _) (.cells #[.int .i64 m, .int .i64 x] 23))
  go_enter Try.func3, Try.ntmps3
  go_upto_region 1 with fail
  generalize w.alloc (.cells #[.int .i64 m, .int .i64 x] 23) = w5 at *
  go_upto_region 2 with fail
  change Code.wp _ _ _ _ (w5.alloc (.cells #[.int .i64 G, .int .i64 GX] 23))
  obtain ⟨wA, hwA, hb, g0, g1⟩ := gbox G GX w5
  rw [← hwA]
  clear hwA
  replace c0 := cellLater hb c0; replace c1 := cellLater hb c1; replace HB := hidden (HB.out.trans (hb.mono HB.out.size)); clear hb
  generalize w5.heap.size = jg at *
  clear w5
  go_upto_region 3 with (first | (go_at_call_of 4 (Value.int IntKind.u64 a); refine (H1.out _).mono ?_; rintro r w9 ⟨rfl, hb⟩; replace c0 := cellLater hb c0; replace c1 := cellLater hb c1; replace g0 := cellLater hb g0; replace g1 := cellLater hb g1; replace HB := hidden (HB.out.trans (hb.mono HB.out.size)); clear hb))
  change Code.wp _ _ _ _ (w9.alloc (.cells #[.int .i64 K1, .bool n1, .int .i64 E1, .int .u64 M1] 26))
  obtain ⟨wA, hwA, hb, a0, a1⟩ := rbox K1 E1 M1 n1 w9
  rw [← hwA]
  clear hwA
  replace c0 := cellLater hb c0; replace c1 := cellLater hb c1; replace g0 := cellLater hb g0; replace g1 := cellLater hb g1; replace HB := hidden (HB.out.trans (hb.mono HB.out.size)); clear hb
  generalize w9.heap.size = j1 at *
  clear w9
  clear a0 a1
  go_upto_region 4 with (first | (go_at_call_of 4 (Value.int IntKind.u64 b); refine (H2.out _).mono ?_; rintro r w9 ⟨rfl, hb⟩; replace c0 := cellLater hb c0; replace c1 := cellLater hb c1; replace g0 := cellLater hb g0; replace g1 := cellLater hb g1; replace HB := hidden (HB.out.trans (hb.mono HB.out.size)); clear hb))
  change Code.wp _ _ _ _ (w9.alloc (.cells #[.int .i64 K2, .bool n2, .int .i64 E2, .int .u64 M2] 26))
  obtain ⟨wA, hwA, hb, b0, b1⟩ := rbox K2 E2 M2 n2 w9
  rw [← hwA]
  clear hwA
  replace c0 := cellLater hb c0; replace c1 := cellLater hb c1; replace g0 := cellLater hb g0; replace g1 := cellLater hb g1; replace HB := hidden (HB.out.trans (hb.mono HB.out.size)); clear hb
  generalize w9.heap.size = j2 at *
  clear w9
  clear b0 b1
  have q1 := Q1.out
  go_wp2_with (first | (go_at_call 5; refine (HL.out _).mono ?_; rintro r w9 ⟨rfl, hb⟩; replace HB := hidden (HB.out.trans (hb.mono HB.out.size)); clear hb))
  go_ret
  exact ⟨rfl, HB.out⟩

theorem wid_x (m x G GX a b K1 E1 M1 K2 E2 M2 d e : Int) (n1 n2 : Bool) (w : World) (hG : wrap64 (wrap64 (2 * m) + 4) = G) (hGX : IntKind.i64.wrap (x + 2) = GX) (q1 : m ≤ 23) (q2 : 9 < x)
    (HL : Hid (∀ w, Calls Try.prog 5 #[] w fun r w' => r = .returned (.bool true) ∧ Below w.heap.size w w')) (HM0 : Hid (∀ w, Calls Try.prog 7 #[.int .i64 0] w fun r w' => r = .returned (.int .i64 0) ∧ w' = w)) (HM1 : Hid (∀ w, Calls Try.prog 7 #[.int .i64 1] w fun r w' => r = .returned (.int .i64 1) ∧ w' = w))
    (H1 : Hid (∀ w, Calls Try.prog 4 #[.agg #[.int .i64 m, .int .i64 x], .int .u64 a] w fun r w' => r = .returned (.tuple #[partsV K1 n1 E1 M1, .int .i64 d]) ∧ Below w.heap.size w w')) (H2 : Hid (∀ w, Calls Try.prog 4 #[.agg #[.int .i64 m, .int .i64 x], .int .u64 b] w fun r w' => r = .returned (.tuple #[partsV K2 n2 E2 M2, .int .i64 e]) ∧ Below w.heap.size w w')) :
    Calls Try.prog 3 #[.agg #[.int .i64 m, .int .i64 x], .int .u64 a, .int .u64 b] w fun r w' => r = .returned (.bool true) ∧ Below w.heap.size w w' := by
  have Q1 := hidden q1
  clear q1
  have Q2 := hidden q2
  clear q2
  have c0 : (w.alloc (.cells #[.int .i64 m, .int .i64 x] 23)).cell? ⟨w.heap.size, 0, none⟩ = some (.int .i64 m) := by simp
  have c1 : (w.alloc (.cells #[.int .i64 m, .int .i64 x] 23)).cell? ⟨w.heap.size, 1, none⟩ = some (.int .i64 x) := by simp
  have HB := hidden ((Below.refl w.heap.size w).alloc (Nat.le_refl _) (.cells #[.int .i64 m, .int .i64 x] 23))
  go_enter Try.func3, Try.ntmps3
  go_upto_region 1 with fail
  generalize w.alloc (.cells #[.int .i64 m, .int .i64 x] 23) = w5 at *
  go_upto_region 2 with fail
  change Code.wp _ _ _ _ (w5.alloc (.cells #[.int .i64 G, .int .i64 GX] 23))
  obtain ⟨wA, hwA, hb, g0, g1⟩ := gbox G GX w5
  rw [← hwA]
  clear hwA
  replace c0 := cellLater hb c0; replace c1 := cellLater hb c1; replace HB := hidden (HB.out.trans (hb.mono HB.out.size)); clear hb
  generalize w5.heap.size = jg at *
  clear w5
  go_upto_region 3 with (first | (go_at_call_of 4 (Value.int IntKind.u64 a); refine (H1.out _).mono ?_; rintro r w9 ⟨rfl, hb⟩; replace c0 := cellLater hb c0; replace c1 := cellLater hb c1; replace g0 := cellLater hb g0; replace g1 := cellLater hb g1; replace HB := hidden (HB.out.trans (hb.mono HB.out.size)); clear hb))
  change Code.wp _ _ _ _ (w9.alloc (.cells #[.int .i64 K1, .bool n1, .int .i64 E1, .int .u64 M1] 26))
  obtain ⟨wA, hwA, hb, a0, a1⟩ := rbox K1 E1 M1 n1 w9
  rw [← hwA]
  clear hwA
  replace c0 := cellLater hb c0; replace c1 := cellLater hb c1; replace g0 := cellLater hb g0; replace g1 := cellLater hb g1; replace HB := hidden (HB.out.trans (hb.mono HB.out.size)); clear hb
  generalize w9.heap.size = j1 at *
  clear w9
  clear a0 a1
  go_upto_region 4 with (first | (go_at_call_of 4 (Value.int IntKind.u64 b); refine (H2.out _).mono ?_; rintro r w9 ⟨rfl, hb⟩; replace c0 := cellLater hb c0; replace c1 := cellLater hb c1; replace g0 := cellLater hb g0; replace g1 := cellLater hb g1; replace HB := hidden (HB.out.trans (hb.mono HB.out.size)); clear hb))
  change Code.wp _ _ _ _ (w9.alloc (.cells #[.int .i64 K2, .bool n2, .int .i64 E2, .int .u64 M2] 26))
  obtain ⟨wA, hwA, hb, b0, b1⟩ := rbox K2 E2 M2 n2 w9
  rw [← hwA]
  clear hwA
  replace c0 := cellLater hb c0; replace c1 := cellLater hb c1; replace g0 := cellLater hb g0; replace g1 := cellLater hb g1; replace HB := hidden (HB.out.trans (hb.mono HB.out.size)); clear hb
  generalize w9.heap.size = j2 at *
  clear w9
  clear b0 b1
  have q1 := Q1.out
  have q2 := Q2.out
  have r1 : ¬ 23 < m := by omega
  clear q1
  go_wp2_with (first | (go_at_call 5; refine (HL.out _).mono ?_; rintro r w9 ⟨rfl, hb⟩; replace HB := hidden (HB.out.trans (hb.mono HB.out.size)); clear hb))
  go_ret
  exact ⟨rfl, HB.out⟩

theorem wid_d (m x G GX a b K1 E1 M1 K2 E2 M2 e : Int) (n1 n2 : Bool) (w : World) (hG : wrap64 (wrap64 (2 * m) + 4) = G) (hGX : IntKind.i64.wrap (x + 2) = GX) (q1 : m ≤ 23) (q2 : x ≤ 9)
    (HL : Hid (∀ w, Calls Try.prog 5 #[] w fun r w' => r = .returned (.bool true) ∧ Below w.heap.size w w')) (HM0 : Hid (∀ w, Calls Try.prog 7 #[.int .i64 0] w fun r w' => r = .returned (.int .i64 0) ∧ w' = w)) (HM1 : Hid (∀ w, Calls Try.prog 7 #[.int .i64 1] w fun r w' => r = .returned (.int .i64 1) ∧ w' = w))
    (H1 : Hid (∀ w, Calls Try.prog 4 #[.agg #[.int .i64 m, .int .i64 x], .int .u64 a] w fun r w' => r = .returned (.tuple #[partsV K1 n1 E1 M1, .int .i64 1]) ∧ Below w.heap.size w w')) (H2 : Hid (∀ w, Calls Try.prog 4 #[.agg #[.int .i64 m, .int .i64 x], .int .u64 b] w fun r w' => r = .returned (.tuple #[partsV K2 n2 E2 M2, .int .i64 e]) ∧ Below w.heap.size w w')) :
    Calls Try.prog 3 #[.agg #[.int .i64 m, .int .i64 x], .int .u64 a, .int .u64 b] w fun r w' => r = .returned (.bool true) ∧ Below w.heap.size w w' := by
  have Q1 := hidden q1
  clear q1
  have Q2 := hidden q2
  clear q2
  have c0 : (w.alloc (.cells #[.int .i64 m, .int .i64 x] 23)).cell? ⟨w.heap.size, 0, none⟩ = some (.int .i64 m) := by simp
  have c1 : (w.alloc (.cells #[.int .i64 m, .int .i64 x] 23)).cell? ⟨w.heap.size, 1, none⟩ = some (.int .i64 x) := by simp
  have HB := hidden ((Below.refl w.heap.size w).alloc (Nat.le_refl _) (.cells #[.int .i64 m, .int .i64 x] 23))
  go_enter Try.func3, Try.ntmps3
  go_upto_region 1 with fail
  generalize w.alloc (.cells #[.int .i64 m, .int .i64 x] 23) = w5 at *
  go_upto_region 2 with fail
  change Code.wp _ _ _ _ (w5.alloc (.cells #[.int .i64 G, .int .i64 GX] 23))
  obtain ⟨wA, hwA, hb, g0, g1⟩ := gbox G GX w5
  rw [← hwA]
  clear hwA
  replace c0 := cellLater hb c0; replace c1 := cellLater hb c1; replace HB := hidden (HB.out.trans (hb.mono HB.out.size)); clear hb
  generalize w5.heap.size = jg at *
  clear w5
  go_upto_region 3 with (first | (go_at_call_of 4 (Value.int IntKind.u64 a); refine (H1.out _).mono ?_; rintro r w9 ⟨rfl, hb⟩; replace c0 := cellLater hb c0; replace c1 := cellLater hb c1; replace g0 := cellLater hb g0; replace g1 := cellLater hb g1; replace HB := hidden (HB.out.trans (hb.mono HB.out.size)); clear hb))
  change Code.wp _ _ _ _ (w9.alloc (.cells #[.int .i64 K1, .bool n1, .int .i64 E1, .int .u64 M1] 26))
  obtain ⟨wA, hwA, hb, a0, a1⟩ := rbox K1 E1 M1 n1 w9
  rw [← hwA]
  clear hwA
  replace c0 := cellLater hb c0; replace c1 := cellLater hb c1; replace g0 := cellLater hb g0; replace g1 := cellLater hb g1; replace HB := hidden (HB.out.trans (hb.mono HB.out.size)); clear hb
  generalize w9.heap.size = j1 at *
  clear w9
  clear a0 a1
  go_upto_region 4 with (first | (go_at_call_of 4 (Value.int IntKind.u64 b); refine (H2.out _).mono ?_; rintro r w9 ⟨rfl, hb⟩; replace c0 := cellLater hb c0; replace c1 := cellLater hb c1; replace g0 := cellLater hb g0; replace g1 := cellLater hb g1; replace HB := hidden (HB.out.trans (hb.mono HB.out.size)); clear hb))
  change Code.wp _ _ _ _ (w9.alloc (.cells #[.int .i64 K2, .bool n2, .int .i64 E2, .int .u64 M2] 26))
  obtain ⟨wA, hwA, hb, b0, b1⟩ := rbox K2 E2 M2 n2 w9
  rw [← hwA]
  clear hwA
  replace c0 := cellLater hb c0; replace c1 := cellLater hb c1; replace g0 := cellLater hb g0; replace g1 := cellLater hb g1; replace HB := hidden (HB.out.trans (hb.mono HB.out.size)); clear hb
  generalize w9.heap.size = j2 at *
  clear w9
  clear b0 b1
  have q1 := Q1.out
  have q2 := Q2.out
  have r1 : ¬ 23 < m := by omega
  have r2 : ¬ 9 < x := by omega
  clear q1 q2
  go_wp2_with (first | (go_at_call 5; refine (HL.out _).mono ?_; rintro r w9 ⟨rfl, hb⟩; replace HB := hidden (HB.out.trans (hb.mono HB.out.size)); clear hb))
  go_ret
  exact ⟨rfl, HB.out⟩

theorem wid_e (m x G GX a b K1 E1 M1 K2 E2 M2 : Int) (n1 n2 : Bool) (w : World) (hG : wrap64 (wrap64 (2 * m) + 4) = G) (hGX : IntKind.i64.wrap (x + 2) = GX) (q1 : m ≤ 23) (q2 : x ≤ 9)
    (HL : Hid (∀ w, Calls Try.prog 5 #[] w fun r w' => r = .returned (.bool true) ∧ Below w.heap.size w w')) (HM0 : Hid (∀ w, Calls Try.prog 7 #[.int .i64 0] w fun r w' => r = .returned (.int .i64 0) ∧ w' = w)) (HM1 : Hid (∀ w, Calls Try.prog 7 #[.int .i64 1] w fun r w' => r = .returned (.int .i64 1) ∧ w' = w))
    (H1 : Hid (∀ w, Calls Try.prog 4 #[.agg #[.int .i64 m, .int .i64 x], .int .u64 a] w fun r w' => r = .returned (.tuple #[partsV K1 n1 E1 M1, .int .i64 0]) ∧ Below w.heap.size w w')) (H2 : Hid (∀ w, Calls Try.prog 4 #[.agg #[.int .i64 m, .int .i64 x], .int .u64 b] w fun r w' => r = .returned (.tuple #[partsV K2 n2 E2 M2, .int .i64 1]) ∧ Below w.heap.size w w')) :
    Calls Try.prog 3 #[.agg #[.int .i64 m, .int .i64 x], .int .u64 a, .int .u64 b] w fun r w' => r = .returned (.bool true) ∧ Below w.heap.size w w' := by
  have Q1 := hidden q1
  clear q1
  have Q2 := hidden q2
  clear q2
  have c0 : (w.alloc (.cells #[.int .i64 m, .int .i64 x] 23)).cell? ⟨w.heap.size, 0, none⟩ = some (.int .i64 m) := by simp
  have c1 : (w.alloc (.cells #[.int .i64 m, .int .i64 x] 23)).cell? ⟨w.heap.size, 1, none⟩ = some (.int .i64 x) := by simp
  have HB := hidden ((Below.refl w.heap.size w).alloc (Nat.le_refl _) (.cells #[.int .i64 m, .int .i64 x] 23))
  go_enter Try.func3, Try.ntmps3
  go_upto_region 1 with fail
  generalize w.alloc (.cells #[.int .i64 m, .int .i64 x] 23) = w5 at *
  go_upto_region 2 with fail
  change Code.wp _ _ _ _ (w5.alloc (.cells #[.int .i64 G, .int .i64 GX] 23))
  obtain ⟨wA, hwA, hb, g0, g1⟩ := gbox G GX w5
  rw [← hwA]
  clear hwA
  replace c0 := cellLater hb c0; replace c1 := cellLater hb c1; replace HB := hidden (HB.out.trans (hb.mono HB.out.size)); clear hb
  generalize w5.heap.size = jg at *
  clear w5
  go_upto_region 3 with (first | (go_at_call_of 4 (Value.int IntKind.u64 a); refine (H1.out _).mono ?_; rintro r w9 ⟨rfl, hb⟩; replace c0 := cellLater hb c0; replace c1 := cellLater hb c1; replace g0 := cellLater hb g0; replace g1 := cellLater hb g1; replace HB := hidden (HB.out.trans (hb.mono HB.out.size)); clear hb))
  change Code.wp _ _ _ _ (w9.alloc (.cells #[.int .i64 K1, .bool n1, .int .i64 E1, .int .u64 M1] 26))
  obtain ⟨wA, hwA, hb, a0, a1⟩ := rbox K1 E1 M1 n1 w9
  rw [← hwA]
  clear hwA
  replace c0 := cellLater hb c0; replace c1 := cellLater hb c1; replace g0 := cellLater hb g0; replace g1 := cellLater hb g1; replace HB := hidden (HB.out.trans (hb.mono HB.out.size)); clear hb
  generalize w9.heap.size = j1 at *
  clear w9
  clear a0 a1
  go_upto_region 4 with (first | (go_at_call_of 4 (Value.int IntKind.u64 b); refine (H2.out _).mono ?_; rintro r w9 ⟨rfl, hb⟩; replace c0 := cellLater hb c0; replace c1 := cellLater hb c1; replace g0 := cellLater hb g0; replace g1 := cellLater hb g1; replace HB := hidden (HB.out.trans (hb.mono HB.out.size)); clear hb))
  change Code.wp _ _ _ _ (w9.alloc (.cells #[.int .i64 K2, .bool n2, .int .i64 E2, .int .u64 M2] 26))
  obtain ⟨wA, hwA, hb, b0, b1⟩ := rbox K2 E2 M2 n2 w9
  rw [← hwA]
  clear hwA
  replace c0 := cellLater hb c0; replace c1 := cellLater hb c1; replace g0 := cellLater hb g0; replace g1 := cellLater hb g1; replace HB := hidden (HB.out.trans (hb.mono HB.out.size)); clear hb
  generalize w9.heap.size = j2 at *
  clear w9
  clear b0 b1
  have q1 := Q1.out
  have q2 := Q2.out
  have r1 : ¬ 23 < m := by omega
  have r2 : ¬ 9 < x := by omega
  clear q1 q2
  go_wp2_with (first | (go_at_call 5; refine (HL.out _).mono ?_; rintro r w9 ⟨rfl, hb⟩; replace HB := hidden (HB.out.trans (hb.mono HB.out.size)); clear hb))
  go_ret
  exact ⟨rfl, HB.out⟩

set_option maxHeartbeats 8000000 in
theorem wid_main (m x G GX a b K1 E1 M1 K2 E2 M2 X Y U0 V0 U1 V1 U2 V2 U3 V3 U4 V4 : Int) (n1 n2 : Bool) (w : World) (hG : wrap64 (wrap64 (2 * m) + 4) = G) (hGX : IntKind.i64.wrap (x + 2) = GX) (q1 : m ≤ 23) (q2 : x ≤ 9)
    (HL : Hid (∀ w, Calls Try.prog 5 #[] w fun r w' => r = .returned (.bool true) ∧ Below w.heap.size w w')) (HM0 : Hid (∀ w, Calls Try.prog 7 #[.int .i64 0] w fun r w' => r = .returned (.int .i64 0) ∧ w' = w)) (HM1 : Hid (∀ w, Calls Try.prog 7 #[.int .i64 1] w fun r w' => r = .returned (.int .i64 1) ∧ w' = w))
    (H1 : Hid (∀ w, Calls Try.prog 4 #[.agg #[.int .i64 m, .int .i64 x], .int .u64 a] w fun r w' => r = .returned (.tuple #[partsV K1 n1 E1 M1, .int .i64 0]) ∧ Below w.heap.size w w')) (H2 : Hid (∀ w, Calls Try.prog 4 #[.agg #[.int .i64 m, .int .i64 x], .int .u64 b] w fun r w' => r = .returned (.tuple #[partsV K2 n2 E2 M2, .int .i64 0]) ∧ Below w.heap.size w w')) (HX : Hid (∀ w, Calls Try.prog 6 #[.agg #[.int .i64 m, .int .i64 x], .agg #[.int .i64 G, .int .i64 GX], .int .u64 a] w fun r w' => r = .returned (.tuple #[.int .u64 X, .int .i64 0]) ∧ Below w.heap.size w w')) (HY : Hid (∀ w, Calls Try.prog 6 #[.agg #[.int .i64 m, .int .i64 x], .agg #[.int .i64 G, .int .i64 GX], .int .u64 b] w fun r w' => r = .returned (.tuple #[.int .u64 Y, .int .i64 0]) ∧ Below w.heap.size w w'))
    (HU0 : Hid (∀ w, Calls Try.prog 8 #[.agg #[.int .i64 m, .int .i64 x], .int .u64 a, .int .u64 b] w fun r w' => r = .returned (.tuple #[.int .u64 U0, .int .i64 0]) ∧ Below w.heap.size w w')) (HV0 : Hid (∀ w, Calls Try.prog 8 #[.agg #[.int .i64 G, .int .i64 GX], .int .u64 X, .int .u64 Y] w fun r w' => r = .returned (.tuple #[.int .u64 V0, .int .i64 0]) ∧ Below w.heap.size w w')) (HW0 : Hid (∀ w, Calls Try.prog 6 #[.agg #[.int .i64 G, .int .i64 GX], .agg #[.int .i64 m, .int .i64 x], .int .u64 V0] w fun r w' => r = .returned (.tuple #[.int .u64 U0, .int .i64 0]) ∧ Below w.heap.size w w'))
    (HU1 : Hid (∀ w, Calls Try.prog 9 #[.agg #[.int .i64 m, .int .i64 x], .int .u64 a, .int .u64 b] w fun r w' => r = .returned (.tuple #[.int .u64 U1, .int .i64 0]) ∧ Below w.heap.size w w')) (HV1 : Hid (∀ w, Calls Try.prog 9 #[.agg #[.int .i64 G, .int .i64 GX], .int .u64 X, .int .u64 Y] w fun r w' => r = .returned (.tuple #[.int .u64 V1, .int .i64 0]) ∧ Below w.heap.size w w')) (HW1 : Hid (∀ w, Calls Try.prog 6 #[.agg #[.int .i64 G, .int .i64 GX], .agg #[.int .i64 m, .int .i64 x], .int .u64 V1] w fun r w' => r = .returned (.tuple #[.int .u64 U1, .int .i64 0]) ∧ Below w.heap.size w w'))
    (HU2 : Hid (∀ w, Calls Try.prog 10 #[.agg #[.int .i64 m, .int .i64 x], .int .u64 a, .int .u64 b] w fun r w' => r = .returned (.tuple #[.int .u64 U2, .int .i64 0]) ∧ Below w.heap.size w w')) (HV2 : Hid (∀ w, Calls Try.prog 10 #[.agg #[.int .i64 G, .int .i64 GX], .int .u64 X, .int .u64 Y] w fun r w' => r = .returned (.tuple #[.int .u64 V2, .int .i64 0]) ∧ Below w.heap.size w w')) (HW2 : Hid (∀ w, Calls Try.prog 6 #[.agg #[.int .i64 G, .int .i64 GX], .agg #[.int .i64 m, .int .i64 x], .int .u64 V2] w fun r w' => r = .returned (.tuple #[.int .u64 U2, .int .i64 0]) ∧ Below w.heap.size w w'))
    (HU3 : Hid (∀ w, Calls Try.prog 11 #[.agg #[.int .i64 m, .int .i64 x], .int .u64 a, .int .u64 b] w fun r w' => r = .returned (.tuple #[.int .u64 U3, .int .i64 0]) ∧ Below w.heap.size w w')) (HV3 : Hid (∀ w, Calls Try.prog 11 #[.agg #[.int .i64 G, .int .i64 GX], .int .u64 X, .int .u64 Y] w fun r w' => r = .returned (.tuple #[.int .u64 V3, .int .i64 0]) ∧ Below w.heap.size w w')) (HW3 : Hid (∀ w, Calls Try.prog 6 #[.agg #[.int .i64 G, .int .i64 GX], .agg #[.int .i64 m, .int .i64 x], .int .u64 V3] w fun r w' => r = .returned (.tuple #[.int .u64 U3, .int .i64 0]) ∧ Below w.heap.size w w'))
    (HU4 : Hid (∀ w, Calls Try.prog 12 #[.agg #[.int .i64 m, .int .i64 x], .int .u64 a] w fun r w' => r = .returned (.tuple #[.int .u64 U4, .int .i64 0]) ∧ Below w.heap.size w w')) (HV4 : Hid (∀ w, Calls Try.prog 12 #[.agg #[.int .i64 G, .int .i64 GX], .int .u64 X] w fun r w' => r = .returned (.tuple #[.int .u64 V4, .int .i64 0]) ∧ Below w.heap.size w w')) (HW4 : Hid (∀ w, Calls Try.prog 6 #[.agg #[.int .i64 G, .int .i64 GX], .agg #[.int .i64 m, .int .i64 x], .int .u64 V4] w fun r w' => r = .returned (.tuple #[.int .u64 U4, .int .i64 0]) ∧ Below w.heap.size w w')) :
    Calls Try.prog 3 #[.agg #[.int .i64 m, .int .i64 x], .int .u64 a, .int .u64 b] w fun r w' => r = .returned (.bool true) ∧ Below w.heap.size w w' := by
  have Q1 := hidden q1
  clear q1
  have Q2 := hidden q2
  clear q2
  have c0 : (w.alloc (.cells #[.int .i64 m, .int .i64 x] 23)).cell? ⟨w.heap.size, 0, none⟩ = some (.int .i64 m) := by simp
  have c1 : (w.alloc (.cells #[.int .i64 m, .int .i64 x] 23)).cell? ⟨w.heap.size, 1, none⟩ = some (.int .i64 x) := by simp
  have HB := hidden ((Below.refl w.heap.size w).alloc (Nat.le_refl _) (.cells #[.int .i64 m, .int .i64 x] 23))
  go_enter Try.func3, Try.ntmps3
  go_upto_region 1 with fail
  generalize w.alloc (.cells #[.int .i64 m, .int .i64 x] 23) = w5 at *
  go_upto_region 2 with fail
  change Code.wp _ _ _ _ (w5.alloc (.cells #[.int .i64 G, .int .i64 GX] 23))
  obtain ⟨wA, hwA, hb, g0, g1⟩ := gbox G GX w5
  rw [← hwA]
  clear hwA
  replace c0 := cellLater hb c0; replace c1 := cellLater hb c1; replace HB := hidden (HB.out.trans (hb.mono HB.out.size)); clear hb
  generalize w5.heap.size = jg at *
  clear w5
  go_upto_region 3 with (first | (go_at_call_of 4 (Value.int IntKind.u64 a); refine (H1.out _).mono ?_; rintro r w9 ⟨rfl, hb⟩; replace c0 := cellLater hb c0; replace c1 := cellLater hb c1; replace g0 := cellLater hb g0; replace g1 := cellLater hb g1; replace HB := hidden (HB.out.trans (hb.mono HB.out.size)); clear hb))
  change Code.wp _ _ _ _ (w9.alloc (.cells #[.int .i64 K1, .bool n1, .int .i64 E1, .int .u64 M1] 26))
  obtain ⟨wA, hwA, hb, a0, a1⟩ := rbox K1 E1 M1 n1 w9
  rw [← hwA]
  clear hwA
  replace c0 := cellLater hb c0; replace c1 := cellLater hb c1; replace g0 := cellLater hb g0; replace g1 := cellLater hb g1; replace HB := hidden (HB.out.trans (hb.mono HB.out.size)); clear hb
  generalize w9.heap.size = j1 at *
  clear w9
  clear a0 a1
  go_upto_region 4 with (first | (go_at_call_of 4 (Value.int IntKind.u64 b); refine (H2.out _).mono ?_; rintro r w9 ⟨rfl, hb⟩; replace c0 := cellLater hb c0; replace c1 := cellLater hb c1; replace g0 := cellLater hb g0; replace g1 := cellLater hb g1; replace HB := hidden (HB.out.trans (hb.mono HB.out.size)); clear hb))
  change Code.wp _ _ _ _ (w9.alloc (.cells #[.int .i64 K2, .bool n2, .int .i64 E2, .int .u64 M2] 26))
  obtain ⟨wA, hwA, hb, b0, b1⟩ := rbox K2 E2 M2 n2 w9
  rw [← hwA]
  clear hwA
  replace c0 := cellLater hb c0; replace c1 := cellLater hb c1; replace g0 := cellLater hb g0; replace g1 := cellLater hb g1; replace HB := hidden (HB.out.trans (hb.mono HB.out.size)); clear hb
  generalize w9.heap.size = j2 at *
  clear w9
  clear b0 b1
  have q1 := Q1.out
  have q2 := Q2.out
  have r1 : ¬ 23 < m := by omega
  have r2 : ¬ 9 < x := by omega
  clear q1 q2
  go_wp2_with (first | (go_at_call_of 6 (Value.int IntKind.u64 a); refine (HX.out _).mono ?_; rintro r w9 ⟨rfl, hb⟩; replace c0 := cellLater hb c0; replace c1 := cellLater hb c1; replace g0 := cellLater hb g0; replace g1 := cellLater hb g1; replace HB := hidden (HB.out.trans (hb.mono HB.out.size)); clear hb) | (go_at_call_of 6 (Value.int IntKind.u64 b); refine (HY.out _).mono ?_; rintro r w9 ⟨rfl, hb⟩; replace c0 := cellLater hb c0; replace c1 := cellLater hb c1; replace g0 := cellLater hb g0; replace g1 := cellLater hb g1; replace HB := hidden (HB.out.trans (hb.mono HB.out.size)); clear hb) | (go_at_call 7; refine (HM0.out _).mono ?_; rintro r w9 ⟨rfl, hw⟩; obtain rfl := hw.symm))
  clear HX HY H1 H2
  go_loopw [16] (fun i wr => ∃ k : Nat, k ≤ 5 ∧ i = .int .i64 k ∧ wr.cell? ⟨w.heap.size, 0, none⟩ = some (.int .i64 m) ∧ wr.cell? ⟨w.heap.size, 1, none⟩ = some (.int .i64 x) ∧ wr.cell? ⟨jg, 0, none⟩ = some (.int .i64 G) ∧ wr.cell? ⟨jg, 1, none⟩ = some (.int .i64 GX) ∧ Below w.heap.size w wr) (fun i _ => 5 - (intOf i).toNat)
  case atStart => exact ⟨0, by omega, rfl, c0, c1, g0, g1, HB.out⟩
  case round =>
    clear c0 c1 g0 g1 HB
    obtain ⟨k, hk, rfl, c0, c1, g0, g1, hbb⟩ := hrel
    have HB := hidden hbb
    clear hbb
    rcases (show k = 0 ∨ k = 1 ∨ k = 2 ∨ k = 3 ∨ k = 4 ∨ k = 5 by omega) with rfl | rfl | rfl | rfl | rfl | rfl
    · go_wp2_with (first | (go_at_call_of 8 (Value.int IntKind.u64 a); refine (HU0.out _).mono ?_; rintro r w9 ⟨rfl, hb⟩; replace c0 := cellLater hb c0; replace c1 := cellLater hb c1; replace g0 := cellLater hb g0; replace g1 := cellLater hb g1; replace HB := hidden (HB.out.trans (hb.mono HB.out.size)); clear hb) | (go_at_call_of 8 (Value.int IntKind.u64 X); refine (HV0.out _).mono ?_; rintro r w9 ⟨rfl, hb⟩; replace c0 := cellLater hb c0; replace c1 := cellLater hb c1; replace g0 := cellLater hb g0; replace g1 := cellLater hb g1; replace HB := hidden (HB.out.trans (hb.mono HB.out.size)); clear hb) | (go_at_call_of 6 (Value.int IntKind.u64 V0); refine (HW0.out _).mono ?_; rintro r w9 ⟨rfl, hb⟩; replace c0 := cellLater hb c0; replace c1 := cellLater hb c1; replace g0 := cellLater hb g0; replace g1 := cellLater hb g1; replace HB := hidden (HB.out.trans (hb.mono HB.out.size)); clear hb) | (go_at_call 7; refine (HM0.out _).mono ?_; rintro r w9 ⟨rfl, hw⟩; obtain rfl := hw.symm))
      go_roundw
      case rel => exact ⟨1, by omega, rfl, c0, c1, g0, g1, HB.out⟩
      case measure => simp [intOf]
    · go_wp2_with (first | (go_at_call_of 9 (Value.int IntKind.u64 a); refine (HU1.out _).mono ?_; rintro r w9 ⟨rfl, hb⟩; replace c0 := cellLater hb c0; replace c1 := cellLater hb c1; replace g0 := cellLater hb g0; replace g1 := cellLater hb g1; replace HB := hidden (HB.out.trans (hb.mono HB.out.size)); clear hb) | (go_at_call_of 9 (Value.int IntKind.u64 X); refine (HV1.out _).mono ?_; rintro r w9 ⟨rfl, hb⟩; replace c0 := cellLater hb c0; replace c1 := cellLater hb c1; replace g0 := cellLater hb g0; replace g1 := cellLater hb g1; replace HB := hidden (HB.out.trans (hb.mono HB.out.size)); clear hb) | (go_at_call_of 6 (Value.int IntKind.u64 V1); refine (HW1.out _).mono ?_; rintro r w9 ⟨rfl, hb⟩; replace c0 := cellLater hb c0; replace c1 := cellLater hb c1; replace g0 := cellLater hb g0; replace g1 := cellLater hb g1; replace HB := hidden (HB.out.trans (hb.mono HB.out.size)); clear hb) | (go_at_call 7; refine (HM0.out _).mono ?_; rintro r w9 ⟨rfl, hw⟩; obtain rfl := hw.symm))
      go_roundw
      case rel => exact ⟨2, by omega, rfl, c0, c1, g0, g1, HB.out⟩
      case measure => simp [intOf]
    · go_wp2_with (first | (go_at_call_of 10 (Value.int IntKind.u64 a); refine (HU2.out _).mono ?_; rintro r w9 ⟨rfl, hb⟩; replace c0 := cellLater hb c0; replace c1 := cellLater hb c1; replace g0 := cellLater hb g0; replace g1 := cellLater hb g1; replace HB := hidden (HB.out.trans (hb.mono HB.out.size)); clear hb) | (go_at_call_of 10 (Value.int IntKind.u64 X); refine (HV2.out _).mono ?_; rintro r w9 ⟨rfl, hb⟩; replace c0 := cellLater hb c0; replace c1 := cellLater hb c1; replace g0 := cellLater hb g0; replace g1 := cellLater hb g1; replace HB := hidden (HB.out.trans (hb.mono HB.out.size)); clear hb) | (go_at_call_of 6 (Value.int IntKind.u64 V2); refine (HW2.out _).mono ?_; rintro r w9 ⟨rfl, hb⟩; replace c0 := cellLater hb c0; replace c1 := cellLater hb c1; replace g0 := cellLater hb g0; replace g1 := cellLater hb g1; replace HB := hidden (HB.out.trans (hb.mono HB.out.size)); clear hb) | (go_at_call 7; refine (HM0.out _).mono ?_; rintro r w9 ⟨rfl, hw⟩; obtain rfl := hw.symm))
      go_roundw
      case rel => exact ⟨3, by omega, rfl, c0, c1, g0, g1, HB.out⟩
      case measure => simp [intOf]
    · go_wp2_with (first | (go_at_call_of 11 (Value.int IntKind.u64 a); refine (HU3.out _).mono ?_; rintro r w9 ⟨rfl, hb⟩; replace c0 := cellLater hb c0; replace c1 := cellLater hb c1; replace g0 := cellLater hb g0; replace g1 := cellLater hb g1; replace HB := hidden (HB.out.trans (hb.mono HB.out.size)); clear hb) | (go_at_call_of 11 (Value.int IntKind.u64 X); refine (HV3.out _).mono ?_; rintro r w9 ⟨rfl, hb⟩; replace c0 := cellLater hb c0; replace c1 := cellLater hb c1; replace g0 := cellLater hb g0; replace g1 := cellLater hb g1; replace HB := hidden (HB.out.trans (hb.mono HB.out.size)); clear hb) | (go_at_call_of 6 (Value.int IntKind.u64 V3); refine (HW3.out _).mono ?_; rintro r w9 ⟨rfl, hb⟩; replace c0 := cellLater hb c0; replace c1 := cellLater hb c1; replace g0 := cellLater hb g0; replace g1 := cellLater hb g1; replace HB := hidden (HB.out.trans (hb.mono HB.out.size)); clear hb) | (go_at_call 7; refine (HM0.out _).mono ?_; rintro r w9 ⟨rfl, hw⟩; obtain rfl := hw.symm))
      go_roundw
      case rel => exact ⟨4, by omega, rfl, c0, c1, g0, g1, HB.out⟩
      case measure => simp [intOf]
    · go_wp2_with (first | (go_at_call_of 12 (Value.int IntKind.u64 a); refine (HU4.out _).mono ?_; rintro r w9 ⟨rfl, hb⟩; replace c0 := cellLater hb c0; replace c1 := cellLater hb c1; replace g0 := cellLater hb g0; replace g1 := cellLater hb g1; replace HB := hidden (HB.out.trans (hb.mono HB.out.size)); clear hb) | (go_at_call_of 12 (Value.int IntKind.u64 X); refine (HV4.out _).mono ?_; rintro r w9 ⟨rfl, hb⟩; replace c0 := cellLater hb c0; replace c1 := cellLater hb c1; replace g0 := cellLater hb g0; replace g1 := cellLater hb g1; replace HB := hidden (HB.out.trans (hb.mono HB.out.size)); clear hb) | (go_at_call_of 6 (Value.int IntKind.u64 V4); refine (HW4.out _).mono ?_; rintro r w9 ⟨rfl, hb⟩; replace c0 := cellLater hb c0; replace c1 := cellLater hb c1; replace g0 := cellLater hb g0; replace g1 := cellLater hb g1; replace HB := hidden (HB.out.trans (hb.mono HB.out.size)); clear hb) | (go_at_call 7; refine (HM0.out _).mono ?_; rintro r w9 ⟨rfl, hw⟩; obtain rfl := hw.symm))
      go_roundw
      case rel => exact ⟨5, by omega, rfl, c0, c1, g0, g1, HB.out⟩
      case measure => simp [intOf]
    · go_wp2_with (first | (go_at_call 5; refine (HL.out _).mono ?_; rintro r w9 ⟨rfl, hb⟩; replace HB := hidden (HB.out.trans (hb.mono HB.out.size)); clear hb))
      go_ret
      exact ⟨rfl, HB.out⟩

end Go.Proofs.Ytnjgknklcfdjlaa
