/- The document's Mod (package grottoref03): where nothing is divided. -/
import Derived.Test.YtfjpiahgnojlhaaS3c
namespace Go.Proofs.Ytfjpiahgnojlhaa
open Go.RowKit
set_option maxRecDepth 100000
set_option maxHeartbeats 2000000
set_option linter.unusedVariables false

theorem below_join3 {a X w7 : World} (h2 : Below X.heap.size X w7) (h1 : Below a.heap.size a X) : Below a.heap.size a w7 := h1.trans (h2.mono h1.size)
theorem rmod_err (m x a b : Int) (w : World)
    (HO : Hid (∀ w, Calls Try.prog 25 #[.agg #[.int .i64 m, .int .i64 x], .int .u64 a, .int .u64 b] w fun r w' => r = .returned (.tuple #[partsV 0 false 0 0, partsV 0 false 0 0, .int .i64 1]) ∧ Below w.heap.size w w')) :
    Calls Try.prog 17 #[.agg #[.int .i64 m, .int .i64 x], .int .u64 a, .int .u64 b] w fun r w' => r = .returned (.tuple #[.int .u64 0, .int .u64 0, .int .i64 1]) ∧ Below w.heap.size w w' := by
  go_enter Try.func17, Try.ntmps17
  go_wp2_with fail
  refine (HO.out _).mono ?_
  rintro r w1 ⟨rfl, hb1⟩
  have HB1 := hidden (box_below _ hb1)
  clear hb1
  go_wp2
  go_ret3
  refine ⟨rfl, ?_⟩
  have h0 := HB1.out
  exact (h0.alloc h0.size _).alloc (by have := h0.size; simp; omega) _
theorem rmod_nan (m x : Nat) (a b K1 E1 M1 K2 E2 M2 : Int) (n1 n2 : Bool) (w : World) (hok : okF m x) (hK : (K1 = 1 ∧ K2 = 1) ∨ (K1 = 1 ∧ K2 = 4) ∨ (K1 = 2 ∧ K2 = 1) ∨ (K1 = 2 ∧ K2 = 4) ∨ (K1 = 3 ∧ K2 = 1) ∨ (K1 = 3 ∧ K2 = 2) ∨ (K1 = 3 ∧ K2 = 3) ∨ (K1 = 3 ∧ K2 = 4) ∨ (K1 = 4 ∧ K2 = 1) ∨ (K1 = 4 ∧ K2 = 2) ∨ (K1 = 4 ∧ K2 = 3) ∨ (K1 = 4 ∧ K2 = 4))
    (hO : Hid (∀ w, Calls Try.prog 25 #[.agg #[.int .i64 m, .int .i64 x], .int .u64 a, .int .u64 b] w fun r w' => r = .returned (.tuple #[partsV K1 n1 E1 M1, partsV K2 n2 E2 M2, .int .i64 0]) ∧ Below w.heap.size w w')) :
    Calls Try.prog 17 #[.agg #[.int .i64 m, .int .i64 x], .int .u64 a, .int .u64 b] w fun r w' => r = .returned (.tuple #[.int .u64 ((p2 x - 1) * p2 m + p2 (m - 1)), .int .u64 ((p2 x - 1) * p2 m + p2 (m - 1)), .int .i64 0]) ∧ Below w.heap.size w w' := by
  have HK := hidden hK
  clear hK
  have hm : m ≤ 52 := by have := hok.2.1; omega
  have hm0 : 1 ≤ m := by have := hok.1; omega
  have hx : x ≤ 11 := by have := hok.2.2.2; omega
  have HR := hidden (fun w => nan_any m x w hm hm0 hx)
  go_enter Try.func17, Try.ntmps17
  go_wp2_with fail
  refine (hO.out _).mono ?_
  rintro r w1 ⟨rfl, hb1⟩
  have d0 : w1.cell? ⟨w.heap.size, 0, none⟩ = some (.int .i64 m) := cellLater hb1 (by simp)
  have d1 : w1.cell? ⟨w.heap.size, 1, none⟩ = some (.int .i64 x) := cellLater hb1 (by simp)
  have hbA : Below w1.heap.size w1 ((w1.alloc (.cells #[.int .i64 K1, .bool n1, .int .i64 E1, .int .u64 M1] 43)).alloc (.cells #[.int .i64 K2, .bool n2, .int .i64 E2, .int .u64 M2] 43)) := ((Below.refl _ _).alloc (Nat.le_refl _) _).alloc (by simp) _
  have HB := hidden ((box_below _ hb1).trans (hbA.mono (box_below _ hb1).size))
  have c0 := cellLater hbA d0
  have c1 := cellLater hbA d1
  have hbP : Below (w1.alloc (.cells #[.int .i64 K1, .bool n1, .int .i64 E1, .int .u64 M1] 43)).heap.size (w1.alloc (.cells #[.int .i64 K1, .bool n1, .int .i64 E1, .int .u64 M1] 43)) ((w1.alloc (.cells #[.int .i64 K1, .bool n1, .int .i64 E1, .int .u64 M1] 43)).alloc (.cells #[.int .i64 K2, .bool n2, .int .i64 E2, .int .u64 M2] 43)) := (Below.refl _ _).alloc (Nat.le_refl _) _
  have p0 : ((w1.alloc (.cells #[.int .i64 K1, .bool n1, .int .i64 E1, .int .u64 M1] 43)).alloc (.cells #[.int .i64 K2, .bool n2, .int .i64 E2, .int .u64 M2] 43)).cell? ⟨w1.heap.size, 0, none⟩ = some (.int .i64 K1) := cellLater hbP (by simp)
  have p1 : ((w1.alloc (.cells #[.int .i64 K1, .bool n1, .int .i64 E1, .int .u64 M1] 43)).alloc (.cells #[.int .i64 K2, .bool n2, .int .i64 E2, .int .u64 M2] 43)).cell? ⟨w1.heap.size, 1, none⟩ = some (.bool n1) := cellLater hbP (by simp)
  have p2 : ((w1.alloc (.cells #[.int .i64 K1, .bool n1, .int .i64 E1, .int .u64 M1] 43)).alloc (.cells #[.int .i64 K2, .bool n2, .int .i64 E2, .int .u64 M2] 43)).cell? ⟨w1.heap.size, 2, none⟩ = some (.int .i64 E1) := cellLater hbP (by simp)
  have p3 : ((w1.alloc (.cells #[.int .i64 K1, .bool n1, .int .i64 E1, .int .u64 M1] 43)).alloc (.cells #[.int .i64 K2, .bool n2, .int .i64 E2, .int .u64 M2] 43)).cell? ⟨w1.heap.size, 3, none⟩ = some (.int .u64 M1) := cellLater hbP (by simp)
  have q0 : ((w1.alloc (.cells #[.int .i64 K1, .bool n1, .int .i64 E1, .int .u64 M1] 43)).alloc (.cells #[.int .i64 K2, .bool n2, .int .i64 E2, .int .u64 M2] 43)).cell? ⟨w1.heap.size + 1, 0, none⟩ = some (.int .i64 K2) := by simp
  have q1 : ((w1.alloc (.cells #[.int .i64 K1, .bool n1, .int .i64 E1, .int .u64 M1] 43)).alloc (.cells #[.int .i64 K2, .bool n2, .int .i64 E2, .int .u64 M2] 43)).cell? ⟨w1.heap.size + 1, 1, none⟩ = some (.bool n2) := by simp
  have q2 : ((w1.alloc (.cells #[.int .i64 K1, .bool n1, .int .i64 E1, .int .u64 M1] 43)).alloc (.cells #[.int .i64 K2, .bool n2, .int .i64 E2, .int .u64 M2] 43)).cell? ⟨w1.heap.size + 1, 2, none⟩ = some (.int .i64 E2) := by simp
  have q3 : ((w1.alloc (.cells #[.int .i64 K1, .bool n1, .int .i64 E1, .int .u64 M1] 43)).alloc (.cells #[.int .i64 K2, .bool n2, .int .i64 E2, .int .u64 M2] 43)).cell? ⟨w1.heap.size + 1, 3, none⟩ = some (.int .u64 M2) := by simp
  clear hb1 hbA hbP d0 d1
  go_upto_region 2 with fail
  generalize ((w1.alloc (.cells #[.int .i64 K1, .bool n1, .int .i64 E1, .int .u64 M1] 43)).alloc (.cells #[.int .i64 K2, .bool n2, .int .i64 E2, .int .u64 M2] 43)) = w5 at *
  rcases HK.out with ⟨rfl, rfl⟩ | ⟨rfl, rfl⟩ | ⟨rfl, rfl⟩ | ⟨rfl, rfl⟩ | ⟨rfl, rfl⟩ | ⟨rfl, rfl⟩ | ⟨rfl, rfl⟩ | ⟨rfl, rfl⟩ | ⟨rfl, rfl⟩ | ⟨rfl, rfl⟩ | ⟨rfl, rfl⟩ | ⟨rfl, rfl⟩
  all_goals
    go_wp2_with fail
    go_region_held3 (fun w' => w'.cell? ⟨w.heap.size, 0, none⟩ = some (.int .i64 (m : Int)) ∧ w'.cell? ⟨w.heap.size, 1, none⟩ = some (.int .i64 (x : Int))) (go_keep) (first | (go_at_call 26; (fail_if_success (have t_ := HN1)); refine (HR.out _).mono ?_; rintro r w6 ⟨rfl, hb6⟩; have c0 : w6.cell? ⟨w.heap.size, 0, none⟩ = some (.int .i64 (m : Int)) := cellLater hb6 (by go_keep); have c1 : w6.cell? ⟨w.heap.size, 1, none⟩ = some (.int .i64 (x : Int)) := cellLater hb6 (by go_keep); have HN1 : Hid (Below w5.heap.size w5 w6) := hidden (below_join3 hb6 (by first | exact Below.refl _ _ | exact (Below.refl _ _).drew)); clear hb6) | (go_at_call 26; refine (HR.out _).mono ?_; rintro r w7 ⟨rfl, hb7⟩; have c0 : w7.cell? ⟨w.heap.size, 0, none⟩ = some (.int .i64 (m : Int)) := cellLater hb7 (by go_keep); have c1 : w7.cell? ⟨w.heap.size, 1, none⟩ = some (.int .i64 (x : Int)) := cellLater hb7 (by go_keep); have HN2 := hidden (HN1.out.trans (hb7.mono HN1.out.size)); clear hb7))
  all_goals
    go_wp2
    go_ret3
    exact ⟨rfl, HB.out.trans (HN2.out.mono HB.out.size)⟩
theorem rmod_inf (m x : Nat) (a b K1 E1 M1 K2 E2 M2 : Int) (n1 n2 : Bool) (w : World) (hok : okF m x) (hK : (K1 = 1 ∧ K2 = 3) ∨ (K1 = 2 ∧ K2 = 3))
    (hO : Hid (∀ w, Calls Try.prog 25 #[.agg #[.int .i64 m, .int .i64 x], .int .u64 a, .int .u64 b] w fun r w' => r = .returned (.tuple #[partsV K1 n1 E1 M1, partsV K2 n2 E2 M2, .int .i64 0]) ∧ Below w.heap.size w w')) :
    Calls Try.prog 17 #[.agg #[.int .i64 m, .int .i64 x], .int .u64 a, .int .u64 b] w fun r w' => r = .returned (.tuple #[.int .u64 a, .int .u64 (sgnW (n1 != n2) (m + x)), .int .i64 0]) ∧ Below w.heap.size w w' := by
  have HK := hidden hK
  clear hK
  have hm : m ≤ 52 := by have := hok.2.1; omega
  have hm0 : 1 ≤ m := by have := hok.1; omega
  have hx : x ≤ 11 := by have := hok.2.2.2; omega
  have HR : Hid (∀ w, Calls Try.prog 34 #[.agg #[.int .i64 (m : Int), .int .i64 (x : Int)], .bool (n1 != n2)] w fun r w' => r = .returned (.int .u64 (sgnW (n1 != n2) (m + x))) ∧ Below w.heap.size w w') := hidden fun w => by
    refine (zero_any m x (n1 != n2) w hm hx).mono ?_
    rintro r w' ⟨rfl, hw⟩
    subst hw
    refine ⟨rfl, ?_⟩
    repeat (first | exact Below.refl _ _ | apply Below.drew | (refine Below.alloc ?_ (by simp; try omega) _))
  go_enter Try.func17, Try.ntmps17
  go_wp2_with fail
  refine (hO.out _).mono ?_
  rintro r w1 ⟨rfl, hb1⟩
  have d0 : w1.cell? ⟨w.heap.size, 0, none⟩ = some (.int .i64 m) := cellLater hb1 (by simp)
  have d1 : w1.cell? ⟨w.heap.size, 1, none⟩ = some (.int .i64 x) := cellLater hb1 (by simp)
  have hbA : Below w1.heap.size w1 ((w1.alloc (.cells #[.int .i64 K1, .bool n1, .int .i64 E1, .int .u64 M1] 43)).alloc (.cells #[.int .i64 K2, .bool n2, .int .i64 E2, .int .u64 M2] 43)) := ((Below.refl _ _).alloc (Nat.le_refl _) _).alloc (by simp) _
  have HB := hidden ((box_below _ hb1).trans (hbA.mono (box_below _ hb1).size))
  have c0 := cellLater hbA d0
  have c1 := cellLater hbA d1
  have hbP : Below (w1.alloc (.cells #[.int .i64 K1, .bool n1, .int .i64 E1, .int .u64 M1] 43)).heap.size (w1.alloc (.cells #[.int .i64 K1, .bool n1, .int .i64 E1, .int .u64 M1] 43)) ((w1.alloc (.cells #[.int .i64 K1, .bool n1, .int .i64 E1, .int .u64 M1] 43)).alloc (.cells #[.int .i64 K2, .bool n2, .int .i64 E2, .int .u64 M2] 43)) := (Below.refl _ _).alloc (Nat.le_refl _) _
  have p0 : ((w1.alloc (.cells #[.int .i64 K1, .bool n1, .int .i64 E1, .int .u64 M1] 43)).alloc (.cells #[.int .i64 K2, .bool n2, .int .i64 E2, .int .u64 M2] 43)).cell? ⟨w1.heap.size, 0, none⟩ = some (.int .i64 K1) := cellLater hbP (by simp)
  have p1 : ((w1.alloc (.cells #[.int .i64 K1, .bool n1, .int .i64 E1, .int .u64 M1] 43)).alloc (.cells #[.int .i64 K2, .bool n2, .int .i64 E2, .int .u64 M2] 43)).cell? ⟨w1.heap.size, 1, none⟩ = some (.bool n1) := cellLater hbP (by simp)
  have p2 : ((w1.alloc (.cells #[.int .i64 K1, .bool n1, .int .i64 E1, .int .u64 M1] 43)).alloc (.cells #[.int .i64 K2, .bool n2, .int .i64 E2, .int .u64 M2] 43)).cell? ⟨w1.heap.size, 2, none⟩ = some (.int .i64 E1) := cellLater hbP (by simp)
  have p3 : ((w1.alloc (.cells #[.int .i64 K1, .bool n1, .int .i64 E1, .int .u64 M1] 43)).alloc (.cells #[.int .i64 K2, .bool n2, .int .i64 E2, .int .u64 M2] 43)).cell? ⟨w1.heap.size, 3, none⟩ = some (.int .u64 M1) := cellLater hbP (by simp)
  have q0 : ((w1.alloc (.cells #[.int .i64 K1, .bool n1, .int .i64 E1, .int .u64 M1] 43)).alloc (.cells #[.int .i64 K2, .bool n2, .int .i64 E2, .int .u64 M2] 43)).cell? ⟨w1.heap.size + 1, 0, none⟩ = some (.int .i64 K2) := by simp
  have q1 : ((w1.alloc (.cells #[.int .i64 K1, .bool n1, .int .i64 E1, .int .u64 M1] 43)).alloc (.cells #[.int .i64 K2, .bool n2, .int .i64 E2, .int .u64 M2] 43)).cell? ⟨w1.heap.size + 1, 1, none⟩ = some (.bool n2) := by simp
  have q2 : ((w1.alloc (.cells #[.int .i64 K1, .bool n1, .int .i64 E1, .int .u64 M1] 43)).alloc (.cells #[.int .i64 K2, .bool n2, .int .i64 E2, .int .u64 M2] 43)).cell? ⟨w1.heap.size + 1, 2, none⟩ = some (.int .i64 E2) := by simp
  have q3 : ((w1.alloc (.cells #[.int .i64 K1, .bool n1, .int .i64 E1, .int .u64 M1] 43)).alloc (.cells #[.int .i64 K2, .bool n2, .int .i64 E2, .int .u64 M2] 43)).cell? ⟨w1.heap.size + 1, 3, none⟩ = some (.int .u64 M2) := by simp
  clear hb1 hbA hbP d0 d1
  go_upto_region 2 with fail
  generalize ((w1.alloc (.cells #[.int .i64 K1, .bool n1, .int .i64 E1, .int .u64 M1] 43)).alloc (.cells #[.int .i64 K2, .bool n2, .int .i64 E2, .int .u64 M2] 43)) = w5 at *
  rcases HK.out with ⟨rfl, rfl⟩ | ⟨rfl, rfl⟩
  all_goals
    go_wp2_with (go_at_call 34; refine (HR.out _).mono ?_; rintro r w6 ⟨rfl, hb6⟩; have c0 := cellLater hb6 c0; have c1 := cellLater hb6 c1; have HB := hidden (HB.out.trans (hb6.mono HB.out.size)); clear hb6)
    go_ret3
    exact ⟨rfl, HB.out⟩
end Go.Proofs.Ytfjpiahgnojlhaa
