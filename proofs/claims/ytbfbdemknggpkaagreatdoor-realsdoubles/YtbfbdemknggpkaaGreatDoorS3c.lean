/- Contract of the document's Div (package grottoref03): quotients of two patterns. -/
import Derived.Test.YtbfbdemknggpkaaGreatDoorS3b
import Derived.Test.YtbfbdemknggpkaaGreatDoorN5m
namespace Go.Proofs.YtbfbdemknggpkaaGreatDoor
open Go.RowKit
set_option maxRecDepth 100000
set_option maxHeartbeats 2000000
set_option linter.unusedVariables false

theorem has_of3 {w : World} {a : Option Addr} {l c : Nat} {ds : List Int} {N : Int} (rt : RdD w a l c ds) (kt : OkD ds) (vt : nv ds = N) (tt : l = 0 ∨ ds.getD (l - 1) 0 ≠ 0) : HasNat w a l c ds N := ⟨rt, kt, vt, tt⟩
theorem rdiv_near (m x : Nat) (a b K1 E1 M1 K2 E2 M2 : Int) (n1 n2 : Bool) (w : World) (hok : okF m x) (hK1 : K1 = 1 ∨ K1 = 2) (hK2 : K2 = 2) (a0 : 0 ≤ M1) (a1 : M1 ≤ 18446744073709551615) (b0 : 0 < M2) (b1 : M2 ≤ 18446744073709551615) (e1 : -2000 ≤ E1 ∧ E1 ≤ 2000) (e2 : -2000 ≤ E2 ∧ E2 ≤ 2000)
    (hO : Hid (∀ w, Calls Tryz.prog 33 #[.agg #[.int .i64 m, .int .i64 x], .int .u64 a, .int .u64 b] w fun r w' => r = .returned (.tuple #[partsV K1 n1 E1 M1, partsV K2 n2 E2 M2, .int .i64 0]) ∧ Below w.heap.size w w')) :
    Calls Tryz.prog 15 #[.agg #[.int .i64 m, .int .i64 x], .int .u64 a, .int .u64 b] w fun r w' => ∃ P, r = .returned (.tuple #[.int .u64 (P + sgnW (n1 != n2) (m + x)), .int .i64 0]) ∧ ((M1 = 0 ∧ P = 0) ∨ (0 < M1 ∧ IsNear m x M1 M2 (E1 - E2) P)) ∧ Below w.heap.size w w' := by
  have k1 : IntKind.i64.wrap (E1 - E2) = E1 - E2 := wrapi _ (by omega) (by omega)
  have HK1 := hidden hK1
  have HK2 := hidden hK2
  clear hK1 hK2
  go_enter Tryz.func15, Tryz.ntmps15
  go_wp2_with fail
  refine (hO.out _).mono ?_
  rintro r w1 ⟨rfl, hb1⟩
  have d0 : w1.cell? ⟨w.heap.size, 0, none⟩ = some (.int .i64 m) := cellLater hb1 (by simp)
  have d1 : w1.cell? ⟨w.heap.size, 1, none⟩ = some (.int .i64 x) := cellLater hb1 (by simp)
  have hbA : Below w1.heap.size w1 ((w1.alloc (.cells #[.int .i64 K1, .bool n1, .int .i64 E1, .int .u64 M1] 53)).alloc (.cells #[.int .i64 K2, .bool n2, .int .i64 E2, .int .u64 M2] 53)) := ((Below.refl _ _).alloc (Nat.le_refl _) _).alloc (by simp) _
  have HB := hidden ((box_below _ hb1).trans (hbA.mono (box_below _ hb1).size))
  have c0 := cellLater hbA d0
  have c1 := cellLater hbA d1
  have hbP : Below (w1.alloc (.cells #[.int .i64 K1, .bool n1, .int .i64 E1, .int .u64 M1] 53)).heap.size (w1.alloc (.cells #[.int .i64 K1, .bool n1, .int .i64 E1, .int .u64 M1] 53)) ((w1.alloc (.cells #[.int .i64 K1, .bool n1, .int .i64 E1, .int .u64 M1] 53)).alloc (.cells #[.int .i64 K2, .bool n2, .int .i64 E2, .int .u64 M2] 53)) := (Below.refl _ _).alloc (Nat.le_refl _) _
  have p0 : ((w1.alloc (.cells #[.int .i64 K1, .bool n1, .int .i64 E1, .int .u64 M1] 53)).alloc (.cells #[.int .i64 K2, .bool n2, .int .i64 E2, .int .u64 M2] 53)).cell? ⟨w1.heap.size, 0, none⟩ = some (.int .i64 K1) := cellLater hbP (by simp)
  have p1 : ((w1.alloc (.cells #[.int .i64 K1, .bool n1, .int .i64 E1, .int .u64 M1] 53)).alloc (.cells #[.int .i64 K2, .bool n2, .int .i64 E2, .int .u64 M2] 53)).cell? ⟨w1.heap.size, 1, none⟩ = some (.bool n1) := cellLater hbP (by simp)
  have p2 : ((w1.alloc (.cells #[.int .i64 K1, .bool n1, .int .i64 E1, .int .u64 M1] 53)).alloc (.cells #[.int .i64 K2, .bool n2, .int .i64 E2, .int .u64 M2] 53)).cell? ⟨w1.heap.size, 2, none⟩ = some (.int .i64 E1) := cellLater hbP (by simp)
  have p3 : ((w1.alloc (.cells #[.int .i64 K1, .bool n1, .int .i64 E1, .int .u64 M1] 53)).alloc (.cells #[.int .i64 K2, .bool n2, .int .i64 E2, .int .u64 M2] 53)).cell? ⟨w1.heap.size, 3, none⟩ = some (.int .u64 M1) := cellLater hbP (by simp)
  have q0 : ((w1.alloc (.cells #[.int .i64 K1, .bool n1, .int .i64 E1, .int .u64 M1] 53)).alloc (.cells #[.int .i64 K2, .bool n2, .int .i64 E2, .int .u64 M2] 53)).cell? ⟨w1.heap.size + 1, 0, none⟩ = some (.int .i64 K2) := by simp
  have q1 : ((w1.alloc (.cells #[.int .i64 K1, .bool n1, .int .i64 E1, .int .u64 M1] 53)).alloc (.cells #[.int .i64 K2, .bool n2, .int .i64 E2, .int .u64 M2] 53)).cell? ⟨w1.heap.size + 1, 1, none⟩ = some (.bool n2) := by simp
  have q2 : ((w1.alloc (.cells #[.int .i64 K1, .bool n1, .int .i64 E1, .int .u64 M1] 53)).alloc (.cells #[.int .i64 K2, .bool n2, .int .i64 E2, .int .u64 M2] 53)).cell? ⟨w1.heap.size + 1, 2, none⟩ = some (.int .i64 E2) := by simp
  have q3 : ((w1.alloc (.cells #[.int .i64 K1, .bool n1, .int .i64 E1, .int .u64 M1] 53)).alloc (.cells #[.int .i64 K2, .bool n2, .int .i64 E2, .int .u64 M2] 53)).cell? ⟨w1.heap.size + 1, 3, none⟩ = some (.int .u64 M2) := by simp
  clear hb1 hbA hbP d0 d1
  go_upto_region 2 with fail
  generalize ((w1.alloc (.cells #[.int .i64 K1, .bool n1, .int .i64 E1, .int .u64 M1] 53)).alloc (.cells #[.int .i64 K2, .bool n2, .int .i64 E2, .int .u64 M2] 53)) = w5 at *
  have hK2 := HK2.out
  subst hK2
  rcases HK1.out with rfl | rfl
  all_goals
    go_wp2_with fail
    go_region_held3 (fun w' => w'.cell? ⟨w.heap.size, 0, none⟩ = some (.int .i64 m) ∧ w'.cell? ⟨w.heap.size, 1, none⟩ = some (.int .i64 x) ∧ w'.cell? ⟨w1.heap.size, 3, none⟩ = some (.int .u64 M1) ∧ w'.cell? ⟨w1.heap.size + 1, 3, none⟩ = some (.int .u64 M2) ∧ w'.cell? ⟨w1.heap.size, 2, none⟩ = some (.int .i64 E1) ∧ w'.cell? ⟨w1.heap.size + 1, 2, none⟩ = some (.int .i64 E2)) (go_keep) (first | (go_at_call_of 45 (Value.int IntKind.u64 M1); refine (natOf_any M1 _ a0 a1).mono ?_; rintro r w6 ⟨ah, lh, ch, dh, rfl, rh, kh, vh, lbh, th, hb6, -⟩; have c0 : w6.cell? ⟨w.heap.size, 0, none⟩ = some (.int .i64 m) := cellLater hb6 (by go_keep); have c1 : w6.cell? ⟨w.heap.size, 1, none⟩ = some (.int .i64 x) := cellLater hb6 (by go_keep); have p3 : w6.cell? ⟨w1.heap.size, 3, none⟩ = some (.int .u64 M1) := cellLater hb6 (by go_keep); have q3 : w6.cell? ⟨w1.heap.size + 1, 3, none⟩ = some (.int .u64 M2) := cellLater hb6 (by go_keep); have p2 : w6.cell? ⟨w1.heap.size, 2, none⟩ = some (.int .i64 E1) := cellLater hb6 (by go_keep); have q2 : w6.cell? ⟨w1.heap.size + 1, 2, none⟩ = some (.int .i64 E2) := cellLater hb6 (by go_keep); have HA := hidden (has_of3 rh kh vh th)) | (go_at_call_of 45 (Value.int IntKind.u64 M2); refine (natOf_any M2 _ (by omega) b1).mono ?_; rintro r w7 ⟨ag, lg, cg, dg, rfl, rg, kg, vg, lbg, tg, hb7, -⟩; have c0 : w7.cell? ⟨w.heap.size, 0, none⟩ = some (.int .i64 m) := cellLater hb7 (by go_keep); have c1 : w7.cell? ⟨w.heap.size, 1, none⟩ = some (.int .i64 x) := cellLater hb7 (by go_keep); have p3 : w7.cell? ⟨w1.heap.size, 3, none⟩ = some (.int .u64 M1) := cellLater hb7 (by go_keep); have q3 : w7.cell? ⟨w1.heap.size + 1, 3, none⟩ = some (.int .u64 M2) := cellLater hb7 (by go_keep); have p2 : w7.cell? ⟨w1.heap.size, 2, none⟩ = some (.int .i64 E1) := cellLater hb7 (by go_keep); have q2 : w7.cell? ⟨w1.heap.size + 1, 2, none⟩ = some (.int .i64 E2) := cellLater hb7 (by go_keep); have HA := hidden (HA.out.later hb7); have HG := hidden (has_of3 rg kg vg tg)) | (go_at_call 40; refine (near_any m x (n1 != n2) _ _ _ _ _ _ _ _ M1 M2 (E1 - E2) _ hok HA.out HG.out (by omega) (by omega) (by omega) (by omega) (by omega)).mono ?_; rintro r w8 ⟨P, rfl, hP, hb8⟩; have c0 : w8.cell? ⟨w.heap.size, 0, none⟩ = some (.int .i64 m) := cellLater hb8 (by go_keep); have c1 : w8.cell? ⟨w.heap.size, 1, none⟩ = some (.int .i64 x) := cellLater hb8 (by go_keep); have p3 : w8.cell? ⟨w1.heap.size, 3, none⟩ = some (.int .u64 M1) := cellLater hb8 (by go_keep); have q3 : w8.cell? ⟨w1.heap.size + 1, 3, none⟩ = some (.int .u64 M2) := cellLater hb8 (by go_keep); have p2 : w8.cell? ⟨w1.heap.size, 2, none⟩ = some (.int .i64 E1) := cellLater hb8 (by go_keep); have q2 : w8.cell? ⟨w1.heap.size + 1, 2, none⟩ = some (.int .i64 E2) := cellLater hb8 (by go_keep)))
  all_goals
    have h0 := HB.out.drew
    have h1 := h0.trans (hb6.mono h0.size)
    have h2 := h1.trans (hb7.mono h1.size)
    have h3 := h2.trans (hb8.mono h2.size)
    have HF := hidden h3
    have HPP := hidden hP
    clear h0 h1 h2 h3 hb6 hb7 hb8 hP
    go_wp2
    go_ret2
    exact ⟨P, rfl, HPP.out, HF.out⟩
theorem rdiv_nan (m x : Nat) (a b K1 E1 M1 K2 E2 M2 : Int) (n1 n2 : Bool) (w : World) (hok : okF m x) (hK : (K1 = 1 ∧ K2 = 1) ∨ (K1 = 1 ∧ K2 = 4) ∨ (K1 = 2 ∧ K2 = 4) ∨ (K1 = 3 ∧ K2 = 3) ∨ (K1 = 3 ∧ K2 = 4) ∨ (K1 = 4 ∧ K2 = 1) ∨ (K1 = 4 ∧ K2 = 2) ∨ (K1 = 4 ∧ K2 = 3) ∨ (K1 = 4 ∧ K2 = 4))
    (hO : Hid (∀ w, Calls Tryz.prog 33 #[.agg #[.int .i64 m, .int .i64 x], .int .u64 a, .int .u64 b] w fun r w' => r = .returned (.tuple #[partsV K1 n1 E1 M1, partsV K2 n2 E2 M2, .int .i64 0]) ∧ Below w.heap.size w w')) :
    Calls Tryz.prog 15 #[.agg #[.int .i64 m, .int .i64 x], .int .u64 a, .int .u64 b] w fun r w' => r = .returned (.tuple #[.int .u64 ((p2 x - 1) * p2 m + p2 (m - 1)), .int .i64 0]) ∧ Below w.heap.size w w' := by
  have HK := hidden hK
  clear hK
  have hm : m ≤ 52 := by have := hok.2.1; omega
  have hm0 : 1 ≤ m := by have := hok.1; omega
  have hx : x ≤ 11 := by have := hok.2.2.2; omega
  have HR := hidden (fun w => nan_any m x w hm hm0 hx)
  go_enter Tryz.func15, Tryz.ntmps15
  go_wp2_with fail
  refine (hO.out _).mono ?_
  rintro r w1 ⟨rfl, hb1⟩
  have d0 : w1.cell? ⟨w.heap.size, 0, none⟩ = some (.int .i64 m) := cellLater hb1 (by simp)
  have d1 : w1.cell? ⟨w.heap.size, 1, none⟩ = some (.int .i64 x) := cellLater hb1 (by simp)
  have hbA : Below w1.heap.size w1 ((w1.alloc (.cells #[.int .i64 K1, .bool n1, .int .i64 E1, .int .u64 M1] 53)).alloc (.cells #[.int .i64 K2, .bool n2, .int .i64 E2, .int .u64 M2] 53)) := ((Below.refl _ _).alloc (Nat.le_refl _) _).alloc (by simp) _
  have HB := hidden ((box_below _ hb1).trans (hbA.mono (box_below _ hb1).size))
  have c0 := cellLater hbA d0
  have c1 := cellLater hbA d1
  have hbP : Below (w1.alloc (.cells #[.int .i64 K1, .bool n1, .int .i64 E1, .int .u64 M1] 53)).heap.size (w1.alloc (.cells #[.int .i64 K1, .bool n1, .int .i64 E1, .int .u64 M1] 53)) ((w1.alloc (.cells #[.int .i64 K1, .bool n1, .int .i64 E1, .int .u64 M1] 53)).alloc (.cells #[.int .i64 K2, .bool n2, .int .i64 E2, .int .u64 M2] 53)) := (Below.refl _ _).alloc (Nat.le_refl _) _
  have p0 : ((w1.alloc (.cells #[.int .i64 K1, .bool n1, .int .i64 E1, .int .u64 M1] 53)).alloc (.cells #[.int .i64 K2, .bool n2, .int .i64 E2, .int .u64 M2] 53)).cell? ⟨w1.heap.size, 0, none⟩ = some (.int .i64 K1) := cellLater hbP (by simp)
  have p1 : ((w1.alloc (.cells #[.int .i64 K1, .bool n1, .int .i64 E1, .int .u64 M1] 53)).alloc (.cells #[.int .i64 K2, .bool n2, .int .i64 E2, .int .u64 M2] 53)).cell? ⟨w1.heap.size, 1, none⟩ = some (.bool n1) := cellLater hbP (by simp)
  have p2 : ((w1.alloc (.cells #[.int .i64 K1, .bool n1, .int .i64 E1, .int .u64 M1] 53)).alloc (.cells #[.int .i64 K2, .bool n2, .int .i64 E2, .int .u64 M2] 53)).cell? ⟨w1.heap.size, 2, none⟩ = some (.int .i64 E1) := cellLater hbP (by simp)
  have p3 : ((w1.alloc (.cells #[.int .i64 K1, .bool n1, .int .i64 E1, .int .u64 M1] 53)).alloc (.cells #[.int .i64 K2, .bool n2, .int .i64 E2, .int .u64 M2] 53)).cell? ⟨w1.heap.size, 3, none⟩ = some (.int .u64 M1) := cellLater hbP (by simp)
  have q0 : ((w1.alloc (.cells #[.int .i64 K1, .bool n1, .int .i64 E1, .int .u64 M1] 53)).alloc (.cells #[.int .i64 K2, .bool n2, .int .i64 E2, .int .u64 M2] 53)).cell? ⟨w1.heap.size + 1, 0, none⟩ = some (.int .i64 K2) := by simp
  have q1 : ((w1.alloc (.cells #[.int .i64 K1, .bool n1, .int .i64 E1, .int .u64 M1] 53)).alloc (.cells #[.int .i64 K2, .bool n2, .int .i64 E2, .int .u64 M2] 53)).cell? ⟨w1.heap.size + 1, 1, none⟩ = some (.bool n2) := by simp
  have q2 : ((w1.alloc (.cells #[.int .i64 K1, .bool n1, .int .i64 E1, .int .u64 M1] 53)).alloc (.cells #[.int .i64 K2, .bool n2, .int .i64 E2, .int .u64 M2] 53)).cell? ⟨w1.heap.size + 1, 2, none⟩ = some (.int .i64 E2) := by simp
  have q3 : ((w1.alloc (.cells #[.int .i64 K1, .bool n1, .int .i64 E1, .int .u64 M1] 53)).alloc (.cells #[.int .i64 K2, .bool n2, .int .i64 E2, .int .u64 M2] 53)).cell? ⟨w1.heap.size + 1, 3, none⟩ = some (.int .u64 M2) := by simp
  clear hb1 hbA hbP d0 d1
  go_upto_region 2 with fail
  generalize ((w1.alloc (.cells #[.int .i64 K1, .bool n1, .int .i64 E1, .int .u64 M1] 53)).alloc (.cells #[.int .i64 K2, .bool n2, .int .i64 E2, .int .u64 M2] 53)) = w5 at *
  rcases HK.out with ⟨rfl, rfl⟩ | ⟨rfl, rfl⟩ | ⟨rfl, rfl⟩ | ⟨rfl, rfl⟩ | ⟨rfl, rfl⟩ | ⟨rfl, rfl⟩ | ⟨rfl, rfl⟩ | ⟨rfl, rfl⟩ | ⟨rfl, rfl⟩
  all_goals
    go_wp2_with fail
    refine (HR.out _).mono ?_
    rintro r w6 ⟨rfl, hb6⟩
    have HF := hidden (HB.out.trans (hb6.mono HB.out.size))
    clear hb6
    go_wp2
    go_ret2
    exact ⟨rfl, HF.out⟩
theorem rdiv_inf (m x : Nat) (a b K1 E1 M1 K2 E2 M2 : Int) (n1 n2 : Bool) (w : World) (hok : okF m x) (hK : (K1 = 2 ∧ K2 = 1) ∨ (K1 = 3 ∧ K2 = 1) ∨ (K1 = 3 ∧ K2 = 2))
    (hO : Hid (∀ w, Calls Tryz.prog 33 #[.agg #[.int .i64 m, .int .i64 x], .int .u64 a, .int .u64 b] w fun r w' => r = .returned (.tuple #[partsV K1 n1 E1 M1, partsV K2 n2 E2 M2, .int .i64 0]) ∧ Below w.heap.size w w')) :
    Calls Tryz.prog 15 #[.agg #[.int .i64 m, .int .i64 x], .int .u64 a, .int .u64 b] w fun r w' => r = .returned (.tuple #[.int .u64 ((p2 x - 1) * p2 m + sgnW (n1 != n2) (m + x)), .int .i64 0]) ∧ Below w.heap.size w w' := by
  have HK := hidden hK
  clear hK
  have hm : m ≤ 52 := by have := hok.2.1; omega
  have hm0 : 1 ≤ m := by have := hok.1; omega
  have hx : x ≤ 11 := by have := hok.2.2.2; omega
  have HR := hidden (fun w => inf_any m x (n1 != n2) w hm hx)
  go_enter Tryz.func15, Tryz.ntmps15
  go_wp2_with fail
  refine (hO.out _).mono ?_
  rintro r w1 ⟨rfl, hb1⟩
  have d0 : w1.cell? ⟨w.heap.size, 0, none⟩ = some (.int .i64 m) := cellLater hb1 (by simp)
  have d1 : w1.cell? ⟨w.heap.size, 1, none⟩ = some (.int .i64 x) := cellLater hb1 (by simp)
  have hbA : Below w1.heap.size w1 ((w1.alloc (.cells #[.int .i64 K1, .bool n1, .int .i64 E1, .int .u64 M1] 53)).alloc (.cells #[.int .i64 K2, .bool n2, .int .i64 E2, .int .u64 M2] 53)) := ((Below.refl _ _).alloc (Nat.le_refl _) _).alloc (by simp) _
  have HB := hidden ((box_below _ hb1).trans (hbA.mono (box_below _ hb1).size))
  have c0 := cellLater hbA d0
  have c1 := cellLater hbA d1
  have hbP : Below (w1.alloc (.cells #[.int .i64 K1, .bool n1, .int .i64 E1, .int .u64 M1] 53)).heap.size (w1.alloc (.cells #[.int .i64 K1, .bool n1, .int .i64 E1, .int .u64 M1] 53)) ((w1.alloc (.cells #[.int .i64 K1, .bool n1, .int .i64 E1, .int .u64 M1] 53)).alloc (.cells #[.int .i64 K2, .bool n2, .int .i64 E2, .int .u64 M2] 53)) := (Below.refl _ _).alloc (Nat.le_refl _) _
  have p0 : ((w1.alloc (.cells #[.int .i64 K1, .bool n1, .int .i64 E1, .int .u64 M1] 53)).alloc (.cells #[.int .i64 K2, .bool n2, .int .i64 E2, .int .u64 M2] 53)).cell? ⟨w1.heap.size, 0, none⟩ = some (.int .i64 K1) := cellLater hbP (by simp)
  have p1 : ((w1.alloc (.cells #[.int .i64 K1, .bool n1, .int .i64 E1, .int .u64 M1] 53)).alloc (.cells #[.int .i64 K2, .bool n2, .int .i64 E2, .int .u64 M2] 53)).cell? ⟨w1.heap.size, 1, none⟩ = some (.bool n1) := cellLater hbP (by simp)
  have p2 : ((w1.alloc (.cells #[.int .i64 K1, .bool n1, .int .i64 E1, .int .u64 M1] 53)).alloc (.cells #[.int .i64 K2, .bool n2, .int .i64 E2, .int .u64 M2] 53)).cell? ⟨w1.heap.size, 2, none⟩ = some (.int .i64 E1) := cellLater hbP (by simp)
  have p3 : ((w1.alloc (.cells #[.int .i64 K1, .bool n1, .int .i64 E1, .int .u64 M1] 53)).alloc (.cells #[.int .i64 K2, .bool n2, .int .i64 E2, .int .u64 M2] 53)).cell? ⟨w1.heap.size, 3, none⟩ = some (.int .u64 M1) := cellLater hbP (by simp)
  have q0 : ((w1.alloc (.cells #[.int .i64 K1, .bool n1, .int .i64 E1, .int .u64 M1] 53)).alloc (.cells #[.int .i64 K2, .bool n2, .int .i64 E2, .int .u64 M2] 53)).cell? ⟨w1.heap.size + 1, 0, none⟩ = some (.int .i64 K2) := by simp
  have q1 : ((w1.alloc (.cells #[.int .i64 K1, .bool n1, .int .i64 E1, .int .u64 M1] 53)).alloc (.cells #[.int .i64 K2, .bool n2, .int .i64 E2, .int .u64 M2] 53)).cell? ⟨w1.heap.size + 1, 1, none⟩ = some (.bool n2) := by simp
  have q2 : ((w1.alloc (.cells #[.int .i64 K1, .bool n1, .int .i64 E1, .int .u64 M1] 53)).alloc (.cells #[.int .i64 K2, .bool n2, .int .i64 E2, .int .u64 M2] 53)).cell? ⟨w1.heap.size + 1, 2, none⟩ = some (.int .i64 E2) := by simp
  have q3 : ((w1.alloc (.cells #[.int .i64 K1, .bool n1, .int .i64 E1, .int .u64 M1] 53)).alloc (.cells #[.int .i64 K2, .bool n2, .int .i64 E2, .int .u64 M2] 53)).cell? ⟨w1.heap.size + 1, 3, none⟩ = some (.int .u64 M2) := by simp
  clear hb1 hbA hbP d0 d1
  go_upto_region 2 with fail
  generalize ((w1.alloc (.cells #[.int .i64 K1, .bool n1, .int .i64 E1, .int .u64 M1] 53)).alloc (.cells #[.int .i64 K2, .bool n2, .int .i64 E2, .int .u64 M2] 53)) = w5 at *
  rcases HK.out with ⟨rfl, rfl⟩ | ⟨rfl, rfl⟩ | ⟨rfl, rfl⟩
  all_goals
    go_wp2_with fail
    refine (HR.out _).mono ?_
    rintro r w6 ⟨rfl, hb6⟩
    have HF := hidden (HB.out.trans (hb6.mono HB.out.size))
    clear hb6
    go_wp2
    go_ret2
    exact ⟨rfl, HF.out⟩
theorem rdiv_zero (m x : Nat) (a b K1 E1 M1 K2 E2 M2 : Int) (n1 n2 : Bool) (w : World) (hok : okF m x) (hK : (K1 = 1 ∧ K2 = 3) ∨ (K1 = 2 ∧ K2 = 3))
    (hO : Hid (∀ w, Calls Tryz.prog 33 #[.agg #[.int .i64 m, .int .i64 x], .int .u64 a, .int .u64 b] w fun r w' => r = .returned (.tuple #[partsV K1 n1 E1 M1, partsV K2 n2 E2 M2, .int .i64 0]) ∧ Below w.heap.size w w')) :
    Calls Tryz.prog 15 #[.agg #[.int .i64 m, .int .i64 x], .int .u64 a, .int .u64 b] w fun r w' => r = .returned (.tuple #[.int .u64 (sgnW (n1 != n2) (m + x)), .int .i64 0]) ∧ Below w.heap.size w w' := by
  have HK := hidden hK
  clear hK
  have hm : m ≤ 52 := by have := hok.2.1; omega
  have hm0 : 1 ≤ m := by have := hok.1; omega
  have hx : x ≤ 11 := by have := hok.2.2.2; omega
  have HR := (hidden fun w => by
    refine (zero_any m x (n1 != n2) w hm hx).mono ?_
    rintro r w9 ⟨rfl, rfl⟩
    exact ⟨rfl, below_two _ _ _⟩ : Hid (∀ w, Calls Tryz.prog 36 #[.agg #[.int .i64 m, .int .i64 x], .bool (n1 != n2)] w fun r w' => r = .returned (.int .u64 (sgnW (n1 != n2) (m + x))) ∧ Below w.heap.size w w'))
  go_enter Tryz.func15, Tryz.ntmps15
  go_wp2_with fail
  refine (hO.out _).mono ?_
  rintro r w1 ⟨rfl, hb1⟩
  have d0 : w1.cell? ⟨w.heap.size, 0, none⟩ = some (.int .i64 m) := cellLater hb1 (by simp)
  have d1 : w1.cell? ⟨w.heap.size, 1, none⟩ = some (.int .i64 x) := cellLater hb1 (by simp)
  have hbA : Below w1.heap.size w1 ((w1.alloc (.cells #[.int .i64 K1, .bool n1, .int .i64 E1, .int .u64 M1] 53)).alloc (.cells #[.int .i64 K2, .bool n2, .int .i64 E2, .int .u64 M2] 53)) := ((Below.refl _ _).alloc (Nat.le_refl _) _).alloc (by simp) _
  have HB := hidden ((box_below _ hb1).trans (hbA.mono (box_below _ hb1).size))
  have c0 := cellLater hbA d0
  have c1 := cellLater hbA d1
  have hbP : Below (w1.alloc (.cells #[.int .i64 K1, .bool n1, .int .i64 E1, .int .u64 M1] 53)).heap.size (w1.alloc (.cells #[.int .i64 K1, .bool n1, .int .i64 E1, .int .u64 M1] 53)) ((w1.alloc (.cells #[.int .i64 K1, .bool n1, .int .i64 E1, .int .u64 M1] 53)).alloc (.cells #[.int .i64 K2, .bool n2, .int .i64 E2, .int .u64 M2] 53)) := (Below.refl _ _).alloc (Nat.le_refl _) _
  have p0 : ((w1.alloc (.cells #[.int .i64 K1, .bool n1, .int .i64 E1, .int .u64 M1] 53)).alloc (.cells #[.int .i64 K2, .bool n2, .int .i64 E2, .int .u64 M2] 53)).cell? ⟨w1.heap.size, 0, none⟩ = some (.int .i64 K1) := cellLater hbP (by simp)
  have p1 : ((w1.alloc (.cells #[.int .i64 K1, .bool n1, .int .i64 E1, .int .u64 M1] 53)).alloc (.cells #[.int .i64 K2, .bool n2, .int .i64 E2, .int .u64 M2] 53)).cell? ⟨w1.heap.size, 1, none⟩ = some (.bool n1) := cellLater hbP (by simp)
  have p2 : ((w1.alloc (.cells #[.int .i64 K1, .bool n1, .int .i64 E1, .int .u64 M1] 53)).alloc (.cells #[.int .i64 K2, .bool n2, .int .i64 E2, .int .u64 M2] 53)).cell? ⟨w1.heap.size, 2, none⟩ = some (.int .i64 E1) := cellLater hbP (by simp)
  have p3 : ((w1.alloc (.cells #[.int .i64 K1, .bool n1, .int .i64 E1, .int .u64 M1] 53)).alloc (.cells #[.int .i64 K2, .bool n2, .int .i64 E2, .int .u64 M2] 53)).cell? ⟨w1.heap.size, 3, none⟩ = some (.int .u64 M1) := cellLater hbP (by simp)
  have q0 : ((w1.alloc (.cells #[.int .i64 K1, .bool n1, .int .i64 E1, .int .u64 M1] 53)).alloc (.cells #[.int .i64 K2, .bool n2, .int .i64 E2, .int .u64 M2] 53)).cell? ⟨w1.heap.size + 1, 0, none⟩ = some (.int .i64 K2) := by simp
  have q1 : ((w1.alloc (.cells #[.int .i64 K1, .bool n1, .int .i64 E1, .int .u64 M1] 53)).alloc (.cells #[.int .i64 K2, .bool n2, .int .i64 E2, .int .u64 M2] 53)).cell? ⟨w1.heap.size + 1, 1, none⟩ = some (.bool n2) := by simp
  have q2 : ((w1.alloc (.cells #[.int .i64 K1, .bool n1, .int .i64 E1, .int .u64 M1] 53)).alloc (.cells #[.int .i64 K2, .bool n2, .int .i64 E2, .int .u64 M2] 53)).cell? ⟨w1.heap.size + 1, 2, none⟩ = some (.int .i64 E2) := by simp
  have q3 : ((w1.alloc (.cells #[.int .i64 K1, .bool n1, .int .i64 E1, .int .u64 M1] 53)).alloc (.cells #[.int .i64 K2, .bool n2, .int .i64 E2, .int .u64 M2] 53)).cell? ⟨w1.heap.size + 1, 3, none⟩ = some (.int .u64 M2) := by simp
  clear hb1 hbA hbP d0 d1
  go_upto_region 2 with fail
  generalize ((w1.alloc (.cells #[.int .i64 K1, .bool n1, .int .i64 E1, .int .u64 M1] 53)).alloc (.cells #[.int .i64 K2, .bool n2, .int .i64 E2, .int .u64 M2] 53)) = w5 at *
  rcases HK.out with ⟨rfl, rfl⟩ | ⟨rfl, rfl⟩
  all_goals
    go_wp2_with fail
    refine (HR.out _).mono ?_
    rintro r w6 ⟨rfl, hb6⟩
    have HF := hidden (HB.out.trans (hb6.mono HB.out.size))
    clear hb6
    go_wp2
    go_ret2
    exact ⟨rfl, HF.out⟩
end Go.Proofs.YtbfbdemknggpkaaGreatDoor
