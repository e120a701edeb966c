/- Contracts of the document's small functions for layer 3 (package grottoref03: one, Turn, open). Contract of the document's open (package grottoref03) where one of two patterns may not be opened. Contract of the document's Div (package grottoref03): quotients of two patterns. Contract of the document's exact (package grottoref03): what a pattern says as an exact number. Contract of the document's alike (package grottoref03): two exact numbers with one exponent. Contract of the document's plus (package grottoref03): the exact sum. -/
import Derived.Test.YtfjpiahgnojlhaaGreatDoorL2d
import Derived.Test.YtfjpiahgnojlhaaGreatDoorN3a
import Derived.Test.YtfjpiahgnojlhaaGreatDoorZ3
import Derived.Test.YtfjpiahgnojlhaaGreatDoorT3
import Derived.Test.YtfjpiahgnojlhaaGreatDoorN5m
namespace Go.Proofs.YtfjpiahgnojlhaaGreatDoor
open Go.RowKit
set_option maxRecDepth 100000
set_option maxHeartbeats 4000000
set_option linter.unusedVariables false

theorem one_any (w : World) : Calls Tryz.prog 55 #[] w fun r w' => r = .returned (.slice (some ⟨w.heap.size, 0, none⟩) 1 1) ∧ w' = w.alloc (.cells #[.int .i64 1] 3) := by
  go_enter Tryz.func55, Tryz.ntmps55
  go_wp2
  go_ret
  exact ⟨rfl, rfl⟩
theorem turn_any (m x : Nat) (a : Int) (w : World) (hok : okF m x) (a0 : 0 ≤ a) (a1 : a < p2 (m + x + 1)) :
    Calls Tryz.prog 31 #[.agg #[.int .i64 m, .int .i64 x], .int .u64 a] w fun r w' => r = .returned (.int .u64 (turnI (m + x) a)) ∧ Below w.heap.size w w' := by
  have HZ := hidden (fun w => zero_any m x true w (by have := hok.2.1; omega) (by have := hok.2.2.2; omega))
  rw [show sgnW true (m + x) = p2 (m + x) from rfl] at HZ
  have h63 := p2_le63 (show m + x ≤ 63 by have := hok.2.1; have := hok.2.2.2; omega)
  have hp := p2_pos (m + x)
  rw [p2_succ] at a1
  unfold turnI
  generalize p2 (m + x) = T at *
  by_cases h : T ≤ a
  · rw [if_pos h]
    go_enter Tryz.func31, Tryz.ntmps31
    go_wp2_with (go_at_call 53; refine (HZ.out _).mono ?_; rintro r w1 ⟨rfl, hw⟩; subst hw)
    go_ret
    refine ⟨rfl, ?_⟩
    repeat (first | exact Below.refl _ _ | apply Below.drew | (refine Below.alloc ?_ (by simp; try omega) _))
  · rw [if_neg h]
    go_enter Tryz.func31, Tryz.ntmps31
    go_wp2_with (go_at_call 53; refine (HZ.out _).mono ?_; rintro r w1 ⟨rfl, hw⟩; subst hw)
    go_ret
    refine ⟨rfl, ?_⟩
    repeat (first | exact Below.refl _ _ | apply Below.drew | (refine Below.alloc ?_ (by simp; try omega) _))
/-- two patterns that may both be opened -/
theorem open2_any (a0 b0 a b K1 E1 M1 K2 E2 M2 : Int) (n1 n2 : Bool) (w : World)
    (hA : Hid (∀ w, Calls Tryz.prog 29 #[.agg #[.int .i64 a0, .int .i64 b0], .int .u64 a] w fun r w' => r = .returned (.tuple #[partsV K1 n1 E1 M1, .int .i64 0]) ∧ Below w.heap.size w w'))
    (hB : Hid (∀ w, Calls Tryz.prog 29 #[.agg #[.int .i64 a0, .int .i64 b0], .int .u64 b] w fun r w' => r = .returned (.tuple #[partsV K2 n2 E2 M2, .int .i64 0]) ∧ Below w.heap.size w w')) :
    Calls Tryz.prog 24 #[.agg #[.int .i64 a0, .int .i64 b0], .int .u64 a, .int .u64 b] w fun r w' => r = .returned (.tuple #[partsV K1 n1 E1 M1, partsV K2 n2 E2 M2, .int .i64 0]) ∧ Below w.heap.size w w' := by
  go_enter Tryz.func24, Tryz.ntmps24
  go_wp2_with fail
  refine (hA.out _).mono ?_
  rintro r w1 ⟨rfl, hb1⟩
  have hW : Below (w.alloc (.cells #[.int .i64 a0, .int .i64 b0] 31)).heap.size (w.alloc (.cells #[.int .i64 a0, .int .i64 b0] 31)) (((w.alloc (.cells #[.int .i64 a0, .int .i64 b0] 31)).alloc (.cells #[.int .i64 0, .bool false, .int .i64 0, .int .u64 0] 53)).alloc (.cells #[.int .i64 0, .bool false, .int .i64 0, .int .u64 0] 53)) := ((Below.refl _ _).alloc (Nat.le_refl _) _).alloc (by simp) _
  have hW0 : Below w.heap.size w (((w.alloc (.cells #[.int .i64 a0, .int .i64 b0] 31)).alloc (.cells #[.int .i64 0, .bool false, .int .i64 0, .int .u64 0] 53)).alloc (.cells #[.int .i64 0, .bool false, .int .i64 0, .int .u64 0] 53)) := (((Below.refl _ _).alloc (Nat.le_refl _) _).alloc (by simp) _).alloc (by simp; omega) _
  have d0 : w1.cell? ⟨w.heap.size, 0, none⟩ = some (.int .i64 a0) := cellLater hb1 (cellLater hW (by simp))
  have d1 : w1.cell? ⟨w.heap.size, 1, none⟩ = some (.int .i64 b0) := cellLater hb1 (cellLater hW (by simp))
  have z1 : ZPs w1 (w.heap.size + 1) := by
    have h := zp_of hb1 _ (zp_alloc (.cells #[.int .i64 0, .bool false, .int .i64 0, .int .u64 0] 53) _ (zp_fresh (w.alloc (.cells #[.int .i64 a0, .int .i64 b0] 31))))
    simpa using h
  have z2 : ZPs w1 (w.heap.size + 1 + 1) := by
    have h := zp_of hb1 _ (zp_fresh ((w.alloc (.cells #[.int .i64 a0, .int .i64 b0] 31)).alloc (.cells #[.int .i64 0, .bool false, .int .i64 0, .int .u64 0] 53)))
    simpa using h
  have HB1 := hidden (hW0.trans (hb1.mono hW0.size))
  have hlt : w.heap.size + 1 + 1 < w1.heap.size := World.block_lt_of_cell? _ _ z2.1
  have hlt0 : w.heap.size < w1.heap.size := by omega
  clear hb1 hW hW0
  have Z1 := hidden z1
  have Z2 := hidden z2
  clear z1 z2
  go_wp2_with fail
  refine (hB.out _).mono ?_
  rintro r w2 ⟨rfl, hb2⟩
  have hnew : Below w1.heap.size w1 (w1.alloc (.cells #[.int .i64 K1, .bool n1, .int .i64 E1, .int .u64 M1] 53)) := (Below.refl _ _).alloc (Nat.le_refl _) _
  have z1 := zp_alloc (.cells #[.int .i64 K2, .bool n2, .int .i64 E2, .int .u64 M2] 53) _ (zp_of hb2 _ (zp_of hnew _ Z1.out))
  have z2 := zp_alloc (.cells #[.int .i64 K2, .bool n2, .int .i64 E2, .int .u64 M2] 53) _ (zp_of hb2 _ (zp_of hnew _ Z2.out))
  have q0 : w2.cell? ⟨w1.heap.size, 0, none⟩ = some (.int .i64 K1) := cellLater hb2 (by simp)
  have q1 : w2.cell? ⟨w1.heap.size, 1, none⟩ = some (.bool n1) := cellLater hb2 (by simp)
  have q2 : w2.cell? ⟨w1.heap.size, 2, none⟩ = some (.int .i64 E1) := cellLater hb2 (by simp)
  have q3 : w2.cell? ⟨w1.heap.size, 3, none⟩ = some (.int .u64 M1) := cellLater hb2 (by simp)
  have hlt2 : w1.heap.size < w2.heap.size := World.block_lt_of_cell? _ _ q0
  have HB2 := hidden (((HB1.out.trans (hnew.mono HB1.out.size)).trans (hb2.mono (HB1.out.trans (hnew.mono HB1.out.size)).size)).alloc ((HB1.out.trans (hnew.mono HB1.out.size)).trans (hb2.mono (HB1.out.trans (hnew.mono HB1.out.size)).size)).size (.cells #[.int .i64 K2, .bool n2, .int .i64 E2, .int .u64 M2] 53))
  clear hb2 hnew HB1 Z1 Z2
  go_wp2_with fail
  have r0 : (w2.alloc (.cells #[.int .i64 K2, .bool n2, .int .i64 E2, .int .u64 M2] 53)).cell? ⟨w1.heap.size, 0, none⟩ = some (.int .i64 K1) := by rw [World.cell?_alloc_lt _ _ _ hlt2]; exact q0
  have r1 : (w2.alloc (.cells #[.int .i64 K2, .bool n2, .int .i64 E2, .int .u64 M2] 53)).cell? ⟨w1.heap.size, 1, none⟩ = some (.bool n1) := by rw [World.cell?_alloc_lt _ _ _ hlt2]; exact q1
  have r2 : (w2.alloc (.cells #[.int .i64 K2, .bool n2, .int .i64 E2, .int .u64 M2] 53)).cell? ⟨w1.heap.size, 2, none⟩ = some (.int .i64 E1) := by rw [World.cell?_alloc_lt _ _ _ hlt2]; exact q2
  have r3 : (w2.alloc (.cells #[.int .i64 K2, .bool n2, .int .i64 E2, .int .u64 M2] 53)).cell? ⟨w1.heap.size, 3, none⟩ = some (.int .u64 M1) := by rw [World.cell?_alloc_lt _ _ _ hlt2]; exact q3
  have r4 : (w2.alloc (.cells #[.int .i64 K2, .bool n2, .int .i64 E2, .int .u64 M2] 53)).cell? ⟨w2.heap.size, 0, none⟩ = some (.int .i64 K2) := by simp
  have r5 : (w2.alloc (.cells #[.int .i64 K2, .bool n2, .int .i64 E2, .int .u64 M2] 53)).cell? ⟨w2.heap.size, 1, none⟩ = some (.bool n2) := by simp
  have r6 : (w2.alloc (.cells #[.int .i64 K2, .bool n2, .int .i64 E2, .int .u64 M2] 53)).cell? ⟨w2.heap.size, 2, none⟩ = some (.int .i64 E2) := by simp
  have r7 : (w2.alloc (.cells #[.int .i64 K2, .bool n2, .int .i64 E2, .int .u64 M2] 53)).cell? ⟨w2.heap.size, 3, none⟩ = some (.int .u64 M2) := by simp
  clear q0 q1 q2 q3
  generalize w2.alloc (.cells #[.int .i64 K2, .bool n2, .int .i64 E2, .int .u64 M2] 53) = w5 at *
  obtain ⟨u0, u1, u2, u3, v0, v1, v2, v3⟩ := z1
  obtain ⟨s0, s1, s2, s3, t0, t1, t2, t3⟩ := z2
  have n1' : ¬ w.heap.size + 1 = w1.heap.size := by omega
  have n2' : ¬ w.heap.size + 1 = w2.heap.size := by omega
  have n3' : ¬ w.heap.size + 1 + 1 = w1.heap.size := by omega
  have n4' : ¬ w.heap.size + 1 + 1 = w2.heap.size := by omega
  go_region_held3 (fun w' => w'.cell? ⟨w1.heap.size, 0, none⟩ = some (.int .i64 K1) ∧ w'.cell? ⟨w1.heap.size, 1, none⟩ = some (.bool n1) ∧ w'.cell? ⟨w1.heap.size, 2, none⟩ = some (.int .i64 E1) ∧ w'.cell? ⟨w1.heap.size, 3, none⟩ = some (.int .u64 M1) ∧ w'.cell? ⟨w2.heap.size, 0, none⟩ = some (.int .i64 K2) ∧ w'.cell? ⟨w2.heap.size, 1, none⟩ = some (.bool n2) ∧ w'.cell? ⟨w2.heap.size, 2, none⟩ = some (.int .i64 E2) ∧ w'.cell? ⟨w2.heap.size, 3, none⟩ = some (.int .u64 M2)) (go_keep) (fail)
  all_goals
    go_wp2
    have nb : ¬ w.heap.size + 1 = w.heap.size + 1 + 1 := by omega
    have nb' : ¬ w.heap.size + 1 + 1 = w.heap.size + 1 := by omega
    obtain ⟨i0, i1, i2, i3⟩ := set4_at w5 (w.heap.size + 1) (.int .i64 K1) (.bool n1) (.int .i64 E1) (.int .u64 M1) _ _ _ _ u0 u1 u2 u3
    obtain ⟨y0, y1, y2, y3⟩ := set4_at (set4 w5 (w.heap.size + 1) (.int .i64 K1) (.bool n1) (.int .i64 E1) (.int .u64 M1)) (w.heap.size + 1 + 1) (.int .i64 K2) (.bool n2) (.int .i64 E2) (.int .u64 M2) _ _ _ _ ((set4_far _ _ _ _ _ _ _ _ nb).trans s0) ((set4_far _ _ _ _ _ _ _ _ nb).trans s1) ((set4_far _ _ _ _ _ _ _ _ nb).trans s2) ((set4_far _ _ _ _ _ _ _ _ nb).trans s3)
    have x0 := (set4_far (set4 w5 (w.heap.size + 1) (.int .i64 K1) (.bool n1) (.int .i64 E1) (.int .u64 M1)) (w.heap.size + 1 + 1) (.int .i64 K2) (.bool n2) (.int .i64 E2) (.int .u64 M2) _ 0 nb').trans i0
    have x1 := (set4_far (set4 w5 (w.heap.size + 1) (.int .i64 K1) (.bool n1) (.int .i64 E1) (.int .u64 M1)) (w.heap.size + 1 + 1) (.int .i64 K2) (.bool n2) (.int .i64 E2) (.int .u64 M2) _ 1 nb').trans i1
    have x2 := (set4_far (set4 w5 (w.heap.size + 1) (.int .i64 K1) (.bool n1) (.int .i64 E1) (.int .u64 M1)) (w.heap.size + 1 + 1) (.int .i64 K2) (.bool n2) (.int .i64 E2) (.int .u64 M2) _ 2 nb').trans i2
    have x3 := (set4_far (set4 w5 (w.heap.size + 1) (.int .i64 K1) (.bool n1) (.int .i64 E1) (.int .u64 M1)) (w.heap.size + 1 + 1) (.int .i64 K2) (.bool n2) (.int .i64 E2) (.int .u64 M2) _ 3 nb').trans i3
    have hF := set4_below (set4_below HB2.out (w.heap.size + 1) (by omega) (.int .i64 K1) (.bool n1) (.int .i64 E1) (.int .u64 M1)) (w.heap.size + 1 + 1) (by omega) (.int .i64 K2) (.bool n2) (.int .i64 E2) (.int .u64 M2)
    change bodyPost _ _ _ _ _ (set4 (set4 w5 (w.heap.size + 1) (.int .i64 K1) (.bool n1) (.int .i64 E1) (.int .u64 M1)) (w.heap.size + 1 + 1) (.int .i64 K2) (.bool n2) (.int .i64 E2) (.int .u64 M2)).drew
    generalize (set4 (set4 w5 (w.heap.size + 1) (.int .i64 K1) (.bool n1) (.int .i64 E1) (.int .u64 M1)) (w.heap.size + 1 + 1) (.int .i64 K2) (.bool n2) (.int .i64 E2) (.int .u64 M2)) = wf at *
    clear r0 r1 r2 r3 r4 r5 r6 r7 u0 u1 u2 u3 v0 v1 v2 v3 s0 s1 s2 s3 t0 t1 t2 t3 i0 i1 i2 i3
    refine bodyPost_ret (v := .tuple #[partsV K1 n1 E1 M1, partsV K2 n2 E2 M2, .int .i64 0]) (by simp [results, Tryz.results24, go_sem, x0, x1, x2, x3, y0, y1, y2, y3]) rfl ⟨rfl, hF.drew⟩
end Go.Proofs.YtfjpiahgnojlhaaGreatDoor
namespace Go.Proofs.YtfjpiahgnojlhaaGreatDoor
open Go.RowKit
set_option maxRecDepth 100000
set_option maxHeartbeats 1000000
set_option linter.unusedVariables false

theorem open2_no (a0 b0 a b K1 E1 M1 K2 E2 M2 g1 g2 : Int) (n1 n2 : Bool) (w : World) (hg : (g1 = 1 ∧ (g2 = 0 ∨ g2 = 1)) ∨ (g1 = 0 ∧ g2 = 1))
    (hA : Hid (∀ w, Calls Tryz.prog 29 #[.agg #[.int .i64 a0, .int .i64 b0], .int .u64 a] w fun r w' => r = .returned (.tuple #[partsV K1 n1 E1 M1, .int .i64 g1]) ∧ Below w.heap.size w w'))
    (hB : Hid (∀ w, Calls Tryz.prog 29 #[.agg #[.int .i64 a0, .int .i64 b0], .int .u64 b] w fun r w' => r = .returned (.tuple #[partsV K2 n2 E2 M2, .int .i64 g2]) ∧ Below w.heap.size w w')) :
    Calls Tryz.prog 24 #[.agg #[.int .i64 a0, .int .i64 b0], .int .u64 a, .int .u64 b] w fun r w' => r = .returned (.tuple #[partsV 0 false 0 0, partsV 0 false 0 0, .int .i64 1]) ∧ Below w.heap.size w w' := by
  go_enter Tryz.func24, Tryz.ntmps24
  go_wp2_with fail
  refine (hA.out _).mono ?_
  rintro r w1 ⟨rfl, hb1⟩
  have hW : Below (w.alloc (.cells #[.int .i64 a0, .int .i64 b0] 31)).heap.size (w.alloc (.cells #[.int .i64 a0, .int .i64 b0] 31)) (((w.alloc (.cells #[.int .i64 a0, .int .i64 b0] 31)).alloc (.cells #[.int .i64 0, .bool false, .int .i64 0, .int .u64 0] 53)).alloc (.cells #[.int .i64 0, .bool false, .int .i64 0, .int .u64 0] 53)) := ((Below.refl _ _).alloc (Nat.le_refl _) _).alloc (by simp) _
  have hW0 : Below w.heap.size w (((w.alloc (.cells #[.int .i64 a0, .int .i64 b0] 31)).alloc (.cells #[.int .i64 0, .bool false, .int .i64 0, .int .u64 0] 53)).alloc (.cells #[.int .i64 0, .bool false, .int .i64 0, .int .u64 0] 53)) := (((Below.refl _ _).alloc (Nat.le_refl _) _).alloc (by simp) _).alloc (by simp; omega) _
  have d0 : w1.cell? ⟨w.heap.size, 0, none⟩ = some (.int .i64 a0) := cellLater hb1 (cellLater hW (by simp))
  have d1 : w1.cell? ⟨w.heap.size, 1, none⟩ = some (.int .i64 b0) := cellLater hb1 (cellLater hW (by simp))
  have z1 : ZPs w1 (w.heap.size + 1) := by
    have h := zp_of hb1 _ (zp_alloc (.cells #[.int .i64 0, .bool false, .int .i64 0, .int .u64 0] 53) _ (zp_fresh (w.alloc (.cells #[.int .i64 a0, .int .i64 b0] 31))))
    simpa using h
  have z2 : ZPs w1 (w.heap.size + 1 + 1) := by
    have h := zp_of hb1 _ (zp_fresh ((w.alloc (.cells #[.int .i64 a0, .int .i64 b0] 31)).alloc (.cells #[.int .i64 0, .bool false, .int .i64 0, .int .u64 0] 53)))
    simpa using h
  have HB1 := hidden (hW0.trans (hb1.mono hW0.size))
  have hlt : w.heap.size + 1 + 1 < w1.heap.size := World.block_lt_of_cell? _ _ z2.1
  have hlt0 : w.heap.size < w1.heap.size := by omega
  clear hb1 hW hW0
  have Z1 := hidden z1
  have Z2 := hidden z2
  clear z1 z2
  go_wp2_with fail
  refine (hB.out _).mono ?_
  rintro r w2 ⟨rfl, hb2⟩
  have hnew : Below w1.heap.size w1 (w1.alloc (.cells #[.int .i64 K1, .bool n1, .int .i64 E1, .int .u64 M1] 53)) := (Below.refl _ _).alloc (Nat.le_refl _) _
  have z1 := zp_alloc (.cells #[.int .i64 K2, .bool n2, .int .i64 E2, .int .u64 M2] 53) _ (zp_of hb2 _ (zp_of hnew _ Z1.out))
  have z2 := zp_alloc (.cells #[.int .i64 K2, .bool n2, .int .i64 E2, .int .u64 M2] 53) _ (zp_of hb2 _ (zp_of hnew _ Z2.out))
  have HB2 := hidden (((HB1.out.trans (hnew.mono HB1.out.size)).trans (hb2.mono (HB1.out.trans (hnew.mono HB1.out.size)).size)).alloc ((HB1.out.trans (hnew.mono HB1.out.size)).trans (hb2.mono (HB1.out.trans (hnew.mono HB1.out.size)).size)).size (.cells #[.int .i64 K2, .bool n2, .int .i64 E2, .int .u64 M2] 53))
  clear hb2 hnew HB1 Z1 Z2
  have Y1 := hidden z1
  have Y2 := hidden z2
  clear z1 z2
  go_upto_region 3 with fail
  generalize w2.alloc (.cells #[.int .i64 K2, .bool n2, .int .i64 E2, .int .u64 M2] 53) = w5 at *
  obtain ⟨u0, u1, u2, u3, v0, v1, v2, v3⟩ := Y1.out
  obtain ⟨s0, s1, s2, s3, t0, t1, t2, t3⟩ := Y2.out
  rcases hg with ⟨rfl, rfl | rfl⟩ | ⟨rfl, rfl⟩
  all_goals
    go_wp2
    have nb : ¬ w.heap.size + 1 = w.heap.size + 1 + 1 := by omega
    have nb' : ¬ w.heap.size + 1 + 1 = w.heap.size + 1 := by omega
    obtain ⟨i0, i1, i2, i3⟩ := set4_at w5 (w.heap.size + 1) (.int .i64 0) (.bool false) (.int .i64 0) (.int .u64 0) _ _ _ _ u0 u1 u2 u3
    obtain ⟨y0, y1, y2, y3⟩ := set4_at (set4 w5 (w.heap.size + 1) (.int .i64 0) (.bool false) (.int .i64 0) (.int .u64 0)) (w.heap.size + 1 + 1) (.int .i64 0) (.bool false) (.int .i64 0) (.int .u64 0) _ _ _ _ ((set4_far _ _ _ _ _ _ _ _ nb).trans s0) ((set4_far _ _ _ _ _ _ _ _ nb).trans s1) ((set4_far _ _ _ _ _ _ _ _ nb).trans s2) ((set4_far _ _ _ _ _ _ _ _ nb).trans s3)
    have x0 := (set4_far (set4 w5 (w.heap.size + 1) (.int .i64 0) (.bool false) (.int .i64 0) (.int .u64 0)) (w.heap.size + 1 + 1) (.int .i64 0) (.bool false) (.int .i64 0) (.int .u64 0) _ 0 nb').trans i0
    have x1 := (set4_far (set4 w5 (w.heap.size + 1) (.int .i64 0) (.bool false) (.int .i64 0) (.int .u64 0)) (w.heap.size + 1 + 1) (.int .i64 0) (.bool false) (.int .i64 0) (.int .u64 0) _ 1 nb').trans i1
    have x2 := (set4_far (set4 w5 (w.heap.size + 1) (.int .i64 0) (.bool false) (.int .i64 0) (.int .u64 0)) (w.heap.size + 1 + 1) (.int .i64 0) (.bool false) (.int .i64 0) (.int .u64 0) _ 2 nb').trans i2
    have x3 := (set4_far (set4 w5 (w.heap.size + 1) (.int .i64 0) (.bool false) (.int .i64 0) (.int .u64 0)) (w.heap.size + 1 + 1) (.int .i64 0) (.bool false) (.int .i64 0) (.int .u64 0) _ 3 nb').trans i3
    have hF := set4_below (set4_below HB2.out (w.heap.size + 1) (by omega) (.int .i64 0) (.bool false) (.int .i64 0) (.int .u64 0)) (w.heap.size + 1 + 1) (by omega) (.int .i64 0) (.bool false) (.int .i64 0) (.int .u64 0)
    change bodyPost _ _ _ _ _ (set4 (set4 w5 (w.heap.size + 1) (.int .i64 0) (.bool false) (.int .i64 0) (.int .u64 0)) (w.heap.size + 1 + 1) (.int .i64 0) (.bool false) (.int .i64 0) (.int .u64 0))
    generalize (set4 (set4 w5 (w.heap.size + 1) (.int .i64 0) (.bool false) (.int .i64 0) (.int .u64 0)) (w.heap.size + 1 + 1) (.int .i64 0) (.bool false) (.int .i64 0) (.int .u64 0)) = wf at *
    clear u0 u1 u2 u3 v0 v1 v2 v3 s0 s1 s2 s3 t0 t1 t2 t3 i0 i1 i2 i3
    refine bodyPost_ret (v := .tuple #[partsV 0 false 0 0, partsV 0 false 0 0, .int .i64 1]) (by simp [results, Tryz.results24, go_sem, x0, x1, x2, x3, y0, y1, y2, y3]) rfl ⟨rfl, hF⟩
end Go.Proofs.YtfjpiahgnojlhaaGreatDoor
namespace Go.Proofs.YtfjpiahgnojlhaaGreatDoor
open Go.RowKit
set_option maxRecDepth 100000
set_option maxHeartbeats 2000000
set_option linter.unusedVariables false

theorem has_of3 {w : World} {a : Option Addr} {l c : Nat} {ds : List Int} {N : Int} (rt : RdD w a l c ds) (kt : OkD ds) (vt : nv ds = N) (tt : l = 0 ∨ ds.getD (l - 1) 0 ≠ 0) : HasNat w a l c ds N := ⟨rt, kt, vt, tt⟩
end Go.Proofs.YtfjpiahgnojlhaaGreatDoor
namespace Go.Proofs.YtfjpiahgnojlhaaGreatDoor
open Go.RowKit
set_option maxRecDepth 100000
set_option maxHeartbeats 2000000
set_option linter.unusedVariables false

/-- a fresh box of an exact number -/
def ZRs (w : World) (b : Nat) : Prop := w.cell? ⟨b, 0, none⟩ = some (.int .i64 0) ∧ w.cell? ⟨b, 1, none⟩ = some (.slice none 0 0) ∧ w.cell? ⟨b, 2, none⟩ = some (.int .i64 0) ∧ w.frozen? ⟨b, 0, none⟩ = false ∧ w.frozen? ⟨b, 1, none⟩ = false ∧ w.frozen? ⟨b, 2, none⟩ = false
theorem zr_of {X w2 : World} (hb : Below X.heap.size X w2) (b : Nat) (h : ZRs X b) : ZRs w2 b := by
  obtain ⟨h0, h1, h2, k0, k1, k2⟩ := h
  have hl : b < X.heap.size := World.block_lt_of_cell? _ _ h0
  exact ⟨cellLater hb h0, cellLater hb h1, cellLater hb h2, (hb.frozen hl).trans k0, (hb.frozen hl).trans k1, (hb.frozen hl).trans k2⟩
theorem zr_fresh (X : World) : ZRs (X.alloc (.cells #[.int .i64 0, .slice none 0 0, .int .i64 0] 60)) X.heap.size := by unfold ZRs; simp
/-- three cells of a block written -/
def set3 (X : World) (b : Nat) (a0 a1 a2 : Value) : World := ((X.setCell ⟨b, 0, none⟩ a0).setCell ⟨b, 1, none⟩ a1).setCell ⟨b, 2, none⟩ a2
theorem set3_far (X : World) (b : Nat) (a0 a1 a2 : Value) (c i : Nat) (h : ¬ b = c) : (set3 X b a0 a1 a2).cell? ⟨c, i, none⟩ = X.cell? ⟨c, i, none⟩ := by
  unfold set3
  rw [World.cell?_setCell_far _ _ _ _ h, World.cell?_setCell_far _ _ _ _ h, World.cell?_setCell_far _ _ _ _ h]
theorem set3_at (X : World) (b : Nat) (a0 a1 a2 u0 u1 u2 : Value) (h0 : X.cell? ⟨b, 0, none⟩ = some u0) (h1 : X.cell? ⟨b, 1, none⟩ = some u1) (h2 : X.cell? ⟨b, 2, none⟩ = some u2) :
    (set3 X b a0 a1 a2).cell? ⟨b, 0, none⟩ = some a0 ∧ (set3 X b a0 a1 a2).cell? ⟨b, 1, none⟩ = some a1 ∧ (set3 X b a0 a1 a2).cell? ⟨b, 2, none⟩ = some a2 := by
  have o : ∀ (Y : World) (i j : Nat) (v : Value), i ≠ j → (Y.setCell ⟨b, i, none⟩ v).cell? ⟨b, j, none⟩ = Y.cell? ⟨b, j, none⟩ := fun Y i j v hij => World.cell?_setCell_other _ _ _ _ (fun h => hij (congrArg Addr.off h))
  unfold set3
  refine ⟨?_, ?_, ?_⟩
  · rw [o _ 2 0 _ (by decide), o _ 1 0 _ (by decide)]; exact World.cell?_setCell_same _ _ _ h0
  · rw [o _ 2 1 _ (by decide)]; exact World.cell?_setCell_same _ _ _ (by rw [o _ 0 1 _ (by decide)]; exact h1)
  · exact World.cell?_setCell_same _ _ _ (by rw [o _ 1 2 _ (by decide), o _ 0 2 _ (by decide)]; exact h2)
theorem set3_below {B : Nat} {a X : World} (h : Below B a X) (b : Nat) (hb : B ≤ b) (a0 a1 a2 : Value) : Below B a (set3 X b a0 a1 a2) :=
  ((h.setCell (p := ⟨b, 0, none⟩) hb _).setCell (p := ⟨b, 1, none⟩) hb _).setCell (p := ⟨b, 2, none⟩) hb _
/-- digits that do not lie in the block that is written -/
theorem rd_set3 {w : World} {a : Option Addr} {l c : Nat} {ds : List Int} (h : RdD w a l c ds) (b : Nat) (a0 a1 a2 : Value) (hn : ∀ p, a = some p → ¬ b = p.block) : RdD (set3 w b a0 a1 a2) a l c ds := by
  obtain ⟨h1, h2, h3⟩ := h
  refine ⟨h1, h2, ?_⟩
  rcases h3 with h3 | ⟨g, off, rfl, hc⟩
  · exact .inl h3
  · exact .inr ⟨g, off, rfl, fun i hi => (set3_far w b a0 a1 a2 g (off + i) (hn _ rfl)).trans (hc i hi)⟩
def sgnI (n : Bool) : Int := if n then -1 else 1
theorem exact_any (K E M : Int) (n : Bool) (w : World) (a0 : 0 ≤ M) (a1 : M ≤ 18446744073709551615) :
    Calls Tryz.prog 26 #[partsV K n E M] w fun r w' => ∃ a l c ds, r = .returned (.agg #[.int .i64 (sgnI n), .slice a l c, .int .i64 E]) ∧ HasNat w' a l c ds M ∧ l ≤ 4 ∧ Below w.heap.size w w' ∧ ∀ p, a = some p → w.heap.size ≤ p.block := by
  cases n
  · have hW : Below (w.alloc (.cells #[.int .i64 K, .bool false, .int .i64 E, .int .u64 M] 53)).heap.size (w.alloc (.cells #[.int .i64 K, .bool false, .int .i64 E, .int .u64 M] 53)) ((w.alloc (.cells #[.int .i64 K, .bool false, .int .i64 E, .int .u64 M] 53)).alloc (.cells #[.int .i64 0, .slice none 0 0, .int .i64 0] 60)) := (Below.refl _ _).alloc (Nat.le_refl _) _
    have HB := hidden ((((Below.refl _ _).alloc (Nat.le_refl _) _).alloc (by simp) _) : Below w.heap.size w ((w.alloc (.cells #[.int .i64 K, .bool false, .int .i64 E, .int .u64 M] 53)).alloc (.cells #[.int .i64 0, .slice none 0 0, .int .i64 0] 60)))
    have p3 : ((w.alloc (.cells #[.int .i64 K, .bool false, .int .i64 E, .int .u64 M] 53)).alloc (.cells #[.int .i64 0, .slice none 0 0, .int .i64 0] 60)).cell? ⟨w.heap.size, 3, none⟩ = some (.int .u64 M) := cellLater hW (by simp)
    have p2 : ((w.alloc (.cells #[.int .i64 K, .bool false, .int .i64 E, .int .u64 M] 53)).alloc (.cells #[.int .i64 0, .slice none 0 0, .int .i64 0] 60)).cell? ⟨w.heap.size, 2, none⟩ = some (.int .i64 E) := cellLater hW (by simp)
    have zr : ZRs ((w.alloc (.cells #[.int .i64 K, .bool false, .int .i64 E, .int .u64 M] 53)).alloc (.cells #[.int .i64 0, .slice none 0 0, .int .i64 0] 60)) (w.heap.size + 1) := by
      have h := zr_fresh (w.alloc (.cells #[.int .i64 K, .bool false, .int .i64 E, .int .u64 M] 53))
      simpa using h
    have hsz : ((w.alloc (.cells #[.int .i64 K, .bool false, .int .i64 E, .int .u64 M] 53)).alloc (.cells #[.int .i64 0, .slice none 0 0, .int .i64 0] 60)).heap.size = w.heap.size + 2 := by simp
    have ZR := hidden zr
    clear hW zr
    go_enter Tryz.func26, Tryz.ntmps26
    go_upto_region 4 with fail
    generalize ((w.alloc (.cells #[.int .i64 K, .bool false, .int .i64 E, .int .u64 M] 53)).alloc (.cells #[.int .i64 0, .slice none 0 0, .int .i64 0] 60)) = w5 at *
    have nb : ¬ w.heap.size + 1 = w.heap.size := by omega
    go_region_held3 (fun w' => w'.cell? ⟨w.heap.size, 3, none⟩ = some (.int .u64 M) ∧ w'.cell? ⟨w.heap.size, 2, none⟩ = some (.int .i64 E)) (go_keep) (first | (go_at_call 41; refine (natOf_any M _ a0 a1).mono ?_; rintro r w6 ⟨ah, lh, ch, dh, rfl, rh, kh, vh, lbh, th, hb6, nw6⟩; have p3 : w6.cell? ⟨w.heap.size, 3, none⟩ = some (.int .u64 M) := cellLater hb6 (by go_keep); have p2 : w6.cell? ⟨w.heap.size, 2, none⟩ = some (.int .i64 E) := cellLater hb6 (by go_keep); have zz := zr_of hb6 _ (zr_of ((Below.refl _ _).drew) _ ZR.out); obtain ⟨z0, z1, z2, z3, z4, z5⟩ := zz))
    all_goals
      have hne : ∀ p, ah = some p → ¬ w.heap.size + 1 = p.block := fun p hp => by
        have := nw6 p hp
        simp [hsz] at this
        omega
      have hn2 : ∀ p, ah = some p → w.heap.size ≤ p.block := fun p hp => by
        have := nw6 p hp
        simp [hsz] at this
        omega
      obtain ⟨i0, i1, i2⟩ := set3_at w6 (w.heap.size + 1) (.int .i64 (1)) (.slice ah lh ch) (.int .i64 E) _ _ _ z0 z1 z2
      have hH := has_of3 (rd_set3 rh (w.heap.size + 1) (.int .i64 (1)) (.slice ah lh ch) (.int .i64 E) hne) kh vh th
      have h0 := HB.out.drew
      have h1 := h0.trans (hb6.mono h0.size)
      have h2 := set3_below h1 (w.heap.size + 1) (by omega) (.int .i64 (1)) (.slice ah lh ch) (.int .i64 E)
      have HH := hidden hH
      have HF := hidden h2
      have HN := hidden hn2
      clear hH h0 h1 h2 hb6 rh kh vh th nw6 hne hn2 z0 z1 z2 z3 z4 z5
      go_wp2
      change bodyPost _ _ _ _ _ (set3 w6 (w.heap.size + 1) (.int .i64 (1)) (.slice ah lh ch) (.int .i64 E))
      generalize set3 w6 (w.heap.size + 1) (.int .i64 (1)) (.slice ah lh ch) (.int .i64 E) = wf at *
      refine bodyPost_ret (v := .agg #[.int .i64 (1), .slice ah lh ch, .int .i64 E]) (by simp [results, Tryz.results26, go_sem, i0, i1, i2]) rfl ?_
      exact ⟨ah, lh, ch, dh, rfl, HH.out, lbh, HF.out, HN.out⟩
  · have hW : Below (w.alloc (.cells #[.int .i64 K, .bool true, .int .i64 E, .int .u64 M] 53)).heap.size (w.alloc (.cells #[.int .i64 K, .bool true, .int .i64 E, .int .u64 M] 53)) ((w.alloc (.cells #[.int .i64 K, .bool true, .int .i64 E, .int .u64 M] 53)).alloc (.cells #[.int .i64 0, .slice none 0 0, .int .i64 0] 60)) := (Below.refl _ _).alloc (Nat.le_refl _) _
    have HB := hidden ((((Below.refl _ _).alloc (Nat.le_refl _) _).alloc (by simp) _) : Below w.heap.size w ((w.alloc (.cells #[.int .i64 K, .bool true, .int .i64 E, .int .u64 M] 53)).alloc (.cells #[.int .i64 0, .slice none 0 0, .int .i64 0] 60)))
    have p3 : ((w.alloc (.cells #[.int .i64 K, .bool true, .int .i64 E, .int .u64 M] 53)).alloc (.cells #[.int .i64 0, .slice none 0 0, .int .i64 0] 60)).cell? ⟨w.heap.size, 3, none⟩ = some (.int .u64 M) := cellLater hW (by simp)
    have p2 : ((w.alloc (.cells #[.int .i64 K, .bool true, .int .i64 E, .int .u64 M] 53)).alloc (.cells #[.int .i64 0, .slice none 0 0, .int .i64 0] 60)).cell? ⟨w.heap.size, 2, none⟩ = some (.int .i64 E) := cellLater hW (by simp)
    have zr : ZRs ((w.alloc (.cells #[.int .i64 K, .bool true, .int .i64 E, .int .u64 M] 53)).alloc (.cells #[.int .i64 0, .slice none 0 0, .int .i64 0] 60)) (w.heap.size + 1) := by
      have h := zr_fresh (w.alloc (.cells #[.int .i64 K, .bool true, .int .i64 E, .int .u64 M] 53))
      simpa using h
    have hsz : ((w.alloc (.cells #[.int .i64 K, .bool true, .int .i64 E, .int .u64 M] 53)).alloc (.cells #[.int .i64 0, .slice none 0 0, .int .i64 0] 60)).heap.size = w.heap.size + 2 := by simp
    have ZR := hidden zr
    clear hW zr
    go_enter Tryz.func26, Tryz.ntmps26
    go_upto_region 4 with fail
    generalize ((w.alloc (.cells #[.int .i64 K, .bool true, .int .i64 E, .int .u64 M] 53)).alloc (.cells #[.int .i64 0, .slice none 0 0, .int .i64 0] 60)) = w5 at *
    have nb : ¬ w.heap.size + 1 = w.heap.size := by omega
    go_region_held3 (fun w' => w'.cell? ⟨w.heap.size, 3, none⟩ = some (.int .u64 M) ∧ w'.cell? ⟨w.heap.size, 2, none⟩ = some (.int .i64 E)) (go_keep) (first | (go_at_call 41; refine (natOf_any M _ a0 a1).mono ?_; rintro r w6 ⟨ah, lh, ch, dh, rfl, rh, kh, vh, lbh, th, hb6, nw6⟩; have p3 : w6.cell? ⟨w.heap.size, 3, none⟩ = some (.int .u64 M) := cellLater hb6 (by go_keep); have p2 : w6.cell? ⟨w.heap.size, 2, none⟩ = some (.int .i64 E) := cellLater hb6 (by go_keep); have zz := zr_of hb6 _ (zr_of ((Below.refl _ _).drew) _ ZR.out); obtain ⟨z0, z1, z2, z3, z4, z5⟩ := zz))
    all_goals
      have hne : ∀ p, ah = some p → ¬ w.heap.size + 1 = p.block := fun p hp => by
        have := nw6 p hp
        simp [hsz] at this
        omega
      have hn2 : ∀ p, ah = some p → w.heap.size ≤ p.block := fun p hp => by
        have := nw6 p hp
        simp [hsz] at this
        omega
      obtain ⟨i0, i1, i2⟩ := set3_at w6 (w.heap.size + 1) (.int .i64 (-1)) (.slice ah lh ch) (.int .i64 E) _ _ _ z0 z1 z2
      have hH := has_of3 (rd_set3 rh (w.heap.size + 1) (.int .i64 (-1)) (.slice ah lh ch) (.int .i64 E) hne) kh vh th
      have h0 := HB.out.drew
      have h1 := h0.trans (hb6.mono h0.size)
      have h2 := set3_below h1 (w.heap.size + 1) (by omega) (.int .i64 (-1)) (.slice ah lh ch) (.int .i64 E)
      have HH := hidden hH
      have HF := hidden h2
      have HN := hidden hn2
      clear hH h0 h1 h2 hb6 rh kh vh th nw6 hne hn2 z0 z1 z2 z3 z4 z5
      go_wp2
      change bodyPost _ _ _ _ _ (set3 w6 (w.heap.size + 1) (.int .i64 (-1)) (.slice ah lh ch) (.int .i64 E))
      generalize set3 w6 (w.heap.size + 1) (.int .i64 (-1)) (.slice ah lh ch) (.int .i64 E) = wf at *
      refine bodyPost_ret (v := .agg #[.int .i64 (-1), .slice ah lh ch, .int .i64 E]) (by simp [results, Tryz.results26, go_sem, i0, i1, i2]) rfl ?_
      exact ⟨ah, lh, ch, dh, rfl, HH.out, lbh, HF.out, HN.out⟩
end Go.Proofs.YtfjpiahgnojlhaaGreatDoor
namespace Go.Proofs.YtfjpiahgnojlhaaGreatDoor
open Go.RowKit
set_option maxRecDepth 100000
set_option maxHeartbeats 4000000
set_option linter.unusedVariables false

theorem six_later {w6 w7 : World} {A B C D E F : Addr} {a b c d e f : Value} (hb : Below w6.heap.size w6 w7) (h : w6.cell? A = some a ∧ w6.cell? B = some b ∧ w6.cell? C = some c ∧ w6.cell? D = some d ∧ w6.cell? E = some e ∧ w6.cell? F = some f) : w7.cell? A = some a ∧ w7.cell? B = some b ∧ w7.cell? C = some c ∧ w7.cell? D = some d ∧ w7.cell? E = some e ∧ w7.cell? F = some f :=
  ⟨cellLater hb h.1, cellLater hb h.2.1, cellLater hb h.2.2.1, cellLater hb h.2.2.2.1, cellLater hb h.2.2.2.2.1, cellLater hb h.2.2.2.2.2⟩
/-- two exact numbers with the exponent e -/
def AlikeRet (w : World) (S1 S2 A1 A2 e : Int) (k1 k2 l1 l2 : Nat) (r : Ending) (w' : World) : Prop :=
  ∃ au lu cu du av lv cv dv, r = .returned (.tuple #[.agg #[.int .i64 S1, .slice au lu cu, .int .i64 e], .agg #[.int .i64 S2, .slice av lv cv, .int .i64 e]]) ∧ HasNat w' au lu cu du (A1 * p2 k1) ∧ HasNat w' av lv cv dv (A2 * p2 k2) ∧ lu ≤ k1 / 16 + l1 + 1 ∧ lv ≤ k2 / 16 + l2 + 1 ∧ Below w.heap.size w w' ∧ (∀ p, au = some p → w.heap.size ≤ p.block) ∧ (∀ p, av = some p → w.heap.size ≤ p.block)
theorem alike_any (S1 S2 E1 E2 A1 A2 e : Int) (x1 x2 : Option Addr) (l1 c1 l2 c2 k1 k2 : Nat) (d1 d2 : List Int) (w : World) (h1 : HasNat w x1 l1 c1 d1 A1) (h2 : HasNat w x2 l2 c2 d2 A2) (hl1 : (l1 : Int) ≤ 1000) (hl2 : (l2 : Int) ≤ 1000)
    (he : min E1 E2 = e) (hk1 : E1 - e = k1) (hk2 : E2 - e = k2) (hb1 : (k1 : Int) ≤ 10000) (hb2 : (k2 : Int) ≤ 10000) (b1 : -100000 ≤ E1 ∧ E1 ≤ 100000) (b2 : -100000 ≤ E2 ∧ E2 ≤ 100000) :
    Calls Tryz.prog 42 #[.agg #[.int .i64 S1, .slice x1 l1 c1, .int .i64 E1], .agg #[.int .i64 S2, .slice x2 l2 c2, .int .i64 E2]] w fun r w' => AlikeRet w S1 S2 A1 A2 e k1 k2 l1 l2 r w' := by
  have hW0 : Below w.heap.size w ((((w.alloc (.cells #[.int .i64 S1, .slice x1 l1 c1, .int .i64 E1] 60)).alloc (.cells #[.int .i64 S2, .slice x2 l2 c2, .int .i64 E2] 60)).alloc (.cells #[.int .i64 0, .slice none 0 0, .int .i64 0] 60)).alloc (.cells #[.int .i64 0, .slice none 0 0, .int .i64 0] 60)) := ((((Below.refl _ _).alloc (Nat.le_refl _) _).alloc (by simp) _).alloc (by simp; omega) _).alloc (by simp; omega) _
  have G1 := hidden (h1.later hW0)
  have G2 := hidden (h2.later hW0)
  have HB := hidden hW0
  have hA : Below (w.alloc (.cells #[.int .i64 S1, .slice x1 l1 c1, .int .i64 E1] 60)).heap.size (w.alloc (.cells #[.int .i64 S1, .slice x1 l1 c1, .int .i64 E1] 60)) ((((w.alloc (.cells #[.int .i64 S1, .slice x1 l1 c1, .int .i64 E1] 60)).alloc (.cells #[.int .i64 S2, .slice x2 l2 c2, .int .i64 E2] 60)).alloc (.cells #[.int .i64 0, .slice none 0 0, .int .i64 0] 60)).alloc (.cells #[.int .i64 0, .slice none 0 0, .int .i64 0] 60)) := (((Below.refl _ _).alloc (Nat.le_refl _) _).alloc (by simp) _).alloc (by simp) _
  have hB : Below ((w.alloc (.cells #[.int .i64 S1, .slice x1 l1 c1, .int .i64 E1] 60)).alloc (.cells #[.int .i64 S2, .slice x2 l2 c2, .int .i64 E2] 60)).heap.size ((w.alloc (.cells #[.int .i64 S1, .slice x1 l1 c1, .int .i64 E1] 60)).alloc (.cells #[.int .i64 S2, .slice x2 l2 c2, .int .i64 E2] 60)) ((((w.alloc (.cells #[.int .i64 S1, .slice x1 l1 c1, .int .i64 E1] 60)).alloc (.cells #[.int .i64 S2, .slice x2 l2 c2, .int .i64 E2] 60)).alloc (.cells #[.int .i64 0, .slice none 0 0, .int .i64 0] 60)).alloc (.cells #[.int .i64 0, .slice none 0 0, .int .i64 0] 60)) := ((Below.refl _ _).alloc (Nat.le_refl _) _).alloc (by simp) _
  have c0 : ((((w.alloc (.cells #[.int .i64 S1, .slice x1 l1 c1, .int .i64 E1] 60)).alloc (.cells #[.int .i64 S2, .slice x2 l2 c2, .int .i64 E2] 60)).alloc (.cells #[.int .i64 0, .slice none 0 0, .int .i64 0] 60)).alloc (.cells #[.int .i64 0, .slice none 0 0, .int .i64 0] 60)).cell? ⟨w.heap.size, 0, none⟩ = some (.int .i64 S1) := cellLater hA (by simp)
  have c1' : ((((w.alloc (.cells #[.int .i64 S1, .slice x1 l1 c1, .int .i64 E1] 60)).alloc (.cells #[.int .i64 S2, .slice x2 l2 c2, .int .i64 E2] 60)).alloc (.cells #[.int .i64 0, .slice none 0 0, .int .i64 0] 60)).alloc (.cells #[.int .i64 0, .slice none 0 0, .int .i64 0] 60)).cell? ⟨w.heap.size, 1, none⟩ = some (.slice x1 l1 c1) := cellLater hA (by simp)
  have c2' : ((((w.alloc (.cells #[.int .i64 S1, .slice x1 l1 c1, .int .i64 E1] 60)).alloc (.cells #[.int .i64 S2, .slice x2 l2 c2, .int .i64 E2] 60)).alloc (.cells #[.int .i64 0, .slice none 0 0, .int .i64 0] 60)).alloc (.cells #[.int .i64 0, .slice none 0 0, .int .i64 0] 60)).cell? ⟨w.heap.size, 2, none⟩ = some (.int .i64 E1) := cellLater hA (by simp)
  have g0 : ((((w.alloc (.cells #[.int .i64 S1, .slice x1 l1 c1, .int .i64 E1] 60)).alloc (.cells #[.int .i64 S2, .slice x2 l2 c2, .int .i64 E2] 60)).alloc (.cells #[.int .i64 0, .slice none 0 0, .int .i64 0] 60)).alloc (.cells #[.int .i64 0, .slice none 0 0, .int .i64 0] 60)).cell? ⟨w.heap.size + 1, 0, none⟩ = some (.int .i64 S2) := cellLater hB (by simp)
  have g1 : ((((w.alloc (.cells #[.int .i64 S1, .slice x1 l1 c1, .int .i64 E1] 60)).alloc (.cells #[.int .i64 S2, .slice x2 l2 c2, .int .i64 E2] 60)).alloc (.cells #[.int .i64 0, .slice none 0 0, .int .i64 0] 60)).alloc (.cells #[.int .i64 0, .slice none 0 0, .int .i64 0] 60)).cell? ⟨w.heap.size + 1, 1, none⟩ = some (.slice x2 l2 c2) := cellLater hB (by simp)
  have g2 : ((((w.alloc (.cells #[.int .i64 S1, .slice x1 l1 c1, .int .i64 E1] 60)).alloc (.cells #[.int .i64 S2, .slice x2 l2 c2, .int .i64 E2] 60)).alloc (.cells #[.int .i64 0, .slice none 0 0, .int .i64 0] 60)).alloc (.cells #[.int .i64 0, .slice none 0 0, .int .i64 0] 60)).cell? ⟨w.heap.size + 1, 2, none⟩ = some (.int .i64 E2) := cellLater hB (by simp)
  have za : ZRs ((((w.alloc (.cells #[.int .i64 S1, .slice x1 l1 c1, .int .i64 E1] 60)).alloc (.cells #[.int .i64 S2, .slice x2 l2 c2, .int .i64 E2] 60)).alloc (.cells #[.int .i64 0, .slice none 0 0, .int .i64 0] 60)).alloc (.cells #[.int .i64 0, .slice none 0 0, .int .i64 0] 60)) (w.heap.size + 1 + 1) := by
    have h := zr_of ((Below.refl _ _).alloc (Nat.le_refl _) (.cells #[.int .i64 0, .slice none 0 0, .int .i64 0] 60)) _ (zr_fresh ((w.alloc (.cells #[.int .i64 S1, .slice x1 l1 c1, .int .i64 E1] 60)).alloc (.cells #[.int .i64 S2, .slice x2 l2 c2, .int .i64 E2] 60)))
    simpa using h
  have zb : ZRs ((((w.alloc (.cells #[.int .i64 S1, .slice x1 l1 c1, .int .i64 E1] 60)).alloc (.cells #[.int .i64 S2, .slice x2 l2 c2, .int .i64 E2] 60)).alloc (.cells #[.int .i64 0, .slice none 0 0, .int .i64 0] 60)).alloc (.cells #[.int .i64 0, .slice none 0 0, .int .i64 0] 60)) (w.heap.size + 1 + 1 + 1) := by
    have h := zr_fresh (((w.alloc (.cells #[.int .i64 S1, .slice x1 l1 c1, .int .i64 E1] 60)).alloc (.cells #[.int .i64 S2, .slice x2 l2 c2, .int .i64 E2] 60)).alloc (.cells #[.int .i64 0, .slice none 0 0, .int .i64 0] 60))
    simpa using h
  have hsz : ((((w.alloc (.cells #[.int .i64 S1, .slice x1 l1 c1, .int .i64 E1] 60)).alloc (.cells #[.int .i64 S2, .slice x2 l2 c2, .int .i64 E2] 60)).alloc (.cells #[.int .i64 0, .slice none 0 0, .int .i64 0] 60)).alloc (.cells #[.int .i64 0, .slice none 0 0, .int .i64 0] 60)).heap.size = w.heap.size + 4 := by simp
  have HSZ := hidden hsz
  clear hsz
  have hee : (if E2 < E1 then E2 else E1) = e := by
    split <;> omega
  have hw1 : IntKind.i64.wrap (E1 - e) = k1 := by
    rw [hk1]; exact wrapi _ (by omega) (by omega)
  have hw2 : IntKind.i64.wrap (E2 - e) = k2 := by
    rw [hk2]; exact wrapi _ (by omega) (by omega)
  have HK1 := hidden hk1
  have HK2 := hidden hk2
  have HE := hidden he
  have HBB := hidden b1
  have HBC := hidden b2
  clear hk1 hk2 he b1 b2
  have ZA := hidden za
  have ZB := hidden zb
  have HA1 := hidden h1.val
  have HA2 := hidden h2.val
  clear hW0 hA hB za zb h1 h2
  have kk1 : IntKind.i64.wrap (k1 : Int) = k1 := wrapi _ (by omega) (by omega)
  have kk2 : IntKind.i64.wrap (k2 : Int) = k2 := wrapi _ (by omega) (by omega)
  go_enter Tryz.func42, Tryz.ntmps42
  go_upto_region 2 with fail
  generalize ((((w.alloc (.cells #[.int .i64 S1, .slice x1 l1 c1, .int .i64 E1] 60)).alloc (.cells #[.int .i64 S2, .slice x2 l2 c2, .int .i64 E2] 60)).alloc (.cells #[.int .i64 0, .slice none 0 0, .int .i64 0] 60)).alloc (.cells #[.int .i64 0, .slice none 0 0, .int .i64 0] 60)) = w5 at *
  try simp only [hee]
  generalize B3 : w.heap.size + 1 + 1 + 1 = q3 at *
  generalize B2 : w.heap.size + 1 + 1 = q2 at *
  generalize B1 : w.heap.size + 1 = q1 at *
  generalize B0 : w.heap.size = q0 at *
  have nb : ¬ q2 = q3 := by omega
  have nb' : ¬ q3 = q2 := by omega
  have n1 : ¬ q2 = q0 := by omega
  have n2 : ¬ q2 = q1 := by omega
  have n3 : ¬ q3 = q0 := by omega
  have n4 : ¬ q3 = q1 := by omega
  have HB3 := hidden B3
  have HB2 := hidden B2
  have HB1 := hidden B1
  have HB0 := hidden B0
  clear B0 B1 B2 B3 hee kk1 kk2
  go_region_held3 (fun w' => w'.cell? ⟨q0, 0, none⟩ = some (.int .i64 S1) ∧ w'.cell? ⟨q0, 1, none⟩ = some (.slice x1 l1 c1) ∧ w'.cell? ⟨q0, 2, none⟩ = some (.int .i64 E1) ∧ w'.cell? ⟨q1, 0, none⟩ = some (.int .i64 S2) ∧ w'.cell? ⟨q1, 1, none⟩ = some (.slice x2 l2 c2) ∧ w'.cell? ⟨q1, 2, none⟩ = some (.int .i64 E2)) (first | (refine ⟨?_, ?_, ?_, ?_, ?_, ?_⟩ <;> with_reducible assumption) | go_keep) (first
    | (go_at_call_of 79 (Value.slice x1 l1 c1); refine (up_any x1 l1 c1 d1 k1 _ (G1.out.later ((Below.refl _ _).drew)).rd G1.out.ok (by omega) (by omega)).mono ?_; rintro r w6 ⟨au, lu, cu, du, rfl, ru, ku, vu, lbu, tu, hb6, nw6⟩; have cc := six_later hb6 (six_later ((Below.refl _ _).drew) ⟨c0, c1', c2', g0, g1, g2⟩); have G2' := hidden ((G2.out.later ((Below.refl _ _).drew)).later hb6); have ZA' := hidden (zr_of hb6 _ (zr_of ((Below.refl _ _).drew) _ ZA.out)); have ZB' := hidden (zr_of hb6 _ (zr_of ((Below.refl _ _).drew) _ ZB.out)); have U1 := hidden (has_of3 ru ku vu tu); have HB6 := hidden hb6; have NW6 := hidden nw6; have LB6 := hidden lbu; clear hb6 nw6 lbu ru ku vu tu G2 ZA ZB c0 c1' c2' g0 g1 g2 G1; obtain ⟨c0, c1', c2', g0, g1, g2⟩ := cc)
    | (go_at_call_of 79 (Value.slice x2 l2 c2); refine (up_any x2 l2 c2 d2 k2 _ G2'.out.rd G2'.out.ok (by omega) (by omega)).mono ?_; rintro r w7 ⟨av, lv, cv, dv, rfl, rv, kv, vv, lbv, tv, hb7, nw7⟩; have cc := six_later hb7 ⟨c0, c1', c2', g0, g1, g2⟩; have zz := zr_of hb7 _ ZA'.out; have yy := zr_of hb7 _ ZB'.out; have U1' := hidden (U1.out.later hb7); have U2 := hidden (has_of3 rv kv vv tv); have HB7 := hidden hb7; have NW7 := hidden nw7; have LB7 := hidden lbv; clear hb7 nw7 lbv rv kv vv tv G2' ZA' ZB' U1 c0 c1' c2' g0 g1 g2; obtain ⟨c0, c1', c2', g0, g1, g2⟩ := cc; obtain ⟨z0, z1, z2, z3, z4, z5⟩ := zz; obtain ⟨y0, y1, y2, y3, y4, y5⟩ := yy))
  rename_i hHeld
  clear hHeld
  have s5 := HSZ.out
  have e0 := HB0.out
  have e1 := HB1.out
  have e2 := HB2.out
  have e3 := HB3.out
  have t6 := HB6.out.size
  simp [s5] at t6
  have hne1 : ∀ p, au = some p → ¬ q2 = p.block ∧ ¬ q3 = p.block ∧ q0 ≤ p.block := fun p hp => by
    have := NW6.out p hp
    simp [s5] at this
    omega
  have hne2 : ∀ p, av = some p → ¬ q2 = p.block ∧ ¬ q3 = p.block ∧ q0 ≤ p.block := fun p hp => by
    have := NW7.out p hp
    omega
  obtain ⟨i0, i1, i2⟩ := set3_at w7 q2 (.int .i64 S1) (.slice au lu cu) (.int .i64 e) _ _ _ z0 z1 z2
  obtain ⟨v0, v1, v2⟩ := set3_at (set3 w7 q2 (.int .i64 S1) (.slice au lu cu) (.int .i64 e)) q3 (.int .i64 S2) (.slice av lv cv) (.int .i64 e) _ _ _ ((set3_far _ _ _ _ _ q3 0 nb).trans y0) ((set3_far _ _ _ _ _ q3 1 nb).trans y1) ((set3_far _ _ _ _ _ q3 2 nb).trans y2)
  have u0 := (set3_far (set3 w7 q2 (.int .i64 S1) (.slice au lu cu) (.int .i64 e)) q3 (.int .i64 S2) (.slice av lv cv) (.int .i64 e) q2 0 nb').trans i0
  have u1 := (set3_far (set3 w7 q2 (.int .i64 S1) (.slice au lu cu) (.int .i64 e)) q3 (.int .i64 S2) (.slice av lv cv) (.int .i64 e) q2 1 nb').trans i1
  have u2 := (set3_far (set3 w7 q2 (.int .i64 S1) (.slice au lu cu) (.int .i64 e)) q3 (.int .i64 S2) (.slice av lv cv) (.int .i64 e) q2 2 nb').trans i2
  have X1 := U1'.out
  have X2 := U2.out
  rw [HA1.out] at X1
  rw [HA2.out] at X2
  have hH1 := has_of3 (rd_set3 (rd_set3 X1.rd q2 (.int .i64 S1) (.slice au lu cu) (.int .i64 e) fun p hp => (hne1 p hp).1) q3 (.int .i64 S2) (.slice av lv cv) (.int .i64 e) fun p hp => (hne1 p hp).2.1) X1.ok X1.val X1.top
  have hH2 := has_of3 (rd_set3 (rd_set3 X2.rd q2 (.int .i64 S1) (.slice au lu cu) (.int .i64 e) fun p hp => (hne2 p hp).1) q3 (.int .i64 S2) (.slice av lv cv) (.int .i64 e) fun p hp => (hne2 p hp).2.1) X2.ok X2.val X2.top
  have f0 := HB.out.drew
  have f1 := f0.trans (HB6.out.mono (by simp [s5]))
  have f2 := f1.trans (HB7.out.mono (by omega))
  have f3 := set3_below (set3_below f2 q2 (by omega) (.int .i64 S1) (.slice au lu cu) (.int .i64 e)) q3 (by omega) (.int .i64 S2) (.slice av lv cv) (.int .i64 e)
  rw [← e0] at f3
  have m1 : ∀ p, au = some p → w.heap.size ≤ p.block := fun p hp => by have := (hne1 p hp).2.2; omega
  have m2 : ∀ p, av = some p → w.heap.size ≤ p.block := fun p hp => by have := (hne2 p hp).2.2; omega
  have HH1 := hidden hH1
  have HH2 := hidden hH2
  have HF := hidden f3
  have HN1 := hidden m1
  have HN2 := hidden m2
  clear hH1 hH2 f0 f1 f2 f3 m1 m2 hne1 hne2 X1 X2 U1' U2 z0 z1 z2 z3 z4 z5 y0 y1 y2 y3 y4 y5 s5 e0 e1 e2 e3 t6 i0 i1 i2 c0 c1' c2' g0 g1 g2
  go_wp2
  change bodyPost _ _ _ _ _ (set3 (set3 w7 q2 (.int .i64 S1) (.slice au lu cu) (.int .i64 e)) q3 (.int .i64 S2) (.slice av lv cv) (.int .i64 e))
  generalize set3 (set3 w7 q2 (.int .i64 S1) (.slice au lu cu) (.int .i64 e)) q3 (.int .i64 S2) (.slice av lv cv) (.int .i64 e) = wf at *
  refine bodyPost_ret (v := .tuple #[.agg #[.int .i64 S1, .slice au lu cu, .int .i64 e], .agg #[.int .i64 S2, .slice av lv cv, .int .i64 e]]) (by simp [results, Tryz.results42, go_sem, u0, u1, u2, v0, v1, v2]) rfl ?_
  exact ⟨au, lu, cu, du, av, lv, cv, dv, rfl, HH1.out, HH2.out, LB6.out, LB7.out, HF.out, HN1.out, HN2.out⟩
end Go.Proofs.YtfjpiahgnojlhaaGreatDoor
namespace Go.Proofs.YtfjpiahgnojlhaaGreatDoor
open Go.RowKit
set_option maxRecDepth 100000
set_option maxHeartbeats 1000000
set_option linter.unusedVariables false

/-- an exact number in a box that may be written -/
def RsAt (w : World) (b : Nat) (S : Int) (v : Value) (E : Int) : Prop := w.cell? ⟨b, 0, none⟩ = some (.int .i64 S) ∧ w.cell? ⟨b, 1, none⟩ = some v ∧ w.cell? ⟨b, 2, none⟩ = some (.int .i64 E) ∧ w.frozen? ⟨b, 0, none⟩ = false ∧ w.frozen? ⟨b, 1, none⟩ = false ∧ w.frozen? ⟨b, 2, none⟩ = false
theorem rs_of {X w2 : World} (hb : Below X.heap.size X w2) {b : Nat} {S E : Int} {v : Value} (h : RsAt X b S v E) : RsAt w2 b S v E := by
  obtain ⟨h0, h1, h2, k0, k1, k2⟩ := h
  have hl : b < X.heap.size := World.block_lt_of_cell? _ _ h0
  exact ⟨cellLater hb h0, cellLater hb h1, cellLater hb h2, (hb.frozen hl).trans k0, (hb.frozen hl).trans k1, (hb.frozen hl).trans k2⟩
theorem rs_fresh (X : World) (S E : Int) (a : Option Addr) (l c : Nat) : RsAt (X.alloc (.cells #[.int .i64 S, .slice a l c, .int .i64 E] 60)) X.heap.size S (.slice a l c) E := by unfold RsAt; simp
theorem rs_alloc {X : World} (o : Obj) {b : Nat} {S E : Int} {v : Value} (h : RsAt X b S v E) : RsAt (X.alloc o) b S v E := rs_of ((Below.refl _ _).alloc (Nat.le_refl _) _) h
theorem rs_set3 {X : World} {b c : Nat} {S E : Int} {v : Value} (h : RsAt X b S v E) (hn : ¬ c = b) (a0 a1 a2 : Value) : RsAt (set3 X c a0 a1 a2) b S v E := by
  obtain ⟨h0, h1, h2, k0, k1, k2⟩ := h
  refine ⟨(set3_far _ _ _ _ _ _ _ hn).trans h0, (set3_far _ _ _ _ _ _ _ hn).trans h1, (set3_far _ _ _ _ _ _ _ hn).trans h2, ?_, ?_, ?_⟩ <;> (unfold set3; simp only [World.frozen?_setCell]; assumption)
theorem rs_put {X : World} {b : Nat} {S E : Int} {v : Value} (h : RsAt X b S v E) (S' E' : Int) (v' : Value) : RsAt (set3 X b (.int .i64 S') v' (.int .i64 E')) b S' v' E' := by
  obtain ⟨h0, h1, h2, k0, k1, k2⟩ := h
  obtain ⟨i0, i1, i2⟩ := set3_at X b (.int .i64 S') v' (.int .i64 E') _ _ _ h0 h1 h2
  refine ⟨i0, i1, i2, ?_, ?_, ?_⟩ <;> (unfold set3; simp only [World.frozen?_setCell]; assumption)
def PlusRet (w : World) (S e : Int) (L : Nat) (r : Ending) (w' : World) : Prop :=
  ∃ s a l c ds N, r = .returned (.agg #[.int .i64 s, .slice a l c, .int .i64 e]) ∧ HasNat w' a l c ds N ∧ (s = 1 ∨ s = -1) ∧ s * N = S ∧ l ≤ L ∧ Below w.heap.size w w' ∧ ∀ p, a = some p → w.heap.size ≤ p.block
theorem plus_walk (S1 S2 E1 E2 A1 A2 e : Int) (x1 x2 : Option Addr) (l1 c1 l2 c2 k1 k2 : Nat) (d1 d2 : List Int) (w : World) (h1 : HasNat w x1 l1 c1 d1 A1) (h2 : HasNat w x2 l2 c2 d2 A2) (hl1 : (l1 : Int) ≤ 1000) (hl2 : (l2 : Int) ≤ 1000)
    (he : min E1 E2 = e) (hk1 : E1 - e = k1) (hk2 : E2 - e = k2) (hb1 : (k1 : Int) ≤ 10000) (hb2 : (k2 : Int) ≤ 10000) (b1 : -100000 ≤ E1 ∧ E1 ≤ 100000) (b2 : -100000 ≤ E2 ∧ E2 ≤ 100000) (s1 : S1 = 1 ∨ S1 = -1) (s2 : S2 = 1 ∨ S2 = -1) :
    Calls Tryz.prog 27 #[.agg #[.int .i64 S1, .slice x1 l1 c1, .int .i64 E1], .agg #[.int .i64 S2, .slice x2 l2 c2, .int .i64 E2]] w fun r w' => PlusRet w (S1 * (A1 * p2 k1) + S2 * (A2 * p2 k2)) e (k1 / 16 + l1 + k2 / 16 + l2 + 3) r w' := by
  have hW0 : Below w.heap.size w (((w.alloc (.cells #[.int .i64 S1, .slice x1 l1 c1, .int .i64 E1] 60)).alloc (.cells #[.int .i64 S2, .slice x2 l2 c2, .int .i64 E2] 60)).alloc (.cells #[.int .i64 0, .slice none 0 0, .int .i64 0] 60)) := (((Below.refl _ _).alloc (Nat.le_refl _) _).alloc (by simp) _).alloc (by simp; omega) _
  have HA := hidden (fun W h => alike_any S1 S2 E1 E2 A1 A2 e x1 x2 l1 c1 l2 c2 k1 k2 d1 d2 W (h1.later h) (h2.later h) hl1 hl2 he hk1 hk2 hb1 hb2 b1 b2)
  have r0 : RsAt (((w.alloc (.cells #[.int .i64 S1, .slice x1 l1 c1, .int .i64 E1] 60)).alloc (.cells #[.int .i64 S2, .slice x2 l2 c2, .int .i64 E2] 60)).alloc (.cells #[.int .i64 0, .slice none 0 0, .int .i64 0] 60)) (w.heap.size) S1 (.slice x1 l1 c1) E1 := rs_alloc _ (rs_alloc _ (rs_fresh w S1 E1 x1 l1 c1))
  have r1 : RsAt (((w.alloc (.cells #[.int .i64 S1, .slice x1 l1 c1, .int .i64 E1] 60)).alloc (.cells #[.int .i64 S2, .slice x2 l2 c2, .int .i64 E2] 60)).alloc (.cells #[.int .i64 0, .slice none 0 0, .int .i64 0] 60)) (w.heap.size + 1) S2 (.slice x2 l2 c2) E2 := by
    have h := rs_alloc (.cells #[.int .i64 0, .slice none 0 0, .int .i64 0] 60) (rs_fresh (w.alloc (.cells #[.int .i64 S1, .slice x1 l1 c1, .int .i64 E1] 60)) S2 E2 x2 l2 c2)
    simpa using h
  have r2 : RsAt (((w.alloc (.cells #[.int .i64 S1, .slice x1 l1 c1, .int .i64 E1] 60)).alloc (.cells #[.int .i64 S2, .slice x2 l2 c2, .int .i64 E2] 60)).alloc (.cells #[.int .i64 0, .slice none 0 0, .int .i64 0] 60)) (w.heap.size + 1 + 1) 0 (.slice none 0 0) 0 := by
    have h := rs_fresh ((w.alloc (.cells #[.int .i64 S1, .slice x1 l1 c1, .int .i64 E1] 60)).alloc (.cells #[.int .i64 S2, .slice x2 l2 c2, .int .i64 E2] 60)) 0 0 none 0 0
    simpa using h
  have hsz : (((w.alloc (.cells #[.int .i64 S1, .slice x1 l1 c1, .int .i64 E1] 60)).alloc (.cells #[.int .i64 S2, .slice x2 l2 c2, .int .i64 E2] 60)).alloc (.cells #[.int .i64 0, .slice none 0 0, .int .i64 0] 60)).heap.size = w.heap.size + 3 := by simp
  have HW := hidden hW0
  have SS1 := hidden s1
  have SS2 := hidden s2
  have HQ1 : k1 / 16 + l1 + 1 ≤ 1700 := by omega
  have HQ2 : k2 / 16 + l2 + 1 ≤ 1700 := by omega
  clear h1 h2 he hk1 hk2 hb1 hb2 b1 b2 hl1 hl2 s1 s2 hW0
  go_enter Tryz.func27, Tryz.ntmps27
  go_upto_region 1 with fail
  generalize (((w.alloc (.cells #[.int .i64 S1, .slice x1 l1 c1, .int .i64 E1] 60)).alloc (.cells #[.int .i64 S2, .slice x2 l2 c2, .int .i64 E2] 60)).alloc (.cells #[.int .i64 0, .slice none 0 0, .int .i64 0] 60)) = w4 at *
  have HSZ := hidden hsz
  clear hsz
  have HR0 := hidden r0
  have HR1 := hidden r1
  have HR2 := hidden r2
  obtain ⟨u0, u1, u2, u3, u4, u5⟩ := r0
  obtain ⟨v0, v1, v2, v3, v4, v5⟩ := r1
  clear r2
  go_wp2_with fail
  refine (HA.out w4 HW.out).mono ?_
  rintro r w1 ⟨au, lu, cu, du, av, lv, cv, dv, rfl, hu, hv, lu1, lv1, hb1, nu, nv'⟩
  have t0 := rs_of hb1 HR0.out
  have t1 := rs_of hb1 HR1.out
  have t2 := rs_of hb1 HR2.out
  have e4 := HSZ.out
  have n01 : ¬ w.heap.size = w.heap.size + 1 := by omega
  have n10 : ¬ w.heap.size + 1 = w.heap.size := by omega
  have n02 : ¬ w.heap.size = w.heap.size + 1 + 1 := by omega
  have n12 : ¬ w.heap.size + 1 = w.heap.size + 1 + 1 := by omega
  have X0 : RsAt (set3 (set3 w1 (w.heap.size) (.int .i64 S1) (.slice au lu cu) (.int .i64 e)) (w.heap.size + 1) (.int .i64 S2) (.slice av lv cv) (.int .i64 e)) (w.heap.size) S1 (.slice au lu cu) e := rs_set3 (rs_put t0 S1 e (.slice au lu cu)) n10 _ _ _
  have X1 : RsAt (set3 (set3 w1 (w.heap.size) (.int .i64 S1) (.slice au lu cu) (.int .i64 e)) (w.heap.size + 1) (.int .i64 S2) (.slice av lv cv) (.int .i64 e)) (w.heap.size + 1) S2 (.slice av lv cv) e := rs_put (rs_set3 t1 n01 _ _ _) S2 e (.slice av lv cv)
  have X2 : RsAt (set3 (set3 w1 (w.heap.size) (.int .i64 S1) (.slice au lu cu) (.int .i64 e)) (w.heap.size + 1) (.int .i64 S2) (.slice av lv cv) (.int .i64 e)) (w.heap.size + 1 + 1) 0 (.slice none 0 0) 0 := rs_set3 (rs_set3 t2 n02 _ _ _) n12 _ _ _
  have Y1 : HasNat (set3 (set3 w1 (w.heap.size) (.int .i64 S1) (.slice au lu cu) (.int .i64 e)) (w.heap.size + 1) (.int .i64 S2) (.slice av lv cv) (.int .i64 e)) au lu cu du (A1 * p2 k1) := has_of3 (rd_set3 (rd_set3 hu.rd (w.heap.size) _ _ _ fun p hp => by have := nu p hp; omega) (w.heap.size + 1) _ _ _ fun p hp => by have := nu p hp; omega) hu.ok hu.val hu.top
  have Y2 : HasNat (set3 (set3 w1 (w.heap.size) (.int .i64 S1) (.slice au lu cu) (.int .i64 e)) (w.heap.size + 1) (.int .i64 S2) (.slice av lv cv) (.int .i64 e)) av lv cv dv (A2 * p2 k2) := has_of3 (rd_set3 (rd_set3 hv.rd (w.heap.size) _ _ _ fun p hp => by have := nv' p hp; omega) (w.heap.size + 1) _ _ _ fun p hp => by have := nv' p hp; omega) hv.ok hv.val hv.top
  have hB1 := HW.out.trans (hb1.mono HW.out.size)
  have hB5 : Below w.heap.size w (set3 (set3 w1 (w.heap.size) (.int .i64 S1) (.slice au lu cu) (.int .i64 e)) (w.heap.size + 1) (.int .i64 S2) (.slice av lv cv) (.int .i64 e)) := set3_below (set3_below hB1 _ (by omega) _ _ _) _ (by omega) _ _ _
  have HB5 := hidden hB5
  have hs1 := hb1.size
  have HT0 := hidden t0
  have HT1 := hidden t1
  have HX0 := hidden X0
  have HX1 := hidden X1
  have HX2 := hidden X2
  have HY1 := hidden Y1
  have HY2 := hidden Y2
  have hsx : (set3 (set3 w1 (w.heap.size) (.int .i64 S1) (.slice au lu cu) (.int .i64 e)) (w.heap.size + 1) (.int .i64 S2) (.slice av lv cv) (.int .i64 e)).heap.size = w1.heap.size := by unfold set3; simp
  have HB5s := hidden (show w.heap.size + 1 + 1 < (set3 (set3 w1 (w.heap.size) (.int .i64 S1) (.slice au lu cu) (.int .i64 e)) (w.heap.size + 1) (.int .i64 S2) (.slice av lv cv) (.int .i64 e)).heap.size by rw [hsx]; omega)
  have HLU := hidden lu1
  have HLV := hidden lv1
  clear X0 X1 X2 Y1 Y2 hB1 hB5 hu hv nu nv' lu1 lv1 u0 u1 u2 u3 u4 u5 v0 v1 v2 v3 v4 v5 hb1 hs1 e4 hsx HA HR0 HR1 HR2 HSZ HW
  obtain ⟨u0, u1, u2, u3, u4, u5⟩ := t0
  obtain ⟨v0, v1, v2, v3, v4, v5⟩ := t1
  go_upto_region 2 with fail
  clear u0 u1 u2 u3 u4 u5 v0 v1 v2 v3 v4 v5 t2 HT0 HT1 n01 n10 n02 n12
  change Code.wp _ _ _ _ (set3 (set3 w1 (w.heap.size) (.int .i64 S1) (.slice au lu cu) (.int .i64 e)) (w.heap.size + 1) (.int .i64 S2) (.slice av lv cv) (.int .i64 e))
  generalize (set3 (set3 w1 (w.heap.size) (.int .i64 S1) (.slice au lu cu) (.int .i64 e)) (w.heap.size + 1) (.int .i64 S2) (.slice av lv cv) (.int .i64 e)) = w5 at *
  obtain ⟨p0, p1, p2', -⟩ := HX0.out
  obtain ⟨q0', q1', q2', -⟩ := HX1.out
  have ZR := hidden HX2.out
  clear HX0 HX1 HX2
  have m20 : ¬ w.heap.size + 1 + 1 = w.heap.size := by omega
  have m21 : ¬ w.heap.size + 1 + 1 = w.heap.size + 1 := by omega
  have L1 : (lu : Int) ≤ 5000 := by have := HLU.out; omega
  have L2 : (lv : Int) ≤ 5000 := by have := HLV.out; omega
  by_cases hS : S1 = S2
  · have hs : (S1 == S2) = true := by simpa using hS
    have HEQ := hidden hS
    have HNE : Hid True := trivial
    clear hS
    go_upto_region 3 with fail
    go_region_held3 (fun w' => w'.cell? ⟨w.heap.size, 0, none⟩ = some (.int .i64 S1) ∧ w'.cell? ⟨w.heap.size, 1, none⟩ = some (.slice au lu cu) ∧ w'.cell? ⟨w.heap.size, 2, none⟩ = some (.int .i64 e) ∧ w'.cell? ⟨w.heap.size + 1, 0, none⟩ = some (.int .i64 S2) ∧ w'.cell? ⟨w.heap.size + 1, 1, none⟩ = some (.slice av lv cv) ∧ w'.cell? ⟨w.heap.size + 1, 2, none⟩ = some (.int .i64 e)) (first | (refine ⟨?_, ?_, ?_, ?_, ?_, ?_⟩ <;> with_reducible assumption) | go_keep) (first | (go_at_call 43; refine (plus_any au av lu cu lv cv du dv _ (HY1.out.later ((Below.refl _ _).drew)).rd (HY2.out.later ((Below.refl _ _).drew)).rd HY1.out.ok HY2.out.ok (by omega) (by omega)).mono ?_; rintro r w6 ⟨an, ln, cn, dn, rfl, ru, ku, vu, lbu, tu, hb6, nw6⟩; have cc := six_later hb6 (six_later ((Below.refl _ _).drew) ⟨p0, p1, p2', q0', q1', q2'⟩); have zz := rs_of hb6 (rs_of ((Below.refl _ _).drew) ZR.out); have U := hidden (has_of3 ru ku vu tu); have HB6 := hidden (HB5.out.drew.trans (hb6.mono HB5.out.drew.size)); have NW := hidden nw6; have LB := hidden lbu; clear hb6 nw6 lbu ru ku vu tu p0 p1 p2' q0' q1' q2' ZR; obtain ⟨p0, p1, p2', q0', q1', q2'⟩ := cc; obtain ⟨z0, z1, z2, z3, z4, z5⟩ := zz))
    all_goals
      have hne : ∀ p, an = some p → ¬ w.heap.size + 1 + 1 = p.block := fun p hp => by
        have h := NW.out p hp
        have h2 := HB5s.out
        simp at h
        omega
      obtain ⟨i0, i1, i2⟩ := set3_at w6 (w.heap.size + 1 + 1) (.int .i64 S1) (.slice an ln cn) (.int .i64 e) _ _ _ z0 z1 z2
      have hH := has_of3 (rd_set3 U.out.rd (w.heap.size + 1 + 1) (.int .i64 S1) (.slice an ln cn) (.int .i64 e) hne) U.out.ok U.out.val U.out.top
      have hF := set3_below HB6.out (w.heap.size + 1 + 1) (by omega) (.int .i64 S1) (.slice an ln cn) (.int .i64 e)
      have HH := hidden hH
      have HF := hidden hF
      clear hH hF hne p0 p1 p2' q0' q1' q2'
      go_wp2
      change bodyPost _ _ _ _ _ (set3 w6 (w.heap.size + 1 + 1) (.int .i64 S1) (.slice an ln cn) (.int .i64 e))
      generalize set3 w6 (w.heap.size + 1 + 1) (.int .i64 S1) (.slice an ln cn) (.int .i64 e) = wf at *
      refine bodyPost_ret (v := .agg #[.int .i64 S1, .slice an ln cn, .int .i64 e]) (by simp [results, Tryz.results27, go_sem, i0, i1, i2]) rfl ?_
      have hv := HH.out
      rw [HY1.out.val, HY2.out.val] at hv
      have l1' := HLU.out
      have l2' := HLV.out
      have l3' := LB.out
      refine ⟨S1, an, ln, cn, dn, _, rfl, hv, SS1.out, ?_, by omega, HF.out, fun p hp => by have h := NW.out p hp; have h2 := HB5s.out; simp at h; omega⟩
      rw [← HEQ.out, Int.mul_add]
  · have hs : (S1 == S2) = false := by simpa using hS
    have HNE := hidden hS
    have HEQ : Hid True := trivial
    clear hS
    go_wp2_with fail
    refine (cmp_any au av lu cu lv cv du dv _ HY1.out.rd HY2.out.rd HY1.out.ok HY2.out.ok (by omega) (by omega)).mono ?_
    rintro r w2 ⟨rfl, hb2⟩
    rw [HY1.out.val, HY2.out.val]
    have cc := six_later hb2 ⟨p0, p1, p2', q0', q1', q2'⟩
    have ZR' := hidden (rs_of hb2 ZR.out)
    have HB5' := hidden (HB5.out.trans (hb2.mono HB5.out.size))
    have HB5s' := hidden (Nat.lt_of_lt_of_le HB5s.out hb2.size)
    have HY1' := hidden (HY1.out.later hb2)
    have HY2' := hidden (HY2.out.later hb2)
    clear hb2 p0 p1 p2' q0' q1' q2' ZR HB5 HB5s HY1 HY2
    obtain ⟨p0, p1, p2', q0', q1', q2'⟩ := cc
    have ZR := ZR'
    have HB5 := HB5'
    have HB5s := HB5s'
    have HY1 := HY1'
    have HY2 := HY2'
    clear ZR' HB5' HB5s' HY1' HY2'
    by_cases hc : A2 * p2 k2 ≤ A1 * p2 k1
    · have hcm : 0 ≤ cmpI (A1 * p2 k1) (A2 * p2 k2) := by unfold cmpI; split <;> (try split) <;> omega
      have HC := hidden hc
      clear hc
      generalize cmpI (A1 * p2 k1) (A2 * p2 k2) = CC at *
      go_upto_region 5 with fail
      go_region_held3 (fun w' => w'.cell? ⟨w.heap.size, 0, none⟩ = some (.int .i64 S1) ∧ w'.cell? ⟨w.heap.size, 1, none⟩ = some (.slice au lu cu) ∧ w'.cell? ⟨w.heap.size, 2, none⟩ = some (.int .i64 e) ∧ w'.cell? ⟨w.heap.size + 1, 0, none⟩ = some (.int .i64 S2) ∧ w'.cell? ⟨w.heap.size + 1, 1, none⟩ = some (.slice av lv cv) ∧ w'.cell? ⟨w.heap.size + 1, 2, none⟩ = some (.int .i64 e)) (first | (refine ⟨?_, ?_, ?_, ?_, ?_, ?_⟩ <;> with_reducible assumption) | go_keep) (first | (go_at_call 45; refine (minus_any au av lu cu lv cv du dv _ (HY1.out.later ((Below.refl _ _).drew)).rd (HY2.out.later ((Below.refl _ _).drew)).rd HY1.out.ok HY2.out.ok (by omega) (HY2.out.len_le HY1.out HC.out) (by rw [HY1.out.val, HY2.out.val]; exact HC.out)).mono ?_; rintro r w6 ⟨an, ln, cn, dn, rfl, ru, ku, vu, lbu, tu, hb6, nw6⟩; have cc := six_later hb6 (six_later ((Below.refl _ _).drew) ⟨p0, p1, p2', q0', q1', q2'⟩); have zz := rs_of hb6 (rs_of ((Below.refl _ _).drew) ZR.out); have U := hidden (has_of3 ru ku vu tu); have HB6 := hidden (HB5.out.drew.trans (hb6.mono HB5.out.drew.size)); have NW := hidden nw6; have LB := hidden lbu; clear hb6 nw6 lbu ru ku vu tu p0 p1 p2' q0' q1' q2' ZR; obtain ⟨p0, p1, p2', q0', q1', q2'⟩ := cc; obtain ⟨z0, z1, z2, z3, z4, z5⟩ := zz))
      all_goals
        have hne : ∀ p, an = some p → ¬ w.heap.size + 1 + 1 = p.block := fun p hp => by
          have h := NW.out p hp
          have h2 := HB5s.out
          simp at h
          omega
        obtain ⟨i0, i1, i2⟩ := set3_at w6 (w.heap.size + 1 + 1) (.int .i64 S1) (.slice an ln cn) (.int .i64 e) _ _ _ z0 z1 z2
        have hH := has_of3 (rd_set3 U.out.rd (w.heap.size + 1 + 1) (.int .i64 S1) (.slice an ln cn) (.int .i64 e) hne) U.out.ok U.out.val U.out.top
        have hF := set3_below HB6.out (w.heap.size + 1 + 1) (by omega) (.int .i64 S1) (.slice an ln cn) (.int .i64 e)
        have HH := hidden hH
        have HF := hidden hF
        clear hH hF hne p0 p1 p2' q0' q1' q2'
        go_wp2
        change bodyPost _ _ _ _ _ (set3 w6 (w.heap.size + 1 + 1) (.int .i64 S1) (.slice an ln cn) (.int .i64 e))
        generalize set3 w6 (w.heap.size + 1 + 1) (.int .i64 S1) (.slice an ln cn) (.int .i64 e) = wf at *
        refine bodyPost_ret (v := .agg #[.int .i64 S1, .slice an ln cn, .int .i64 e]) (by simp [results, Tryz.results27, go_sem, i0, i1, i2]) rfl ?_
        have hv := HH.out
        rw [HY1.out.val, HY2.out.val] at hv
        have l1' := HLU.out
        have l2' := HLV.out
        have l3' := LB.out
        refine ⟨S1, an, ln, cn, dn, _, rfl, hv, SS1.out, ?_, by omega, HF.out, fun p hp => by have h := NW.out p hp; have h2 := HB5s.out; simp at h; omega⟩
        have hneq := HNE.out
        rcases SS1.out with g1 | g1 <;> rcases SS2.out with g2 | g2 <;> rw [g1, g2] at hneq <;> rw [g1, g2] <;> omega
    · have hcm : ¬ 0 ≤ cmpI (A1 * p2 k1) (A2 * p2 k2) := by unfold cmpI; split <;> (try split) <;> omega
      have HC := hidden hc
      clear hc
      generalize cmpI (A1 * p2 k1) (A2 * p2 k2) = CC at *
      go_upto_region 6 with fail
      go_region_held3 (fun w' => w'.cell? ⟨w.heap.size, 0, none⟩ = some (.int .i64 S1) ∧ w'.cell? ⟨w.heap.size, 1, none⟩ = some (.slice au lu cu) ∧ w'.cell? ⟨w.heap.size, 2, none⟩ = some (.int .i64 e) ∧ w'.cell? ⟨w.heap.size + 1, 0, none⟩ = some (.int .i64 S2) ∧ w'.cell? ⟨w.heap.size + 1, 1, none⟩ = some (.slice av lv cv) ∧ w'.cell? ⟨w.heap.size + 1, 2, none⟩ = some (.int .i64 e)) (first | (refine ⟨?_, ?_, ?_, ?_, ?_, ?_⟩ <;> with_reducible assumption) | go_keep) (first | (go_at_call 45; refine (minus_any av au lv cv lu cu dv du _ (HY2.out.later ((Below.refl _ _).drew)).rd (HY1.out.later ((Below.refl _ _).drew)).rd HY2.out.ok HY1.out.ok (by omega) (HY1.out.len_le HY2.out (by have := HC.out; omega)) (by rw [HY1.out.val, HY2.out.val]; have := HC.out; omega)).mono ?_; rintro r w6 ⟨an, ln, cn, dn, rfl, ru, ku, vu, lbu, tu, hb6, nw6⟩; have cc := six_later hb6 (six_later ((Below.refl _ _).drew) ⟨p0, p1, p2', q0', q1', q2'⟩); have zz := rs_of hb6 (rs_of ((Below.refl _ _).drew) ZR.out); have U := hidden (has_of3 ru ku vu tu); have HB6 := hidden (HB5.out.drew.trans (hb6.mono HB5.out.drew.size)); have NW := hidden nw6; have LB := hidden lbu; clear hb6 nw6 lbu ru ku vu tu p0 p1 p2' q0' q1' q2' ZR; obtain ⟨p0, p1, p2', q0', q1', q2'⟩ := cc; obtain ⟨z0, z1, z2, z3, z4, z5⟩ := zz))
      all_goals
        have hne : ∀ p, an = some p → ¬ w.heap.size + 1 + 1 = p.block := fun p hp => by
          have h := NW.out p hp
          have h2 := HB5s.out
          simp at h
          omega
        obtain ⟨i0, i1, i2⟩ := set3_at w6 (w.heap.size + 1 + 1) (.int .i64 S2) (.slice an ln cn) (.int .i64 e) _ _ _ z0 z1 z2
        have hH := has_of3 (rd_set3 U.out.rd (w.heap.size + 1 + 1) (.int .i64 S2) (.slice an ln cn) (.int .i64 e) hne) U.out.ok U.out.val U.out.top
        have hF := set3_below HB6.out (w.heap.size + 1 + 1) (by omega) (.int .i64 S2) (.slice an ln cn) (.int .i64 e)
        have HH := hidden hH
        have HF := hidden hF
        clear hH hF hne p0 p1 p2' q0' q1' q2'
        go_wp2
        change bodyPost _ _ _ _ _ (set3 w6 (w.heap.size + 1 + 1) (.int .i64 S2) (.slice an ln cn) (.int .i64 e))
        generalize set3 w6 (w.heap.size + 1 + 1) (.int .i64 S2) (.slice an ln cn) (.int .i64 e) = wf at *
        refine bodyPost_ret (v := .agg #[.int .i64 S2, .slice an ln cn, .int .i64 e]) (by simp [results, Tryz.results27, go_sem, i0, i1, i2]) rfl ?_
        have hv := HH.out
        rw [HY1.out.val, HY2.out.val] at hv
        have l1' := HLU.out
        have l2' := HLV.out
        have l3' := LB.out
        refine ⟨S2, an, ln, cn, dn, _, rfl, hv, SS2.out, ?_, by omega, HF.out, fun p hp => by have h := NW.out p hp; have h2 := HB5s.out; simp at h; omega⟩
        have hneq := HNE.out
        rcases SS1.out with g1 | g1 <;> rcases SS2.out with g2 | g2 <;> rw [g1, g2] at hneq <;> rw [g1, g2] <;> omega
end Go.Proofs.YtfjpiahgnojlhaaGreatDoor
