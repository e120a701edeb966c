/- Contracts of the document's small functions for layer 3 (package grottoref03: one, Turn, open). -/
import Derived.Test.YtbfbdemknggpkaaGreatDoorL2d
import Derived.Test.YtbfbdemknggpkaaGreatDoorN3a
import Derived.Test.YtbfbdemknggpkaaGreatDoorZ3
import Derived.Test.YtbfbdemknggpkaaGreatDoorT3
namespace Go.Proofs.YtbfbdemknggpkaaGreatDoor
open Go.RowKit
set_option maxRecDepth 100000
set_option maxHeartbeats 4000000
set_option linter.unusedVariables false

theorem one_any (w : World) : Calls Tryz.prog 41 #[] w fun r w' => r = .returned (.slice (some ⟨w.heap.size, 0, none⟩) 1 1) ∧ w' = w.alloc (.cells #[.int .i64 1] 3) := by
  go_enter Tryz.func41, Tryz.ntmps41
  go_wp2
  go_ret
  exact ⟨rfl, rfl⟩
theorem turn_any (m x : Nat) (a : Int) (w : World) (hok : okF m x) (a0 : 0 ≤ a) (a1 : a < p2 (m + x + 1)) :
    Calls Tryz.prog 43 #[.agg #[.int .i64 m, .int .i64 x], .int .u64 a] w fun r w' => r = .returned (.int .u64 (turnI (m + x) a)) ∧ Below w.heap.size w w' := by
  have HZ := hidden (fun w => zero_any m x true w (by have := hok.2.1; omega) (by have := hok.2.2.2; omega))
  rw [show sgnW true (m + x) = p2 (m + x) from rfl] at HZ
  have h63 := p2_le63 (show m + x ≤ 63 by have := hok.2.1; have := hok.2.2.2; omega)
  have hp := p2_pos (m + x)
  rw [p2_succ] at a1
  unfold turnI
  generalize p2 (m + x) = T at *
  by_cases h : T ≤ a
  · rw [if_pos h]
    go_enter Tryz.func43, Tryz.ntmps43
    go_wp2_with (go_at_call 36; refine (HZ.out _).mono ?_; rintro r w1 ⟨rfl, hw⟩; subst hw)
    go_ret
    refine ⟨rfl, ?_⟩
    repeat (first | exact Below.refl _ _ | apply Below.drew | (refine Below.alloc ?_ (by simp; try omega) _))
  · rw [if_neg h]
    go_enter Tryz.func43, Tryz.ntmps43
    go_wp2_with (go_at_call 36; refine (HZ.out _).mono ?_; rintro r w1 ⟨rfl, hw⟩; subst hw)
    go_ret
    refine ⟨rfl, ?_⟩
    repeat (first | exact Below.refl _ _ | apply Below.drew | (refine Below.alloc ?_ (by simp; try omega) _))
/-- two patterns that may both be opened -/
theorem open2_any (a0 b0 a b K1 E1 M1 K2 E2 M2 : Int) (n1 n2 : Bool) (w : World)
    (hA : Hid (∀ w, Calls Tryz.prog 42 #[.agg #[.int .i64 a0, .int .i64 b0], .int .u64 a] w fun r w' => r = .returned (.tuple #[partsV K1 n1 E1 M1, .int .i64 0]) ∧ Below w.heap.size w w'))
    (hB : Hid (∀ w, Calls Tryz.prog 42 #[.agg #[.int .i64 a0, .int .i64 b0], .int .u64 b] w fun r w' => r = .returned (.tuple #[partsV K2 n2 E2 M2, .int .i64 0]) ∧ Below w.heap.size w w')) :
    Calls Tryz.prog 33 #[.agg #[.int .i64 a0, .int .i64 b0], .int .u64 a, .int .u64 b] w fun r w' => r = .returned (.tuple #[partsV K1 n1 E1 M1, partsV K2 n2 E2 M2, .int .i64 0]) ∧ Below w.heap.size w w' := by
  go_enter Tryz.func33, Tryz.ntmps33
  go_wp2_with fail
  refine (hA.out _).mono ?_
  rintro r w1 ⟨rfl, hb1⟩
  have hW : Below (w.alloc (.cells #[.int .i64 a0, .int .i64 b0] 37)).heap.size (w.alloc (.cells #[.int .i64 a0, .int .i64 b0] 37)) (((w.alloc (.cells #[.int .i64 a0, .int .i64 b0] 37)).alloc (.cells #[.int .i64 0, .bool false, .int .i64 0, .int .u64 0] 53)).alloc (.cells #[.int .i64 0, .bool false, .int .i64 0, .int .u64 0] 53)) := ((Below.refl _ _).alloc (Nat.le_refl _) _).alloc (by simp) _
  have hW0 : Below w.heap.size w (((w.alloc (.cells #[.int .i64 a0, .int .i64 b0] 37)).alloc (.cells #[.int .i64 0, .bool false, .int .i64 0, .int .u64 0] 53)).alloc (.cells #[.int .i64 0, .bool false, .int .i64 0, .int .u64 0] 53)) := (((Below.refl _ _).alloc (Nat.le_refl _) _).alloc (by simp) _).alloc (by simp; omega) _
  have d0 : w1.cell? ⟨w.heap.size, 0, none⟩ = some (.int .i64 a0) := cellLater hb1 (cellLater hW (by simp))
  have d1 : w1.cell? ⟨w.heap.size, 1, none⟩ = some (.int .i64 b0) := cellLater hb1 (cellLater hW (by simp))
  have z1 : ZPs w1 (w.heap.size + 1) := by
    have h := zp_of hb1 _ (zp_alloc (.cells #[.int .i64 0, .bool false, .int .i64 0, .int .u64 0] 53) _ (zp_fresh (w.alloc (.cells #[.int .i64 a0, .int .i64 b0] 37))))
    simpa using h
  have z2 : ZPs w1 (w.heap.size + 1 + 1) := by
    have h := zp_of hb1 _ (zp_fresh ((w.alloc (.cells #[.int .i64 a0, .int .i64 b0] 37)).alloc (.cells #[.int .i64 0, .bool false, .int .i64 0, .int .u64 0] 53)))
    simpa using h
  have HB1 := hidden (hW0.trans (hb1.mono hW0.size))
  have hlt : w.heap.size + 1 + 1 < w1.heap.size := World.block_lt_of_cell? _ _ z2.1
  have hlt0 : w.heap.size < w1.heap.size := by omega
  clear hb1 hW hW0
  have Z1 := hidden z1
  have Z2 := hidden z2
  clear z1 z2
  go_wp2_with fail
  refine (hB.out _).mono ?_
  rintro r w2 ⟨rfl, hb2⟩
  have hnew : Below w1.heap.size w1 (w1.alloc (.cells #[.int .i64 K1, .bool n1, .int .i64 E1, .int .u64 M1] 53)) := (Below.refl _ _).alloc (Nat.le_refl _) _
  have z1 := zp_alloc (.cells #[.int .i64 K2, .bool n2, .int .i64 E2, .int .u64 M2] 53) _ (zp_of hb2 _ (zp_of hnew _ Z1.out))
  have z2 := zp_alloc (.cells #[.int .i64 K2, .bool n2, .int .i64 E2, .int .u64 M2] 53) _ (zp_of hb2 _ (zp_of hnew _ Z2.out))
  have q0 : w2.cell? ⟨w1.heap.size, 0, none⟩ = some (.int .i64 K1) := cellLater hb2 (by simp)
  have q1 : w2.cell? ⟨w1.heap.size, 1, none⟩ = some (.bool n1) := cellLater hb2 (by simp)
  have q2 : w2.cell? ⟨w1.heap.size, 2, none⟩ = some (.int .i64 E1) := cellLater hb2 (by simp)
  have q3 : w2.cell? ⟨w1.heap.size, 3, none⟩ = some (.int .u64 M1) := cellLater hb2 (by simp)
  have hlt2 : w1.heap.size < w2.heap.size := World.block_lt_of_cell? _ _ q0
  have HB2 := hidden (((HB1.out.trans (hnew.mono HB1.out.size)).trans (hb2.mono (HB1.out.trans (hnew.mono HB1.out.size)).size)).alloc ((HB1.out.trans (hnew.mono HB1.out.size)).trans (hb2.mono (HB1.out.trans (hnew.mono HB1.out.size)).size)).size (.cells #[.int .i64 K2, .bool n2, .int .i64 E2, .int .u64 M2] 53))
  clear hb2 hnew HB1 Z1 Z2
  go_wp2_with fail
  have r0 : (w2.alloc (.cells #[.int .i64 K2, .bool n2, .int .i64 E2, .int .u64 M2] 53)).cell? ⟨w1.heap.size, 0, none⟩ = some (.int .i64 K1) := by rw [World.cell?_alloc_lt _ _ _ hlt2]; exact q0
  have r1 : (w2.alloc (.cells #[.int .i64 K2, .bool n2, .int .i64 E2, .int .u64 M2] 53)).cell? ⟨w1.heap.size, 1, none⟩ = some (.bool n1) := by rw [World.cell?_alloc_lt _ _ _ hlt2]; exact q1
  have r2 : (w2.alloc (.cells #[.int .i64 K2, .bool n2, .int .i64 E2, .int .u64 M2] 53)).cell? ⟨w1.heap.size, 2, none⟩ = some (.int .i64 E1) := by rw [World.cell?_alloc_lt _ _ _ hlt2]; exact q2
  have r3 : (w2.alloc (.cells #[.int .i64 K2, .bool n2, .int .i64 E2, .int .u64 M2] 53)).cell? ⟨w1.heap.size, 3, none⟩ = some (.int .u64 M1) := by rw [World.cell?_alloc_lt _ _ _ hlt2]; exact q3
  have r4 : (w2.alloc (.cells #[.int .i64 K2, .bool n2, .int .i64 E2, .int .u64 M2] 53)).cell? ⟨w2.heap.size, 0, none⟩ = some (.int .i64 K2) := by simp
  have r5 : (w2.alloc (.cells #[.int .i64 K2, .bool n2, .int .i64 E2, .int .u64 M2] 53)).cell? ⟨w2.heap.size, 1, none⟩ = some (.bool n2) := by simp
  have r6 : (w2.alloc (.cells #[.int .i64 K2, .bool n2, .int .i64 E2, .int .u64 M2] 53)).cell? ⟨w2.heap.size, 2, none⟩ = some (.int .i64 E2) := by simp
  have r7 : (w2.alloc (.cells #[.int .i64 K2, .bool n2, .int .i64 E2, .int .u64 M2] 53)).cell? ⟨w2.heap.size, 3, none⟩ = some (.int .u64 M2) := by simp
  clear q0 q1 q2 q3
  generalize w2.alloc (.cells #[.int .i64 K2, .bool n2, .int .i64 E2, .int .u64 M2] 53) = w5 at *
  obtain ⟨u0, u1, u2, u3, v0, v1, v2, v3⟩ := z1
  obtain ⟨s0, s1, s2, s3, t0, t1, t2, t3⟩ := z2
  have n1' : ¬ w.heap.size + 1 = w1.heap.size := by omega
  have n2' : ¬ w.heap.size + 1 = w2.heap.size := by omega
  have n3' : ¬ w.heap.size + 1 + 1 = w1.heap.size := by omega
  have n4' : ¬ w.heap.size + 1 + 1 = w2.heap.size := by omega
  go_region_held3 (fun w' => w'.cell? ⟨w1.heap.size, 0, none⟩ = some (.int .i64 K1) ∧ w'.cell? ⟨w1.heap.size, 1, none⟩ = some (.bool n1) ∧ w'.cell? ⟨w1.heap.size, 2, none⟩ = some (.int .i64 E1) ∧ w'.cell? ⟨w1.heap.size, 3, none⟩ = some (.int .u64 M1) ∧ w'.cell? ⟨w2.heap.size, 0, none⟩ = some (.int .i64 K2) ∧ w'.cell? ⟨w2.heap.size, 1, none⟩ = some (.bool n2) ∧ w'.cell? ⟨w2.heap.size, 2, none⟩ = some (.int .i64 E2) ∧ w'.cell? ⟨w2.heap.size, 3, none⟩ = some (.int .u64 M2)) (go_keep) (fail)
  all_goals
    go_wp2
    have nb : ¬ w.heap.size + 1 = w.heap.size + 1 + 1 := by omega
    have nb' : ¬ w.heap.size + 1 + 1 = w.heap.size + 1 := by omega
    obtain ⟨i0, i1, i2, i3⟩ := set4_at w5 (w.heap.size + 1) (.int .i64 K1) (.bool n1) (.int .i64 E1) (.int .u64 M1) _ _ _ _ u0 u1 u2 u3
    obtain ⟨y0, y1, y2, y3⟩ := set4_at (set4 w5 (w.heap.size + 1) (.int .i64 K1) (.bool n1) (.int .i64 E1) (.int .u64 M1)) (w.heap.size + 1 + 1) (.int .i64 K2) (.bool n2) (.int .i64 E2) (.int .u64 M2) _ _ _ _ ((set4_far _ _ _ _ _ _ _ _ nb).trans s0) ((set4_far _ _ _ _ _ _ _ _ nb).trans s1) ((set4_far _ _ _ _ _ _ _ _ nb).trans s2) ((set4_far _ _ _ _ _ _ _ _ nb).trans s3)
    have x0 := (set4_far (set4 w5 (w.heap.size + 1) (.int .i64 K1) (.bool n1) (.int .i64 E1) (.int .u64 M1)) (w.heap.size + 1 + 1) (.int .i64 K2) (.bool n2) (.int .i64 E2) (.int .u64 M2) _ 0 nb').trans i0
    have x1 := (set4_far (set4 w5 (w.heap.size + 1) (.int .i64 K1) (.bool n1) (.int .i64 E1) (.int .u64 M1)) (w.heap.size + 1 + 1) (.int .i64 K2) (.bool n2) (.int .i64 E2) (.int .u64 M2) _ 1 nb').trans i1
    have x2 := (set4_far (set4 w5 (w.heap.size + 1) (.int .i64 K1) (.bool n1) (.int .i64 E1) (.int .u64 M1)) (w.heap.size + 1 + 1) (.int .i64 K2) (.bool n2) (.int .i64 E2) (.int .u64 M2) _ 2 nb').trans i2
    have x3 := (set4_far (set4 w5 (w.heap.size + 1) (.int .i64 K1) (.bool n1) (.int .i64 E1) (.int .u64 M1)) (w.heap.size + 1 + 1) (.int .i64 K2) (.bool n2) (.int .i64 E2) (.int .u64 M2) _ 3 nb').trans i3
    have hF := set4_below (set4_below HB2.out (w.heap.size + 1) (by omega) (.int .i64 K1) (.bool n1) (.int .i64 E1) (.int .u64 M1)) (w.heap.size + 1 + 1) (by omega) (.int .i64 K2) (.bool n2) (.int .i64 E2) (.int .u64 M2)
    change bodyPost _ _ _ _ _ (set4 (set4 w5 (w.heap.size + 1) (.int .i64 K1) (.bool n1) (.int .i64 E1) (.int .u64 M1)) (w.heap.size + 1 + 1) (.int .i64 K2) (.bool n2) (.int .i64 E2) (.int .u64 M2)).drew
    generalize (set4 (set4 w5 (w.heap.size + 1) (.int .i64 K1) (.bool n1) (.int .i64 E1) (.int .u64 M1)) (w.heap.size + 1 + 1) (.int .i64 K2) (.bool n2) (.int .i64 E2) (.int .u64 M2)) = wf at *
    clear r0 r1 r2 r3 r4 r5 r6 r7 u0 u1 u2 u3 v0 v1 v2 v3 s0 s1 s2 s3 t0 t1 t2 t3 i0 i1 i2 i3
    refine bodyPost_ret (v := .tuple #[partsV K1 n1 E1 M1, partsV K2 n2 E2 M2, .int .i64 0]) (by simp [results, Tryz.results33, go_sem, x0, x1, x2, x3, y0, y1, y2, y3]) rfl ⟨rfl, hF.drew⟩
end Go.Proofs.YtbfbdemknggpkaaGreatDoor
