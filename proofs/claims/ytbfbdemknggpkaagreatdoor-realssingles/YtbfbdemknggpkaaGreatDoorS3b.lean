/- Contract of the document's open (package grottoref03) where one of two patterns may not be opened. -/
import Derived.Test.YtbfbdemknggpkaaGreatDoorS3a
namespace Go.Proofs.YtbfbdemknggpkaaGreatDoor
open Go.RowKit
set_option maxRecDepth 100000
set_option maxHeartbeats 1000000
set_option linter.unusedVariables false

theorem open2_no (a0 b0 a b K1 E1 M1 K2 E2 M2 g1 g2 : Int) (n1 n2 : Bool) (w : World) (hg : (g1 = 1 ∧ (g2 = 0 ∨ g2 = 1)) ∨ (g1 = 0 ∧ g2 = 1))
    (hA : Hid (∀ w, Calls Tryz.prog 42 #[.agg #[.int .i64 a0, .int .i64 b0], .int .u64 a] w fun r w' => r = .returned (.tuple #[partsV K1 n1 E1 M1, .int .i64 g1]) ∧ Below w.heap.size w w'))
    (hB : Hid (∀ w, Calls Tryz.prog 42 #[.agg #[.int .i64 a0, .int .i64 b0], .int .u64 b] w fun r w' => r = .returned (.tuple #[partsV K2 n2 E2 M2, .int .i64 g2]) ∧ Below w.heap.size w w')) :
    Calls Tryz.prog 33 #[.agg #[.int .i64 a0, .int .i64 b0], .int .u64 a, .int .u64 b] w fun r w' => r = .returned (.tuple #[partsV 0 false 0 0, partsV 0 false 0 0, .int .i64 1]) ∧ Below w.heap.size w w' := by
  go_enter Tryz.func33, Tryz.ntmps33
  go_wp2_with fail
  refine (hA.out _).mono ?_
  rintro r w1 ⟨rfl, hb1⟩
  have hW : Below (w.alloc (.cells #[.int .i64 a0, .int .i64 b0] 37)).heap.size (w.alloc (.cells #[.int .i64 a0, .int .i64 b0] 37)) (((w.alloc (.cells #[.int .i64 a0, .int .i64 b0] 37)).alloc (.cells #[.int .i64 0, .bool false, .int .i64 0, .int .u64 0] 53)).alloc (.cells #[.int .i64 0, .bool false, .int .i64 0, .int .u64 0] 53)) := ((Below.refl _ _).alloc (Nat.le_refl _) _).alloc (by simp) _
  have hW0 : Below w.heap.size w (((w.alloc (.cells #[.int .i64 a0, .int .i64 b0] 37)).alloc (.cells #[.int .i64 0, .bool false, .int .i64 0, .int .u64 0] 53)).alloc (.cells #[.int .i64 0, .bool false, .int .i64 0, .int .u64 0] 53)) := (((Below.refl _ _).alloc (Nat.le_refl _) _).alloc (by simp) _).alloc (by simp; omega) _
  have d0 : w1.cell? ⟨w.heap.size, 0, none⟩ = some (.int .i64 a0) := cellLater hb1 (cellLater hW (by simp))
  have d1 : w1.cell? ⟨w.heap.size, 1, none⟩ = some (.int .i64 b0) := cellLater hb1 (cellLater hW (by simp))
  have z1 : ZPs w1 (w.heap.size + 1) := by
    have h := zp_of hb1 _ (zp_alloc (.cells #[.int .i64 0, .bool false, .int .i64 0, .int .u64 0] 53) _ (zp_fresh (w.alloc (.cells #[.int .i64 a0, .int .i64 b0] 37))))
    simpa using h
  have z2 : ZPs w1 (w.heap.size + 1 + 1) := by
    have h := zp_of hb1 _ (zp_fresh ((w.alloc (.cells #[.int .i64 a0, .int .i64 b0] 37)).alloc (.cells #[.int .i64 0, .bool false, .int .i64 0, .int .u64 0] 53)))
    simpa using h
  have HB1 := hidden (hW0.trans (hb1.mono hW0.size))
  have hlt : w.heap.size + 1 + 1 < w1.heap.size := World.block_lt_of_cell? _ _ z2.1
  have hlt0 : w.heap.size < w1.heap.size := by omega
  clear hb1 hW hW0
  have Z1 := hidden z1
  have Z2 := hidden z2
  clear z1 z2
  go_wp2_with fail
  refine (hB.out _).mono ?_
  rintro r w2 ⟨rfl, hb2⟩
  have hnew : Below w1.heap.size w1 (w1.alloc (.cells #[.int .i64 K1, .bool n1, .int .i64 E1, .int .u64 M1] 53)) := (Below.refl _ _).alloc (Nat.le_refl _) _
  have z1 := zp_alloc (.cells #[.int .i64 K2, .bool n2, .int .i64 E2, .int .u64 M2] 53) _ (zp_of hb2 _ (zp_of hnew _ Z1.out))
  have z2 := zp_alloc (.cells #[.int .i64 K2, .bool n2, .int .i64 E2, .int .u64 M2] 53) _ (zp_of hb2 _ (zp_of hnew _ Z2.out))
  have HB2 := hidden (((HB1.out.trans (hnew.mono HB1.out.size)).trans (hb2.mono (HB1.out.trans (hnew.mono HB1.out.size)).size)).alloc ((HB1.out.trans (hnew.mono HB1.out.size)).trans (hb2.mono (HB1.out.trans (hnew.mono HB1.out.size)).size)).size (.cells #[.int .i64 K2, .bool n2, .int .i64 E2, .int .u64 M2] 53))
  clear hb2 hnew HB1 Z1 Z2
  have Y1 := hidden z1
  have Y2 := hidden z2
  clear z1 z2
  go_upto_region 3 with fail
  generalize w2.alloc (.cells #[.int .i64 K2, .bool n2, .int .i64 E2, .int .u64 M2] 53) = w5 at *
  obtain ⟨u0, u1, u2, u3, v0, v1, v2, v3⟩ := Y1.out
  obtain ⟨s0, s1, s2, s3, t0, t1, t2, t3⟩ := Y2.out
  rcases hg with ⟨rfl, rfl | rfl⟩ | ⟨rfl, rfl⟩
  all_goals
    go_wp2
    have nb : ¬ w.heap.size + 1 = w.heap.size + 1 + 1 := by omega
    have nb' : ¬ w.heap.size + 1 + 1 = w.heap.size + 1 := by omega
    obtain ⟨i0, i1, i2, i3⟩ := set4_at w5 (w.heap.size + 1) (.int .i64 0) (.bool false) (.int .i64 0) (.int .u64 0) _ _ _ _ u0 u1 u2 u3
    obtain ⟨y0, y1, y2, y3⟩ := set4_at (set4 w5 (w.heap.size + 1) (.int .i64 0) (.bool false) (.int .i64 0) (.int .u64 0)) (w.heap.size + 1 + 1) (.int .i64 0) (.bool false) (.int .i64 0) (.int .u64 0) _ _ _ _ ((set4_far _ _ _ _ _ _ _ _ nb).trans s0) ((set4_far _ _ _ _ _ _ _ _ nb).trans s1) ((set4_far _ _ _ _ _ _ _ _ nb).trans s2) ((set4_far _ _ _ _ _ _ _ _ nb).trans s3)
    have x0 := (set4_far (set4 w5 (w.heap.size + 1) (.int .i64 0) (.bool false) (.int .i64 0) (.int .u64 0)) (w.heap.size + 1 + 1) (.int .i64 0) (.bool false) (.int .i64 0) (.int .u64 0) _ 0 nb').trans i0
    have x1 := (set4_far (set4 w5 (w.heap.size + 1) (.int .i64 0) (.bool false) (.int .i64 0) (.int .u64 0)) (w.heap.size + 1 + 1) (.int .i64 0) (.bool false) (.int .i64 0) (.int .u64 0) _ 1 nb').trans i1
    have x2 := (set4_far (set4 w5 (w.heap.size + 1) (.int .i64 0) (.bool false) (.int .i64 0) (.int .u64 0)) (w.heap.size + 1 + 1) (.int .i64 0) (.bool false) (.int .i64 0) (.int .u64 0) _ 2 nb').trans i2
    have x3 := (set4_far (set4 w5 (w.heap.size + 1) (.int .i64 0) (.bool false) (.int .i64 0) (.int .u64 0)) (w.heap.size + 1 + 1) (.int .i64 0) (.bool false) (.int .i64 0) (.int .u64 0) _ 3 nb').trans i3
    have hF := set4_below (set4_below HB2.out (w.heap.size + 1) (by omega) (.int .i64 0) (.bool false) (.int .i64 0) (.int .u64 0)) (w.heap.size + 1 + 1) (by omega) (.int .i64 0) (.bool false) (.int .i64 0) (.int .u64 0)
    change bodyPost _ _ _ _ _ (set4 (set4 w5 (w.heap.size + 1) (.int .i64 0) (.bool false) (.int .i64 0) (.int .u64 0)) (w.heap.size + 1 + 1) (.int .i64 0) (.bool false) (.int .i64 0) (.int .u64 0))
    generalize (set4 (set4 w5 (w.heap.size + 1) (.int .i64 0) (.bool false) (.int .i64 0) (.int .u64 0)) (w.heap.size + 1 + 1) (.int .i64 0) (.bool false) (.int .i64 0) (.int .u64 0)) = wf at *
    clear u0 u1 u2 u3 v0 v1 v2 v3 s0 s1 s2 s3 t0 t1 t2 t3 i0 i1 i2 i3
    refine bodyPost_ret (v := .tuple #[partsV 0 false 0 0, partsV 0 false 0 0, .int .i64 1]) (by simp [results, Tryz.results33, go_sem, x0, x1, x2, x3, y0, y1, y2, y3]) rfl ⟨rfl, hF⟩
end Go.Proofs.YtbfbdemknggpkaaGreatDoor
