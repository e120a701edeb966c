/- The document's Sub (package grottoref03). -/
import Derived.Test.YtfjpiahgnojlhaaGreatDoorS3ij
namespace Go.Proofs.YtfjpiahgnojlhaaGreatDoor
open Go.RowKit
set_option maxRecDepth 100000
set_option maxHeartbeats 1000000
set_option linter.unusedVariables false

theorem rsub_err (m x a b : Int) (w : World)
    (HO : Hid (∀ w, Calls Tryz.prog 29 #[.agg #[.int .i64 m, .int .i64 x], .int .u64 b] w fun r w' => r = .returned (.tuple #[partsV 0 false 0 0, .int .i64 1]) ∧ Below w.heap.size w w')) :
    Calls Tryz.prog 12 #[.agg #[.int .i64 m, .int .i64 x], .int .u64 a, .int .u64 b] w fun r w' => r = .returned (.tuple #[.int .u64 0, .int .i64 1]) ∧ Below w.heap.size w w' := by
  go_enter Tryz.func12, Tryz.ntmps12
  go_wp2_with fail
  refine (HO.out _).mono ?_
  rintro r w1 ⟨rfl, hb1⟩
  have HB1 := hidden (box_below _ hb1)
  clear hb1
  go_wp2
  go_ret2
  exact ⟨rfl, HB1.out.alloc HB1.out.size _⟩
theorem rsub_walk (m x a b TB R g K E M : Int) (n : Bool) (w : World)
    (HO : Hid (∀ w, Calls Tryz.prog 29 #[.agg #[.int .i64 m, .int .i64 x], .int .u64 b] w fun r w' => r = .returned (.tuple #[partsV K n E M, .int .i64 0]) ∧ Below w.heap.size w w'))
    (HT : Hid (∀ w, Calls Tryz.prog 31 #[.agg #[.int .i64 m, .int .i64 x], .int .u64 b] w fun r w' => r = .returned (.int .u64 TB) ∧ Below w.heap.size w w'))
    (HA : Hid (∀ w, Calls Tryz.prog 30 #[.agg #[.int .i64 m, .int .i64 x], .int .u64 a, .int .u64 TB] w fun r w' => r = .returned (.tuple #[.int .u64 R, .int .i64 g]) ∧ Below w.heap.size w w')) :
    Calls Tryz.prog 12 #[.agg #[.int .i64 m, .int .i64 x], .int .u64 a, .int .u64 b] w fun r w' => r = .returned (.tuple #[.int .u64 R, .int .i64 g]) ∧ Below w.heap.size w w' := by
  go_enter Tryz.func12, Tryz.ntmps12
  go_wp2_with fail
  refine (HO.out _).mono ?_
  rintro r w1 ⟨rfl, hb1⟩
  have d0 : w1.cell? ⟨w.heap.size, 0, none⟩ = some (.int .i64 m) := cellLater hb1 (by simp)
  have d1 : w1.cell? ⟨w.heap.size, 1, none⟩ = some (.int .i64 x) := cellLater hb1 (by simp)
  have hZ : Below w1.heap.size w1 (w1.alloc (.cells #[.int .i64 K, .bool n, .int .i64 E, .int .u64 M] 53)) := (Below.refl _ _).alloc (Nat.le_refl _) _
  have c0 := cellLater hZ d0
  have c1 := cellLater hZ d1
  have hB := box_below _ hb1
  have HB := hidden (hB.trans (hZ.mono hB.size))
  clear hB hZ hb1 d0 d1
  go_upto_region 2 with fail
  change Code.wp _ _ _ _ (w1.alloc (.cells #[.int .i64 K, .bool n, .int .i64 E, .int .u64 M] 53))
  generalize w1.alloc (.cells #[.int .i64 K, .bool n, .int .i64 E, .int .u64 M] 53) = w5 at *
  go_upto_region 4 with fail
  go_region_held3 (fun w' => w'.cell? ⟨w.heap.size, 0, none⟩ = some (.int .i64 m) ∧ w'.cell? ⟨w.heap.size, 1, none⟩ = some (.int .i64 x)) (go_keep) (first | (go_at_call 31; refine (HT.out _).mono ?_; rintro r w9 ⟨rfl, hb⟩; have c0 : w9.cell? ⟨w.heap.size, 0, none⟩ = some (.int .i64 m) := cellLater hb (by go_keep); have c1 : w9.cell? ⟨w.heap.size, 1, none⟩ = some (.int .i64 x) := cellLater hb (by go_keep); have HB : Hid (Below w.heap.size w w9) := hidden (by first | exact HB.out.trans (hb.mono HB.out.size) | exact HB.out.drew.trans (hb.mono HB.out.drew.size)); clear hb) | (go_at_call 30; refine (HA.out _).mono ?_; rintro r w9 ⟨rfl, hb⟩; have c0 : w9.cell? ⟨w.heap.size, 0, none⟩ = some (.int .i64 m) := cellLater hb (by go_keep); have c1 : w9.cell? ⟨w.heap.size, 1, none⟩ = some (.int .i64 x) := cellLater hb (by go_keep); have HB : Hid (Below w.heap.size w w9) := hidden (by first | exact HB.out.trans (hb.mono HB.out.size) | exact HB.out.drew.trans (hb.mono HB.out.drew.size)); clear hb))
  all_goals
    go_wp2
    go_ret2
    exact ⟨rfl, by first | exact HB.out | exact HB.out.drew⟩
end Go.Proofs.YtfjpiahgnojlhaaGreatDoor
