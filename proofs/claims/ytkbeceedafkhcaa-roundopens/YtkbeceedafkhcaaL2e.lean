/- The walk of RoundOpens: what any pattern of any format says, and the patterns of nothing, infinity and no number, are as the page says. -/
import Derived.Test.YtkbeceedafkhcaaL2d
import Derived.Test.YtkbeceedafkhcaaL2a
import Derived.Test.YtkbeceedafkhcaaP2n
namespace Go.Proofs.Ytkbeceedafkhcaa
open Go.RowKit
set_option maxHeartbeats 4000000
set_option linter.unusedVariables false

theorem opens_bad (a0 b0 a1 K E M g : Int) (ng neg : Bool) (w : World) (hg : g = 0 ∨ g = 1) (hO : Hid (∀ w, Calls Try.prog 9 #[.agg #[.int .i64 a0, .int .i64 b0], .int .u64 a1] w fun r w' => r = .returned (.tuple #[partsV K ng E M, .int .i64 g]) ∧ Below w.heap.size w w'))
    (hR : Hid (∀ w, Calls Try.prog 10 #[.agg #[.int .i64 a0, .int .i64 b0], .int .u64 a1] w fun r w' => r = .returned (.tuple #[partsV K ng E M, .int .i64 g]) ∧ Below w.heap.size w w'))
    (hC : Hid (∀ w, Calls Try.prog 12 #[.agg #[.int .i64 a0, .int .i64 b0]] w fun r w' => r = .returned (.int .i64 1) ∧ w' = w.alloc (.cells #[.int .i64 a0, .int .i64 b0] 23))) (hD : Hid (∀ w, Calls Try.prog 13 #[.agg #[.int .i64 a0, .int .i64 b0]] w fun r w' => r = .returned (.int .i64 1) ∧ w' = w.alloc (.cells #[.int .i64 a0, .int .i64 b0] 23))) (hg1 : g = 1)
    (hN : Hid (∀ w, Calls Try.prog 14 #[.agg #[.int .i64 a0, .int .i64 b0]] w fun r w' => r = .returned (.int .u64 0) ∧ Below w.heap.size w w')) (hI : Hid (∀ w, Calls Try.prog 16 #[.agg #[.int .i64 a0, .int .i64 b0], .bool neg] w fun r w' => r = .returned (.int .u64 0) ∧ Below w.heap.size w w')) (hZ : Hid (∀ w, Calls Try.prog 18 #[.agg #[.int .i64 a0, .int .i64 b0], .bool neg] w fun r w' => r = .returned (.int .u64 0) ∧ Below w.heap.size w w')) :
    Calls Try.prog 3 #[.agg #[.int .i64 a0, .int .i64 b0], .int .u64 a1, .bool neg] w fun r w' => r = .returned (.bool true) ∧ Below w.heap.size w w' := by
  subst hg1
  clear hg
  have HL := hidden live_any
  have HM1 := hidden (fun w => num_any 1 w (by decide) (by decide))
  have HM := hidden (fun w => num_any 0 w (by decide) (by decide))
  go_enter Try.func3, Try.ntmps3
  go_wp2_with fail
  refine (hO.out _).mono ?_
  rintro r w1 ⟨rfl, hb1⟩
  have d0 : w1.cell? ⟨w.heap.size, 0, none⟩ = some (.int .i64 a0) := cellLater hb1 (by simp)
  have d1 : w1.cell? ⟨w.heap.size, 1, none⟩ = some (.int .i64 b0) := cellLater hb1 (by simp)
  have hlt : w.heap.size < w1.heap.size := World.block_lt_of_cell? _ _ d0
  have HB1 := hidden ((box_below _ hb1).alloc (box_below _ hb1).size (.cells #[.int .i64 K, .bool ng, .int .i64 E, .int .u64 M] 26))
  clear hb1
  go_wp2_with fail
  refine (hR.out _).mono ?_
  rintro r w2 ⟨rfl, hb2⟩
  have q0 : w2.cell? ⟨w.heap.size, 0, none⟩ = some (.int .i64 a0) := cellLater hb2 (by rw [World.cell?_alloc_lt _ _ _ hlt]; exact d0)
  have q1 : w2.cell? ⟨w.heap.size, 1, none⟩ = some (.int .i64 b0) := cellLater hb2 (by rw [World.cell?_alloc_lt _ _ _ hlt]; exact d1)
  have q2 : w2.cell? ⟨w1.heap.size, 0, none⟩ = some (.int .i64 K) := cellLater hb2 (by simp)
  have q3 : w2.cell? ⟨w1.heap.size, 1, none⟩ = some (.bool ng) := cellLater hb2 (by simp)
  have q4 : w2.cell? ⟨w1.heap.size, 2, none⟩ = some (.int .i64 E) := cellLater hb2 (by simp)
  have q5 : w2.cell? ⟨w1.heap.size, 3, none⟩ = some (.int .u64 M) := cellLater hb2 (by simp)
  have hlt2 : w1.heap.size < w2.heap.size := World.block_lt_of_cell? _ _ q2
  have hlt3 : w.heap.size < w2.heap.size := World.block_lt_of_cell? _ _ q0
  replace HB1 := hidden (HB1.out.trans (hb2.mono HB1.out.size))
  clear hb2 d0 d1
  have HB2 := hidden (HB1.out.alloc HB1.out.size (.cells #[.int .i64 K, .bool ng, .int .i64 E, .int .u64 M] 26))
  clear HB1
  go_wp2_with fail
  have r0 : (w2.alloc (.cells #[.int .i64 K, .bool ng, .int .i64 E, .int .u64 M] 26)).cell? ⟨w.heap.size, 0, none⟩ = some (.int .i64 a0) := by rw [World.cell?_alloc_lt _ _ _ hlt3]; exact q0
  have r1 : (w2.alloc (.cells #[.int .i64 K, .bool ng, .int .i64 E, .int .u64 M] 26)).cell? ⟨w.heap.size, 1, none⟩ = some (.int .i64 b0) := by rw [World.cell?_alloc_lt _ _ _ hlt3]; exact q1
  have r2 : (w2.alloc (.cells #[.int .i64 K, .bool ng, .int .i64 E, .int .u64 M] 26)).cell? ⟨w1.heap.size, 0, none⟩ = some (.int .i64 K) := by rw [World.cell?_alloc_lt _ _ _ hlt2]; exact q2
  have r3 : (w2.alloc (.cells #[.int .i64 K, .bool ng, .int .i64 E, .int .u64 M] 26)).cell? ⟨w1.heap.size, 1, none⟩ = some (.bool ng) := by rw [World.cell?_alloc_lt _ _ _ hlt2]; exact q3
  have r4 : (w2.alloc (.cells #[.int .i64 K, .bool ng, .int .i64 E, .int .u64 M] 26)).cell? ⟨w1.heap.size, 2, none⟩ = some (.int .i64 E) := by rw [World.cell?_alloc_lt _ _ _ hlt2]; exact q4
  have r5 : (w2.alloc (.cells #[.int .i64 K, .bool ng, .int .i64 E, .int .u64 M] 26)).cell? ⟨w1.heap.size, 3, none⟩ = some (.int .u64 M) := by rw [World.cell?_alloc_lt _ _ _ hlt2]; exact q5
  have r6 : (w2.alloc (.cells #[.int .i64 K, .bool ng, .int .i64 E, .int .u64 M] 26)).cell? ⟨w2.heap.size, 0, none⟩ = some (.int .i64 K) := by simp
  have r7 : (w2.alloc (.cells #[.int .i64 K, .bool ng, .int .i64 E, .int .u64 M] 26)).cell? ⟨w2.heap.size, 1, none⟩ = some (.bool ng) := by simp
  have r8 : (w2.alloc (.cells #[.int .i64 K, .bool ng, .int .i64 E, .int .u64 M] 26)).cell? ⟨w2.heap.size, 2, none⟩ = some (.int .i64 E) := by simp
  have r9 : (w2.alloc (.cells #[.int .i64 K, .bool ng, .int .i64 E, .int .u64 M] 26)).cell? ⟨w2.heap.size, 3, none⟩ = some (.int .u64 M) := by simp
  clear q0 q1 q2 q3 q4 q5
  generalize w2.alloc (.cells #[.int .i64 K, .bool ng, .int .i64 E, .int .u64 M] 26) = w5 at *
  go_region_held3 (fun w' => w'.cell? ⟨w.heap.size, 0, none⟩ = some (.int .i64 a0) ∧ w'.cell? ⟨w.heap.size, 1, none⟩ = some (.int .i64 b0) ∧ w'.cell? ⟨w1.heap.size, 0, none⟩ = some (.int .i64 K) ∧ w'.cell? ⟨w1.heap.size, 1, none⟩ = some (.bool ng) ∧ w'.cell? ⟨w1.heap.size, 2, none⟩ = some (.int .i64 E) ∧ w'.cell? ⟨w1.heap.size, 3, none⟩ = some (.int .u64 M) ∧ w'.cell? ⟨w2.heap.size, 0, none⟩ = some (.int .i64 K) ∧ w'.cell? ⟨w2.heap.size, 1, none⟩ = some (.bool ng) ∧ w'.cell? ⟨w2.heap.size, 2, none⟩ = some (.int .i64 E) ∧ w'.cell? ⟨w2.heap.size, 3, none⟩ = some (.int .u64 M)) (go_keep) (first | (go_at_call_of 11 (Value.int IntKind.i64 0); refine (HM.out _).mono ?_; rintro r w7 ⟨rfl, hw⟩; obtain rfl := hw.symm) | (go_at_call_of 11 (Value.int IntKind.i64 1); refine (HM1.out _).mono ?_; rintro r w7 ⟨rfl, hw⟩; obtain rfl := hw.symm) | (go_at_call 12; refine (hC.out _).mono ?_; rintro r w8 ⟨rfl, hw⟩; subst hw) | (go_at_call 13; refine (hD.out _).mono ?_; rintro r w8 ⟨rfl, hw⟩; subst hw))
  have s0 : (((w5.alloc (.cells #[.int .i64 a0, .int .i64 b0] 23)).alloc (.cells #[.int .i64 a0, .int .i64 b0] 23)).drew).cell? ⟨w.heap.size, 0, none⟩ = some (.int .i64 a0) := by simp [*]
  have s1 : (((w5.alloc (.cells #[.int .i64 a0, .int .i64 b0] 23)).alloc (.cells #[.int .i64 a0, .int .i64 b0] 23)).drew).cell? ⟨w.heap.size, 1, none⟩ = some (.int .i64 b0) := by simp [*]
  have HB3 := hidden ((((HB2.out).alloc HB2.out.size (.cells #[.int .i64 a0, .int .i64 b0] 23)).alloc ((HB2.out).alloc HB2.out.size (.cells #[.int .i64 a0, .int .i64 b0] 23)).size (.cells #[.int .i64 a0, .int .i64 b0] 23)).drew)
  generalize ((w5.alloc (.cells #[.int .i64 a0, .int .i64 b0] 23)).alloc (.cells #[.int .i64 a0, .int .i64 b0] 23)).drew = w6 at *
  clear r0 r1 r2 r3 r4 r5 r6 r7 r8 r9 HB2
  go_wp2_with fail
  refine (hD.out _).mono ?_
  rintro r w7 ⟨rfl, hw⟩
  have hb : Below w6.heap.size w6 w7 := by subst hw; exact (Below.refl _ _).alloc (Nat.le_refl _) _
  replace s0 := cellLater hb s0
  replace s1 := cellLater hb s1
  replace HB3 := hidden (HB3.out.trans (hb.mono HB3.out.size))
  clear hb hw
  go_wp2_with fail
  refine (hN.out _).mono ?_
  rintro r w8 ⟨rfl, hb⟩
  replace s0 := cellLater hb s0
  replace s1 := cellLater hb s1
  replace HB3 := hidden (HB3.out.trans (hb.mono HB3.out.size))
  clear hb
  go_wp2_with fail
  refine (hI.out _).mono ?_
  rintro r w9 ⟨rfl, hb⟩
  replace s0 := cellLater hb s0
  replace s1 := cellLater hb s1
  replace HB3 := hidden (HB3.out.trans (hb.mono HB3.out.size))
  clear hb
  go_wp2_with fail
  refine (hZ.out _).mono ?_
  rintro r w10 ⟨rfl, hb⟩
  replace s0 := cellLater hb s0
  replace s1 := cellLater hb s1
  replace HB3 := hidden (HB3.out.trans (hb.mono HB3.out.size))
  clear hb
  go_wp2_with (go_at_call 20; refine (HL.out _).mono ?_; rintro r w11 ⟨rfl, hb4⟩)
  go_ret
  exact ⟨rfl, HB3.out.trans (hb4.mono HB3.out.size)⟩
theorem opens_ok (a0 b0 a1 K E M g : Int) (ng neg : Bool) (w : World) (hg : g = 0 ∨ g = 1) (hO : Hid (∀ w, Calls Try.prog 9 #[.agg #[.int .i64 a0, .int .i64 b0], .int .u64 a1] w fun r w' => r = .returned (.tuple #[partsV K ng E M, .int .i64 g]) ∧ Below w.heap.size w w'))
    (hR : Hid (∀ w, Calls Try.prog 10 #[.agg #[.int .i64 a0, .int .i64 b0], .int .u64 a1] w fun r w' => r = .returned (.tuple #[partsV K ng E M, .int .i64 g]) ∧ Below w.heap.size w w'))
    (N I Z : Int) (hC : Hid (∀ w, Calls Try.prog 12 #[.agg #[.int .i64 a0, .int .i64 b0]] w fun r w' => r = .returned (.int .i64 0) ∧ w' = w.alloc (.cells #[.int .i64 a0, .int .i64 b0] 23))) (hD : Hid (∀ w, Calls Try.prog 13 #[.agg #[.int .i64 a0, .int .i64 b0]] w fun r w' => r = .returned (.int .i64 0) ∧ w' = w.alloc (.cells #[.int .i64 a0, .int .i64 b0] 23)))
    (hN : Hid (∀ w, Calls Try.prog 14 #[.agg #[.int .i64 a0, .int .i64 b0]] w fun r w' => r = .returned (.int .u64 N) ∧ Below w.heap.size w w')) (hI : Hid (∀ w, Calls Try.prog 16 #[.agg #[.int .i64 a0, .int .i64 b0], .bool neg] w fun r w' => r = .returned (.int .u64 I) ∧ Below w.heap.size w w')) (hZ : Hid (∀ w, Calls Try.prog 18 #[.agg #[.int .i64 a0, .int .i64 b0], .bool neg] w fun r w' => r = .returned (.int .u64 Z) ∧ Below w.heap.size w w'))
    (hN2 : Hid (∀ w, Calls Try.prog 15 #[.agg #[.int .i64 a0, .int .i64 b0]] w fun r w' => r = .returned (.int .u64 N) ∧ Below w.heap.size w w')) (hI2 : Hid (∀ w, Calls Try.prog 17 #[.agg #[.int .i64 a0, .int .i64 b0], .bool neg] w fun r w' => r = .returned (.int .u64 I) ∧ Below w.heap.size w w')) (hZ2 : Hid (∀ w, Calls Try.prog 19 #[.agg #[.int .i64 a0, .int .i64 b0], .bool neg] w fun r w' => r = .returned (.int .u64 Z) ∧ Below w.heap.size w w')) :
    Calls Try.prog 3 #[.agg #[.int .i64 a0, .int .i64 b0], .int .u64 a1, .bool neg] w fun r w' => r = .returned (.bool true) ∧ Below w.heap.size w w' := by
  rcases hg with rfl | rfl
  · have HL := hidden live_any
    have HM1 := hidden (fun w => num_any 1 w (by decide) (by decide))
    have HM := hidden (fun w => num_any 0 w (by decide) (by decide))
    go_enter Try.func3, Try.ntmps3
    go_wp2_with fail
    refine (hO.out _).mono ?_
    rintro r w1 ⟨rfl, hb1⟩
    have d0 : w1.cell? ⟨w.heap.size, 0, none⟩ = some (.int .i64 a0) := cellLater hb1 (by simp)
    have d1 : w1.cell? ⟨w.heap.size, 1, none⟩ = some (.int .i64 b0) := cellLater hb1 (by simp)
    have hlt : w.heap.size < w1.heap.size := World.block_lt_of_cell? _ _ d0
    have HB1 := hidden ((box_below _ hb1).alloc (box_below _ hb1).size (.cells #[.int .i64 K, .bool ng, .int .i64 E, .int .u64 M] 26))
    clear hb1
    go_wp2_with fail
    refine (hR.out _).mono ?_
    rintro r w2 ⟨rfl, hb2⟩
    have q0 : w2.cell? ⟨w.heap.size, 0, none⟩ = some (.int .i64 a0) := cellLater hb2 (by rw [World.cell?_alloc_lt _ _ _ hlt]; exact d0)
    have q1 : w2.cell? ⟨w.heap.size, 1, none⟩ = some (.int .i64 b0) := cellLater hb2 (by rw [World.cell?_alloc_lt _ _ _ hlt]; exact d1)
    have q2 : w2.cell? ⟨w1.heap.size, 0, none⟩ = some (.int .i64 K) := cellLater hb2 (by simp)
    have q3 : w2.cell? ⟨w1.heap.size, 1, none⟩ = some (.bool ng) := cellLater hb2 (by simp)
    have q4 : w2.cell? ⟨w1.heap.size, 2, none⟩ = some (.int .i64 E) := cellLater hb2 (by simp)
    have q5 : w2.cell? ⟨w1.heap.size, 3, none⟩ = some (.int .u64 M) := cellLater hb2 (by simp)
    have hlt2 : w1.heap.size < w2.heap.size := World.block_lt_of_cell? _ _ q2
    have hlt3 : w.heap.size < w2.heap.size := World.block_lt_of_cell? _ _ q0
    replace HB1 := hidden (HB1.out.trans (hb2.mono HB1.out.size))
    clear hb2 d0 d1
    have HB2 := hidden (HB1.out.alloc HB1.out.size (.cells #[.int .i64 K, .bool ng, .int .i64 E, .int .u64 M] 26))
    clear HB1
    go_wp2_with fail
    have r0 : (w2.alloc (.cells #[.int .i64 K, .bool ng, .int .i64 E, .int .u64 M] 26)).cell? ⟨w.heap.size, 0, none⟩ = some (.int .i64 a0) := by rw [World.cell?_alloc_lt _ _ _ hlt3]; exact q0
    have r1 : (w2.alloc (.cells #[.int .i64 K, .bool ng, .int .i64 E, .int .u64 M] 26)).cell? ⟨w.heap.size, 1, none⟩ = some (.int .i64 b0) := by rw [World.cell?_alloc_lt _ _ _ hlt3]; exact q1
    have r2 : (w2.alloc (.cells #[.int .i64 K, .bool ng, .int .i64 E, .int .u64 M] 26)).cell? ⟨w1.heap.size, 0, none⟩ = some (.int .i64 K) := by rw [World.cell?_alloc_lt _ _ _ hlt2]; exact q2
    have r3 : (w2.alloc (.cells #[.int .i64 K, .bool ng, .int .i64 E, .int .u64 M] 26)).cell? ⟨w1.heap.size, 1, none⟩ = some (.bool ng) := by rw [World.cell?_alloc_lt _ _ _ hlt2]; exact q3
    have r4 : (w2.alloc (.cells #[.int .i64 K, .bool ng, .int .i64 E, .int .u64 M] 26)).cell? ⟨w1.heap.size, 2, none⟩ = some (.int .i64 E) := by rw [World.cell?_alloc_lt _ _ _ hlt2]; exact q4
    have r5 : (w2.alloc (.cells #[.int .i64 K, .bool ng, .int .i64 E, .int .u64 M] 26)).cell? ⟨w1.heap.size, 3, none⟩ = some (.int .u64 M) := by rw [World.cell?_alloc_lt _ _ _ hlt2]; exact q5
    have r6 : (w2.alloc (.cells #[.int .i64 K, .bool ng, .int .i64 E, .int .u64 M] 26)).cell? ⟨w2.heap.size, 0, none⟩ = some (.int .i64 K) := by simp
    have r7 : (w2.alloc (.cells #[.int .i64 K, .bool ng, .int .i64 E, .int .u64 M] 26)).cell? ⟨w2.heap.size, 1, none⟩ = some (.bool ng) := by simp
    have r8 : (w2.alloc (.cells #[.int .i64 K, .bool ng, .int .i64 E, .int .u64 M] 26)).cell? ⟨w2.heap.size, 2, none⟩ = some (.int .i64 E) := by simp
    have r9 : (w2.alloc (.cells #[.int .i64 K, .bool ng, .int .i64 E, .int .u64 M] 26)).cell? ⟨w2.heap.size, 3, none⟩ = some (.int .u64 M) := by simp
    clear q0 q1 q2 q3 q4 q5
    generalize w2.alloc (.cells #[.int .i64 K, .bool ng, .int .i64 E, .int .u64 M] 26) = w5 at *
    go_region_held3 (fun w' => w'.cell? ⟨w.heap.size, 0, none⟩ = some (.int .i64 a0) ∧ w'.cell? ⟨w.heap.size, 1, none⟩ = some (.int .i64 b0) ∧ w'.cell? ⟨w1.heap.size, 0, none⟩ = some (.int .i64 K) ∧ w'.cell? ⟨w1.heap.size, 1, none⟩ = some (.bool ng) ∧ w'.cell? ⟨w1.heap.size, 2, none⟩ = some (.int .i64 E) ∧ w'.cell? ⟨w1.heap.size, 3, none⟩ = some (.int .u64 M) ∧ w'.cell? ⟨w2.heap.size, 0, none⟩ = some (.int .i64 K) ∧ w'.cell? ⟨w2.heap.size, 1, none⟩ = some (.bool ng) ∧ w'.cell? ⟨w2.heap.size, 2, none⟩ = some (.int .i64 E) ∧ w'.cell? ⟨w2.heap.size, 3, none⟩ = some (.int .u64 M)) (go_keep) (first | (go_at_call_of 11 (Value.int IntKind.i64 0); refine (HM.out _).mono ?_; rintro r w7 ⟨rfl, hw⟩; obtain rfl := hw.symm) | (go_at_call_of 11 (Value.int IntKind.i64 1); refine (HM1.out _).mono ?_; rintro r w7 ⟨rfl, hw⟩; obtain rfl := hw.symm) | (go_at_call 12; refine (hC.out _).mono ?_; rintro r w8 ⟨rfl, hw⟩; subst hw) | (go_at_call 13; refine (hD.out _).mono ?_; rintro r w8 ⟨rfl, hw⟩; subst hw))
    have s0 : (((w5.alloc (.cells #[.int .i64 a0, .int .i64 b0] 23)).alloc (.cells #[.int .i64 a0, .int .i64 b0] 23)).drew).cell? ⟨w.heap.size, 0, none⟩ = some (.int .i64 a0) := by simp [*]
    have s1 : (((w5.alloc (.cells #[.int .i64 a0, .int .i64 b0] 23)).alloc (.cells #[.int .i64 a0, .int .i64 b0] 23)).drew).cell? ⟨w.heap.size, 1, none⟩ = some (.int .i64 b0) := by simp [*]
    have HB3 := hidden ((((HB2.out).alloc HB2.out.size (.cells #[.int .i64 a0, .int .i64 b0] 23)).alloc ((HB2.out).alloc HB2.out.size (.cells #[.int .i64 a0, .int .i64 b0] 23)).size (.cells #[.int .i64 a0, .int .i64 b0] 23)).drew)
    generalize ((w5.alloc (.cells #[.int .i64 a0, .int .i64 b0] 23)).alloc (.cells #[.int .i64 a0, .int .i64 b0] 23)).drew = w6 at *
    clear r0 r1 r2 r3 r4 r5 r6 r7 r8 r9 HB2
    go_wp2_with fail
    go_region_held3 (fun w' => w'.cell? ⟨w.heap.size, 0, none⟩ = some (.int .i64 a0) ∧ w'.cell? ⟨w.heap.size, 1, none⟩ = some (.int .i64 b0)) (go_keep) (first | (go_at_call 14; refine (hN.out _).mono ?_; rintro r v0 ⟨rfl, g0⟩; have s0 : v0.cell? ⟨w.heap.size, 0, none⟩ = some (.int .i64 a0) := cellLater g0 (by go_keep); have s1 : v0.cell? ⟨w.heap.size, 1, none⟩ = some (.int .i64 b0) := cellLater g0 (by go_keep)) | (go_at_call 15; refine (hN2.out _).mono ?_; rintro r v1 ⟨rfl, g1⟩; have s0 : v1.cell? ⟨w.heap.size, 0, none⟩ = some (.int .i64 a0) := cellLater g1 (by go_keep); have s1 : v1.cell? ⟨w.heap.size, 1, none⟩ = some (.int .i64 b0) := cellLater g1 (by go_keep)) | (go_at_call 16; refine (hI.out _).mono ?_; rintro r v2 ⟨rfl, g2⟩; have s0 : v2.cell? ⟨w.heap.size, 0, none⟩ = some (.int .i64 a0) := cellLater g2 (by go_keep); have s1 : v2.cell? ⟨w.heap.size, 1, none⟩ = some (.int .i64 b0) := cellLater g2 (by go_keep)) | (go_at_call 17; refine (hI2.out _).mono ?_; rintro r v3 ⟨rfl, g3⟩; have s0 : v3.cell? ⟨w.heap.size, 0, none⟩ = some (.int .i64 a0) := cellLater g3 (by go_keep); have s1 : v3.cell? ⟨w.heap.size, 1, none⟩ = some (.int .i64 b0) := cellLater g3 (by go_keep)) | (go_at_call 18; refine (hZ.out _).mono ?_; rintro r v4 ⟨rfl, g4⟩; have s0 : v4.cell? ⟨w.heap.size, 0, none⟩ = some (.int .i64 a0) := cellLater g4 (by go_keep); have s1 : v4.cell? ⟨w.heap.size, 1, none⟩ = some (.int .i64 b0) := cellLater g4 (by go_keep)) | (go_at_call 19; refine (hZ2.out _).mono ?_; rintro r v5 ⟨rfl, g5⟩; have s0 : v5.cell? ⟨w.heap.size, 0, none⟩ = some (.int .i64 a0) := cellLater g5 (by go_keep); have s1 : v5.cell? ⟨w.heap.size, 1, none⟩ = some (.int .i64 b0) := cellLater g5 (by go_keep)) | (go_at_call 20; refine (HL.out _).mono ?_; rintro r v6 ⟨rfl, g6⟩; have s0 : v6.cell? ⟨w.heap.size, 0, none⟩ = some (.int .i64 a0) := cellLater g6 (by go_keep); have s1 : v6.cell? ⟨w.heap.size, 1, none⟩ = some (.int .i64 b0) := cellLater g6 (by go_keep)))
    all_goals
      have h0 := HB3.out.drew
      have h1 := h0.trans (g0.mono h0.size)
      have h2 := h1.trans (g1.mono h1.size)
      have h3 := h2.trans (g2.mono h2.size)
      have h4 := h3.trans (g3.mono h3.size)
      have h5 := h4.trans (g4.mono h4.size)
      have h6 := h5.trans (g5.mono h5.size)
      have h7 := h6.trans (g6.mono h6.size)
      have HF := hidden h7
      clear g0 g1 g2 g3 g4 g5 g6 h0 h1 h2 h3 h4 h5 h6 h7
      go_wp2
      go_ret
      exact ⟨rfl, HF.out⟩
  · have HL := hidden live_any
    have HM1 := hidden (fun w => num_any 1 w (by decide) (by decide))
    have HM := hidden (fun w => num_any 0 w (by decide) (by decide))
    go_enter Try.func3, Try.ntmps3
    go_wp2_with fail
    refine (hO.out _).mono ?_
    rintro r w1 ⟨rfl, hb1⟩
    have d0 : w1.cell? ⟨w.heap.size, 0, none⟩ = some (.int .i64 a0) := cellLater hb1 (by simp)
    have d1 : w1.cell? ⟨w.heap.size, 1, none⟩ = some (.int .i64 b0) := cellLater hb1 (by simp)
    have hlt : w.heap.size < w1.heap.size := World.block_lt_of_cell? _ _ d0
    have HB1 := hidden ((box_below _ hb1).alloc (box_below _ hb1).size (.cells #[.int .i64 K, .bool ng, .int .i64 E, .int .u64 M] 26))
    clear hb1
    go_wp2_with fail
    refine (hR.out _).mono ?_
    rintro r w2 ⟨rfl, hb2⟩
    have q0 : w2.cell? ⟨w.heap.size, 0, none⟩ = some (.int .i64 a0) := cellLater hb2 (by rw [World.cell?_alloc_lt _ _ _ hlt]; exact d0)
    have q1 : w2.cell? ⟨w.heap.size, 1, none⟩ = some (.int .i64 b0) := cellLater hb2 (by rw [World.cell?_alloc_lt _ _ _ hlt]; exact d1)
    have q2 : w2.cell? ⟨w1.heap.size, 0, none⟩ = some (.int .i64 K) := cellLater hb2 (by simp)
    have q3 : w2.cell? ⟨w1.heap.size, 1, none⟩ = some (.bool ng) := cellLater hb2 (by simp)
    have q4 : w2.cell? ⟨w1.heap.size, 2, none⟩ = some (.int .i64 E) := cellLater hb2 (by simp)
    have q5 : w2.cell? ⟨w1.heap.size, 3, none⟩ = some (.int .u64 M) := cellLater hb2 (by simp)
    have hlt2 : w1.heap.size < w2.heap.size := World.block_lt_of_cell? _ _ q2
    have hlt3 : w.heap.size < w2.heap.size := World.block_lt_of_cell? _ _ q0
    replace HB1 := hidden (HB1.out.trans (hb2.mono HB1.out.size))
    clear hb2 d0 d1
    have HB2 := hidden (HB1.out.alloc HB1.out.size (.cells #[.int .i64 K, .bool ng, .int .i64 E, .int .u64 M] 26))
    clear HB1
    go_wp2_with fail
    have r0 : (w2.alloc (.cells #[.int .i64 K, .bool ng, .int .i64 E, .int .u64 M] 26)).cell? ⟨w.heap.size, 0, none⟩ = some (.int .i64 a0) := by rw [World.cell?_alloc_lt _ _ _ hlt3]; exact q0
    have r1 : (w2.alloc (.cells #[.int .i64 K, .bool ng, .int .i64 E, .int .u64 M] 26)).cell? ⟨w.heap.size, 1, none⟩ = some (.int .i64 b0) := by rw [World.cell?_alloc_lt _ _ _ hlt3]; exact q1
    have r2 : (w2.alloc (.cells #[.int .i64 K, .bool ng, .int .i64 E, .int .u64 M] 26)).cell? ⟨w1.heap.size, 0, none⟩ = some (.int .i64 K) := by rw [World.cell?_alloc_lt _ _ _ hlt2]; exact q2
    have r3 : (w2.alloc (.cells #[.int .i64 K, .bool ng, .int .i64 E, .int .u64 M] 26)).cell? ⟨w1.heap.size, 1, none⟩ = some (.bool ng) := by rw [World.cell?_alloc_lt _ _ _ hlt2]; exact q3
    have r4 : (w2.alloc (.cells #[.int .i64 K, .bool ng, .int .i64 E, .int .u64 M] 26)).cell? ⟨w1.heap.size, 2, none⟩ = some (.int .i64 E) := by rw [World.cell?_alloc_lt _ _ _ hlt2]; exact q4
    have r5 : (w2.alloc (.cells #[.int .i64 K, .bool ng, .int .i64 E, .int .u64 M] 26)).cell? ⟨w1.heap.size, 3, none⟩ = some (.int .u64 M) := by rw [World.cell?_alloc_lt _ _ _ hlt2]; exact q5
    have r6 : (w2.alloc (.cells #[.int .i64 K, .bool ng, .int .i64 E, .int .u64 M] 26)).cell? ⟨w2.heap.size, 0, none⟩ = some (.int .i64 K) := by simp
    have r7 : (w2.alloc (.cells #[.int .i64 K, .bool ng, .int .i64 E, .int .u64 M] 26)).cell? ⟨w2.heap.size, 1, none⟩ = some (.bool ng) := by simp
    have r8 : (w2.alloc (.cells #[.int .i64 K, .bool ng, .int .i64 E, .int .u64 M] 26)).cell? ⟨w2.heap.size, 2, none⟩ = some (.int .i64 E) := by simp
    have r9 : (w2.alloc (.cells #[.int .i64 K, .bool ng, .int .i64 E, .int .u64 M] 26)).cell? ⟨w2.heap.size, 3, none⟩ = some (.int .u64 M) := by simp
    clear q0 q1 q2 q3 q4 q5
    generalize w2.alloc (.cells #[.int .i64 K, .bool ng, .int .i64 E, .int .u64 M] 26) = w5 at *
    go_region_held3 (fun w' => w'.cell? ⟨w.heap.size, 0, none⟩ = some (.int .i64 a0) ∧ w'.cell? ⟨w.heap.size, 1, none⟩ = some (.int .i64 b0) ∧ w'.cell? ⟨w1.heap.size, 0, none⟩ = some (.int .i64 K) ∧ w'.cell? ⟨w1.heap.size, 1, none⟩ = some (.bool ng) ∧ w'.cell? ⟨w1.heap.size, 2, none⟩ = some (.int .i64 E) ∧ w'.cell? ⟨w1.heap.size, 3, none⟩ = some (.int .u64 M) ∧ w'.cell? ⟨w2.heap.size, 0, none⟩ = some (.int .i64 K) ∧ w'.cell? ⟨w2.heap.size, 1, none⟩ = some (.bool ng) ∧ w'.cell? ⟨w2.heap.size, 2, none⟩ = some (.int .i64 E) ∧ w'.cell? ⟨w2.heap.size, 3, none⟩ = some (.int .u64 M)) (go_keep) (first | (go_at_call_of 11 (Value.int IntKind.i64 0); refine (HM.out _).mono ?_; rintro r w7 ⟨rfl, hw⟩; obtain rfl := hw.symm) | (go_at_call_of 11 (Value.int IntKind.i64 1); refine (HM1.out _).mono ?_; rintro r w7 ⟨rfl, hw⟩; obtain rfl := hw.symm) | (go_at_call 12; refine (hC.out _).mono ?_; rintro r w8 ⟨rfl, hw⟩; subst hw) | (go_at_call 13; refine (hD.out _).mono ?_; rintro r w8 ⟨rfl, hw⟩; subst hw))
    have s0 : (((w5.alloc (.cells #[.int .i64 a0, .int .i64 b0] 23)).alloc (.cells #[.int .i64 a0, .int .i64 b0] 23)).drew).cell? ⟨w.heap.size, 0, none⟩ = some (.int .i64 a0) := by simp [*]
    have s1 : (((w5.alloc (.cells #[.int .i64 a0, .int .i64 b0] 23)).alloc (.cells #[.int .i64 a0, .int .i64 b0] 23)).drew).cell? ⟨w.heap.size, 1, none⟩ = some (.int .i64 b0) := by simp [*]
    have HB3 := hidden ((((HB2.out).alloc HB2.out.size (.cells #[.int .i64 a0, .int .i64 b0] 23)).alloc ((HB2.out).alloc HB2.out.size (.cells #[.int .i64 a0, .int .i64 b0] 23)).size (.cells #[.int .i64 a0, .int .i64 b0] 23)).drew)
    generalize ((w5.alloc (.cells #[.int .i64 a0, .int .i64 b0] 23)).alloc (.cells #[.int .i64 a0, .int .i64 b0] 23)).drew = w6 at *
    clear r0 r1 r2 r3 r4 r5 r6 r7 r8 r9 HB2
    go_wp2_with fail
    refine (hD.out _).mono ?_
    rintro r w7 ⟨rfl, hw⟩
    have hb : Below w6.heap.size w6 w7 := by subst hw; exact (Below.refl _ _).alloc (Nat.le_refl _) _
    replace s0 := cellLater hb s0
    replace s1 := cellLater hb s1
    replace HB3 := hidden (HB3.out.trans (hb.mono HB3.out.size))
    clear hb hw
    go_wp2_with fail
    go_region_held3 (fun w' => w'.cell? ⟨w.heap.size, 0, none⟩ = some (.int .i64 a0) ∧ w'.cell? ⟨w.heap.size, 1, none⟩ = some (.int .i64 b0)) (go_keep) (first | (go_at_call 14; refine (hN.out _).mono ?_; rintro r v0 ⟨rfl, g0⟩; have s0 : v0.cell? ⟨w.heap.size, 0, none⟩ = some (.int .i64 a0) := cellLater g0 (by go_keep); have s1 : v0.cell? ⟨w.heap.size, 1, none⟩ = some (.int .i64 b0) := cellLater g0 (by go_keep)) | (go_at_call 15; refine (hN2.out _).mono ?_; rintro r v1 ⟨rfl, g1⟩; have s0 : v1.cell? ⟨w.heap.size, 0, none⟩ = some (.int .i64 a0) := cellLater g1 (by go_keep); have s1 : v1.cell? ⟨w.heap.size, 1, none⟩ = some (.int .i64 b0) := cellLater g1 (by go_keep)) | (go_at_call 16; refine (hI.out _).mono ?_; rintro r v2 ⟨rfl, g2⟩; have s0 : v2.cell? ⟨w.heap.size, 0, none⟩ = some (.int .i64 a0) := cellLater g2 (by go_keep); have s1 : v2.cell? ⟨w.heap.size, 1, none⟩ = some (.int .i64 b0) := cellLater g2 (by go_keep)) | (go_at_call 17; refine (hI2.out _).mono ?_; rintro r v3 ⟨rfl, g3⟩; have s0 : v3.cell? ⟨w.heap.size, 0, none⟩ = some (.int .i64 a0) := cellLater g3 (by go_keep); have s1 : v3.cell? ⟨w.heap.size, 1, none⟩ = some (.int .i64 b0) := cellLater g3 (by go_keep)) | (go_at_call 18; refine (hZ.out _).mono ?_; rintro r v4 ⟨rfl, g4⟩; have s0 : v4.cell? ⟨w.heap.size, 0, none⟩ = some (.int .i64 a0) := cellLater g4 (by go_keep); have s1 : v4.cell? ⟨w.heap.size, 1, none⟩ = some (.int .i64 b0) := cellLater g4 (by go_keep)) | (go_at_call 19; refine (hZ2.out _).mono ?_; rintro r v5 ⟨rfl, g5⟩; have s0 : v5.cell? ⟨w.heap.size, 0, none⟩ = some (.int .i64 a0) := cellLater g5 (by go_keep); have s1 : v5.cell? ⟨w.heap.size, 1, none⟩ = some (.int .i64 b0) := cellLater g5 (by go_keep)) | (go_at_call 20; refine (HL.out _).mono ?_; rintro r v6 ⟨rfl, g6⟩; have s0 : v6.cell? ⟨w.heap.size, 0, none⟩ = some (.int .i64 a0) := cellLater g6 (by go_keep); have s1 : v6.cell? ⟨w.heap.size, 1, none⟩ = some (.int .i64 b0) := cellLater g6 (by go_keep)))
    all_goals
      have h0 := HB3.out.drew
      have h1 := h0.trans (g0.mono h0.size)
      have h2 := h1.trans (g1.mono h1.size)
      have h3 := h2.trans (g2.mono h2.size)
      have h4 := h3.trans (g3.mono h3.size)
      have h5 := h4.trans (g4.mono h4.size)
      have h6 := h5.trans (g5.mono h5.size)
      have h7 := h6.trans (g6.mono h6.size)
      have HF := hidden h7
      clear g0 g1 g2 g3 g4 g5 g6 h0 h1 h2 h3 h4 h5 h6 h7
      go_wp2
      go_ret
      exact ⟨rfl, HF.out⟩
theorem roundOpens_walk (a0 b0 a1 : Int) (a2 : Bool) (w : World) (w0 : (Lit.int .i64 a0).wf = true) (x0 : (Lit.int .i64 b0).wf = true) (w1 : (Lit.int .u64 a1).wf = true) :
    Calls Try.prog 3 #[.agg #[.int .i64 a0, .int .i64 b0], .int .u64 a1, .bool a2] w fun r w' => r = .returned (.bool true) ∧ Below w.heap.size w w' := by
  have c2 := bounds_u64 w1
  by_cases hok : okF a0 b0
  · obtain ⟨m, rfl⟩ := Int.eq_ofNat_of_zero_le (show 0 ≤ a0 by have := hok.1; omega)
    obtain ⟨e, rfl⟩ := Int.eq_ofNat_of_zero_le (show 0 ≤ b0 by have := hok.2.2.1; omega)
    have hm : m ≤ 52 := by have := hok.2.1; omega
    have hm0 : 1 ≤ m := by have := hok.1; omega
    have he : e ≤ 11 := by have := hok.2.2.2; omega
    have hZ2 : Hid (∀ w, Calls Try.prog 19 #[.agg #[.int .i64 m, .int .i64 e], .bool a2] w fun r w' => r = .returned (.int .u64 (sgnW a2 (m + e))) ∧ Below w.heap.size w w') := hidden fun w => by
      refine (zero_any m e a2 w hm he).mono ?_
      rintro r w1 ⟨rfl, rfl⟩
      exact ⟨rfl, below_two _ _ _⟩
    by_cases hb : 1 + (e : Int) + m < bl a1
    · exact opens_ok m e a1 0 0 0 1 false a2 w (.inr rfl) (hidden fun w => popen_big m e a1 w hok c2.1 c2.2 hb) (hidden fun w => ropen_big m e a1 _ _ w hok c2.1 c2.2 rfl rfl (top_big m e a1 c2.1 (by omega))) _ _ _ (hidden fun w => pcheck_ok m e w hok) (hidden fun w => check_ok m e w hok)
        (hidden fun w => pnan_any m e w hok) (hidden fun w => pinf_any m e a2 w hok) (hidden fun w => pzero_any m e a2 w hok) (hidden fun w => nan_any m e w hm hm0 he) (hidden fun w => inf_any m e a2 w hm he) hZ2
    · exact opens_ok m e a1 _ _ _ 0 _ a2 w (.inl rfl) (hidden fun w => popen_any m e a1 w hok c2.1 c2.2 (by omega)) (hidden fun w => ropen_any m e a1 w hok c2.1 c2.2 (by omega)) _ _ _ (hidden fun w => pcheck_ok m e w hok) (hidden fun w => check_ok m e w hok)
        (hidden fun w => pnan_any m e w hok) (hidden fun w => pinf_any m e a2 w hok) (hidden fun w => pzero_any m e a2 w hok) (hidden fun w => nan_any m e w hm hm0 he) (hidden fun w => inf_any m e a2 w hm he) hZ2
  · exact opens_bad a0 b0 a1 0 0 0 1 false a2 w (.inr rfl) (hidden fun w => popen_no a0 b0 a1 w hok) (hidden fun w => ropen_no a0 b0 a1 w hok) (hidden fun w => pcheck_no a0 b0 w hok) (hidden fun w => check_no a0 b0 w hok) rfl
      (hidden fun w => pnan_no a0 b0 w hok) (hidden fun w => pinf_no a0 b0 a2 w hok) (hidden fun w => pzero_no a0 b0 a2 w hok)
end Go.Proofs.Ytkbeceedafkhcaa
