/- The walk of SoftTurns, leaf by leaf. -/
import Derived.Test.YtlhknchmgckgiaaL3a
import Derived.Test.YtlhknchmgckgiaaR2
namespace Go.Proofs.Ytlhknchmgckgiaa
open Go.RowKit
set_option maxRecDepth 100000
set_option maxHeartbeats 1500000
set_option linter.unusedVariables false

theorem turns_bad (m x a b K1 E1 M1 K2 E2 M2 e g h X Z : Int) (n1 n2 : Bool) (w : World) (hc : (e = 1 ∨ (e = 0 ∧ g = 1)) ∧ h = 1 ∧ X = 0 ∧ Z = 0)
    (HA : Hid (∀ w, Calls Try.prog 5 #[.agg #[.int .i64 m, .int .i64 x], .int .u64 a] w fun r w' => r = .returned (.tuple #[partsV K1 n1 E1 M1, .int .i64 e]) ∧ Below w.heap.size w w'))
    (HX : Hid (∀ w, Calls Try.prog 5 #[.agg #[.int .i64 m, .int .i64 x], .int .u64 b] w fun r w' => r = .returned (.tuple #[partsV K2 n2 E2 M2, .int .i64 g]) ∧ Below w.heap.size w w'))
    (H1 : Hid (∀ w, Calls Try.prog 6 #[.agg #[.int .i64 m, .int .i64 x], .int .u64 a, .int .u64 b] w fun r w' => r = .returned (.tuple #[.int .u64 X, .int .i64 h]) ∧ Below w.heap.size w w'))
    (H2 : Hid (∀ w, Calls Try.prog 6 #[.agg #[.int .i64 m, .int .i64 x], .int .u64 b, .int .u64 a] w fun r w' => r = .returned (.tuple #[.int .u64 X, .int .i64 h]) ∧ Below w.heap.size w w'))
    (H3 : Hid (∀ w, Calls Try.prog 7 #[.agg #[.int .i64 m, .int .i64 x], .int .u64 a, .int .u64 b] w fun r w' => r = .returned (.tuple #[.int .u64 Z, .int .i64 h]) ∧ Below w.heap.size w w'))
    (H4 : Hid (∀ w, Calls Try.prog 7 #[.agg #[.int .i64 m, .int .i64 x], .int .u64 b, .int .u64 a] w fun r w' => r = .returned (.tuple #[.int .u64 Z, .int .i64 h]) ∧ Below w.heap.size w w'))
    : Calls Try.prog 3 #[.agg #[.int .i64 m, .int .i64 x], .int .u64 a, .int .u64 b] w fun r w' => r = .returned (.bool true) ∧ Below w.heap.size w w' := by
  have HL := hidden live_any
  have HM := hidden (fun w => num_any 1 w (by decide) (by decide))
  rcases hc with ⟨rfl | ⟨rfl, rfl⟩, rfl, rfl, rfl⟩
  all_goals
    go_enter Try.func3, Try.ntmps3
    go_wp2_with fail
    refine (HA.out _).mono ?_
    rintro r w1 ⟨rfl, hb1⟩
    have d0 : w1.cell? ⟨w.heap.size, 0, none⟩ = some (.int .i64 m) := cellLater hb1 (by simp)
    have d1 : w1.cell? ⟨w.heap.size, 1, none⟩ = some (.int .i64 x) := cellLater hb1 (by simp)
    have hZ1 : Below w1.heap.size w1 (w1.alloc (.cells #[.int .i64 K1, .bool n1, .int .i64 E1, .int .u64 M1] 26)) := (Below.refl _ _).alloc (Nat.le_refl _) _
    have c0 := cellLater hZ1 d0
    have c1 := cellLater hZ1 d1
    have p0 : (w1.alloc (.cells #[.int .i64 K1, .bool n1, .int .i64 E1, .int .u64 M1] 26)).cell? ⟨w1.heap.size, 0, none⟩ = some (.int .i64 K1) := by simp
    have HB := hidden ((box_below _ hb1).trans (hZ1.mono (box_below _ hb1).size))
    clear hb1 hZ1 d0 d1
    go_upto_region 2 with fail
    generalize w1.alloc (.cells #[.int .i64 K1, .bool n1, .int .i64 E1, .int .u64 M1] 26) = w3 at *
    go_wp2_with fail
    refine (HX.out _).mono ?_
    rintro r w4 ⟨rfl, hb4⟩
    have c0 := cellLater hb4 c0
    have c1 := cellLater hb4 c1
    have p0 := cellLater hb4 p0
    have HB := hidden (HB.out.trans (hb4.mono HB.out.size))
    have hZ2 : Below w4.heap.size w4 (w4.alloc (.cells #[.int .i64 K2, .bool n2, .int .i64 E2, .int .u64 M2] 26)) := (Below.refl _ _).alloc (Nat.le_refl _) _
    have c0 := cellLater hZ2 c0
    have c1 := cellLater hZ2 c1
    have p0 := cellLater hZ2 p0
    have q0 : (w4.alloc (.cells #[.int .i64 K2, .bool n2, .int .i64 E2, .int .u64 M2] 26)).cell? ⟨w4.heap.size, 0, none⟩ = some (.int .i64 K2) := by simp
    have HB := hidden (HB.out.trans (hZ2.mono HB.out.size))
    clear hb4 hZ2
    go_upto_region 3 with fail
    generalize w4.alloc (.cells #[.int .i64 K2, .bool n2, .int .i64 E2, .int .u64 M2] 26) = w6 at *
    go_wp2_with (first | (go_at_call 6; (with_reducible refine (H1.out _).mono ?_); rintro r w9 ⟨rfl, hb⟩; have c0 := cellLater hb c0; have c1 := cellLater hb c1; have p0 := cellLater hb p0; have q0 := cellLater hb q0; have HB := hidden (HB.out.trans (hb.mono HB.out.size)); clear hb) | (go_at_call 6; (with_reducible refine (H2.out _).mono ?_); rintro r w9 ⟨rfl, hb⟩; have c0 := cellLater hb c0; have c1 := cellLater hb c1; have p0 := cellLater hb p0; have q0 := cellLater hb q0; have HB := hidden (HB.out.trans (hb.mono HB.out.size)); clear hb) | (go_at_call 7; (with_reducible refine (H3.out _).mono ?_); rintro r w9 ⟨rfl, hb⟩; have c0 := cellLater hb c0; have c1 := cellLater hb c1; have p0 := cellLater hb p0; have q0 := cellLater hb q0; have HB := hidden (HB.out.trans (hb.mono HB.out.size)); clear hb) | (go_at_call 7; (with_reducible refine (H4.out _).mono ?_); rintro r w9 ⟨rfl, hb⟩; have c0 := cellLater hb c0; have c1 := cellLater hb c1; have p0 := cellLater hb p0; have q0 := cellLater hb q0; have HB := hidden (HB.out.trans (hb.mono HB.out.size)); clear hb) | (go_at_call 8; refine (HM.out _).mono ?_; rintro r w9 ⟨rfl, hw⟩; obtain rfl := hw.symm) | (go_at_call 9; refine (HL.out _).mono ?_; rintro r w9 ⟨rfl, hb⟩; have HB := hidden (HB.out.trans (hb.mono HB.out.size)); clear hb))
    go_ret
    exact ⟨rfl, HB.out⟩
theorem turns_nan (m x a b K1 E1 M1 K2 E2 M2 X Z TB S M O N0 c TM : Int) (n1 n2 ok : Bool) (w : World) (hc : ((K1 == 4) = true ∨ ((K1 == 4) = false ∧ (K2 == 4) = true)) ∧ X = N0 ∧ S = N0 ∧ M = N0 ∧ O = N0 ∧ Z = N0)
    (HA : Hid (∀ w, Calls Try.prog 5 #[.agg #[.int .i64 m, .int .i64 x], .int .u64 a] w fun r w' => r = .returned (.tuple #[partsV K1 n1 E1 M1, .int .i64 0]) ∧ Below w.heap.size w w'))
    (HX : Hid (∀ w, Calls Try.prog 5 #[.agg #[.int .i64 m, .int .i64 x], .int .u64 b] w fun r w' => r = .returned (.tuple #[partsV K2 n2 E2 M2, .int .i64 0]) ∧ Below w.heap.size w w'))
    (H1 : Hid (∀ w, Calls Try.prog 6 #[.agg #[.int .i64 m, .int .i64 x], .int .u64 a, .int .u64 b] w fun r w' => r = .returned (.tuple #[.int .u64 X, .int .i64 0]) ∧ Below w.heap.size w w'))
    (H2 : Hid (∀ w, Calls Try.prog 6 #[.agg #[.int .i64 m, .int .i64 x], .int .u64 b, .int .u64 a] w fun r w' => r = .returned (.tuple #[.int .u64 X, .int .i64 0]) ∧ Below w.heap.size w w'))
    (H3 : Hid (∀ w, Calls Try.prog 7 #[.agg #[.int .i64 m, .int .i64 x], .int .u64 a, .int .u64 b] w fun r w' => r = .returned (.tuple #[.int .u64 Z, .int .i64 0]) ∧ Below w.heap.size w w'))
    (H4 : Hid (∀ w, Calls Try.prog 7 #[.agg #[.int .i64 m, .int .i64 x], .int .u64 b, .int .u64 a] w fun r w' => r = .returned (.tuple #[.int .u64 Z, .int .i64 0]) ∧ Below w.heap.size w w'))
    (HT : Hid (∀ w, Calls Try.prog 11 #[.agg #[.int .i64 m, .int .i64 x], .int .u64 b] w fun r w' => r = .returned (.int .u64 TB) ∧ Below w.heap.size w w'))
    (H5 : Hid (∀ w, Calls Try.prog 10 #[.agg #[.int .i64 m, .int .i64 x], .int .u64 a, .int .u64 TB] w fun r w' => r = .returned (.tuple #[.int .u64 S, .int .i64 0]) ∧ Below w.heap.size w w'))
    (H6 : Hid (∀ w, Calls Try.prog 10 #[.agg #[.int .i64 m, .int .i64 x], .int .u64 a, .int .u64 b] w fun r w' => r = .returned (.tuple #[.int .u64 M, .int .i64 0]) ∧ Below w.heap.size w w'))
    (H7 : Hid (∀ w, Calls Try.prog 10 #[.agg #[.int .i64 m, .int .i64 x], .int .u64 b, .int .u64 a] w fun r w' => r = .returned (.tuple #[.int .u64 O, .int .i64 0]) ∧ Below w.heap.size w w'))
    (HN : Hid (∀ w, Calls Try.prog 12 #[.agg #[.int .i64 m, .int .i64 x]] w fun r w' => r = .returned (.int .u64 N0) ∧ Below w.heap.size w w'))
    (HZ : Hid (∀ w, Calls Try.prog 14 #[.agg #[.int .i64 m, .int .i64 x], .bool false] w fun r w' => r = .returned (.int .u64 0) ∧ Below w.heap.size w w'))
    (HC : Hid (∀ w, Calls Try.prog 13 #[.agg #[.int .i64 m, .int .i64 x], .int .u64 M, .int .u64 0] w fun r w' => r = .returned (.tuple #[.int .i64 c, .bool ok, .int .i64 0]) ∧ Below w.heap.size w w'))
    (HU : Hid (∀ w, Calls Try.prog 11 #[.agg #[.int .i64 m, .int .i64 x], .int .u64 M] w fun r w' => r = .returned (.int .u64 TM) ∧ Below w.heap.size w w'))
    : Calls Try.prog 3 #[.agg #[.int .i64 m, .int .i64 x], .int .u64 a, .int .u64 b] w fun r w' => r = .returned (.bool true) ∧ Below w.heap.size w w' := by
  have HL := hidden live_any
  have HM := hidden (fun w => num_any 0 w (by decide) (by decide))
  rcases hc with ⟨hk | ⟨hk, hk2⟩, rfl, rfl, rfl, rfl, rfl⟩
  all_goals
    go_enter Try.func3, Try.ntmps3
    go_wp2_with fail
    refine (HA.out _).mono ?_
    rintro r w1 ⟨rfl, hb1⟩
    have d0 : w1.cell? ⟨w.heap.size, 0, none⟩ = some (.int .i64 m) := cellLater hb1 (by simp)
    have d1 : w1.cell? ⟨w.heap.size, 1, none⟩ = some (.int .i64 x) := cellLater hb1 (by simp)
    have hZ1 : Below w1.heap.size w1 (w1.alloc (.cells #[.int .i64 K1, .bool n1, .int .i64 E1, .int .u64 M1] 26)) := (Below.refl _ _).alloc (Nat.le_refl _) _
    have c0 := cellLater hZ1 d0
    have c1 := cellLater hZ1 d1
    have p0 : (w1.alloc (.cells #[.int .i64 K1, .bool n1, .int .i64 E1, .int .u64 M1] 26)).cell? ⟨w1.heap.size, 0, none⟩ = some (.int .i64 K1) := by simp
    have HB := hidden ((box_below _ hb1).trans (hZ1.mono (box_below _ hb1).size))
    clear hb1 hZ1 d0 d1
    go_upto_region 2 with fail
    generalize w1.alloc (.cells #[.int .i64 K1, .bool n1, .int .i64 E1, .int .u64 M1] 26) = w3 at *
    go_wp2_with fail
    refine (HX.out _).mono ?_
    rintro r w4 ⟨rfl, hb4⟩
    have c0 := cellLater hb4 c0
    have c1 := cellLater hb4 c1
    have p0 := cellLater hb4 p0
    have HB := hidden (HB.out.trans (hb4.mono HB.out.size))
    have hZ2 : Below w4.heap.size w4 (w4.alloc (.cells #[.int .i64 K2, .bool n2, .int .i64 E2, .int .u64 M2] 26)) := (Below.refl _ _).alloc (Nat.le_refl _) _
    have c0 := cellLater hZ2 c0
    have c1 := cellLater hZ2 c1
    have p0 := cellLater hZ2 p0
    have q0 : (w4.alloc (.cells #[.int .i64 K2, .bool n2, .int .i64 E2, .int .u64 M2] 26)).cell? ⟨w4.heap.size, 0, none⟩ = some (.int .i64 K2) := by simp
    have HB := hidden (HB.out.trans (hZ2.mono HB.out.size))
    clear hb4 hZ2
    go_upto_region 3 with fail
    generalize w4.alloc (.cells #[.int .i64 K2, .bool n2, .int .i64 E2, .int .u64 M2] 26) = w6 at *
    go_upto_region 11 with (first | (go_at_call 6; (with_reducible refine (H1.out _).mono ?_); rintro r w9 ⟨rfl, hb⟩; have c0 := cellLater hb c0; have c1 := cellLater hb c1; have p0 := cellLater hb p0; have q0 := cellLater hb q0; have HB := hidden (HB.out.trans (hb.mono HB.out.size)); clear hb) | (go_at_call 6; (with_reducible refine (H2.out _).mono ?_); rintro r w9 ⟨rfl, hb⟩; have c0 := cellLater hb c0; have c1 := cellLater hb c1; have p0 := cellLater hb p0; have q0 := cellLater hb q0; have HB := hidden (HB.out.trans (hb.mono HB.out.size)); clear hb) | (go_at_call 7; (with_reducible refine (H3.out _).mono ?_); rintro r w9 ⟨rfl, hb⟩; have c0 := cellLater hb c0; have c1 := cellLater hb c1; have p0 := cellLater hb p0; have q0 := cellLater hb q0; have HB := hidden (HB.out.trans (hb.mono HB.out.size)); clear hb) | (go_at_call 7; (with_reducible refine (H4.out _).mono ?_); rintro r w9 ⟨rfl, hb⟩; have c0 := cellLater hb c0; have c1 := cellLater hb c1; have p0 := cellLater hb p0; have q0 := cellLater hb q0; have HB := hidden (HB.out.trans (hb.mono HB.out.size)); clear hb) | (go_at_call 8; refine (HM.out _).mono ?_; rintro r w9 ⟨rfl, hw⟩; obtain rfl := hw.symm))
    go_region_held3 (fun w' => w'.cell? ⟨w.heap.size, 0, none⟩ = some (.int .i64 m) ∧ w'.cell? ⟨w.heap.size, 1, none⟩ = some (.int .i64 x) ∧ w'.cell? ⟨w1.heap.size, 0, none⟩ = some (.int .i64 K1) ∧ w'.cell? ⟨w4.heap.size, 0, none⟩ = some (.int .i64 K2)) (go_keep) (first | (go_at_call 11; refine (HT.out _).mono ?_; rintro r w10 ⟨rfl, hb10⟩; have c0 : w10.cell? ⟨w.heap.size, 0, none⟩ = some (.int .i64 m) := cellLater hb10 (by go_keep); have c1 : w10.cell? ⟨w.heap.size, 1, none⟩ = some (.int .i64 x) := cellLater hb10 (by go_keep); have p0 : w10.cell? ⟨w1.heap.size, 0, none⟩ = some (.int .i64 K1) := cellLater hb10 (by go_keep); have q0 : w10.cell? ⟨w4.heap.size, 0, none⟩ = some (.int .i64 K2) := cellLater hb10 (by go_keep)) | (go_at_call 10; refine (H5.out _).mono ?_; rintro r w11 ⟨rfl, hb11⟩; have c0 : w11.cell? ⟨w.heap.size, 0, none⟩ = some (.int .i64 m) := cellLater hb11 (by go_keep); have c1 : w11.cell? ⟨w.heap.size, 1, none⟩ = some (.int .i64 x) := cellLater hb11 (by go_keep); have p0 : w11.cell? ⟨w1.heap.size, 0, none⟩ = some (.int .i64 K1) := cellLater hb11 (by go_keep); have q0 : w11.cell? ⟨w4.heap.size, 0, none⟩ = some (.int .i64 K2) := cellLater hb11 (by go_keep)))
  all_goals
    have h0 := HB.out.drew
    have h1 := h0.trans (hb10.mono h0.size)
    have HB := hidden (h1.trans (hb11.mono h1.size))
    clear h0 h1 hb10 hb11
    go_wp2_with (first | (go_at_call 10; (with_reducible refine (H6.out _).mono ?_); rintro r w9 ⟨rfl, hb⟩; have c0 := cellLater hb c0; have c1 := cellLater hb c1; have p0 := cellLater hb p0; have q0 := cellLater hb q0; have HB := hidden (HB.out.trans (hb.mono HB.out.size)); clear hb) | (go_at_call 10; (with_reducible refine (H7.out _).mono ?_); rintro r w9 ⟨rfl, hb⟩; have c0 := cellLater hb c0; have c1 := cellLater hb c1; have p0 := cellLater hb p0; have q0 := cellLater hb q0; have HB := hidden (HB.out.trans (hb.mono HB.out.size)); clear hb) | (go_at_call 12; refine (HN.out _).mono ?_; rintro r w9 ⟨rfl, hb⟩; have c0 := cellLater hb c0; have c1 := cellLater hb c1; have p0 := cellLater hb p0; have q0 := cellLater hb q0; have HB := hidden (HB.out.trans (hb.mono HB.out.size)); clear hb) | (go_at_call 14; refine (HZ.out _).mono ?_; rintro r w9 ⟨rfl, hb⟩; have c0 := cellLater hb c0; have c1 := cellLater hb c1; have p0 := cellLater hb p0; have q0 := cellLater hb q0; have HB := hidden (HB.out.trans (hb.mono HB.out.size)); clear hb) | (go_at_call 11; refine (HU.out _).mono ?_; rintro r w9 ⟨rfl, hb⟩; have c0 := cellLater hb c0; have c1 := cellLater hb c1; have p0 := cellLater hb p0; have q0 := cellLater hb q0; have HB := hidden (HB.out.trans (hb.mono HB.out.size)); clear hb) | (go_at_call 8; refine (HM.out _).mono ?_; rintro r w9 ⟨rfl, hw⟩; obtain rfl := hw.symm) | (go_at_call 9; refine (HL.out _).mono ?_; rintro r w9 ⟨rfl, hb⟩; have HB := hidden (HB.out.trans (hb.mono HB.out.size)); clear hb))
    go_ret
    exact ⟨rfl, HB.out⟩
theorem turns_inf (m x a b K1 E1 M1 K2 E2 M2 X Z TB S M O N0 c TM : Int) (n1 n2 ok : Bool) (w : World) (hc : (K1 == 4) = false ∧ (K2 == 4) = false ∧ S = X ∧ ok = false ∧ O = M)
    (HA : Hid (∀ w, Calls Try.prog 5 #[.agg #[.int .i64 m, .int .i64 x], .int .u64 a] w fun r w' => r = .returned (.tuple #[partsV K1 n1 E1 M1, .int .i64 0]) ∧ Below w.heap.size w w'))
    (HX : Hid (∀ w, Calls Try.prog 5 #[.agg #[.int .i64 m, .int .i64 x], .int .u64 b] w fun r w' => r = .returned (.tuple #[partsV K2 n2 E2 M2, .int .i64 0]) ∧ Below w.heap.size w w'))
    (H1 : Hid (∀ w, Calls Try.prog 6 #[.agg #[.int .i64 m, .int .i64 x], .int .u64 a, .int .u64 b] w fun r w' => r = .returned (.tuple #[.int .u64 X, .int .i64 0]) ∧ Below w.heap.size w w'))
    (H2 : Hid (∀ w, Calls Try.prog 6 #[.agg #[.int .i64 m, .int .i64 x], .int .u64 b, .int .u64 a] w fun r w' => r = .returned (.tuple #[.int .u64 X, .int .i64 0]) ∧ Below w.heap.size w w'))
    (H3 : Hid (∀ w, Calls Try.prog 7 #[.agg #[.int .i64 m, .int .i64 x], .int .u64 a, .int .u64 b] w fun r w' => r = .returned (.tuple #[.int .u64 Z, .int .i64 0]) ∧ Below w.heap.size w w'))
    (H4 : Hid (∀ w, Calls Try.prog 7 #[.agg #[.int .i64 m, .int .i64 x], .int .u64 b, .int .u64 a] w fun r w' => r = .returned (.tuple #[.int .u64 Z, .int .i64 0]) ∧ Below w.heap.size w w'))
    (HT : Hid (∀ w, Calls Try.prog 11 #[.agg #[.int .i64 m, .int .i64 x], .int .u64 b] w fun r w' => r = .returned (.int .u64 TB) ∧ Below w.heap.size w w'))
    (H5 : Hid (∀ w, Calls Try.prog 10 #[.agg #[.int .i64 m, .int .i64 x], .int .u64 a, .int .u64 TB] w fun r w' => r = .returned (.tuple #[.int .u64 S, .int .i64 0]) ∧ Below w.heap.size w w'))
    (H6 : Hid (∀ w, Calls Try.prog 10 #[.agg #[.int .i64 m, .int .i64 x], .int .u64 a, .int .u64 b] w fun r w' => r = .returned (.tuple #[.int .u64 M, .int .i64 0]) ∧ Below w.heap.size w w'))
    (H7 : Hid (∀ w, Calls Try.prog 10 #[.agg #[.int .i64 m, .int .i64 x], .int .u64 b, .int .u64 a] w fun r w' => r = .returned (.tuple #[.int .u64 O, .int .i64 0]) ∧ Below w.heap.size w w'))
    (HN : Hid (∀ w, Calls Try.prog 12 #[.agg #[.int .i64 m, .int .i64 x]] w fun r w' => r = .returned (.int .u64 N0) ∧ Below w.heap.size w w'))
    (HZ : Hid (∀ w, Calls Try.prog 14 #[.agg #[.int .i64 m, .int .i64 x], .bool false] w fun r w' => r = .returned (.int .u64 0) ∧ Below w.heap.size w w'))
    (HC : Hid (∀ w, Calls Try.prog 13 #[.agg #[.int .i64 m, .int .i64 x], .int .u64 M, .int .u64 0] w fun r w' => r = .returned (.tuple #[.int .i64 c, .bool ok, .int .i64 0]) ∧ Below w.heap.size w w'))
    (HU : Hid (∀ w, Calls Try.prog 11 #[.agg #[.int .i64 m, .int .i64 x], .int .u64 M] w fun r w' => r = .returned (.int .u64 TM) ∧ Below w.heap.size w w'))
    : Calls Try.prog 3 #[.agg #[.int .i64 m, .int .i64 x], .int .u64 a, .int .u64 b] w fun r w' => r = .returned (.bool true) ∧ Below w.heap.size w w' := by
  have HL := hidden live_any
  have HM := hidden (fun w => num_any 0 w (by decide) (by decide))
  obtain ⟨k1, k2, rfl, rfl, rfl⟩ := hc
  all_goals
    go_enter Try.func3, Try.ntmps3
    go_wp2_with fail
    refine (HA.out _).mono ?_
    rintro r w1 ⟨rfl, hb1⟩
    have d0 : w1.cell? ⟨w.heap.size, 0, none⟩ = some (.int .i64 m) := cellLater hb1 (by simp)
    have d1 : w1.cell? ⟨w.heap.size, 1, none⟩ = some (.int .i64 x) := cellLater hb1 (by simp)
    have hZ1 : Below w1.heap.size w1 (w1.alloc (.cells #[.int .i64 K1, .bool n1, .int .i64 E1, .int .u64 M1] 26)) := (Below.refl _ _).alloc (Nat.le_refl _) _
    have c0 := cellLater hZ1 d0
    have c1 := cellLater hZ1 d1
    have p0 : (w1.alloc (.cells #[.int .i64 K1, .bool n1, .int .i64 E1, .int .u64 M1] 26)).cell? ⟨w1.heap.size, 0, none⟩ = some (.int .i64 K1) := by simp
    have HB := hidden ((box_below _ hb1).trans (hZ1.mono (box_below _ hb1).size))
    clear hb1 hZ1 d0 d1
    go_upto_region 2 with fail
    generalize w1.alloc (.cells #[.int .i64 K1, .bool n1, .int .i64 E1, .int .u64 M1] 26) = w3 at *
    go_wp2_with fail
    refine (HX.out _).mono ?_
    rintro r w4 ⟨rfl, hb4⟩
    have c0 := cellLater hb4 c0
    have c1 := cellLater hb4 c1
    have p0 := cellLater hb4 p0
    have HB := hidden (HB.out.trans (hb4.mono HB.out.size))
    have hZ2 : Below w4.heap.size w4 (w4.alloc (.cells #[.int .i64 K2, .bool n2, .int .i64 E2, .int .u64 M2] 26)) := (Below.refl _ _).alloc (Nat.le_refl _) _
    have c0 := cellLater hZ2 c0
    have c1 := cellLater hZ2 c1
    have p0 := cellLater hZ2 p0
    have q0 : (w4.alloc (.cells #[.int .i64 K2, .bool n2, .int .i64 E2, .int .u64 M2] 26)).cell? ⟨w4.heap.size, 0, none⟩ = some (.int .i64 K2) := by simp
    have HB := hidden (HB.out.trans (hZ2.mono HB.out.size))
    clear hb4 hZ2
    go_upto_region 3 with fail
    generalize w4.alloc (.cells #[.int .i64 K2, .bool n2, .int .i64 E2, .int .u64 M2] 26) = w6 at *
    go_upto_region 11 with (first | (go_at_call 6; (with_reducible refine (H1.out _).mono ?_); rintro r w9 ⟨rfl, hb⟩; have c0 := cellLater hb c0; have c1 := cellLater hb c1; have p0 := cellLater hb p0; have q0 := cellLater hb q0; have HB := hidden (HB.out.trans (hb.mono HB.out.size)); clear hb) | (go_at_call 6; (with_reducible refine (H2.out _).mono ?_); rintro r w9 ⟨rfl, hb⟩; have c0 := cellLater hb c0; have c1 := cellLater hb c1; have p0 := cellLater hb p0; have q0 := cellLater hb q0; have HB := hidden (HB.out.trans (hb.mono HB.out.size)); clear hb) | (go_at_call 7; (with_reducible refine (H3.out _).mono ?_); rintro r w9 ⟨rfl, hb⟩; have c0 := cellLater hb c0; have c1 := cellLater hb c1; have p0 := cellLater hb p0; have q0 := cellLater hb q0; have HB := hidden (HB.out.trans (hb.mono HB.out.size)); clear hb) | (go_at_call 7; (with_reducible refine (H4.out _).mono ?_); rintro r w9 ⟨rfl, hb⟩; have c0 := cellLater hb c0; have c1 := cellLater hb c1; have p0 := cellLater hb p0; have q0 := cellLater hb q0; have HB := hidden (HB.out.trans (hb.mono HB.out.size)); clear hb) | (go_at_call 8; refine (HM.out _).mono ?_; rintro r w9 ⟨rfl, hw⟩; obtain rfl := hw.symm))
    go_region_held3 (fun w' => w'.cell? ⟨w.heap.size, 0, none⟩ = some (.int .i64 m) ∧ w'.cell? ⟨w.heap.size, 1, none⟩ = some (.int .i64 x) ∧ w'.cell? ⟨w1.heap.size, 0, none⟩ = some (.int .i64 K1) ∧ w'.cell? ⟨w4.heap.size, 0, none⟩ = some (.int .i64 K2)) (go_keep) (first | (go_at_call 11; refine (HT.out _).mono ?_; rintro r w10 ⟨rfl, hb10⟩; have c0 : w10.cell? ⟨w.heap.size, 0, none⟩ = some (.int .i64 m) := cellLater hb10 (by go_keep); have c1 : w10.cell? ⟨w.heap.size, 1, none⟩ = some (.int .i64 x) := cellLater hb10 (by go_keep); have p0 : w10.cell? ⟨w1.heap.size, 0, none⟩ = some (.int .i64 K1) := cellLater hb10 (by go_keep); have q0 : w10.cell? ⟨w4.heap.size, 0, none⟩ = some (.int .i64 K2) := cellLater hb10 (by go_keep)) | (go_at_call 10; refine (H5.out _).mono ?_; rintro r w11 ⟨rfl, hb11⟩; have c0 : w11.cell? ⟨w.heap.size, 0, none⟩ = some (.int .i64 m) := cellLater hb11 (by go_keep); have c1 : w11.cell? ⟨w.heap.size, 1, none⟩ = some (.int .i64 x) := cellLater hb11 (by go_keep); have p0 : w11.cell? ⟨w1.heap.size, 0, none⟩ = some (.int .i64 K1) := cellLater hb11 (by go_keep); have q0 : w11.cell? ⟨w4.heap.size, 0, none⟩ = some (.int .i64 K2) := cellLater hb11 (by go_keep)))
  all_goals
    have h0 := HB.out.drew
    have h1 := h0.trans (hb10.mono h0.size)
    have HB := hidden (h1.trans (hb11.mono h1.size))
    clear h0 h1 hb10 hb11
    go_upto_region 20 with (first | (go_at_call 10; (with_reducible refine (H6.out _).mono ?_); rintro r w9 ⟨rfl, hb⟩; have c0 := cellLater hb c0; have c1 := cellLater hb c1; have p0 := cellLater hb p0; have q0 := cellLater hb q0; have HB := hidden (HB.out.trans (hb.mono HB.out.size)); clear hb) | (go_at_call 10; (with_reducible refine (H7.out _).mono ?_); rintro r w9 ⟨rfl, hb⟩; have c0 := cellLater hb c0; have c1 := cellLater hb c1; have p0 := cellLater hb p0; have q0 := cellLater hb q0; have HB := hidden (HB.out.trans (hb.mono HB.out.size)); clear hb) | (go_at_call 12; refine (HN.out _).mono ?_; rintro r w9 ⟨rfl, hb⟩; have c0 := cellLater hb c0; have c1 := cellLater hb c1; have p0 := cellLater hb p0; have q0 := cellLater hb q0; have HB := hidden (HB.out.trans (hb.mono HB.out.size)); clear hb) | (go_at_call 14; refine (HZ.out _).mono ?_; rintro r w9 ⟨rfl, hb⟩; have c0 := cellLater hb c0; have c1 := cellLater hb c1; have p0 := cellLater hb p0; have q0 := cellLater hb q0; have HB := hidden (HB.out.trans (hb.mono HB.out.size)); clear hb) | (go_at_call 11; refine (HU.out _).mono ?_; rintro r w9 ⟨rfl, hb⟩; have c0 := cellLater hb c0; have c1 := cellLater hb c1; have p0 := cellLater hb p0; have q0 := cellLater hb q0; have HB := hidden (HB.out.trans (hb.mono HB.out.size)); clear hb) | (go_at_call 8; refine (HM.out _).mono ?_; rintro r w9 ⟨rfl, hw⟩; obtain rfl := hw.symm) | (go_at_call 9; refine (HL.out _).mono ?_; rintro r w9 ⟨rfl, hb⟩; have HB := hidden (HB.out.trans (hb.mono HB.out.size)); clear hb))
    go_region_held3 (fun w' => w'.cell? ⟨w.heap.size, 0, none⟩ = some (.int .i64 m) ∧ w'.cell? ⟨w.heap.size, 1, none⟩ = some (.int .i64 x) ∧ w'.cell? ⟨w1.heap.size, 0, none⟩ = some (.int .i64 K1) ∧ w'.cell? ⟨w4.heap.size, 0, none⟩ = some (.int .i64 K2)) (go_keep) (first | (go_at_call 14; refine (HZ.out _).mono ?_; rintro r w12 ⟨rfl, hb12⟩; have c0 : w12.cell? ⟨w.heap.size, 0, none⟩ = some (.int .i64 m) := cellLater hb12 (by go_keep); have c1 : w12.cell? ⟨w.heap.size, 1, none⟩ = some (.int .i64 x) := cellLater hb12 (by go_keep); have p0 : w12.cell? ⟨w1.heap.size, 0, none⟩ = some (.int .i64 K1) := cellLater hb12 (by go_keep); have q0 : w12.cell? ⟨w4.heap.size, 0, none⟩ = some (.int .i64 K2) := cellLater hb12 (by go_keep)) | (go_at_call 13; refine (HC.out _).mono ?_; rintro r w13 ⟨rfl, hb13⟩; have c0 : w13.cell? ⟨w.heap.size, 0, none⟩ = some (.int .i64 m) := cellLater hb13 (by go_keep); have c1 : w13.cell? ⟨w.heap.size, 1, none⟩ = some (.int .i64 x) := cellLater hb13 (by go_keep); have p0 : w13.cell? ⟨w1.heap.size, 0, none⟩ = some (.int .i64 K1) := cellLater hb13 (by go_keep); have q0 : w13.cell? ⟨w4.heap.size, 0, none⟩ = some (.int .i64 K2) := cellLater hb13 (by go_keep)))
  all_goals
    have h0 := HB.out.drew
    have h1 := h0.trans (hb12.mono h0.size)
    have HB := hidden (h1.trans (hb13.mono h1.size))
    clear h0 h1 hb12 hb13
    go_wp2_with (first | (go_at_call 10; (with_reducible refine (H6.out _).mono ?_); rintro r w9 ⟨rfl, hb⟩; have c0 := cellLater hb c0; have c1 := cellLater hb c1; have p0 := cellLater hb p0; have q0 := cellLater hb q0; have HB := hidden (HB.out.trans (hb.mono HB.out.size)); clear hb) | (go_at_call 10; (with_reducible refine (H7.out _).mono ?_); rintro r w9 ⟨rfl, hb⟩; have c0 := cellLater hb c0; have c1 := cellLater hb c1; have p0 := cellLater hb p0; have q0 := cellLater hb q0; have HB := hidden (HB.out.trans (hb.mono HB.out.size)); clear hb) | (go_at_call 12; refine (HN.out _).mono ?_; rintro r w9 ⟨rfl, hb⟩; have c0 := cellLater hb c0; have c1 := cellLater hb c1; have p0 := cellLater hb p0; have q0 := cellLater hb q0; have HB := hidden (HB.out.trans (hb.mono HB.out.size)); clear hb) | (go_at_call 14; refine (HZ.out _).mono ?_; rintro r w9 ⟨rfl, hb⟩; have c0 := cellLater hb c0; have c1 := cellLater hb c1; have p0 := cellLater hb p0; have q0 := cellLater hb q0; have HB := hidden (HB.out.trans (hb.mono HB.out.size)); clear hb) | (go_at_call 11; refine (HU.out _).mono ?_; rintro r w9 ⟨rfl, hb⟩; have c0 := cellLater hb c0; have c1 := cellLater hb c1; have p0 := cellLater hb p0; have q0 := cellLater hb q0; have HB := hidden (HB.out.trans (hb.mono HB.out.size)); clear hb) | (go_at_call 8; refine (HM.out _).mono ?_; rintro r w9 ⟨rfl, hw⟩; obtain rfl := hw.symm) | (go_at_call 9; refine (HL.out _).mono ?_; rintro r w9 ⟨rfl, hb⟩; have HB := hidden (HB.out.trans (hb.mono HB.out.size)); clear hb))
    go_ret
    exact ⟨rfl, HB.out⟩
theorem turns_same (m x a b K1 E1 M1 K2 E2 M2 X Z TB S M O N0 c TM : Int) (n1 n2 ok : Bool) (w : World) (hc : (K1 == 4) = false ∧ (K2 == 4) = false ∧ S = X ∧ ok = true ∧ c = 0 ∧ M = 0 ∧ O = 0 ∧ ((K1 != 1) = true ∨ ((K1 != 1) = false ∧ (K2 != 1) = true) ∨ ((K1 != 1) = false ∧ (K2 != 1) = false ∧ (a == b) = true)))
    (HA : Hid (∀ w, Calls Try.prog 5 #[.agg #[.int .i64 m, .int .i64 x], .int .u64 a] w fun r w' => r = .returned (.tuple #[partsV K1 n1 E1 M1, .int .i64 0]) ∧ Below w.heap.size w w'))
    (HX : Hid (∀ w, Calls Try.prog 5 #[.agg #[.int .i64 m, .int .i64 x], .int .u64 b] w fun r w' => r = .returned (.tuple #[partsV K2 n2 E2 M2, .int .i64 0]) ∧ Below w.heap.size w w'))
    (H1 : Hid (∀ w, Calls Try.prog 6 #[.agg #[.int .i64 m, .int .i64 x], .int .u64 a, .int .u64 b] w fun r w' => r = .returned (.tuple #[.int .u64 X, .int .i64 0]) ∧ Below w.heap.size w w'))
    (H2 : Hid (∀ w, Calls Try.prog 6 #[.agg #[.int .i64 m, .int .i64 x], .int .u64 b, .int .u64 a] w fun r w' => r = .returned (.tuple #[.int .u64 X, .int .i64 0]) ∧ Below w.heap.size w w'))
    (H3 : Hid (∀ w, Calls Try.prog 7 #[.agg #[.int .i64 m, .int .i64 x], .int .u64 a, .int .u64 b] w fun r w' => r = .returned (.tuple #[.int .u64 Z, .int .i64 0]) ∧ Below w.heap.size w w'))
    (H4 : Hid (∀ w, Calls Try.prog 7 #[.agg #[.int .i64 m, .int .i64 x], .int .u64 b, .int .u64 a] w fun r w' => r = .returned (.tuple #[.int .u64 Z, .int .i64 0]) ∧ Below w.heap.size w w'))
    (HT : Hid (∀ w, Calls Try.prog 11 #[.agg #[.int .i64 m, .int .i64 x], .int .u64 b] w fun r w' => r = .returned (.int .u64 TB) ∧ Below w.heap.size w w'))
    (H5 : Hid (∀ w, Calls Try.prog 10 #[.agg #[.int .i64 m, .int .i64 x], .int .u64 a, .int .u64 TB] w fun r w' => r = .returned (.tuple #[.int .u64 S, .int .i64 0]) ∧ Below w.heap.size w w'))
    (H6 : Hid (∀ w, Calls Try.prog 10 #[.agg #[.int .i64 m, .int .i64 x], .int .u64 a, .int .u64 b] w fun r w' => r = .returned (.tuple #[.int .u64 M, .int .i64 0]) ∧ Below w.heap.size w w'))
    (H7 : Hid (∀ w, Calls Try.prog 10 #[.agg #[.int .i64 m, .int .i64 x], .int .u64 b, .int .u64 a] w fun r w' => r = .returned (.tuple #[.int .u64 O, .int .i64 0]) ∧ Below w.heap.size w w'))
    (HN : Hid (∀ w, Calls Try.prog 12 #[.agg #[.int .i64 m, .int .i64 x]] w fun r w' => r = .returned (.int .u64 N0) ∧ Below w.heap.size w w'))
    (HZ : Hid (∀ w, Calls Try.prog 14 #[.agg #[.int .i64 m, .int .i64 x], .bool false] w fun r w' => r = .returned (.int .u64 0) ∧ Below w.heap.size w w'))
    (HC : Hid (∀ w, Calls Try.prog 13 #[.agg #[.int .i64 m, .int .i64 x], .int .u64 M, .int .u64 0] w fun r w' => r = .returned (.tuple #[.int .i64 c, .bool ok, .int .i64 0]) ∧ Below w.heap.size w w'))
    (HU : Hid (∀ w, Calls Try.prog 11 #[.agg #[.int .i64 m, .int .i64 x], .int .u64 M] w fun r w' => r = .returned (.int .u64 TM) ∧ Below w.heap.size w w'))
    : Calls Try.prog 3 #[.agg #[.int .i64 m, .int .i64 x], .int .u64 a, .int .u64 b] w fun r w' => r = .returned (.bool true) ∧ Below w.heap.size w w' := by
  have HL := hidden live_any
  have HM := hidden (fun w => num_any 0 w (by decide) (by decide))
  rcases hc with ⟨k1, k2, rfl, rfl, rfl, rfl, rfl, k3 | ⟨k4, k3⟩ | ⟨k4, k5, k3⟩⟩
  all_goals
    go_enter Try.func3, Try.ntmps3
    go_wp2_with fail
    refine (HA.out _).mono ?_
    rintro r w1 ⟨rfl, hb1⟩
    have d0 : w1.cell? ⟨w.heap.size, 0, none⟩ = some (.int .i64 m) := cellLater hb1 (by simp)
    have d1 : w1.cell? ⟨w.heap.size, 1, none⟩ = some (.int .i64 x) := cellLater hb1 (by simp)
    have hZ1 : Below w1.heap.size w1 (w1.alloc (.cells #[.int .i64 K1, .bool n1, .int .i64 E1, .int .u64 M1] 26)) := (Below.refl _ _).alloc (Nat.le_refl _) _
    have c0 := cellLater hZ1 d0
    have c1 := cellLater hZ1 d1
    have p0 : (w1.alloc (.cells #[.int .i64 K1, .bool n1, .int .i64 E1, .int .u64 M1] 26)).cell? ⟨w1.heap.size, 0, none⟩ = some (.int .i64 K1) := by simp
    have HB := hidden ((box_below _ hb1).trans (hZ1.mono (box_below _ hb1).size))
    clear hb1 hZ1 d0 d1
    go_upto_region 2 with fail
    generalize w1.alloc (.cells #[.int .i64 K1, .bool n1, .int .i64 E1, .int .u64 M1] 26) = w3 at *
    go_wp2_with fail
    refine (HX.out _).mono ?_
    rintro r w4 ⟨rfl, hb4⟩
    have c0 := cellLater hb4 c0
    have c1 := cellLater hb4 c1
    have p0 := cellLater hb4 p0
    have HB := hidden (HB.out.trans (hb4.mono HB.out.size))
    have hZ2 : Below w4.heap.size w4 (w4.alloc (.cells #[.int .i64 K2, .bool n2, .int .i64 E2, .int .u64 M2] 26)) := (Below.refl _ _).alloc (Nat.le_refl _) _
    have c0 := cellLater hZ2 c0
    have c1 := cellLater hZ2 c1
    have p0 := cellLater hZ2 p0
    have q0 : (w4.alloc (.cells #[.int .i64 K2, .bool n2, .int .i64 E2, .int .u64 M2] 26)).cell? ⟨w4.heap.size, 0, none⟩ = some (.int .i64 K2) := by simp
    have HB := hidden (HB.out.trans (hZ2.mono HB.out.size))
    clear hb4 hZ2
    go_upto_region 3 with fail
    generalize w4.alloc (.cells #[.int .i64 K2, .bool n2, .int .i64 E2, .int .u64 M2] 26) = w6 at *
    go_upto_region 11 with (first | (go_at_call 6; (with_reducible refine (H1.out _).mono ?_); rintro r w9 ⟨rfl, hb⟩; have c0 := cellLater hb c0; have c1 := cellLater hb c1; have p0 := cellLater hb p0; have q0 := cellLater hb q0; have HB := hidden (HB.out.trans (hb.mono HB.out.size)); clear hb) | (go_at_call 6; (with_reducible refine (H2.out _).mono ?_); rintro r w9 ⟨rfl, hb⟩; have c0 := cellLater hb c0; have c1 := cellLater hb c1; have p0 := cellLater hb p0; have q0 := cellLater hb q0; have HB := hidden (HB.out.trans (hb.mono HB.out.size)); clear hb) | (go_at_call 7; (with_reducible refine (H3.out _).mono ?_); rintro r w9 ⟨rfl, hb⟩; have c0 := cellLater hb c0; have c1 := cellLater hb c1; have p0 := cellLater hb p0; have q0 := cellLater hb q0; have HB := hidden (HB.out.trans (hb.mono HB.out.size)); clear hb) | (go_at_call 7; (with_reducible refine (H4.out _).mono ?_); rintro r w9 ⟨rfl, hb⟩; have c0 := cellLater hb c0; have c1 := cellLater hb c1; have p0 := cellLater hb p0; have q0 := cellLater hb q0; have HB := hidden (HB.out.trans (hb.mono HB.out.size)); clear hb) | (go_at_call 8; refine (HM.out _).mono ?_; rintro r w9 ⟨rfl, hw⟩; obtain rfl := hw.symm))
    go_region_held3 (fun w' => w'.cell? ⟨w.heap.size, 0, none⟩ = some (.int .i64 m) ∧ w'.cell? ⟨w.heap.size, 1, none⟩ = some (.int .i64 x) ∧ w'.cell? ⟨w1.heap.size, 0, none⟩ = some (.int .i64 K1) ∧ w'.cell? ⟨w4.heap.size, 0, none⟩ = some (.int .i64 K2)) (go_keep) (first | (go_at_call 11; refine (HT.out _).mono ?_; rintro r w10 ⟨rfl, hb10⟩; have c0 : w10.cell? ⟨w.heap.size, 0, none⟩ = some (.int .i64 m) := cellLater hb10 (by go_keep); have c1 : w10.cell? ⟨w.heap.size, 1, none⟩ = some (.int .i64 x) := cellLater hb10 (by go_keep); have p0 : w10.cell? ⟨w1.heap.size, 0, none⟩ = some (.int .i64 K1) := cellLater hb10 (by go_keep); have q0 : w10.cell? ⟨w4.heap.size, 0, none⟩ = some (.int .i64 K2) := cellLater hb10 (by go_keep)) | (go_at_call 10; refine (H5.out _).mono ?_; rintro r w11 ⟨rfl, hb11⟩; have c0 : w11.cell? ⟨w.heap.size, 0, none⟩ = some (.int .i64 m) := cellLater hb11 (by go_keep); have c1 : w11.cell? ⟨w.heap.size, 1, none⟩ = some (.int .i64 x) := cellLater hb11 (by go_keep); have p0 : w11.cell? ⟨w1.heap.size, 0, none⟩ = some (.int .i64 K1) := cellLater hb11 (by go_keep); have q0 : w11.cell? ⟨w4.heap.size, 0, none⟩ = some (.int .i64 K2) := cellLater hb11 (by go_keep)))
  all_goals
    have h0 := HB.out.drew
    have h1 := h0.trans (hb10.mono h0.size)
    have HB := hidden (h1.trans (hb11.mono h1.size))
    clear h0 h1 hb10 hb11
    go_upto_region 20 with (first | (go_at_call 10; (with_reducible refine (H6.out _).mono ?_); rintro r w9 ⟨rfl, hb⟩; have c0 := cellLater hb c0; have c1 := cellLater hb c1; have p0 := cellLater hb p0; have q0 := cellLater hb q0; have HB := hidden (HB.out.trans (hb.mono HB.out.size)); clear hb) | (go_at_call 10; (with_reducible refine (H7.out _).mono ?_); rintro r w9 ⟨rfl, hb⟩; have c0 := cellLater hb c0; have c1 := cellLater hb c1; have p0 := cellLater hb p0; have q0 := cellLater hb q0; have HB := hidden (HB.out.trans (hb.mono HB.out.size)); clear hb) | (go_at_call 12; refine (HN.out _).mono ?_; rintro r w9 ⟨rfl, hb⟩; have c0 := cellLater hb c0; have c1 := cellLater hb c1; have p0 := cellLater hb p0; have q0 := cellLater hb q0; have HB := hidden (HB.out.trans (hb.mono HB.out.size)); clear hb) | (go_at_call 14; refine (HZ.out _).mono ?_; rintro r w9 ⟨rfl, hb⟩; have c0 := cellLater hb c0; have c1 := cellLater hb c1; have p0 := cellLater hb p0; have q0 := cellLater hb q0; have HB := hidden (HB.out.trans (hb.mono HB.out.size)); clear hb) | (go_at_call 11; refine (HU.out _).mono ?_; rintro r w9 ⟨rfl, hb⟩; have c0 := cellLater hb c0; have c1 := cellLater hb c1; have p0 := cellLater hb p0; have q0 := cellLater hb q0; have HB := hidden (HB.out.trans (hb.mono HB.out.size)); clear hb) | (go_at_call 8; refine (HM.out _).mono ?_; rintro r w9 ⟨rfl, hw⟩; obtain rfl := hw.symm) | (go_at_call 9; refine (HL.out _).mono ?_; rintro r w9 ⟨rfl, hb⟩; have HB := hidden (HB.out.trans (hb.mono HB.out.size)); clear hb))
    go_region_held3 (fun w' => w'.cell? ⟨w.heap.size, 0, none⟩ = some (.int .i64 m) ∧ w'.cell? ⟨w.heap.size, 1, none⟩ = some (.int .i64 x) ∧ w'.cell? ⟨w1.heap.size, 0, none⟩ = some (.int .i64 K1) ∧ w'.cell? ⟨w4.heap.size, 0, none⟩ = some (.int .i64 K2)) (go_keep) (first | (go_at_call 14; refine (HZ.out _).mono ?_; rintro r w12 ⟨rfl, hb12⟩; have c0 : w12.cell? ⟨w.heap.size, 0, none⟩ = some (.int .i64 m) := cellLater hb12 (by go_keep); have c1 : w12.cell? ⟨w.heap.size, 1, none⟩ = some (.int .i64 x) := cellLater hb12 (by go_keep); have p0 : w12.cell? ⟨w1.heap.size, 0, none⟩ = some (.int .i64 K1) := cellLater hb12 (by go_keep); have q0 : w12.cell? ⟨w4.heap.size, 0, none⟩ = some (.int .i64 K2) := cellLater hb12 (by go_keep)) | (go_at_call 13; refine (HC.out _).mono ?_; rintro r w13 ⟨rfl, hb13⟩; have c0 : w13.cell? ⟨w.heap.size, 0, none⟩ = some (.int .i64 m) := cellLater hb13 (by go_keep); have c1 : w13.cell? ⟨w.heap.size, 1, none⟩ = some (.int .i64 x) := cellLater hb13 (by go_keep); have p0 : w13.cell? ⟨w1.heap.size, 0, none⟩ = some (.int .i64 K1) := cellLater hb13 (by go_keep); have q0 : w13.cell? ⟨w4.heap.size, 0, none⟩ = some (.int .i64 K2) := cellLater hb13 (by go_keep)))
  all_goals
    have h0 := HB.out.drew
    have h1 := h0.trans (hb12.mono h0.size)
    have HB := hidden (h1.trans (hb13.mono h1.size))
    clear h0 h1 hb12 hb13
    go_wp2_with (first | (go_at_call 10; (with_reducible refine (H6.out _).mono ?_); rintro r w9 ⟨rfl, hb⟩; have c0 := cellLater hb c0; have c1 := cellLater hb c1; have p0 := cellLater hb p0; have q0 := cellLater hb q0; have HB := hidden (HB.out.trans (hb.mono HB.out.size)); clear hb) | (go_at_call 10; (with_reducible refine (H7.out _).mono ?_); rintro r w9 ⟨rfl, hb⟩; have c0 := cellLater hb c0; have c1 := cellLater hb c1; have p0 := cellLater hb p0; have q0 := cellLater hb q0; have HB := hidden (HB.out.trans (hb.mono HB.out.size)); clear hb) | (go_at_call 12; refine (HN.out _).mono ?_; rintro r w9 ⟨rfl, hb⟩; have c0 := cellLater hb c0; have c1 := cellLater hb c1; have p0 := cellLater hb p0; have q0 := cellLater hb q0; have HB := hidden (HB.out.trans (hb.mono HB.out.size)); clear hb) | (go_at_call 14; refine (HZ.out _).mono ?_; rintro r w9 ⟨rfl, hb⟩; have c0 := cellLater hb c0; have c1 := cellLater hb c1; have p0 := cellLater hb p0; have q0 := cellLater hb q0; have HB := hidden (HB.out.trans (hb.mono HB.out.size)); clear hb) | (go_at_call 11; refine (HU.out _).mono ?_; rintro r w9 ⟨rfl, hb⟩; have c0 := cellLater hb c0; have c1 := cellLater hb c1; have p0 := cellLater hb p0; have q0 := cellLater hb q0; have HB := hidden (HB.out.trans (hb.mono HB.out.size)); clear hb) | (go_at_call 8; refine (HM.out _).mono ?_; rintro r w9 ⟨rfl, hw⟩; obtain rfl := hw.symm) | (go_at_call 9; refine (HL.out _).mono ?_; rintro r w9 ⟨rfl, hb⟩; have HB := hidden (HB.out.trans (hb.mono HB.out.size)); clear hb))
    go_ret
    exact ⟨rfl, HB.out⟩
theorem turns_turn (m x a b K1 E1 M1 K2 E2 M2 X Z TB S M O N0 c TM : Int) (n1 n2 ok : Bool) (w : World) (hc : (K1 == 4) = false ∧ (K2 == 4) = false ∧ S = X ∧ ok = true ∧ O = TM ∧ ((c == 0) = false ∨ (c = 0 ∧ (K1 != 1) = false ∧ (K2 != 1) = false ∧ (a == b) = false)))
    (HA : Hid (∀ w, Calls Try.prog 5 #[.agg #[.int .i64 m, .int .i64 x], .int .u64 a] w fun r w' => r = .returned (.tuple #[partsV K1 n1 E1 M1, .int .i64 0]) ∧ Below w.heap.size w w'))
    (HX : Hid (∀ w, Calls Try.prog 5 #[.agg #[.int .i64 m, .int .i64 x], .int .u64 b] w fun r w' => r = .returned (.tuple #[partsV K2 n2 E2 M2, .int .i64 0]) ∧ Below w.heap.size w w'))
    (H1 : Hid (∀ w, Calls Try.prog 6 #[.agg #[.int .i64 m, .int .i64 x], .int .u64 a, .int .u64 b] w fun r w' => r = .returned (.tuple #[.int .u64 X, .int .i64 0]) ∧ Below w.heap.size w w'))
    (H2 : Hid (∀ w, Calls Try.prog 6 #[.agg #[.int .i64 m, .int .i64 x], .int .u64 b, .int .u64 a] w fun r w' => r = .returned (.tuple #[.int .u64 X, .int .i64 0]) ∧ Below w.heap.size w w'))
    (H3 : Hid (∀ w, Calls Try.prog 7 #[.agg #[.int .i64 m, .int .i64 x], .int .u64 a, .int .u64 b] w fun r w' => r = .returned (.tuple #[.int .u64 Z, .int .i64 0]) ∧ Below w.heap.size w w'))
    (H4 : Hid (∀ w, Calls Try.prog 7 #[.agg #[.int .i64 m, .int .i64 x], .int .u64 b, .int .u64 a] w fun r w' => r = .returned (.tuple #[.int .u64 Z, .int .i64 0]) ∧ Below w.heap.size w w'))
    (HT : Hid (∀ w, Calls Try.prog 11 #[.agg #[.int .i64 m, .int .i64 x], .int .u64 b] w fun r w' => r = .returned (.int .u64 TB) ∧ Below w.heap.size w w'))
    (H5 : Hid (∀ w, Calls Try.prog 10 #[.agg #[.int .i64 m, .int .i64 x], .int .u64 a, .int .u64 TB] w fun r w' => r = .returned (.tuple #[.int .u64 S, .int .i64 0]) ∧ Below w.heap.size w w'))
    (H6 : Hid (∀ w, Calls Try.prog 10 #[.agg #[.int .i64 m, .int .i64 x], .int .u64 a, .int .u64 b] w fun r w' => r = .returned (.tuple #[.int .u64 M, .int .i64 0]) ∧ Below w.heap.size w w'))
    (H7 : Hid (∀ w, Calls Try.prog 10 #[.agg #[.int .i64 m, .int .i64 x], .int .u64 b, .int .u64 a] w fun r w' => r = .returned (.tuple #[.int .u64 O, .int .i64 0]) ∧ Below w.heap.size w w'))
    (HN : Hid (∀ w, Calls Try.prog 12 #[.agg #[.int .i64 m, .int .i64 x]] w fun r w' => r = .returned (.int .u64 N0) ∧ Below w.heap.size w w'))
    (HZ : Hid (∀ w, Calls Try.prog 14 #[.agg #[.int .i64 m, .int .i64 x], .bool false] w fun r w' => r = .returned (.int .u64 0) ∧ Below w.heap.size w w'))
    (HC : Hid (∀ w, Calls Try.prog 13 #[.agg #[.int .i64 m, .int .i64 x], .int .u64 M, .int .u64 0] w fun r w' => r = .returned (.tuple #[.int .i64 c, .bool ok, .int .i64 0]) ∧ Below w.heap.size w w'))
    (HU : Hid (∀ w, Calls Try.prog 11 #[.agg #[.int .i64 m, .int .i64 x], .int .u64 M] w fun r w' => r = .returned (.int .u64 TM) ∧ Below w.heap.size w w'))
    : Calls Try.prog 3 #[.agg #[.int .i64 m, .int .i64 x], .int .u64 a, .int .u64 b] w fun r w' => r = .returned (.bool true) ∧ Below w.heap.size w w' := by
  have HL := hidden live_any
  have HM := hidden (fun w => num_any 0 w (by decide) (by decide))
  rcases hc with ⟨k1, k2, rfl, rfl, rfl, k3 | ⟨rfl, k4, k5, k3⟩⟩
  all_goals
    go_enter Try.func3, Try.ntmps3
    go_wp2_with fail
    refine (HA.out _).mono ?_
    rintro r w1 ⟨rfl, hb1⟩
    have d0 : w1.cell? ⟨w.heap.size, 0, none⟩ = some (.int .i64 m) := cellLater hb1 (by simp)
    have d1 : w1.cell? ⟨w.heap.size, 1, none⟩ = some (.int .i64 x) := cellLater hb1 (by simp)
    have hZ1 : Below w1.heap.size w1 (w1.alloc (.cells #[.int .i64 K1, .bool n1, .int .i64 E1, .int .u64 M1] 26)) := (Below.refl _ _).alloc (Nat.le_refl _) _
    have c0 := cellLater hZ1 d0
    have c1 := cellLater hZ1 d1
    have p0 : (w1.alloc (.cells #[.int .i64 K1, .bool n1, .int .i64 E1, .int .u64 M1] 26)).cell? ⟨w1.heap.size, 0, none⟩ = some (.int .i64 K1) := by simp
    have HB := hidden ((box_below _ hb1).trans (hZ1.mono (box_below _ hb1).size))
    clear hb1 hZ1 d0 d1
    go_upto_region 2 with fail
    generalize w1.alloc (.cells #[.int .i64 K1, .bool n1, .int .i64 E1, .int .u64 M1] 26) = w3 at *
    go_wp2_with fail
    refine (HX.out _).mono ?_
    rintro r w4 ⟨rfl, hb4⟩
    have c0 := cellLater hb4 c0
    have c1 := cellLater hb4 c1
    have p0 := cellLater hb4 p0
    have HB := hidden (HB.out.trans (hb4.mono HB.out.size))
    have hZ2 : Below w4.heap.size w4 (w4.alloc (.cells #[.int .i64 K2, .bool n2, .int .i64 E2, .int .u64 M2] 26)) := (Below.refl _ _).alloc (Nat.le_refl _) _
    have c0 := cellLater hZ2 c0
    have c1 := cellLater hZ2 c1
    have p0 := cellLater hZ2 p0
    have q0 : (w4.alloc (.cells #[.int .i64 K2, .bool n2, .int .i64 E2, .int .u64 M2] 26)).cell? ⟨w4.heap.size, 0, none⟩ = some (.int .i64 K2) := by simp
    have HB := hidden (HB.out.trans (hZ2.mono HB.out.size))
    clear hb4 hZ2
    go_upto_region 3 with fail
    generalize w4.alloc (.cells #[.int .i64 K2, .bool n2, .int .i64 E2, .int .u64 M2] 26) = w6 at *
    go_upto_region 11 with (first | (go_at_call 6; (with_reducible refine (H1.out _).mono ?_); rintro r w9 ⟨rfl, hb⟩; have c0 := cellLater hb c0; have c1 := cellLater hb c1; have p0 := cellLater hb p0; have q0 := cellLater hb q0; have HB := hidden (HB.out.trans (hb.mono HB.out.size)); clear hb) | (go_at_call 6; (with_reducible refine (H2.out _).mono ?_); rintro r w9 ⟨rfl, hb⟩; have c0 := cellLater hb c0; have c1 := cellLater hb c1; have p0 := cellLater hb p0; have q0 := cellLater hb q0; have HB := hidden (HB.out.trans (hb.mono HB.out.size)); clear hb) | (go_at_call 7; (with_reducible refine (H3.out _).mono ?_); rintro r w9 ⟨rfl, hb⟩; have c0 := cellLater hb c0; have c1 := cellLater hb c1; have p0 := cellLater hb p0; have q0 := cellLater hb q0; have HB := hidden (HB.out.trans (hb.mono HB.out.size)); clear hb) | (go_at_call 7; (with_reducible refine (H4.out _).mono ?_); rintro r w9 ⟨rfl, hb⟩; have c0 := cellLater hb c0; have c1 := cellLater hb c1; have p0 := cellLater hb p0; have q0 := cellLater hb q0; have HB := hidden (HB.out.trans (hb.mono HB.out.size)); clear hb) | (go_at_call 8; refine (HM.out _).mono ?_; rintro r w9 ⟨rfl, hw⟩; obtain rfl := hw.symm))
    go_region_held3 (fun w' => w'.cell? ⟨w.heap.size, 0, none⟩ = some (.int .i64 m) ∧ w'.cell? ⟨w.heap.size, 1, none⟩ = some (.int .i64 x) ∧ w'.cell? ⟨w1.heap.size, 0, none⟩ = some (.int .i64 K1) ∧ w'.cell? ⟨w4.heap.size, 0, none⟩ = some (.int .i64 K2)) (go_keep) (first | (go_at_call 11; refine (HT.out _).mono ?_; rintro r w10 ⟨rfl, hb10⟩; have c0 : w10.cell? ⟨w.heap.size, 0, none⟩ = some (.int .i64 m) := cellLater hb10 (by go_keep); have c1 : w10.cell? ⟨w.heap.size, 1, none⟩ = some (.int .i64 x) := cellLater hb10 (by go_keep); have p0 : w10.cell? ⟨w1.heap.size, 0, none⟩ = some (.int .i64 K1) := cellLater hb10 (by go_keep); have q0 : w10.cell? ⟨w4.heap.size, 0, none⟩ = some (.int .i64 K2) := cellLater hb10 (by go_keep)) | (go_at_call 10; refine (H5.out _).mono ?_; rintro r w11 ⟨rfl, hb11⟩; have c0 : w11.cell? ⟨w.heap.size, 0, none⟩ = some (.int .i64 m) := cellLater hb11 (by go_keep); have c1 : w11.cell? ⟨w.heap.size, 1, none⟩ = some (.int .i64 x) := cellLater hb11 (by go_keep); have p0 : w11.cell? ⟨w1.heap.size, 0, none⟩ = some (.int .i64 K1) := cellLater hb11 (by go_keep); have q0 : w11.cell? ⟨w4.heap.size, 0, none⟩ = some (.int .i64 K2) := cellLater hb11 (by go_keep)))
  all_goals
    have h0 := HB.out.drew
    have h1 := h0.trans (hb10.mono h0.size)
    have HB := hidden (h1.trans (hb11.mono h1.size))
    clear h0 h1 hb10 hb11
    go_upto_region 20 with (first | (go_at_call 10; (with_reducible refine (H6.out _).mono ?_); rintro r w9 ⟨rfl, hb⟩; have c0 := cellLater hb c0; have c1 := cellLater hb c1; have p0 := cellLater hb p0; have q0 := cellLater hb q0; have HB := hidden (HB.out.trans (hb.mono HB.out.size)); clear hb) | (go_at_call 10; (with_reducible refine (H7.out _).mono ?_); rintro r w9 ⟨rfl, hb⟩; have c0 := cellLater hb c0; have c1 := cellLater hb c1; have p0 := cellLater hb p0; have q0 := cellLater hb q0; have HB := hidden (HB.out.trans (hb.mono HB.out.size)); clear hb) | (go_at_call 12; refine (HN.out _).mono ?_; rintro r w9 ⟨rfl, hb⟩; have c0 := cellLater hb c0; have c1 := cellLater hb c1; have p0 := cellLater hb p0; have q0 := cellLater hb q0; have HB := hidden (HB.out.trans (hb.mono HB.out.size)); clear hb) | (go_at_call 14; refine (HZ.out _).mono ?_; rintro r w9 ⟨rfl, hb⟩; have c0 := cellLater hb c0; have c1 := cellLater hb c1; have p0 := cellLater hb p0; have q0 := cellLater hb q0; have HB := hidden (HB.out.trans (hb.mono HB.out.size)); clear hb) | (go_at_call 11; refine (HU.out _).mono ?_; rintro r w9 ⟨rfl, hb⟩; have c0 := cellLater hb c0; have c1 := cellLater hb c1; have p0 := cellLater hb p0; have q0 := cellLater hb q0; have HB := hidden (HB.out.trans (hb.mono HB.out.size)); clear hb) | (go_at_call 8; refine (HM.out _).mono ?_; rintro r w9 ⟨rfl, hw⟩; obtain rfl := hw.symm) | (go_at_call 9; refine (HL.out _).mono ?_; rintro r w9 ⟨rfl, hb⟩; have HB := hidden (HB.out.trans (hb.mono HB.out.size)); clear hb))
    go_region_held3 (fun w' => w'.cell? ⟨w.heap.size, 0, none⟩ = some (.int .i64 m) ∧ w'.cell? ⟨w.heap.size, 1, none⟩ = some (.int .i64 x) ∧ w'.cell? ⟨w1.heap.size, 0, none⟩ = some (.int .i64 K1) ∧ w'.cell? ⟨w4.heap.size, 0, none⟩ = some (.int .i64 K2)) (go_keep) (first | (go_at_call 14; refine (HZ.out _).mono ?_; rintro r w12 ⟨rfl, hb12⟩; have c0 : w12.cell? ⟨w.heap.size, 0, none⟩ = some (.int .i64 m) := cellLater hb12 (by go_keep); have c1 : w12.cell? ⟨w.heap.size, 1, none⟩ = some (.int .i64 x) := cellLater hb12 (by go_keep); have p0 : w12.cell? ⟨w1.heap.size, 0, none⟩ = some (.int .i64 K1) := cellLater hb12 (by go_keep); have q0 : w12.cell? ⟨w4.heap.size, 0, none⟩ = some (.int .i64 K2) := cellLater hb12 (by go_keep)) | (go_at_call 13; refine (HC.out _).mono ?_; rintro r w13 ⟨rfl, hb13⟩; have c0 : w13.cell? ⟨w.heap.size, 0, none⟩ = some (.int .i64 m) := cellLater hb13 (by go_keep); have c1 : w13.cell? ⟨w.heap.size, 1, none⟩ = some (.int .i64 x) := cellLater hb13 (by go_keep); have p0 : w13.cell? ⟨w1.heap.size, 0, none⟩ = some (.int .i64 K1) := cellLater hb13 (by go_keep); have q0 : w13.cell? ⟨w4.heap.size, 0, none⟩ = some (.int .i64 K2) := cellLater hb13 (by go_keep)))
  all_goals
    have h0 := HB.out.drew
    have h1 := h0.trans (hb12.mono h0.size)
    have HB := hidden (h1.trans (hb13.mono h1.size))
    clear h0 h1 hb12 hb13
    go_wp2_with (first | (go_at_call 10; (with_reducible refine (H6.out _).mono ?_); rintro r w9 ⟨rfl, hb⟩; have c0 := cellLater hb c0; have c1 := cellLater hb c1; have p0 := cellLater hb p0; have q0 := cellLater hb q0; have HB := hidden (HB.out.trans (hb.mono HB.out.size)); clear hb) | (go_at_call 10; (with_reducible refine (H7.out _).mono ?_); rintro r w9 ⟨rfl, hb⟩; have c0 := cellLater hb c0; have c1 := cellLater hb c1; have p0 := cellLater hb p0; have q0 := cellLater hb q0; have HB := hidden (HB.out.trans (hb.mono HB.out.size)); clear hb) | (go_at_call 12; refine (HN.out _).mono ?_; rintro r w9 ⟨rfl, hb⟩; have c0 := cellLater hb c0; have c1 := cellLater hb c1; have p0 := cellLater hb p0; have q0 := cellLater hb q0; have HB := hidden (HB.out.trans (hb.mono HB.out.size)); clear hb) | (go_at_call 14; refine (HZ.out _).mono ?_; rintro r w9 ⟨rfl, hb⟩; have c0 := cellLater hb c0; have c1 := cellLater hb c1; have p0 := cellLater hb p0; have q0 := cellLater hb q0; have HB := hidden (HB.out.trans (hb.mono HB.out.size)); clear hb) | (go_at_call 11; refine (HU.out _).mono ?_; rintro r w9 ⟨rfl, hb⟩; have c0 := cellLater hb c0; have c1 := cellLater hb c1; have p0 := cellLater hb p0; have q0 := cellLater hb q0; have HB := hidden (HB.out.trans (hb.mono HB.out.size)); clear hb) | (go_at_call 8; refine (HM.out _).mono ?_; rintro r w9 ⟨rfl, hw⟩; obtain rfl := hw.symm) | (go_at_call 9; refine (HL.out _).mono ?_; rintro r w9 ⟨rfl, hb⟩; have HB := hidden (HB.out.trans (hb.mono HB.out.size)); clear hb))
    go_ret
    exact ⟨rfl, HB.out⟩
end Go.Proofs.Ytlhknchmgckgiaa
