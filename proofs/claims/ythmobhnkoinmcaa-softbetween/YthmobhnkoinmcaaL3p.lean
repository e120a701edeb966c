/- The walk of SoftBetween, leaf by leaf: its callees' answers are given. -/
import Derived.Test.YthmobhnkoinmcaaP3b
import Derived.Test.YthmobhnkoinmcaaL3a
import Derived.Deep.Cut
import Derived.Deep.CutRange
import Derived.Deep.RegionHeld3
import Derived.Deep.RegionWith
namespace Go.Proofs.Ythmobhnkoinmcaa
open Go.RowKit
set_option maxRecDepth 100000
set_option maxHeartbeats 1000000
set_option linter.unusedVariables false
theorem rbox (K E M : Int) (n : Bool) (w : World) : ∃ w5, w5 = w.alloc (.cells #[.int .i64 K, .bool n, .int .i64 E, .int .u64 M] 38) ∧ Below w.heap.size w w5 ∧ w5.cell? ⟨w.heap.size, 0, none⟩ = some (.int .i64 K) ∧ w5.cell? ⟨w.heap.size, 1, none⟩ = some (.bool n) :=
  ⟨_, rfl, (Below.refl _ _).alloc (Nat.le_refl _) _, by simp, by simp⟩

theorem bt_small (m x a B : Int) (n : Bool) (w : World) (hB : B ≤ m)
    (HL : Hid (∀ w, Calls Try.prog 14 #[] w fun r w' => r = .returned (.bool true) ∧ Below w.heap.size w w')) (HM0 : Hid (∀ w, Calls Try.prog 19 #[.int .i64 0] w fun r w' => r = .returned (.int .i64 0) ∧ w' = w)) (HM1 : Hid (∀ w, Calls Try.prog 19 #[.int .i64 1] w fun r w' => r = .returned (.int .i64 1) ∧ w' = w)) (HC : Hid (∀ w, Calls Try.prog 20 #[.agg #[.int .i64 m, .int .i64 x]] w fun r w' => r = .returned (.int .i64 0) ∧ w' = w.alloc (.cells #[.int .i64 m, .int .i64 x] 35))) (HBi : Hid (∀ w, Calls Try.prog 21 #[.agg #[.int .i64 m, .int .i64 x]] w fun r w' => r = .returned (.int .i64 B) ∧ w' = w.alloc (.cells #[.int .i64 m, .int .i64 x] 35)))
     :
    Calls Try.prog 5 #[.agg #[.int .i64 m, .int .i64 x], .int .u64 a] w fun r w' => r = .returned (.bool true) ∧ Below w.heap.size w w' := by
  have c0 : (w.alloc (.cells #[.int .i64 m, .int .i64 x] 35)).cell? ⟨w.heap.size, 0, none⟩ = some (.int .i64 m) := by simp
  have c1 : (w.alloc (.cells #[.int .i64 m, .int .i64 x] 35)).cell? ⟨w.heap.size, 1, none⟩ = some (.int .i64 x) := by simp
  have HB := hidden ((Below.refl w.heap.size w).alloc (Nat.le_refl _) (.cells #[.int .i64 m, .int .i64 x] 35))
  go_enter Try.func5, Try.ntmps5
  go_upto_region 1 with fail
  go_cut [37] from 28 to 37 (fun s wx => s = .bool true ∧ wx.cell? ⟨w.heap.size, 0, none⟩ = some (.int .i64 m) ∧ wx.cell? ⟨w.heap.size, 1, none⟩ = some (.int .i64 x) ∧ Below w.heap.size w wx)
  case first =>
    go_region_held3 (fun w' => w'.cell? ⟨w.heap.size, 0, none⟩ = some (.int .i64 m) ∧ w'.cell? ⟨w.heap.size, 1, none⟩ = some (.int .i64 x)) (go_keep) (first | (go_at_call 20; refine (HC.out _).mono ?_; rintro r w1 ⟨rfl, hw⟩; subst hw) | (go_at_call 21; refine (HBi.out _).mono ?_; rintro r w1 ⟨rfl, hw⟩; subst hw))
    all_goals (try go_wp2_with fail)
    all_goals go_meet
    all_goals exact ⟨rfl, by go_keep, by go_keep, by repeat (first | exact Below.refl _ _ | apply Below.drew | (refine Below.alloc ?_ (by simp; try omega) _))⟩
  case rest =>
    obtain ⟨rfl, d0, d1, hb⟩ := hcut
    replace HB := hidden hb
    clear hb c0 c1
    have c0 := d0
    have c1 := d1
    clear d0 d1
    go_wp2_with (first | (go_at_call_of 19 (Value.int IntKind.i64 0); refine (HM0.out _).mono ?_; rintro r w9 ⟨rfl, hw⟩; obtain rfl := hw.symm) | (go_at_call_of 19 (Value.int IntKind.i64 1); refine (HM1.out _).mono ?_; rintro r w9 ⟨rfl, hw⟩; obtain rfl := hw.symm) | (go_at_call 14; refine (HL.out _).mono ?_; rintro r w9 ⟨rfl, hb⟩; replace HB := hidden (HB.out.trans (hb.mono HB.out.size)); clear hb))
    go_ret
    exact ⟨rfl, HB.out⟩

theorem bt_no (m x a K E M : Int) (n : Bool) (w : World) 
    (HL : Hid (∀ w, Calls Try.prog 14 #[] w fun r w' => r = .returned (.bool true) ∧ Below w.heap.size w w')) (HM0 : Hid (∀ w, Calls Try.prog 19 #[.int .i64 0] w fun r w' => r = .returned (.int .i64 0) ∧ w' = w)) (HM1 : Hid (∀ w, Calls Try.prog 19 #[.int .i64 1] w fun r w' => r = .returned (.int .i64 1) ∧ w' = w)) (HC : Hid (∀ w, Calls Try.prog 20 #[.agg #[.int .i64 m, .int .i64 x]] w fun r w' => r = .returned (.int .i64 1) ∧ w' = w.alloc (.cells #[.int .i64 m, .int .i64 x] 35))) 
    (H1 : Hid (∀ w, Calls Try.prog 13 #[.agg #[.int .i64 m, .int .i64 x], .int .u64 a] w fun r w' => r = .returned (.tuple #[partsV K n E M, .int .i64 1]) ∧ Below w.heap.size w w')) (H2 : Hid (∀ w, Calls Try.prog 22 #[.agg #[.int .i64 m, .int .i64 x], .int .u64 a] w fun r w' => r = .returned (.tuple #[.int .u64 0, .int .i64 1]) ∧ Below w.heap.size w w')) (H3 : Hid (∀ w, Calls Try.prog 23 #[.agg #[.int .i64 m, .int .i64 x], .int .u64 a] w fun r w' => r = .returned (.tuple #[.int .u64 0, .int .i64 1]) ∧ Below w.heap.size w w')) :
    Calls Try.prog 5 #[.agg #[.int .i64 m, .int .i64 x], .int .u64 a] w fun r w' => r = .returned (.bool true) ∧ Below w.heap.size w w' := by
  have c0 : (w.alloc (.cells #[.int .i64 m, .int .i64 x] 35)).cell? ⟨w.heap.size, 0, none⟩ = some (.int .i64 m) := by simp
  have c1 : (w.alloc (.cells #[.int .i64 m, .int .i64 x] 35)).cell? ⟨w.heap.size, 1, none⟩ = some (.int .i64 x) := by simp
  have HB := hidden ((Below.refl w.heap.size w).alloc (Nat.le_refl _) (.cells #[.int .i64 m, .int .i64 x] 35))
  go_enter Try.func5, Try.ntmps5
  go_upto_region 1 with fail
  go_cut [37] from 28 to 37 (fun s wx => s = .bool false ∧ wx.cell? ⟨w.heap.size, 0, none⟩ = some (.int .i64 m) ∧ wx.cell? ⟨w.heap.size, 1, none⟩ = some (.int .i64 x) ∧ Below w.heap.size w wx)
  case first =>
    first | (go_region_with (first | (go_at_call 20; refine (HC.out _).mono ?_; rintro r w1 ⟨rfl, hw⟩; subst hw))) | fail
    all_goals (try go_wp2_with fail)
    all_goals go_meet
    all_goals exact ⟨rfl, by go_keep, by go_keep, by repeat (first | exact Below.refl _ _ | apply Below.drew | (refine Below.alloc ?_ (by simp; try omega) _))⟩
  case rest =>
    obtain ⟨rfl, d0, d1, hb⟩ := hcut
    replace HB := hidden hb
    clear hb c0 c1
    have c0 := d0
    have c1 := d1
    clear d0 d1
    go_upto_region 4 with (first | (go_at_call_of 13 (Value.int IntKind.u64 a); refine (H1.out _).mono ?_; rintro r w9 ⟨rfl, hb⟩; replace c0 := cellLater hb c0; replace c1 := cellLater hb c1; replace HB := hidden (HB.out.trans (hb.mono HB.out.size)); clear hb))
    change Code.wp _ _ _ _ (w9.alloc (.cells #[.int .i64 K, .bool n, .int .i64 E, .int .u64 M] 38))
    obtain ⟨wA, hwA, hb, a0, a1⟩ := rbox K E M n w9
    rw [← hwA]
    clear hwA
    replace c0 := cellLater hb c0; replace c1 := cellLater hb c1; replace HB := hidden (HB.out.trans (hb.mono HB.out.size)); clear hb
    generalize w9.heap.size = j1 at *
    clear w9
    go_wp2_with (first | (go_at_call 22; refine (H2.out _).mono ?_; rintro r w9 ⟨rfl, hb⟩; replace c0 := cellLater hb c0; replace c1 := cellLater hb c1; replace a0 := cellLater hb a0; replace a1 := cellLater hb a1; replace HB := hidden (HB.out.trans (hb.mono HB.out.size)); clear hb) | (go_at_call 23; refine (H3.out _).mono ?_; rintro r w9 ⟨rfl, hb⟩; replace c0 := cellLater hb c0; replace c1 := cellLater hb c1; replace a0 := cellLater hb a0; replace a1 := cellLater hb a1; replace HB := hidden (HB.out.trans (hb.mono HB.out.size)); clear hb) | (go_at_call_of 19 (Value.int IntKind.i64 0); refine (HM0.out _).mono ?_; rintro r w9 ⟨rfl, hw⟩; obtain rfl := hw.symm) | (go_at_call_of 19 (Value.int IntKind.i64 1); refine (HM1.out _).mono ?_; rintro r w9 ⟨rfl, hw⟩; obtain rfl := hw.symm) | (go_at_call 14; refine (HL.out _).mono ?_; rintro r w9 ⟨rfl, hb⟩; replace HB := hidden (HB.out.trans (hb.mono HB.out.size)); clear hb))
    go_ret
    exact ⟨rfl, HB.out⟩

theorem bt_err (m x a B K E M : Int) (n : Bool) (w : World) (hB : ¬ B ≤ m)
    (HL : Hid (∀ w, Calls Try.prog 14 #[] w fun r w' => r = .returned (.bool true) ∧ Below w.heap.size w w')) (HM0 : Hid (∀ w, Calls Try.prog 19 #[.int .i64 0] w fun r w' => r = .returned (.int .i64 0) ∧ w' = w)) (HM1 : Hid (∀ w, Calls Try.prog 19 #[.int .i64 1] w fun r w' => r = .returned (.int .i64 1) ∧ w' = w)) (HC : Hid (∀ w, Calls Try.prog 20 #[.agg #[.int .i64 m, .int .i64 x]] w fun r w' => r = .returned (.int .i64 0) ∧ w' = w.alloc (.cells #[.int .i64 m, .int .i64 x] 35))) (HBi : Hid (∀ w, Calls Try.prog 21 #[.agg #[.int .i64 m, .int .i64 x]] w fun r w' => r = .returned (.int .i64 B) ∧ w' = w.alloc (.cells #[.int .i64 m, .int .i64 x] 35)))
    (H1 : Hid (∀ w, Calls Try.prog 13 #[.agg #[.int .i64 m, .int .i64 x], .int .u64 a] w fun r w' => r = .returned (.tuple #[partsV K n E M, .int .i64 1]) ∧ Below w.heap.size w w')) (H2 : Hid (∀ w, Calls Try.prog 22 #[.agg #[.int .i64 m, .int .i64 x], .int .u64 a] w fun r w' => r = .returned (.tuple #[.int .u64 0, .int .i64 1]) ∧ Below w.heap.size w w')) (H3 : Hid (∀ w, Calls Try.prog 23 #[.agg #[.int .i64 m, .int .i64 x], .int .u64 a] w fun r w' => r = .returned (.tuple #[.int .u64 0, .int .i64 1]) ∧ Below w.heap.size w w')) :
    Calls Try.prog 5 #[.agg #[.int .i64 m, .int .i64 x], .int .u64 a] w fun r w' => r = .returned (.bool true) ∧ Below w.heap.size w w' := by
  have c0 : (w.alloc (.cells #[.int .i64 m, .int .i64 x] 35)).cell? ⟨w.heap.size, 0, none⟩ = some (.int .i64 m) := by simp
  have c1 : (w.alloc (.cells #[.int .i64 m, .int .i64 x] 35)).cell? ⟨w.heap.size, 1, none⟩ = some (.int .i64 x) := by simp
  have HB := hidden ((Below.refl w.heap.size w).alloc (Nat.le_refl _) (.cells #[.int .i64 m, .int .i64 x] 35))
  go_enter Try.func5, Try.ntmps5
  go_upto_region 1 with fail
  go_cut [37] from 28 to 37 (fun s wx => s = .bool (decide (B ≤ m)) ∧ wx.cell? ⟨w.heap.size, 0, none⟩ = some (.int .i64 m) ∧ wx.cell? ⟨w.heap.size, 1, none⟩ = some (.int .i64 x) ∧ Below w.heap.size w wx)
  case first =>
    go_region_held3 (fun w' => w'.cell? ⟨w.heap.size, 0, none⟩ = some (.int .i64 m) ∧ w'.cell? ⟨w.heap.size, 1, none⟩ = some (.int .i64 x)) (go_keep) (first | (go_at_call 20; refine (HC.out _).mono ?_; rintro r w1 ⟨rfl, hw⟩; subst hw) | (go_at_call 21; refine (HBi.out _).mono ?_; rintro r w1 ⟨rfl, hw⟩; subst hw))
    all_goals (try go_wp2_with fail)
    all_goals go_meet
    all_goals exact ⟨rfl, by go_keep, by go_keep, by repeat (first | exact Below.refl _ _ | apply Below.drew | (refine Below.alloc ?_ (by simp; try omega) _))⟩
  case rest =>
    obtain ⟨rfl, d0, d1, hb⟩ := hcut
    replace HB := hidden hb
    clear hb c0 c1
    have c0 := d0
    have c1 := d1
    clear d0 d1
    go_upto_region 4 with (first | (go_at_call_of 13 (Value.int IntKind.u64 a); refine (H1.out _).mono ?_; rintro r w9 ⟨rfl, hb⟩; replace c0 := cellLater hb c0; replace c1 := cellLater hb c1; replace HB := hidden (HB.out.trans (hb.mono HB.out.size)); clear hb))
    change Code.wp _ _ _ _ (w9.alloc (.cells #[.int .i64 K, .bool n, .int .i64 E, .int .u64 M] 38))
    obtain ⟨wA, hwA, hb, a0, a1⟩ := rbox K E M n w9
    rw [← hwA]
    clear hwA
    replace c0 := cellLater hb c0; replace c1 := cellLater hb c1; replace HB := hidden (HB.out.trans (hb.mono HB.out.size)); clear hb
    generalize w9.heap.size = j1 at *
    clear w9
    go_wp2_with (first | (go_at_call 22; refine (H2.out _).mono ?_; rintro r w9 ⟨rfl, hb⟩; replace c0 := cellLater hb c0; replace c1 := cellLater hb c1; replace a0 := cellLater hb a0; replace a1 := cellLater hb a1; replace HB := hidden (HB.out.trans (hb.mono HB.out.size)); clear hb) | (go_at_call 23; refine (H3.out _).mono ?_; rintro r w9 ⟨rfl, hb⟩; replace c0 := cellLater hb c0; replace c1 := cellLater hb c1; replace a0 := cellLater hb a0; replace a1 := cellLater hb a1; replace HB := hidden (HB.out.trans (hb.mono HB.out.size)); clear hb) | (go_at_call_of 19 (Value.int IntKind.i64 0); refine (HM0.out _).mono ?_; rintro r w9 ⟨rfl, hw⟩; obtain rfl := hw.symm) | (go_at_call_of 19 (Value.int IntKind.i64 1); refine (HM1.out _).mono ?_; rintro r w9 ⟨rfl, hw⟩; obtain rfl := hw.symm) | (go_at_call 14; refine (HL.out _).mono ?_; rintro r w9 ⟨rfl, hb⟩; replace HB := hidden (HB.out.trans (hb.mono HB.out.size)); clear hb))
    go_ret
    exact ⟨rfl, HB.out⟩

theorem bt_nan (m x a B K E M N : Int) (n : Bool) (w : World) (hB : ¬ B ≤ m) (k0 : (K == 4) = true)
    (HL : Hid (∀ w, Calls Try.prog 14 #[] w fun r w' => r = .returned (.bool true) ∧ Below w.heap.size w w')) (HM0 : Hid (∀ w, Calls Try.prog 19 #[.int .i64 0] w fun r w' => r = .returned (.int .i64 0) ∧ w' = w)) (HM1 : Hid (∀ w, Calls Try.prog 19 #[.int .i64 1] w fun r w' => r = .returned (.int .i64 1) ∧ w' = w)) (HC : Hid (∀ w, Calls Try.prog 20 #[.agg #[.int .i64 m, .int .i64 x]] w fun r w' => r = .returned (.int .i64 0) ∧ w' = w.alloc (.cells #[.int .i64 m, .int .i64 x] 35))) (HBi : Hid (∀ w, Calls Try.prog 21 #[.agg #[.int .i64 m, .int .i64 x]] w fun r w' => r = .returned (.int .i64 B) ∧ w' = w.alloc (.cells #[.int .i64 m, .int .i64 x] 35)))
    (H1 : Hid (∀ w, Calls Try.prog 13 #[.agg #[.int .i64 m, .int .i64 x], .int .u64 a] w fun r w' => r = .returned (.tuple #[partsV K n E M, .int .i64 0]) ∧ Below w.heap.size w w')) (H2 : Hid (∀ w, Calls Try.prog 22 #[.agg #[.int .i64 m, .int .i64 x], .int .u64 a] w fun r w' => r = .returned (.tuple #[.int .u64 N, .int .i64 0]) ∧ Below w.heap.size w w')) (H3 : Hid (∀ w, Calls Try.prog 23 #[.agg #[.int .i64 m, .int .i64 x], .int .u64 a] w fun r w' => r = .returned (.tuple #[.int .u64 N, .int .i64 0]) ∧ Below w.heap.size w w')) (HN : Hid (∀ w, Calls Try.prog 24 #[.agg #[.int .i64 m, .int .i64 x]] w fun r w' => r = .returned (.int .u64 N) ∧ Below w.heap.size w w')) :
    Calls Try.prog 5 #[.agg #[.int .i64 m, .int .i64 x], .int .u64 a] w fun r w' => r = .returned (.bool true) ∧ Below w.heap.size w w' := by
  have c0 : (w.alloc (.cells #[.int .i64 m, .int .i64 x] 35)).cell? ⟨w.heap.size, 0, none⟩ = some (.int .i64 m) := by simp
  have c1 : (w.alloc (.cells #[.int .i64 m, .int .i64 x] 35)).cell? ⟨w.heap.size, 1, none⟩ = some (.int .i64 x) := by simp
  have HB := hidden ((Below.refl w.heap.size w).alloc (Nat.le_refl _) (.cells #[.int .i64 m, .int .i64 x] 35))
  go_enter Try.func5, Try.ntmps5
  go_upto_region 1 with fail
  go_cut [37] from 28 to 37 (fun s wx => s = .bool (decide (B ≤ m)) ∧ wx.cell? ⟨w.heap.size, 0, none⟩ = some (.int .i64 m) ∧ wx.cell? ⟨w.heap.size, 1, none⟩ = some (.int .i64 x) ∧ Below w.heap.size w wx)
  case first =>
    go_region_held3 (fun w' => w'.cell? ⟨w.heap.size, 0, none⟩ = some (.int .i64 m) ∧ w'.cell? ⟨w.heap.size, 1, none⟩ = some (.int .i64 x)) (go_keep) (first | (go_at_call 20; refine (HC.out _).mono ?_; rintro r w1 ⟨rfl, hw⟩; subst hw) | (go_at_call 21; refine (HBi.out _).mono ?_; rintro r w1 ⟨rfl, hw⟩; subst hw))
    all_goals (try go_wp2_with fail)
    all_goals go_meet
    all_goals exact ⟨rfl, by go_keep, by go_keep, by repeat (first | exact Below.refl _ _ | apply Below.drew | (refine Below.alloc ?_ (by simp; try omega) _))⟩
  case rest =>
    obtain ⟨rfl, d0, d1, hb⟩ := hcut
    replace HB := hidden hb
    clear hb c0 c1
    have c0 := d0
    have c1 := d1
    clear d0 d1
    go_upto_region 4 with (first | (go_at_call_of 13 (Value.int IntKind.u64 a); refine (H1.out _).mono ?_; rintro r w9 ⟨rfl, hb⟩; replace c0 := cellLater hb c0; replace c1 := cellLater hb c1; replace HB := hidden (HB.out.trans (hb.mono HB.out.size)); clear hb))
    change Code.wp _ _ _ _ (w9.alloc (.cells #[.int .i64 K, .bool n, .int .i64 E, .int .u64 M] 38))
    obtain ⟨wA, hwA, hb, a0, a1⟩ := rbox K E M n w9
    rw [← hwA]
    clear hwA
    replace c0 := cellLater hb c0; replace c1 := cellLater hb c1; replace HB := hidden (HB.out.trans (hb.mono HB.out.size)); clear hb
    generalize w9.heap.size = j1 at *
    clear w9
    go_wp2_with (first | (go_at_call 22; refine (H2.out _).mono ?_; rintro r w9 ⟨rfl, hb⟩; replace c0 := cellLater hb c0; replace c1 := cellLater hb c1; replace a0 := cellLater hb a0; replace a1 := cellLater hb a1; replace HB := hidden (HB.out.trans (hb.mono HB.out.size)); clear hb) | (go_at_call 23; refine (H3.out _).mono ?_; rintro r w9 ⟨rfl, hb⟩; replace c0 := cellLater hb c0; replace c1 := cellLater hb c1; replace a0 := cellLater hb a0; replace a1 := cellLater hb a1; replace HB := hidden (HB.out.trans (hb.mono HB.out.size)); clear hb) | (go_at_call 24; refine (HN.out _).mono ?_; rintro r w9 ⟨rfl, hb⟩; replace c0 := cellLater hb c0; replace c1 := cellLater hb c1; replace a0 := cellLater hb a0; replace a1 := cellLater hb a1; replace HB := hidden (HB.out.trans (hb.mono HB.out.size)); clear hb) | (go_at_call_of 19 (Value.int IntKind.i64 0); refine (HM0.out _).mono ?_; rintro r w9 ⟨rfl, hw⟩; obtain rfl := hw.symm) | (go_at_call_of 19 (Value.int IntKind.i64 1); refine (HM1.out _).mono ?_; rintro r w9 ⟨rfl, hw⟩; obtain rfl := hw.symm) | (go_at_call 14; refine (HL.out _).mono ?_; rintro r w9 ⟨rfl, hb⟩; replace HB := hidden (HB.out.trans (hb.mono HB.out.size)); clear hb))
    go_ret
    exact ⟨rfl, HB.out⟩

theorem bt_self (m x a B K E M O U c : Int) (n o p q : Bool) (w : World) (hB : ¬ B ≤ m) (k0 : (K == 4) = false)
    (HL : Hid (∀ w, Calls Try.prog 14 #[] w fun r w' => r = .returned (.bool true) ∧ Below w.heap.size w w')) (HM0 : Hid (∀ w, Calls Try.prog 19 #[.int .i64 0] w fun r w' => r = .returned (.int .i64 0) ∧ w' = w)) (HM1 : Hid (∀ w, Calls Try.prog 19 #[.int .i64 1] w fun r w' => r = .returned (.int .i64 1) ∧ w' = w)) (HC : Hid (∀ w, Calls Try.prog 20 #[.agg #[.int .i64 m, .int .i64 x]] w fun r w' => r = .returned (.int .i64 0) ∧ w' = w.alloc (.cells #[.int .i64 m, .int .i64 x] 35))) (HBi : Hid (∀ w, Calls Try.prog 21 #[.agg #[.int .i64 m, .int .i64 x]] w fun r w' => r = .returned (.int .i64 B) ∧ w' = w.alloc (.cells #[.int .i64 m, .int .i64 x] 35)))
    (H1 : Hid (∀ w, Calls Try.prog 13 #[.agg #[.int .i64 m, .int .i64 x], .int .u64 a] w fun r w' => r = .returned (.tuple #[partsV K n E M, .int .i64 0]) ∧ Below w.heap.size w w')) (H2 : Hid (∀ w, Calls Try.prog 22 #[.agg #[.int .i64 m, .int .i64 x], .int .u64 a] w fun r w' => r = .returned (.tuple #[.int .u64 a, .int .i64 0]) ∧ Below w.heap.size w w')) (H3 : Hid (∀ w, Calls Try.prog 23 #[.agg #[.int .i64 m, .int .i64 x], .int .u64 a] w fun r w' => r = .returned (.tuple #[.int .u64 a, .int .i64 0]) ∧ Below w.heap.size w w')) (H4 : Hid (∀ w, Calls Try.prog 25 #[.agg #[.int .i64 m, .int .i64 x], .int .u64 a, .int .u64 a] w fun r w' => r = .returned (.tuple #[.int .i64 0, .bool o, .int .i64 0]) ∧ Below w.heap.size w w')) (H6 : Hid (∀ w, Calls Try.prog 26 #[.agg #[.int .i64 m, .int .i64 x], .bool false, .int .u64 0, .int .u64 1, .int .i64 0, .bool false] w fun r w' => r = .returned (.tuple #[.int .u64 O, .int .i64 0]) ∧ Below w.heap.size w w')) (H7 : Hid (∀ w, Calls Try.prog 18 #[.agg #[.int .i64 m, .int .i64 x], .int .u64 a, .int .u64 O] w fun r w' => r = .returned (.tuple #[.int .u64 U, .int .i64 0]) ∧ Below w.heap.size w w')) (H8 : Hid (∀ w, Calls Try.prog 25 #[.agg #[.int .i64 m, .int .i64 x], .int .u64 U, .int .u64 a] w fun r w' => r = .returned (.tuple #[.int .i64 c, .bool q, .int .i64 0]) ∧ Below w.heap.size w w')) :
    Calls Try.prog 5 #[.agg #[.int .i64 m, .int .i64 x], .int .u64 a] w fun r w' => r = .returned (.bool true) ∧ Below w.heap.size w w' := by
  have c0 : (w.alloc (.cells #[.int .i64 m, .int .i64 x] 35)).cell? ⟨w.heap.size, 0, none⟩ = some (.int .i64 m) := by simp
  have c1 : (w.alloc (.cells #[.int .i64 m, .int .i64 x] 35)).cell? ⟨w.heap.size, 1, none⟩ = some (.int .i64 x) := by simp
  have HB := hidden ((Below.refl w.heap.size w).alloc (Nat.le_refl _) (.cells #[.int .i64 m, .int .i64 x] 35))
  go_enter Try.func5, Try.ntmps5
  go_upto_region 1 with fail
  go_cut [37] from 28 to 37 (fun s wx => s = .bool (decide (B ≤ m)) ∧ wx.cell? ⟨w.heap.size, 0, none⟩ = some (.int .i64 m) ∧ wx.cell? ⟨w.heap.size, 1, none⟩ = some (.int .i64 x) ∧ Below w.heap.size w wx)
  case first =>
    go_region_held3 (fun w' => w'.cell? ⟨w.heap.size, 0, none⟩ = some (.int .i64 m) ∧ w'.cell? ⟨w.heap.size, 1, none⟩ = some (.int .i64 x)) (go_keep) (first | (go_at_call 20; refine (HC.out _).mono ?_; rintro r w1 ⟨rfl, hw⟩; subst hw) | (go_at_call 21; refine (HBi.out _).mono ?_; rintro r w1 ⟨rfl, hw⟩; subst hw))
    all_goals (try go_wp2_with fail)
    all_goals go_meet
    all_goals exact ⟨rfl, by go_keep, by go_keep, by repeat (first | exact Below.refl _ _ | apply Below.drew | (refine Below.alloc ?_ (by simp; try omega) _))⟩
  case rest =>
    obtain ⟨rfl, d0, d1, hb⟩ := hcut
    replace HB := hidden hb
    clear hb c0 c1
    have c0 := d0
    have c1 := d1
    clear d0 d1
    go_upto_region 4 with (first | (go_at_call_of 13 (Value.int IntKind.u64 a); refine (H1.out _).mono ?_; rintro r w9 ⟨rfl, hb⟩; replace c0 := cellLater hb c0; replace c1 := cellLater hb c1; replace HB := hidden (HB.out.trans (hb.mono HB.out.size)); clear hb))
    change Code.wp _ _ _ _ (w9.alloc (.cells #[.int .i64 K, .bool n, .int .i64 E, .int .u64 M] 38))
    obtain ⟨wA, hwA, hb, a0, a1⟩ := rbox K E M n w9
    rw [← hwA]
    clear hwA
    replace c0 := cellLater hb c0; replace c1 := cellLater hb c1; replace HB := hidden (HB.out.trans (hb.mono HB.out.size)); clear hb
    generalize w9.heap.size = j1 at *
    clear w9
    go_wp2_with (first | (go_at_call 22; refine (H2.out _).mono ?_; rintro r w9 ⟨rfl, hb⟩; replace c0 := cellLater hb c0; replace c1 := cellLater hb c1; replace a0 := cellLater hb a0; replace a1 := cellLater hb a1; replace HB := hidden (HB.out.trans (hb.mono HB.out.size)); clear hb) | (go_at_call 23; refine (H3.out _).mono ?_; rintro r w9 ⟨rfl, hb⟩; replace c0 := cellLater hb c0; replace c1 := cellLater hb c1; replace a0 := cellLater hb a0; replace a1 := cellLater hb a1; replace HB := hidden (HB.out.trans (hb.mono HB.out.size)); clear hb) | (go_at_call_of 25 (Value.int IntKind.u64 U); refine (H8.out _).mono ?_; rintro r w9 ⟨rfl, hb⟩; replace c0 := cellLater hb c0; replace c1 := cellLater hb c1; replace a0 := cellLater hb a0; replace a1 := cellLater hb a1; replace HB := hidden (HB.out.trans (hb.mono HB.out.size)); clear hb) | (go_at_call 25; refine (H4.out _).mono ?_; rintro r w9 ⟨rfl, hb⟩; replace c0 := cellLater hb c0; replace c1 := cellLater hb c1; replace a0 := cellLater hb a0; replace a1 := cellLater hb a1; replace HB := hidden (HB.out.trans (hb.mono HB.out.size)); clear hb) | (go_at_call 26; refine (H6.out _).mono ?_; rintro r w9 ⟨rfl, hb⟩; replace c0 := cellLater hb c0; replace c1 := cellLater hb c1; replace a0 := cellLater hb a0; replace a1 := cellLater hb a1; replace HB := hidden (HB.out.trans (hb.mono HB.out.size)); clear hb) | (go_at_call 18; refine (H7.out _).mono ?_; rintro r w9 ⟨rfl, hb⟩; replace c0 := cellLater hb c0; replace c1 := cellLater hb c1; replace a0 := cellLater hb a0; replace a1 := cellLater hb a1; replace HB := hidden (HB.out.trans (hb.mono HB.out.size)); clear hb) | (go_at_call_of 19 (Value.int IntKind.i64 0); refine (HM0.out _).mono ?_; rintro r w9 ⟨rfl, hw⟩; obtain rfl := hw.symm) | (go_at_call_of 19 (Value.int IntKind.i64 1); refine (HM1.out _).mono ?_; rintro r w9 ⟨rfl, hw⟩; obtain rfl := hw.symm) | (go_at_call 14; refine (HL.out _).mono ?_; rintro r w9 ⟨rfl, hb⟩; replace HB := hidden (HB.out.trans (hb.mono HB.out.size)); clear hb))
    go_ret
    exact ⟨rfl, HB.out⟩

theorem bt_two0 (m x a B K E M X Y O U : Int) (n o p q : Bool) (w : World) (hB : ¬ B ≤ m) (k0 : (K == 4) = false) (h1 : (X == Y) = false)
    (HL : Hid (∀ w, Calls Try.prog 14 #[] w fun r w' => r = .returned (.bool true) ∧ Below w.heap.size w w')) (HM0 : Hid (∀ w, Calls Try.prog 19 #[.int .i64 0] w fun r w' => r = .returned (.int .i64 0) ∧ w' = w)) (HM1 : Hid (∀ w, Calls Try.prog 19 #[.int .i64 1] w fun r w' => r = .returned (.int .i64 1) ∧ w' = w)) (HC : Hid (∀ w, Calls Try.prog 20 #[.agg #[.int .i64 m, .int .i64 x]] w fun r w' => r = .returned (.int .i64 0) ∧ w' = w.alloc (.cells #[.int .i64 m, .int .i64 x] 35))) (HBi : Hid (∀ w, Calls Try.prog 21 #[.agg #[.int .i64 m, .int .i64 x]] w fun r w' => r = .returned (.int .i64 B) ∧ w' = w.alloc (.cells #[.int .i64 m, .int .i64 x] 35)))
    (H1 : Hid (∀ w, Calls Try.prog 13 #[.agg #[.int .i64 m, .int .i64 x], .int .u64 a] w fun r w' => r = .returned (.tuple #[partsV K n E M, .int .i64 0]) ∧ Below w.heap.size w w')) (H2 : Hid (∀ w, Calls Try.prog 22 #[.agg #[.int .i64 m, .int .i64 x], .int .u64 a] w fun r w' => r = .returned (.tuple #[.int .u64 X, .int .i64 0]) ∧ Below w.heap.size w w')) (H3 : Hid (∀ w, Calls Try.prog 23 #[.agg #[.int .i64 m, .int .i64 x], .int .u64 a] w fun r w' => r = .returned (.tuple #[.int .u64 Y, .int .i64 0]) ∧ Below w.heap.size w w')) (H4 : Hid (∀ w, Calls Try.prog 25 #[.agg #[.int .i64 m, .int .i64 x], .int .u64 X, .int .u64 a] w fun r w' => r = .returned (.tuple #[.int .i64 0, .bool o, .int .i64 0]) ∧ Below w.heap.size w w')) (H5 : Hid (∀ w, Calls Try.prog 25 #[.agg #[.int .i64 m, .int .i64 x], .int .u64 a, .int .u64 Y] w fun r w' => r = .returned (.tuple #[.int .i64 0, .bool p, .int .i64 0]) ∧ Below w.heap.size w w')) (H9 : Hid (∀ w, Calls Try.prog 22 #[.agg #[.int .i64 m, .int .i64 x], .int .u64 X] w fun r w' => r = .returned (.tuple #[.int .u64 X, .int .i64 0]) ∧ Below w.heap.size w w')) (H10 : Hid (∀ w, Calls Try.prog 23 #[.agg #[.int .i64 m, .int .i64 x], .int .u64 Y] w fun r w' => r = .returned (.tuple #[.int .u64 Y, .int .i64 0]) ∧ Below w.heap.size w w')) (H6 : Hid (∀ w, Calls Try.prog 26 #[.agg #[.int .i64 m, .int .i64 x], .bool false, .int .u64 0, .int .u64 1, .int .i64 0, .bool false] w fun r w' => r = .returned (.tuple #[.int .u64 O, .int .i64 0]) ∧ Below w.heap.size w w')) (H7 : Hid (∀ w, Calls Try.prog 18 #[.agg #[.int .i64 m, .int .i64 x], .int .u64 X, .int .u64 O] w fun r w' => r = .returned (.tuple #[.int .u64 U, .int .i64 0]) ∧ Below w.heap.size w w')) (H8 : Hid (∀ w, Calls Try.prog 25 #[.agg #[.int .i64 m, .int .i64 x], .int .u64 U, .int .u64 Y] w fun r w' => r = .returned (.tuple #[.int .i64 0, .bool q, .int .i64 0]) ∧ Below w.heap.size w w')) :
    Calls Try.prog 5 #[.agg #[.int .i64 m, .int .i64 x], .int .u64 a] w fun r w' => r = .returned (.bool true) ∧ Below w.heap.size w w' := by
  have c0 : (w.alloc (.cells #[.int .i64 m, .int .i64 x] 35)).cell? ⟨w.heap.size, 0, none⟩ = some (.int .i64 m) := by simp
  have c1 : (w.alloc (.cells #[.int .i64 m, .int .i64 x] 35)).cell? ⟨w.heap.size, 1, none⟩ = some (.int .i64 x) := by simp
  have HB := hidden ((Below.refl w.heap.size w).alloc (Nat.le_refl _) (.cells #[.int .i64 m, .int .i64 x] 35))
  go_enter Try.func5, Try.ntmps5
  go_upto_region 1 with fail
  go_cut [37] from 28 to 37 (fun s wx => s = .bool (decide (B ≤ m)) ∧ wx.cell? ⟨w.heap.size, 0, none⟩ = some (.int .i64 m) ∧ wx.cell? ⟨w.heap.size, 1, none⟩ = some (.int .i64 x) ∧ Below w.heap.size w wx)
  case first =>
    go_region_held3 (fun w' => w'.cell? ⟨w.heap.size, 0, none⟩ = some (.int .i64 m) ∧ w'.cell? ⟨w.heap.size, 1, none⟩ = some (.int .i64 x)) (go_keep) (first | (go_at_call 20; refine (HC.out _).mono ?_; rintro r w1 ⟨rfl, hw⟩; subst hw) | (go_at_call 21; refine (HBi.out _).mono ?_; rintro r w1 ⟨rfl, hw⟩; subst hw))
    all_goals (try go_wp2_with fail)
    all_goals go_meet
    all_goals exact ⟨rfl, by go_keep, by go_keep, by repeat (first | exact Below.refl _ _ | apply Below.drew | (refine Below.alloc ?_ (by simp; try omega) _))⟩
  case rest =>
    obtain ⟨rfl, d0, d1, hb⟩ := hcut
    replace HB := hidden hb
    clear hb c0 c1
    have c0 := d0
    have c1 := d1
    clear d0 d1
    go_upto_region 4 with (first | (go_at_call_of 13 (Value.int IntKind.u64 a); refine (H1.out _).mono ?_; rintro r w9 ⟨rfl, hb⟩; replace c0 := cellLater hb c0; replace c1 := cellLater hb c1; replace HB := hidden (HB.out.trans (hb.mono HB.out.size)); clear hb))
    change Code.wp _ _ _ _ (w9.alloc (.cells #[.int .i64 K, .bool n, .int .i64 E, .int .u64 M] 38))
    obtain ⟨wA, hwA, hb, a0, a1⟩ := rbox K E M n w9
    rw [← hwA]
    clear hwA
    replace c0 := cellLater hb c0; replace c1 := cellLater hb c1; replace HB := hidden (HB.out.trans (hb.mono HB.out.size)); clear hb
    generalize w9.heap.size = j1 at *
    clear w9
    go_wp2_with (first | (go_at_call_of 22 (Value.int IntKind.u64 a); refine (H2.out _).mono ?_; rintro r w9 ⟨rfl, hb⟩; replace c0 := cellLater hb c0; replace c1 := cellLater hb c1; replace a0 := cellLater hb a0; replace a1 := cellLater hb a1; replace HB := hidden (HB.out.trans (hb.mono HB.out.size)); clear hb) | (go_at_call_of 22 (Value.int IntKind.u64 X); refine (H9.out _).mono ?_; rintro r w9 ⟨rfl, hb⟩; replace c0 := cellLater hb c0; replace c1 := cellLater hb c1; replace a0 := cellLater hb a0; replace a1 := cellLater hb a1; replace HB := hidden (HB.out.trans (hb.mono HB.out.size)); clear hb) | (go_at_call_of 23 (Value.int IntKind.u64 a); refine (H3.out _).mono ?_; rintro r w9 ⟨rfl, hb⟩; replace c0 := cellLater hb c0; replace c1 := cellLater hb c1; replace a0 := cellLater hb a0; replace a1 := cellLater hb a1; replace HB := hidden (HB.out.trans (hb.mono HB.out.size)); clear hb) | (go_at_call_of 23 (Value.int IntKind.u64 Y); refine (H10.out _).mono ?_; rintro r w9 ⟨rfl, hb⟩; replace c0 := cellLater hb c0; replace c1 := cellLater hb c1; replace a0 := cellLater hb a0; replace a1 := cellLater hb a1; replace HB := hidden (HB.out.trans (hb.mono HB.out.size)); clear hb) | (go_at_call_of 25 (Value.int IntKind.u64 U); refine (H8.out _).mono ?_; rintro r w9 ⟨rfl, hb⟩; replace c0 := cellLater hb c0; replace c1 := cellLater hb c1; replace a0 := cellLater hb a0; replace a1 := cellLater hb a1; replace HB := hidden (HB.out.trans (hb.mono HB.out.size)); clear hb) | (go_at_call_of 25 (Value.int IntKind.u64 X); refine (H4.out _).mono ?_; rintro r w9 ⟨rfl, hb⟩; replace c0 := cellLater hb c0; replace c1 := cellLater hb c1; replace a0 := cellLater hb a0; replace a1 := cellLater hb a1; replace HB := hidden (HB.out.trans (hb.mono HB.out.size)); clear hb) | (go_at_call 25; refine (H5.out _).mono ?_; rintro r w9 ⟨rfl, hb⟩; replace c0 := cellLater hb c0; replace c1 := cellLater hb c1; replace a0 := cellLater hb a0; replace a1 := cellLater hb a1; replace HB := hidden (HB.out.trans (hb.mono HB.out.size)); clear hb) | (go_at_call 26; refine (H6.out _).mono ?_; rintro r w9 ⟨rfl, hb⟩; replace c0 := cellLater hb c0; replace c1 := cellLater hb c1; replace a0 := cellLater hb a0; replace a1 := cellLater hb a1; replace HB := hidden (HB.out.trans (hb.mono HB.out.size)); clear hb) | (go_at_call 18; refine (H7.out _).mono ?_; rintro r w9 ⟨rfl, hb⟩; replace c0 := cellLater hb c0; replace c1 := cellLater hb c1; replace a0 := cellLater hb a0; replace a1 := cellLater hb a1; replace HB := hidden (HB.out.trans (hb.mono HB.out.size)); clear hb) | (go_at_call_of 19 (Value.int IntKind.i64 0); refine (HM0.out _).mono ?_; rintro r w9 ⟨rfl, hw⟩; obtain rfl := hw.symm) | (go_at_call_of 19 (Value.int IntKind.i64 1); refine (HM1.out _).mono ?_; rintro r w9 ⟨rfl, hw⟩; obtain rfl := hw.symm) | (go_at_call 14; refine (HL.out _).mono ?_; rintro r w9 ⟨rfl, hb⟩; replace HB := hidden (HB.out.trans (hb.mono HB.out.size)); clear hb))
    go_ret
    exact ⟨rfl, HB.out⟩

theorem bt_two1 (m x a B K E M X Y O U : Int) (n o p q : Bool) (w : World) (hB : ¬ B ≤ m) (k0 : (K == 4) = false) (h1 : (X == Y) = true) (h2 : (X == a) = false)
    (HL : Hid (∀ w, Calls Try.prog 14 #[] w fun r w' => r = .returned (.bool true) ∧ Below w.heap.size w w')) (HM0 : Hid (∀ w, Calls Try.prog 19 #[.int .i64 0] w fun r w' => r = .returned (.int .i64 0) ∧ w' = w)) (HM1 : Hid (∀ w, Calls Try.prog 19 #[.int .i64 1] w fun r w' => r = .returned (.int .i64 1) ∧ w' = w)) (HC : Hid (∀ w, Calls Try.prog 20 #[.agg #[.int .i64 m, .int .i64 x]] w fun r w' => r = .returned (.int .i64 0) ∧ w' = w.alloc (.cells #[.int .i64 m, .int .i64 x] 35))) (HBi : Hid (∀ w, Calls Try.prog 21 #[.agg #[.int .i64 m, .int .i64 x]] w fun r w' => r = .returned (.int .i64 B) ∧ w' = w.alloc (.cells #[.int .i64 m, .int .i64 x] 35)))
    (H1 : Hid (∀ w, Calls Try.prog 13 #[.agg #[.int .i64 m, .int .i64 x], .int .u64 a] w fun r w' => r = .returned (.tuple #[partsV K n E M, .int .i64 0]) ∧ Below w.heap.size w w')) (H2 : Hid (∀ w, Calls Try.prog 22 #[.agg #[.int .i64 m, .int .i64 x], .int .u64 a] w fun r w' => r = .returned (.tuple #[.int .u64 X, .int .i64 0]) ∧ Below w.heap.size w w')) (H3 : Hid (∀ w, Calls Try.prog 23 #[.agg #[.int .i64 m, .int .i64 x], .int .u64 a] w fun r w' => r = .returned (.tuple #[.int .u64 Y, .int .i64 0]) ∧ Below w.heap.size w w')) (H4 : Hid (∀ w, Calls Try.prog 25 #[.agg #[.int .i64 m, .int .i64 x], .int .u64 X, .int .u64 a] w fun r w' => r = .returned (.tuple #[.int .i64 0, .bool o, .int .i64 0]) ∧ Below w.heap.size w w')) (H5 : Hid (∀ w, Calls Try.prog 25 #[.agg #[.int .i64 m, .int .i64 x], .int .u64 a, .int .u64 Y] w fun r w' => r = .returned (.tuple #[.int .i64 0, .bool p, .int .i64 0]) ∧ Below w.heap.size w w')) (H9 : Hid (∀ w, Calls Try.prog 22 #[.agg #[.int .i64 m, .int .i64 x], .int .u64 X] w fun r w' => r = .returned (.tuple #[.int .u64 X, .int .i64 0]) ∧ Below w.heap.size w w')) (H10 : Hid (∀ w, Calls Try.prog 23 #[.agg #[.int .i64 m, .int .i64 x], .int .u64 Y] w fun r w' => r = .returned (.tuple #[.int .u64 Y, .int .i64 0]) ∧ Below w.heap.size w w')) (H6 : Hid (∀ w, Calls Try.prog 26 #[.agg #[.int .i64 m, .int .i64 x], .bool false, .int .u64 0, .int .u64 1, .int .i64 0, .bool false] w fun r w' => r = .returned (.tuple #[.int .u64 O, .int .i64 0]) ∧ Below w.heap.size w w')) (H7 : Hid (∀ w, Calls Try.prog 18 #[.agg #[.int .i64 m, .int .i64 x], .int .u64 X, .int .u64 O] w fun r w' => r = .returned (.tuple #[.int .u64 U, .int .i64 0]) ∧ Below w.heap.size w w')) (H8 : Hid (∀ w, Calls Try.prog 25 #[.agg #[.int .i64 m, .int .i64 x], .int .u64 U, .int .u64 Y] w fun r w' => r = .returned (.tuple #[.int .i64 0, .bool q, .int .i64 0]) ∧ Below w.heap.size w w')) :
    Calls Try.prog 5 #[.agg #[.int .i64 m, .int .i64 x], .int .u64 a] w fun r w' => r = .returned (.bool true) ∧ Below w.heap.size w w' := by
  have c0 : (w.alloc (.cells #[.int .i64 m, .int .i64 x] 35)).cell? ⟨w.heap.size, 0, none⟩ = some (.int .i64 m) := by simp
  have c1 : (w.alloc (.cells #[.int .i64 m, .int .i64 x] 35)).cell? ⟨w.heap.size, 1, none⟩ = some (.int .i64 x) := by simp
  have HB := hidden ((Below.refl w.heap.size w).alloc (Nat.le_refl _) (.cells #[.int .i64 m, .int .i64 x] 35))
  go_enter Try.func5, Try.ntmps5
  go_upto_region 1 with fail
  go_cut [37] from 28 to 37 (fun s wx => s = .bool (decide (B ≤ m)) ∧ wx.cell? ⟨w.heap.size, 0, none⟩ = some (.int .i64 m) ∧ wx.cell? ⟨w.heap.size, 1, none⟩ = some (.int .i64 x) ∧ Below w.heap.size w wx)
  case first =>
    go_region_held3 (fun w' => w'.cell? ⟨w.heap.size, 0, none⟩ = some (.int .i64 m) ∧ w'.cell? ⟨w.heap.size, 1, none⟩ = some (.int .i64 x)) (go_keep) (first | (go_at_call 20; refine (HC.out _).mono ?_; rintro r w1 ⟨rfl, hw⟩; subst hw) | (go_at_call 21; refine (HBi.out _).mono ?_; rintro r w1 ⟨rfl, hw⟩; subst hw))
    all_goals (try go_wp2_with fail)
    all_goals go_meet
    all_goals exact ⟨rfl, by go_keep, by go_keep, by repeat (first | exact Below.refl _ _ | apply Below.drew | (refine Below.alloc ?_ (by simp; try omega) _))⟩
  case rest =>
    obtain ⟨rfl, d0, d1, hb⟩ := hcut
    replace HB := hidden hb
    clear hb c0 c1
    have c0 := d0
    have c1 := d1
    clear d0 d1
    go_upto_region 4 with (first | (go_at_call_of 13 (Value.int IntKind.u64 a); refine (H1.out _).mono ?_; rintro r w9 ⟨rfl, hb⟩; replace c0 := cellLater hb c0; replace c1 := cellLater hb c1; replace HB := hidden (HB.out.trans (hb.mono HB.out.size)); clear hb))
    change Code.wp _ _ _ _ (w9.alloc (.cells #[.int .i64 K, .bool n, .int .i64 E, .int .u64 M] 38))
    obtain ⟨wA, hwA, hb, a0, a1⟩ := rbox K E M n w9
    rw [← hwA]
    clear hwA
    replace c0 := cellLater hb c0; replace c1 := cellLater hb c1; replace HB := hidden (HB.out.trans (hb.mono HB.out.size)); clear hb
    generalize w9.heap.size = j1 at *
    clear w9
    go_wp2_with (first | (go_at_call_of 22 (Value.int IntKind.u64 a); refine (H2.out _).mono ?_; rintro r w9 ⟨rfl, hb⟩; replace c0 := cellLater hb c0; replace c1 := cellLater hb c1; replace a0 := cellLater hb a0; replace a1 := cellLater hb a1; replace HB := hidden (HB.out.trans (hb.mono HB.out.size)); clear hb) | (go_at_call_of 22 (Value.int IntKind.u64 X); refine (H9.out _).mono ?_; rintro r w9 ⟨rfl, hb⟩; replace c0 := cellLater hb c0; replace c1 := cellLater hb c1; replace a0 := cellLater hb a0; replace a1 := cellLater hb a1; replace HB := hidden (HB.out.trans (hb.mono HB.out.size)); clear hb) | (go_at_call_of 23 (Value.int IntKind.u64 a); refine (H3.out _).mono ?_; rintro r w9 ⟨rfl, hb⟩; replace c0 := cellLater hb c0; replace c1 := cellLater hb c1; replace a0 := cellLater hb a0; replace a1 := cellLater hb a1; replace HB := hidden (HB.out.trans (hb.mono HB.out.size)); clear hb) | (go_at_call_of 23 (Value.int IntKind.u64 Y); refine (H10.out _).mono ?_; rintro r w9 ⟨rfl, hb⟩; replace c0 := cellLater hb c0; replace c1 := cellLater hb c1; replace a0 := cellLater hb a0; replace a1 := cellLater hb a1; replace HB := hidden (HB.out.trans (hb.mono HB.out.size)); clear hb) | (go_at_call_of 25 (Value.int IntKind.u64 U); refine (H8.out _).mono ?_; rintro r w9 ⟨rfl, hb⟩; replace c0 := cellLater hb c0; replace c1 := cellLater hb c1; replace a0 := cellLater hb a0; replace a1 := cellLater hb a1; replace HB := hidden (HB.out.trans (hb.mono HB.out.size)); clear hb) | (go_at_call_of 25 (Value.int IntKind.u64 X); refine (H4.out _).mono ?_; rintro r w9 ⟨rfl, hb⟩; replace c0 := cellLater hb c0; replace c1 := cellLater hb c1; replace a0 := cellLater hb a0; replace a1 := cellLater hb a1; replace HB := hidden (HB.out.trans (hb.mono HB.out.size)); clear hb) | (go_at_call 25; refine (H5.out _).mono ?_; rintro r w9 ⟨rfl, hb⟩; replace c0 := cellLater hb c0; replace c1 := cellLater hb c1; replace a0 := cellLater hb a0; replace a1 := cellLater hb a1; replace HB := hidden (HB.out.trans (hb.mono HB.out.size)); clear hb) | (go_at_call 26; refine (H6.out _).mono ?_; rintro r w9 ⟨rfl, hb⟩; replace c0 := cellLater hb c0; replace c1 := cellLater hb c1; replace a0 := cellLater hb a0; replace a1 := cellLater hb a1; replace HB := hidden (HB.out.trans (hb.mono HB.out.size)); clear hb) | (go_at_call 18; refine (H7.out _).mono ?_; rintro r w9 ⟨rfl, hb⟩; replace c0 := cellLater hb c0; replace c1 := cellLater hb c1; replace a0 := cellLater hb a0; replace a1 := cellLater hb a1; replace HB := hidden (HB.out.trans (hb.mono HB.out.size)); clear hb) | (go_at_call_of 19 (Value.int IntKind.i64 0); refine (HM0.out _).mono ?_; rintro r w9 ⟨rfl, hw⟩; obtain rfl := hw.symm) | (go_at_call_of 19 (Value.int IntKind.i64 1); refine (HM1.out _).mono ?_; rintro r w9 ⟨rfl, hw⟩; obtain rfl := hw.symm) | (go_at_call 14; refine (HL.out _).mono ?_; rintro r w9 ⟨rfl, hb⟩; replace HB := hidden (HB.out.trans (hb.mono HB.out.size)); clear hb))
    go_ret
    exact ⟨rfl, HB.out⟩

theorem bt_two2 (m x a B K E M X Y O U : Int) (n o p q : Bool) (w : World) (hB : ¬ B ≤ m) (k0 : (K == 4) = false) (h1 : (X == Y) = false)
    (HL : Hid (∀ w, Calls Try.prog 14 #[] w fun r w' => r = .returned (.bool true) ∧ Below w.heap.size w w')) (HM0 : Hid (∀ w, Calls Try.prog 19 #[.int .i64 0] w fun r w' => r = .returned (.int .i64 0) ∧ w' = w)) (HM1 : Hid (∀ w, Calls Try.prog 19 #[.int .i64 1] w fun r w' => r = .returned (.int .i64 1) ∧ w' = w)) (HC : Hid (∀ w, Calls Try.prog 20 #[.agg #[.int .i64 m, .int .i64 x]] w fun r w' => r = .returned (.int .i64 0) ∧ w' = w.alloc (.cells #[.int .i64 m, .int .i64 x] 35))) (HBi : Hid (∀ w, Calls Try.prog 21 #[.agg #[.int .i64 m, .int .i64 x]] w fun r w' => r = .returned (.int .i64 B) ∧ w' = w.alloc (.cells #[.int .i64 m, .int .i64 x] 35)))
    (H1 : Hid (∀ w, Calls Try.prog 13 #[.agg #[.int .i64 m, .int .i64 x], .int .u64 a] w fun r w' => r = .returned (.tuple #[partsV K n E M, .int .i64 0]) ∧ Below w.heap.size w w')) (H2 : Hid (∀ w, Calls Try.prog 22 #[.agg #[.int .i64 m, .int .i64 x], .int .u64 a] w fun r w' => r = .returned (.tuple #[.int .u64 X, .int .i64 0]) ∧ Below w.heap.size w w')) (H3 : Hid (∀ w, Calls Try.prog 23 #[.agg #[.int .i64 m, .int .i64 x], .int .u64 a] w fun r w' => r = .returned (.tuple #[.int .u64 Y, .int .i64 0]) ∧ Below w.heap.size w w')) (H4 : Hid (∀ w, Calls Try.prog 25 #[.agg #[.int .i64 m, .int .i64 x], .int .u64 X, .int .u64 a] w fun r w' => r = .returned (.tuple #[.int .i64 0, .bool o, .int .i64 0]) ∧ Below w.heap.size w w')) (H5 : Hid (∀ w, Calls Try.prog 25 #[.agg #[.int .i64 m, .int .i64 x], .int .u64 a, .int .u64 Y] w fun r w' => r = .returned (.tuple #[.int .i64 (-1), .bool p, .int .i64 0]) ∧ Below w.heap.size w w')) (H9 : Hid (∀ w, Calls Try.prog 22 #[.agg #[.int .i64 m, .int .i64 x], .int .u64 X] w fun r w' => r = .returned (.tuple #[.int .u64 X, .int .i64 0]) ∧ Below w.heap.size w w')) (H10 : Hid (∀ w, Calls Try.prog 23 #[.agg #[.int .i64 m, .int .i64 x], .int .u64 Y] w fun r w' => r = .returned (.tuple #[.int .u64 Y, .int .i64 0]) ∧ Below w.heap.size w w')) (H6 : Hid (∀ w, Calls Try.prog 26 #[.agg #[.int .i64 m, .int .i64 x], .bool false, .int .u64 0, .int .u64 1, .int .i64 0, .bool false] w fun r w' => r = .returned (.tuple #[.int .u64 O, .int .i64 0]) ∧ Below w.heap.size w w')) (H7 : Hid (∀ w, Calls Try.prog 18 #[.agg #[.int .i64 m, .int .i64 x], .int .u64 X, .int .u64 O] w fun r w' => r = .returned (.tuple #[.int .u64 U, .int .i64 0]) ∧ Below w.heap.size w w')) (H8 : Hid (∀ w, Calls Try.prog 25 #[.agg #[.int .i64 m, .int .i64 x], .int .u64 U, .int .u64 Y] w fun r w' => r = .returned (.tuple #[.int .i64 0, .bool q, .int .i64 0]) ∧ Below w.heap.size w w')) :
    Calls Try.prog 5 #[.agg #[.int .i64 m, .int .i64 x], .int .u64 a] w fun r w' => r = .returned (.bool true) ∧ Below w.heap.size w w' := by
  have c0 : (w.alloc (.cells #[.int .i64 m, .int .i64 x] 35)).cell? ⟨w.heap.size, 0, none⟩ = some (.int .i64 m) := by simp
  have c1 : (w.alloc (.cells #[.int .i64 m, .int .i64 x] 35)).cell? ⟨w.heap.size, 1, none⟩ = some (.int .i64 x) := by simp
  have HB := hidden ((Below.refl w.heap.size w).alloc (Nat.le_refl _) (.cells #[.int .i64 m, .int .i64 x] 35))
  go_enter Try.func5, Try.ntmps5
  go_upto_region 1 with fail
  go_cut [37] from 28 to 37 (fun s wx => s = .bool (decide (B ≤ m)) ∧ wx.cell? ⟨w.heap.size, 0, none⟩ = some (.int .i64 m) ∧ wx.cell? ⟨w.heap.size, 1, none⟩ = some (.int .i64 x) ∧ Below w.heap.size w wx)
  case first =>
    go_region_held3 (fun w' => w'.cell? ⟨w.heap.size, 0, none⟩ = some (.int .i64 m) ∧ w'.cell? ⟨w.heap.size, 1, none⟩ = some (.int .i64 x)) (go_keep) (first | (go_at_call 20; refine (HC.out _).mono ?_; rintro r w1 ⟨rfl, hw⟩; subst hw) | (go_at_call 21; refine (HBi.out _).mono ?_; rintro r w1 ⟨rfl, hw⟩; subst hw))
    all_goals (try go_wp2_with fail)
    all_goals go_meet
    all_goals exact ⟨rfl, by go_keep, by go_keep, by repeat (first | exact Below.refl _ _ | apply Below.drew | (refine Below.alloc ?_ (by simp; try omega) _))⟩
  case rest =>
    obtain ⟨rfl, d0, d1, hb⟩ := hcut
    replace HB := hidden hb
    clear hb c0 c1
    have c0 := d0
    have c1 := d1
    clear d0 d1
    go_upto_region 4 with (first | (go_at_call_of 13 (Value.int IntKind.u64 a); refine (H1.out _).mono ?_; rintro r w9 ⟨rfl, hb⟩; replace c0 := cellLater hb c0; replace c1 := cellLater hb c1; replace HB := hidden (HB.out.trans (hb.mono HB.out.size)); clear hb))
    change Code.wp _ _ _ _ (w9.alloc (.cells #[.int .i64 K, .bool n, .int .i64 E, .int .u64 M] 38))
    obtain ⟨wA, hwA, hb, a0, a1⟩ := rbox K E M n w9
    rw [← hwA]
    clear hwA
    replace c0 := cellLater hb c0; replace c1 := cellLater hb c1; replace HB := hidden (HB.out.trans (hb.mono HB.out.size)); clear hb
    generalize w9.heap.size = j1 at *
    clear w9
    go_wp2_with (first | (go_at_call_of 22 (Value.int IntKind.u64 a); refine (H2.out _).mono ?_; rintro r w9 ⟨rfl, hb⟩; replace c0 := cellLater hb c0; replace c1 := cellLater hb c1; replace a0 := cellLater hb a0; replace a1 := cellLater hb a1; replace HB := hidden (HB.out.trans (hb.mono HB.out.size)); clear hb) | (go_at_call_of 22 (Value.int IntKind.u64 X); refine (H9.out _).mono ?_; rintro r w9 ⟨rfl, hb⟩; replace c0 := cellLater hb c0; replace c1 := cellLater hb c1; replace a0 := cellLater hb a0; replace a1 := cellLater hb a1; replace HB := hidden (HB.out.trans (hb.mono HB.out.size)); clear hb) | (go_at_call_of 23 (Value.int IntKind.u64 a); refine (H3.out _).mono ?_; rintro r w9 ⟨rfl, hb⟩; replace c0 := cellLater hb c0; replace c1 := cellLater hb c1; replace a0 := cellLater hb a0; replace a1 := cellLater hb a1; replace HB := hidden (HB.out.trans (hb.mono HB.out.size)); clear hb) | (go_at_call_of 23 (Value.int IntKind.u64 Y); refine (H10.out _).mono ?_; rintro r w9 ⟨rfl, hb⟩; replace c0 := cellLater hb c0; replace c1 := cellLater hb c1; replace a0 := cellLater hb a0; replace a1 := cellLater hb a1; replace HB := hidden (HB.out.trans (hb.mono HB.out.size)); clear hb) | (go_at_call_of 25 (Value.int IntKind.u64 U); refine (H8.out _).mono ?_; rintro r w9 ⟨rfl, hb⟩; replace c0 := cellLater hb c0; replace c1 := cellLater hb c1; replace a0 := cellLater hb a0; replace a1 := cellLater hb a1; replace HB := hidden (HB.out.trans (hb.mono HB.out.size)); clear hb) | (go_at_call_of 25 (Value.int IntKind.u64 X); refine (H4.out _).mono ?_; rintro r w9 ⟨rfl, hb⟩; replace c0 := cellLater hb c0; replace c1 := cellLater hb c1; replace a0 := cellLater hb a0; replace a1 := cellLater hb a1; replace HB := hidden (HB.out.trans (hb.mono HB.out.size)); clear hb) | (go_at_call 25; refine (H5.out _).mono ?_; rintro r w9 ⟨rfl, hb⟩; replace c0 := cellLater hb c0; replace c1 := cellLater hb c1; replace a0 := cellLater hb a0; replace a1 := cellLater hb a1; replace HB := hidden (HB.out.trans (hb.mono HB.out.size)); clear hb) | (go_at_call 26; refine (H6.out _).mono ?_; rintro r w9 ⟨rfl, hb⟩; replace c0 := cellLater hb c0; replace c1 := cellLater hb c1; replace a0 := cellLater hb a0; replace a1 := cellLater hb a1; replace HB := hidden (HB.out.trans (hb.mono HB.out.size)); clear hb) | (go_at_call 18; refine (H7.out _).mono ?_; rintro r w9 ⟨rfl, hb⟩; replace c0 := cellLater hb c0; replace c1 := cellLater hb c1; replace a0 := cellLater hb a0; replace a1 := cellLater hb a1; replace HB := hidden (HB.out.trans (hb.mono HB.out.size)); clear hb) | (go_at_call_of 19 (Value.int IntKind.i64 0); refine (HM0.out _).mono ?_; rintro r w9 ⟨rfl, hw⟩; obtain rfl := hw.symm) | (go_at_call_of 19 (Value.int IntKind.i64 1); refine (HM1.out _).mono ?_; rintro r w9 ⟨rfl, hw⟩; obtain rfl := hw.symm) | (go_at_call 14; refine (HL.out _).mono ?_; rintro r w9 ⟨rfl, hb⟩; replace HB := hidden (HB.out.trans (hb.mono HB.out.size)); clear hb))
    go_ret
    exact ⟨rfl, HB.out⟩

theorem bt_two3 (m x a B K E M X Y O U : Int) (n o p q : Bool) (w : World) (hB : ¬ B ≤ m) (k0 : (K == 4) = false) (h1 : (X == Y) = true) (h2 : (X == a) = false)
    (HL : Hid (∀ w, Calls Try.prog 14 #[] w fun r w' => r = .returned (.bool true) ∧ Below w.heap.size w w')) (HM0 : Hid (∀ w, Calls Try.prog 19 #[.int .i64 0] w fun r w' => r = .returned (.int .i64 0) ∧ w' = w)) (HM1 : Hid (∀ w, Calls Try.prog 19 #[.int .i64 1] w fun r w' => r = .returned (.int .i64 1) ∧ w' = w)) (HC : Hid (∀ w, Calls Try.prog 20 #[.agg #[.int .i64 m, .int .i64 x]] w fun r w' => r = .returned (.int .i64 0) ∧ w' = w.alloc (.cells #[.int .i64 m, .int .i64 x] 35))) (HBi : Hid (∀ w, Calls Try.prog 21 #[.agg #[.int .i64 m, .int .i64 x]] w fun r w' => r = .returned (.int .i64 B) ∧ w' = w.alloc (.cells #[.int .i64 m, .int .i64 x] 35)))
    (H1 : Hid (∀ w, Calls Try.prog 13 #[.agg #[.int .i64 m, .int .i64 x], .int .u64 a] w fun r w' => r = .returned (.tuple #[partsV K n E M, .int .i64 0]) ∧ Below w.heap.size w w')) (H2 : Hid (∀ w, Calls Try.prog 22 #[.agg #[.int .i64 m, .int .i64 x], .int .u64 a] w fun r w' => r = .returned (.tuple #[.int .u64 X, .int .i64 0]) ∧ Below w.heap.size w w')) (H3 : Hid (∀ w, Calls Try.prog 23 #[.agg #[.int .i64 m, .int .i64 x], .int .u64 a] w fun r w' => r = .returned (.tuple #[.int .u64 Y, .int .i64 0]) ∧ Below w.heap.size w w')) (H4 : Hid (∀ w, Calls Try.prog 25 #[.agg #[.int .i64 m, .int .i64 x], .int .u64 X, .int .u64 a] w fun r w' => r = .returned (.tuple #[.int .i64 0, .bool o, .int .i64 0]) ∧ Below w.heap.size w w')) (H5 : Hid (∀ w, Calls Try.prog 25 #[.agg #[.int .i64 m, .int .i64 x], .int .u64 a, .int .u64 Y] w fun r w' => r = .returned (.tuple #[.int .i64 (-1), .bool p, .int .i64 0]) ∧ Below w.heap.size w w')) (H9 : Hid (∀ w, Calls Try.prog 22 #[.agg #[.int .i64 m, .int .i64 x], .int .u64 X] w fun r w' => r = .returned (.tuple #[.int .u64 X, .int .i64 0]) ∧ Below w.heap.size w w')) (H10 : Hid (∀ w, Calls Try.prog 23 #[.agg #[.int .i64 m, .int .i64 x], .int .u64 Y] w fun r w' => r = .returned (.tuple #[.int .u64 Y, .int .i64 0]) ∧ Below w.heap.size w w')) (H6 : Hid (∀ w, Calls Try.prog 26 #[.agg #[.int .i64 m, .int .i64 x], .bool false, .int .u64 0, .int .u64 1, .int .i64 0, .bool false] w fun r w' => r = .returned (.tuple #[.int .u64 O, .int .i64 0]) ∧ Below w.heap.size w w')) (H7 : Hid (∀ w, Calls Try.prog 18 #[.agg #[.int .i64 m, .int .i64 x], .int .u64 X, .int .u64 O] w fun r w' => r = .returned (.tuple #[.int .u64 U, .int .i64 0]) ∧ Below w.heap.size w w')) (H8 : Hid (∀ w, Calls Try.prog 25 #[.agg #[.int .i64 m, .int .i64 x], .int .u64 U, .int .u64 Y] w fun r w' => r = .returned (.tuple #[.int .i64 0, .bool q, .int .i64 0]) ∧ Below w.heap.size w w')) :
    Calls Try.prog 5 #[.agg #[.int .i64 m, .int .i64 x], .int .u64 a] w fun r w' => r = .returned (.bool true) ∧ Below w.heap.size w w' := by
  have c0 : (w.alloc (.cells #[.int .i64 m, .int .i64 x] 35)).cell? ⟨w.heap.size, 0, none⟩ = some (.int .i64 m) := by simp
  have c1 : (w.alloc (.cells #[.int .i64 m, .int .i64 x] 35)).cell? ⟨w.heap.size, 1, none⟩ = some (.int .i64 x) := by simp
  have HB := hidden ((Below.refl w.heap.size w).alloc (Nat.le_refl _) (.cells #[.int .i64 m, .int .i64 x] 35))
  go_enter Try.func5, Try.ntmps5
  go_upto_region 1 with fail
  go_cut [37] from 28 to 37 (fun s wx => s = .bool (decide (B ≤ m)) ∧ wx.cell? ⟨w.heap.size, 0, none⟩ = some (.int .i64 m) ∧ wx.cell? ⟨w.heap.size, 1, none⟩ = some (.int .i64 x) ∧ Below w.heap.size w wx)
  case first =>
    go_region_held3 (fun w' => w'.cell? ⟨w.heap.size, 0, none⟩ = some (.int .i64 m) ∧ w'.cell? ⟨w.heap.size, 1, none⟩ = some (.int .i64 x)) (go_keep) (first | (go_at_call 20; refine (HC.out _).mono ?_; rintro r w1 ⟨rfl, hw⟩; subst hw) | (go_at_call 21; refine (HBi.out _).mono ?_; rintro r w1 ⟨rfl, hw⟩; subst hw))
    all_goals (try go_wp2_with fail)
    all_goals go_meet
    all_goals exact ⟨rfl, by go_keep, by go_keep, by repeat (first | exact Below.refl _ _ | apply Below.drew | (refine Below.alloc ?_ (by simp; try omega) _))⟩
  case rest =>
    obtain ⟨rfl, d0, d1, hb⟩ := hcut
    replace HB := hidden hb
    clear hb c0 c1
    have c0 := d0
    have c1 := d1
    clear d0 d1
    go_upto_region 4 with (first | (go_at_call_of 13 (Value.int IntKind.u64 a); refine (H1.out _).mono ?_; rintro r w9 ⟨rfl, hb⟩; replace c0 := cellLater hb c0; replace c1 := cellLater hb c1; replace HB := hidden (HB.out.trans (hb.mono HB.out.size)); clear hb))
    change Code.wp _ _ _ _ (w9.alloc (.cells #[.int .i64 K, .bool n, .int .i64 E, .int .u64 M] 38))
    obtain ⟨wA, hwA, hb, a0, a1⟩ := rbox K E M n w9
    rw [← hwA]
    clear hwA
    replace c0 := cellLater hb c0; replace c1 := cellLater hb c1; replace HB := hidden (HB.out.trans (hb.mono HB.out.size)); clear hb
    generalize w9.heap.size = j1 at *
    clear w9
    go_wp2_with (first | (go_at_call_of 22 (Value.int IntKind.u64 a); refine (H2.out _).mono ?_; rintro r w9 ⟨rfl, hb⟩; replace c0 := cellLater hb c0; replace c1 := cellLater hb c1; replace a0 := cellLater hb a0; replace a1 := cellLater hb a1; replace HB := hidden (HB.out.trans (hb.mono HB.out.size)); clear hb) | (go_at_call_of 22 (Value.int IntKind.u64 X); refine (H9.out _).mono ?_; rintro r w9 ⟨rfl, hb⟩; replace c0 := cellLater hb c0; replace c1 := cellLater hb c1; replace a0 := cellLater hb a0; replace a1 := cellLater hb a1; replace HB := hidden (HB.out.trans (hb.mono HB.out.size)); clear hb) | (go_at_call_of 23 (Value.int IntKind.u64 a); refine (H3.out _).mono ?_; rintro r w9 ⟨rfl, hb⟩; replace c0 := cellLater hb c0; replace c1 := cellLater hb c1; replace a0 := cellLater hb a0; replace a1 := cellLater hb a1; replace HB := hidden (HB.out.trans (hb.mono HB.out.size)); clear hb) | (go_at_call_of 23 (Value.int IntKind.u64 Y); refine (H10.out _).mono ?_; rintro r w9 ⟨rfl, hb⟩; replace c0 := cellLater hb c0; replace c1 := cellLater hb c1; replace a0 := cellLater hb a0; replace a1 := cellLater hb a1; replace HB := hidden (HB.out.trans (hb.mono HB.out.size)); clear hb) | (go_at_call_of 25 (Value.int IntKind.u64 U); refine (H8.out _).mono ?_; rintro r w9 ⟨rfl, hb⟩; replace c0 := cellLater hb c0; replace c1 := cellLater hb c1; replace a0 := cellLater hb a0; replace a1 := cellLater hb a1; replace HB := hidden (HB.out.trans (hb.mono HB.out.size)); clear hb) | (go_at_call_of 25 (Value.int IntKind.u64 X); refine (H4.out _).mono ?_; rintro r w9 ⟨rfl, hb⟩; replace c0 := cellLater hb c0; replace c1 := cellLater hb c1; replace a0 := cellLater hb a0; replace a1 := cellLater hb a1; replace HB := hidden (HB.out.trans (hb.mono HB.out.size)); clear hb) | (go_at_call 25; refine (H5.out _).mono ?_; rintro r w9 ⟨rfl, hb⟩; replace c0 := cellLater hb c0; replace c1 := cellLater hb c1; replace a0 := cellLater hb a0; replace a1 := cellLater hb a1; replace HB := hidden (HB.out.trans (hb.mono HB.out.size)); clear hb) | (go_at_call 26; refine (H6.out _).mono ?_; rintro r w9 ⟨rfl, hb⟩; replace c0 := cellLater hb c0; replace c1 := cellLater hb c1; replace a0 := cellLater hb a0; replace a1 := cellLater hb a1; replace HB := hidden (HB.out.trans (hb.mono HB.out.size)); clear hb) | (go_at_call 18; refine (H7.out _).mono ?_; rintro r w9 ⟨rfl, hb⟩; replace c0 := cellLater hb c0; replace c1 := cellLater hb c1; replace a0 := cellLater hb a0; replace a1 := cellLater hb a1; replace HB := hidden (HB.out.trans (hb.mono HB.out.size)); clear hb) | (go_at_call_of 19 (Value.int IntKind.i64 0); refine (HM0.out _).mono ?_; rintro r w9 ⟨rfl, hw⟩; obtain rfl := hw.symm) | (go_at_call_of 19 (Value.int IntKind.i64 1); refine (HM1.out _).mono ?_; rintro r w9 ⟨rfl, hw⟩; obtain rfl := hw.symm) | (go_at_call 14; refine (HL.out _).mono ?_; rintro r w9 ⟨rfl, hb⟩; replace HB := hidden (HB.out.trans (hb.mono HB.out.size)); clear hb))
    go_ret
    exact ⟨rfl, HB.out⟩

theorem bt_two4 (m x a B K E M X Y O U : Int) (n o p q : Bool) (w : World) (hB : ¬ B ≤ m) (k0 : (K == 4) = false) (h1 : (X == Y) = false)
    (HL : Hid (∀ w, Calls Try.prog 14 #[] w fun r w' => r = .returned (.bool true) ∧ Below w.heap.size w w')) (HM0 : Hid (∀ w, Calls Try.prog 19 #[.int .i64 0] w fun r w' => r = .returned (.int .i64 0) ∧ w' = w)) (HM1 : Hid (∀ w, Calls Try.prog 19 #[.int .i64 1] w fun r w' => r = .returned (.int .i64 1) ∧ w' = w)) (HC : Hid (∀ w, Calls Try.prog 20 #[.agg #[.int .i64 m, .int .i64 x]] w fun r w' => r = .returned (.int .i64 0) ∧ w' = w.alloc (.cells #[.int .i64 m, .int .i64 x] 35))) (HBi : Hid (∀ w, Calls Try.prog 21 #[.agg #[.int .i64 m, .int .i64 x]] w fun r w' => r = .returned (.int .i64 B) ∧ w' = w.alloc (.cells #[.int .i64 m, .int .i64 x] 35)))
    (H1 : Hid (∀ w, Calls Try.prog 13 #[.agg #[.int .i64 m, .int .i64 x], .int .u64 a] w fun r w' => r = .returned (.tuple #[partsV K n E M, .int .i64 0]) ∧ Below w.heap.size w w')) (H2 : Hid (∀ w, Calls Try.prog 22 #[.agg #[.int .i64 m, .int .i64 x], .int .u64 a] w fun r w' => r = .returned (.tuple #[.int .u64 X, .int .i64 0]) ∧ Below w.heap.size w w')) (H3 : Hid (∀ w, Calls Try.prog 23 #[.agg #[.int .i64 m, .int .i64 x], .int .u64 a] w fun r w' => r = .returned (.tuple #[.int .u64 Y, .int .i64 0]) ∧ Below w.heap.size w w')) (H4 : Hid (∀ w, Calls Try.prog 25 #[.agg #[.int .i64 m, .int .i64 x], .int .u64 X, .int .u64 a] w fun r w' => r = .returned (.tuple #[.int .i64 (-1), .bool o, .int .i64 0]) ∧ Below w.heap.size w w')) (H5 : Hid (∀ w, Calls Try.prog 25 #[.agg #[.int .i64 m, .int .i64 x], .int .u64 a, .int .u64 Y] w fun r w' => r = .returned (.tuple #[.int .i64 0, .bool p, .int .i64 0]) ∧ Below w.heap.size w w')) (H9 : Hid (∀ w, Calls Try.prog 22 #[.agg #[.int .i64 m, .int .i64 x], .int .u64 X] w fun r w' => r = .returned (.tuple #[.int .u64 X, .int .i64 0]) ∧ Below w.heap.size w w')) (H10 : Hid (∀ w, Calls Try.prog 23 #[.agg #[.int .i64 m, .int .i64 x], .int .u64 Y] w fun r w' => r = .returned (.tuple #[.int .u64 Y, .int .i64 0]) ∧ Below w.heap.size w w')) (H6 : Hid (∀ w, Calls Try.prog 26 #[.agg #[.int .i64 m, .int .i64 x], .bool false, .int .u64 0, .int .u64 1, .int .i64 0, .bool false] w fun r w' => r = .returned (.tuple #[.int .u64 O, .int .i64 0]) ∧ Below w.heap.size w w')) (H7 : Hid (∀ w, Calls Try.prog 18 #[.agg #[.int .i64 m, .int .i64 x], .int .u64 X, .int .u64 O] w fun r w' => r = .returned (.tuple #[.int .u64 U, .int .i64 0]) ∧ Below w.heap.size w w')) (H8 : Hid (∀ w, Calls Try.prog 25 #[.agg #[.int .i64 m, .int .i64 x], .int .u64 U, .int .u64 Y] w fun r w' => r = .returned (.tuple #[.int .i64 0, .bool q, .int .i64 0]) ∧ Below w.heap.size w w')) :
    Calls Try.prog 5 #[.agg #[.int .i64 m, .int .i64 x], .int .u64 a] w fun r w' => r = .returned (.bool true) ∧ Below w.heap.size w w' := by
  have c0 : (w.alloc (.cells #[.int .i64 m, .int .i64 x] 35)).cell? ⟨w.heap.size, 0, none⟩ = some (.int .i64 m) := by simp
  have c1 : (w.alloc (.cells #[.int .i64 m, .int .i64 x] 35)).cell? ⟨w.heap.size, 1, none⟩ = some (.int .i64 x) := by simp
  have HB := hidden ((Below.refl w.heap.size w).alloc (Nat.le_refl _) (.cells #[.int .i64 m, .int .i64 x] 35))
  go_enter Try.func5, Try.ntmps5
  go_upto_region 1 with fail
  go_cut [37] from 28 to 37 (fun s wx => s = .bool (decide (B ≤ m)) ∧ wx.cell? ⟨w.heap.size, 0, none⟩ = some (.int .i64 m) ∧ wx.cell? ⟨w.heap.size, 1, none⟩ = some (.int .i64 x) ∧ Below w.heap.size w wx)
  case first =>
    go_region_held3 (fun w' => w'.cell? ⟨w.heap.size, 0, none⟩ = some (.int .i64 m) ∧ w'.cell? ⟨w.heap.size, 1, none⟩ = some (.int .i64 x)) (go_keep) (first | (go_at_call 20; refine (HC.out _).mono ?_; rintro r w1 ⟨rfl, hw⟩; subst hw) | (go_at_call 21; refine (HBi.out _).mono ?_; rintro r w1 ⟨rfl, hw⟩; subst hw))
    all_goals (try go_wp2_with fail)
    all_goals go_meet
    all_goals exact ⟨rfl, by go_keep, by go_keep, by repeat (first | exact Below.refl _ _ | apply Below.drew | (refine Below.alloc ?_ (by simp; try omega) _))⟩
  case rest =>
    obtain ⟨rfl, d0, d1, hb⟩ := hcut
    replace HB := hidden hb
    clear hb c0 c1
    have c0 := d0
    have c1 := d1
    clear d0 d1
    go_upto_region 4 with (first | (go_at_call_of 13 (Value.int IntKind.u64 a); refine (H1.out _).mono ?_; rintro r w9 ⟨rfl, hb⟩; replace c0 := cellLater hb c0; replace c1 := cellLater hb c1; replace HB := hidden (HB.out.trans (hb.mono HB.out.size)); clear hb))
    change Code.wp _ _ _ _ (w9.alloc (.cells #[.int .i64 K, .bool n, .int .i64 E, .int .u64 M] 38))
    obtain ⟨wA, hwA, hb, a0, a1⟩ := rbox K E M n w9
    rw [← hwA]
    clear hwA
    replace c0 := cellLater hb c0; replace c1 := cellLater hb c1; replace HB := hidden (HB.out.trans (hb.mono HB.out.size)); clear hb
    generalize w9.heap.size = j1 at *
    clear w9
    go_wp2_with (first | (go_at_call_of 22 (Value.int IntKind.u64 a); refine (H2.out _).mono ?_; rintro r w9 ⟨rfl, hb⟩; replace c0 := cellLater hb c0; replace c1 := cellLater hb c1; replace a0 := cellLater hb a0; replace a1 := cellLater hb a1; replace HB := hidden (HB.out.trans (hb.mono HB.out.size)); clear hb) | (go_at_call_of 22 (Value.int IntKind.u64 X); refine (H9.out _).mono ?_; rintro r w9 ⟨rfl, hb⟩; replace c0 := cellLater hb c0; replace c1 := cellLater hb c1; replace a0 := cellLater hb a0; replace a1 := cellLater hb a1; replace HB := hidden (HB.out.trans (hb.mono HB.out.size)); clear hb) | (go_at_call_of 23 (Value.int IntKind.u64 a); refine (H3.out _).mono ?_; rintro r w9 ⟨rfl, hb⟩; replace c0 := cellLater hb c0; replace c1 := cellLater hb c1; replace a0 := cellLater hb a0; replace a1 := cellLater hb a1; replace HB := hidden (HB.out.trans (hb.mono HB.out.size)); clear hb) | (go_at_call_of 23 (Value.int IntKind.u64 Y); refine (H10.out _).mono ?_; rintro r w9 ⟨rfl, hb⟩; replace c0 := cellLater hb c0; replace c1 := cellLater hb c1; replace a0 := cellLater hb a0; replace a1 := cellLater hb a1; replace HB := hidden (HB.out.trans (hb.mono HB.out.size)); clear hb) | (go_at_call_of 25 (Value.int IntKind.u64 U); refine (H8.out _).mono ?_; rintro r w9 ⟨rfl, hb⟩; replace c0 := cellLater hb c0; replace c1 := cellLater hb c1; replace a0 := cellLater hb a0; replace a1 := cellLater hb a1; replace HB := hidden (HB.out.trans (hb.mono HB.out.size)); clear hb) | (go_at_call_of 25 (Value.int IntKind.u64 X); refine (H4.out _).mono ?_; rintro r w9 ⟨rfl, hb⟩; replace c0 := cellLater hb c0; replace c1 := cellLater hb c1; replace a0 := cellLater hb a0; replace a1 := cellLater hb a1; replace HB := hidden (HB.out.trans (hb.mono HB.out.size)); clear hb) | (go_at_call 25; refine (H5.out _).mono ?_; rintro r w9 ⟨rfl, hb⟩; replace c0 := cellLater hb c0; replace c1 := cellLater hb c1; replace a0 := cellLater hb a0; replace a1 := cellLater hb a1; replace HB := hidden (HB.out.trans (hb.mono HB.out.size)); clear hb) | (go_at_call 26; refine (H6.out _).mono ?_; rintro r w9 ⟨rfl, hb⟩; replace c0 := cellLater hb c0; replace c1 := cellLater hb c1; replace a0 := cellLater hb a0; replace a1 := cellLater hb a1; replace HB := hidden (HB.out.trans (hb.mono HB.out.size)); clear hb) | (go_at_call 18; refine (H7.out _).mono ?_; rintro r w9 ⟨rfl, hb⟩; replace c0 := cellLater hb c0; replace c1 := cellLater hb c1; replace a0 := cellLater hb a0; replace a1 := cellLater hb a1; replace HB := hidden (HB.out.trans (hb.mono HB.out.size)); clear hb) | (go_at_call_of 19 (Value.int IntKind.i64 0); refine (HM0.out _).mono ?_; rintro r w9 ⟨rfl, hw⟩; obtain rfl := hw.symm) | (go_at_call_of 19 (Value.int IntKind.i64 1); refine (HM1.out _).mono ?_; rintro r w9 ⟨rfl, hw⟩; obtain rfl := hw.symm) | (go_at_call 14; refine (HL.out _).mono ?_; rintro r w9 ⟨rfl, hb⟩; replace HB := hidden (HB.out.trans (hb.mono HB.out.size)); clear hb))
    go_ret
    exact ⟨rfl, HB.out⟩

theorem bt_two5 (m x a B K E M X Y O U : Int) (n o p q : Bool) (w : World) (hB : ¬ B ≤ m) (k0 : (K == 4) = false) (h1 : (X == Y) = true) (h2 : (X == a) = false)
    (HL : Hid (∀ w, Calls Try.prog 14 #[] w fun r w' => r = .returned (.bool true) ∧ Below w.heap.size w w')) (HM0 : Hid (∀ w, Calls Try.prog 19 #[.int .i64 0] w fun r w' => r = .returned (.int .i64 0) ∧ w' = w)) (HM1 : Hid (∀ w, Calls Try.prog 19 #[.int .i64 1] w fun r w' => r = .returned (.int .i64 1) ∧ w' = w)) (HC : Hid (∀ w, Calls Try.prog 20 #[.agg #[.int .i64 m, .int .i64 x]] w fun r w' => r = .returned (.int .i64 0) ∧ w' = w.alloc (.cells #[.int .i64 m, .int .i64 x] 35))) (HBi : Hid (∀ w, Calls Try.prog 21 #[.agg #[.int .i64 m, .int .i64 x]] w fun r w' => r = .returned (.int .i64 B) ∧ w' = w.alloc (.cells #[.int .i64 m, .int .i64 x] 35)))
    (H1 : Hid (∀ w, Calls Try.prog 13 #[.agg #[.int .i64 m, .int .i64 x], .int .u64 a] w fun r w' => r = .returned (.tuple #[partsV K n E M, .int .i64 0]) ∧ Below w.heap.size w w')) (H2 : Hid (∀ w, Calls Try.prog 22 #[.agg #[.int .i64 m, .int .i64 x], .int .u64 a] w fun r w' => r = .returned (.tuple #[.int .u64 X, .int .i64 0]) ∧ Below w.heap.size w w')) (H3 : Hid (∀ w, Calls Try.prog 23 #[.agg #[.int .i64 m, .int .i64 x], .int .u64 a] w fun r w' => r = .returned (.tuple #[.int .u64 Y, .int .i64 0]) ∧ Below w.heap.size w w')) (H4 : Hid (∀ w, Calls Try.prog 25 #[.agg #[.int .i64 m, .int .i64 x], .int .u64 X, .int .u64 a] w fun r w' => r = .returned (.tuple #[.int .i64 (-1), .bool o, .int .i64 0]) ∧ Below w.heap.size w w')) (H5 : Hid (∀ w, Calls Try.prog 25 #[.agg #[.int .i64 m, .int .i64 x], .int .u64 a, .int .u64 Y] w fun r w' => r = .returned (.tuple #[.int .i64 0, .bool p, .int .i64 0]) ∧ Below w.heap.size w w')) (H9 : Hid (∀ w, Calls Try.prog 22 #[.agg #[.int .i64 m, .int .i64 x], .int .u64 X] w fun r w' => r = .returned (.tuple #[.int .u64 X, .int .i64 0]) ∧ Below w.heap.size w w')) (H10 : Hid (∀ w, Calls Try.prog 23 #[.agg #[.int .i64 m, .int .i64 x], .int .u64 Y] w fun r w' => r = .returned (.tuple #[.int .u64 Y, .int .i64 0]) ∧ Below w.heap.size w w')) (H6 : Hid (∀ w, Calls Try.prog 26 #[.agg #[.int .i64 m, .int .i64 x], .bool false, .int .u64 0, .int .u64 1, .int .i64 0, .bool false] w fun r w' => r = .returned (.tuple #[.int .u64 O, .int .i64 0]) ∧ Below w.heap.size w w')) (H7 : Hid (∀ w, Calls Try.prog 18 #[.agg #[.int .i64 m, .int .i64 x], .int .u64 X, .int .u64 O] w fun r w' => r = .returned (.tuple #[.int .u64 U, .int .i64 0]) ∧ Below w.heap.size w w')) (H8 : Hid (∀ w, Calls Try.prog 25 #[.agg #[.int .i64 m, .int .i64 x], .int .u64 U, .int .u64 Y] w fun r w' => r = .returned (.tuple #[.int .i64 0, .bool q, .int .i64 0]) ∧ Below w.heap.size w w')) :
    Calls Try.prog 5 #[.agg #[.int .i64 m, .int .i64 x], .int .u64 a] w fun r w' => r = .returned (.bool true) ∧ Below w.heap.size w w' := by
  have c0 : (w.alloc (.cells #[.int .i64 m, .int .i64 x] 35)).cell? ⟨w.heap.size, 0, none⟩ = some (.int .i64 m) := by simp
  have c1 : (w.alloc (.cells #[.int .i64 m, .int .i64 x] 35)).cell? ⟨w.heap.size, 1, none⟩ = some (.int .i64 x) := by simp
  have HB := hidden ((Below.refl w.heap.size w).alloc (Nat.le_refl _) (.cells #[.int .i64 m, .int .i64 x] 35))
  go_enter Try.func5, Try.ntmps5
  go_upto_region 1 with fail
  go_cut [37] from 28 to 37 (fun s wx => s = .bool (decide (B ≤ m)) ∧ wx.cell? ⟨w.heap.size, 0, none⟩ = some (.int .i64 m) ∧ wx.cell? ⟨w.heap.size, 1, none⟩ = some (.int .i64 x) ∧ Below w.heap.size w wx)
  case first =>
    go_region_held3 (fun w' => w'.cell? ⟨w.heap.size, 0, none⟩ = some (.int .i64 m) ∧ w'.cell? ⟨w.heap.size, 1, none⟩ = some (.int .i64 x)) (go_keep) (first | (go_at_call 20; refine (HC.out _).mono ?_; rintro r w1 ⟨rfl, hw⟩; subst hw) | (go_at_call 21; refine (HBi.out _).mono ?_; rintro r w1 ⟨rfl, hw⟩; subst hw))
    all_goals (try go_wp2_with fail)
    all_goals go_meet
    all_goals exact ⟨rfl, by go_keep, by go_keep, by repeat (first | exact Below.refl _ _ | apply Below.drew | (refine Below.alloc ?_ (by simp; try omega) _))⟩
  case rest =>
    obtain ⟨rfl, d0, d1, hb⟩ := hcut
    replace HB := hidden hb
    clear hb c0 c1
    have c0 := d0
    have c1 := d1
    clear d0 d1
    go_upto_region 4 with (first | (go_at_call_of 13 (Value.int IntKind.u64 a); refine (H1.out _).mono ?_; rintro r w9 ⟨rfl, hb⟩; replace c0 := cellLater hb c0; replace c1 := cellLater hb c1; replace HB := hidden (HB.out.trans (hb.mono HB.out.size)); clear hb))
    change Code.wp _ _ _ _ (w9.alloc (.cells #[.int .i64 K, .bool n, .int .i64 E, .int .u64 M] 38))
    obtain ⟨wA, hwA, hb, a0, a1⟩ := rbox K E M n w9
    rw [← hwA]
    clear hwA
    replace c0 := cellLater hb c0; replace c1 := cellLater hb c1; replace HB := hidden (HB.out.trans (hb.mono HB.out.size)); clear hb
    generalize w9.heap.size = j1 at *
    clear w9
    go_wp2_with (first | (go_at_call_of 22 (Value.int IntKind.u64 a); refine (H2.out _).mono ?_; rintro r w9 ⟨rfl, hb⟩; replace c0 := cellLater hb c0; replace c1 := cellLater hb c1; replace a0 := cellLater hb a0; replace a1 := cellLater hb a1; replace HB := hidden (HB.out.trans (hb.mono HB.out.size)); clear hb) | (go_at_call_of 22 (Value.int IntKind.u64 X); refine (H9.out _).mono ?_; rintro r w9 ⟨rfl, hb⟩; replace c0 := cellLater hb c0; replace c1 := cellLater hb c1; replace a0 := cellLater hb a0; replace a1 := cellLater hb a1; replace HB := hidden (HB.out.trans (hb.mono HB.out.size)); clear hb) | (go_at_call_of 23 (Value.int IntKind.u64 a); refine (H3.out _).mono ?_; rintro r w9 ⟨rfl, hb⟩; replace c0 := cellLater hb c0; replace c1 := cellLater hb c1; replace a0 := cellLater hb a0; replace a1 := cellLater hb a1; replace HB := hidden (HB.out.trans (hb.mono HB.out.size)); clear hb) | (go_at_call_of 23 (Value.int IntKind.u64 Y); refine (H10.out _).mono ?_; rintro r w9 ⟨rfl, hb⟩; replace c0 := cellLater hb c0; replace c1 := cellLater hb c1; replace a0 := cellLater hb a0; replace a1 := cellLater hb a1; replace HB := hidden (HB.out.trans (hb.mono HB.out.size)); clear hb) | (go_at_call_of 25 (Value.int IntKind.u64 U); refine (H8.out _).mono ?_; rintro r w9 ⟨rfl, hb⟩; replace c0 := cellLater hb c0; replace c1 := cellLater hb c1; replace a0 := cellLater hb a0; replace a1 := cellLater hb a1; replace HB := hidden (HB.out.trans (hb.mono HB.out.size)); clear hb) | (go_at_call_of 25 (Value.int IntKind.u64 X); refine (H4.out _).mono ?_; rintro r w9 ⟨rfl, hb⟩; replace c0 := cellLater hb c0; replace c1 := cellLater hb c1; replace a0 := cellLater hb a0; replace a1 := cellLater hb a1; replace HB := hidden (HB.out.trans (hb.mono HB.out.size)); clear hb) | (go_at_call 25; refine (H5.out _).mono ?_; rintro r w9 ⟨rfl, hb⟩; replace c0 := cellLater hb c0; replace c1 := cellLater hb c1; replace a0 := cellLater hb a0; replace a1 := cellLater hb a1; replace HB := hidden (HB.out.trans (hb.mono HB.out.size)); clear hb) | (go_at_call 26; refine (H6.out _).mono ?_; rintro r w9 ⟨rfl, hb⟩; replace c0 := cellLater hb c0; replace c1 := cellLater hb c1; replace a0 := cellLater hb a0; replace a1 := cellLater hb a1; replace HB := hidden (HB.out.trans (hb.mono HB.out.size)); clear hb) | (go_at_call 18; refine (H7.out _).mono ?_; rintro r w9 ⟨rfl, hb⟩; replace c0 := cellLater hb c0; replace c1 := cellLater hb c1; replace a0 := cellLater hb a0; replace a1 := cellLater hb a1; replace HB := hidden (HB.out.trans (hb.mono HB.out.size)); clear hb) | (go_at_call_of 19 (Value.int IntKind.i64 0); refine (HM0.out _).mono ?_; rintro r w9 ⟨rfl, hw⟩; obtain rfl := hw.symm) | (go_at_call_of 19 (Value.int IntKind.i64 1); refine (HM1.out _).mono ?_; rintro r w9 ⟨rfl, hw⟩; obtain rfl := hw.symm) | (go_at_call 14; refine (HL.out _).mono ?_; rintro r w9 ⟨rfl, hb⟩; replace HB := hidden (HB.out.trans (hb.mono HB.out.size)); clear hb))
    go_ret
    exact ⟨rfl, HB.out⟩

theorem bt_two6 (m x a B K E M X Y O U : Int) (n o p q : Bool) (w : World) (hB : ¬ B ≤ m) (k0 : (K == 4) = false) (h1 : (X == Y) = false)
    (HL : Hid (∀ w, Calls Try.prog 14 #[] w fun r w' => r = .returned (.bool true) ∧ Below w.heap.size w w')) (HM0 : Hid (∀ w, Calls Try.prog 19 #[.int .i64 0] w fun r w' => r = .returned (.int .i64 0) ∧ w' = w)) (HM1 : Hid (∀ w, Calls Try.prog 19 #[.int .i64 1] w fun r w' => r = .returned (.int .i64 1) ∧ w' = w)) (HC : Hid (∀ w, Calls Try.prog 20 #[.agg #[.int .i64 m, .int .i64 x]] w fun r w' => r = .returned (.int .i64 0) ∧ w' = w.alloc (.cells #[.int .i64 m, .int .i64 x] 35))) (HBi : Hid (∀ w, Calls Try.prog 21 #[.agg #[.int .i64 m, .int .i64 x]] w fun r w' => r = .returned (.int .i64 B) ∧ w' = w.alloc (.cells #[.int .i64 m, .int .i64 x] 35)))
    (H1 : Hid (∀ w, Calls Try.prog 13 #[.agg #[.int .i64 m, .int .i64 x], .int .u64 a] w fun r w' => r = .returned (.tuple #[partsV K n E M, .int .i64 0]) ∧ Below w.heap.size w w')) (H2 : Hid (∀ w, Calls Try.prog 22 #[.agg #[.int .i64 m, .int .i64 x], .int .u64 a] w fun r w' => r = .returned (.tuple #[.int .u64 X, .int .i64 0]) ∧ Below w.heap.size w w')) (H3 : Hid (∀ w, Calls Try.prog 23 #[.agg #[.int .i64 m, .int .i64 x], .int .u64 a] w fun r w' => r = .returned (.tuple #[.int .u64 Y, .int .i64 0]) ∧ Below w.heap.size w w')) (H4 : Hid (∀ w, Calls Try.prog 25 #[.agg #[.int .i64 m, .int .i64 x], .int .u64 X, .int .u64 a] w fun r w' => r = .returned (.tuple #[.int .i64 (-1), .bool o, .int .i64 0]) ∧ Below w.heap.size w w')) (H5 : Hid (∀ w, Calls Try.prog 25 #[.agg #[.int .i64 m, .int .i64 x], .int .u64 a, .int .u64 Y] w fun r w' => r = .returned (.tuple #[.int .i64 (-1), .bool p, .int .i64 0]) ∧ Below w.heap.size w w')) (H9 : Hid (∀ w, Calls Try.prog 22 #[.agg #[.int .i64 m, .int .i64 x], .int .u64 X] w fun r w' => r = .returned (.tuple #[.int .u64 X, .int .i64 0]) ∧ Below w.heap.size w w')) (H10 : Hid (∀ w, Calls Try.prog 23 #[.agg #[.int .i64 m, .int .i64 x], .int .u64 Y] w fun r w' => r = .returned (.tuple #[.int .u64 Y, .int .i64 0]) ∧ Below w.heap.size w w')) (H6 : Hid (∀ w, Calls Try.prog 26 #[.agg #[.int .i64 m, .int .i64 x], .bool false, .int .u64 0, .int .u64 1, .int .i64 0, .bool false] w fun r w' => r = .returned (.tuple #[.int .u64 O, .int .i64 0]) ∧ Below w.heap.size w w')) (H7 : Hid (∀ w, Calls Try.prog 18 #[.agg #[.int .i64 m, .int .i64 x], .int .u64 X, .int .u64 O] w fun r w' => r = .returned (.tuple #[.int .u64 U, .int .i64 0]) ∧ Below w.heap.size w w')) (H8 : Hid (∀ w, Calls Try.prog 25 #[.agg #[.int .i64 m, .int .i64 x], .int .u64 U, .int .u64 Y] w fun r w' => r = .returned (.tuple #[.int .i64 0, .bool q, .int .i64 0]) ∧ Below w.heap.size w w')) :
    Calls Try.prog 5 #[.agg #[.int .i64 m, .int .i64 x], .int .u64 a] w fun r w' => r = .returned (.bool true) ∧ Below w.heap.size w w' := by
  have c0 : (w.alloc (.cells #[.int .i64 m, .int .i64 x] 35)).cell? ⟨w.heap.size, 0, none⟩ = some (.int .i64 m) := by simp
  have c1 : (w.alloc (.cells #[.int .i64 m, .int .i64 x] 35)).cell? ⟨w.heap.size, 1, none⟩ = some (.int .i64 x) := by simp
  have HB := hidden ((Below.refl w.heap.size w).alloc (Nat.le_refl _) (.cells #[.int .i64 m, .int .i64 x] 35))
  go_enter Try.func5, Try.ntmps5
  go_upto_region 1 with fail
  go_cut [37] from 28 to 37 (fun s wx => s = .bool (decide (B ≤ m)) ∧ wx.cell? ⟨w.heap.size, 0, none⟩ = some (.int .i64 m) ∧ wx.cell? ⟨w.heap.size, 1, none⟩ = some (.int .i64 x) ∧ Below w.heap.size w wx)
  case first =>
    go_region_held3 (fun w' => w'.cell? ⟨w.heap.size, 0, none⟩ = some (.int .i64 m) ∧ w'.cell? ⟨w.heap.size, 1, none⟩ = some (.int .i64 x)) (go_keep) (first | (go_at_call 20; refine (HC.out _).mono ?_; rintro r w1 ⟨rfl, hw⟩; subst hw) | (go_at_call 21; refine (HBi.out _).mono ?_; rintro r w1 ⟨rfl, hw⟩; subst hw))
    all_goals (try go_wp2_with fail)
    all_goals go_meet
    all_goals exact ⟨rfl, by go_keep, by go_keep, by repeat (first | exact Below.refl _ _ | apply Below.drew | (refine Below.alloc ?_ (by simp; try omega) _))⟩
  case rest =>
    obtain ⟨rfl, d0, d1, hb⟩ := hcut
    replace HB := hidden hb
    clear hb c0 c1
    have c0 := d0
    have c1 := d1
    clear d0 d1
    go_upto_region 4 with (first | (go_at_call_of 13 (Value.int IntKind.u64 a); refine (H1.out _).mono ?_; rintro r w9 ⟨rfl, hb⟩; replace c0 := cellLater hb c0; replace c1 := cellLater hb c1; replace HB := hidden (HB.out.trans (hb.mono HB.out.size)); clear hb))
    change Code.wp _ _ _ _ (w9.alloc (.cells #[.int .i64 K, .bool n, .int .i64 E, .int .u64 M] 38))
    obtain ⟨wA, hwA, hb, a0, a1⟩ := rbox K E M n w9
    rw [← hwA]
    clear hwA
    replace c0 := cellLater hb c0; replace c1 := cellLater hb c1; replace HB := hidden (HB.out.trans (hb.mono HB.out.size)); clear hb
    generalize w9.heap.size = j1 at *
    clear w9
    go_wp2_with (first | (go_at_call_of 22 (Value.int IntKind.u64 a); refine (H2.out _).mono ?_; rintro r w9 ⟨rfl, hb⟩; replace c0 := cellLater hb c0; replace c1 := cellLater hb c1; replace a0 := cellLater hb a0; replace a1 := cellLater hb a1; replace HB := hidden (HB.out.trans (hb.mono HB.out.size)); clear hb) | (go_at_call_of 22 (Value.int IntKind.u64 X); refine (H9.out _).mono ?_; rintro r w9 ⟨rfl, hb⟩; replace c0 := cellLater hb c0; replace c1 := cellLater hb c1; replace a0 := cellLater hb a0; replace a1 := cellLater hb a1; replace HB := hidden (HB.out.trans (hb.mono HB.out.size)); clear hb) | (go_at_call_of 23 (Value.int IntKind.u64 a); refine (H3.out _).mono ?_; rintro r w9 ⟨rfl, hb⟩; replace c0 := cellLater hb c0; replace c1 := cellLater hb c1; replace a0 := cellLater hb a0; replace a1 := cellLater hb a1; replace HB := hidden (HB.out.trans (hb.mono HB.out.size)); clear hb) | (go_at_call_of 23 (Value.int IntKind.u64 Y); refine (H10.out _).mono ?_; rintro r w9 ⟨rfl, hb⟩; replace c0 := cellLater hb c0; replace c1 := cellLater hb c1; replace a0 := cellLater hb a0; replace a1 := cellLater hb a1; replace HB := hidden (HB.out.trans (hb.mono HB.out.size)); clear hb) | (go_at_call_of 25 (Value.int IntKind.u64 U); refine (H8.out _).mono ?_; rintro r w9 ⟨rfl, hb⟩; replace c0 := cellLater hb c0; replace c1 := cellLater hb c1; replace a0 := cellLater hb a0; replace a1 := cellLater hb a1; replace HB := hidden (HB.out.trans (hb.mono HB.out.size)); clear hb) | (go_at_call_of 25 (Value.int IntKind.u64 X); refine (H4.out _).mono ?_; rintro r w9 ⟨rfl, hb⟩; replace c0 := cellLater hb c0; replace c1 := cellLater hb c1; replace a0 := cellLater hb a0; replace a1 := cellLater hb a1; replace HB := hidden (HB.out.trans (hb.mono HB.out.size)); clear hb) | (go_at_call 25; refine (H5.out _).mono ?_; rintro r w9 ⟨rfl, hb⟩; replace c0 := cellLater hb c0; replace c1 := cellLater hb c1; replace a0 := cellLater hb a0; replace a1 := cellLater hb a1; replace HB := hidden (HB.out.trans (hb.mono HB.out.size)); clear hb) | (go_at_call 26; refine (H6.out _).mono ?_; rintro r w9 ⟨rfl, hb⟩; replace c0 := cellLater hb c0; replace c1 := cellLater hb c1; replace a0 := cellLater hb a0; replace a1 := cellLater hb a1; replace HB := hidden (HB.out.trans (hb.mono HB.out.size)); clear hb) | (go_at_call 18; refine (H7.out _).mono ?_; rintro r w9 ⟨rfl, hb⟩; replace c0 := cellLater hb c0; replace c1 := cellLater hb c1; replace a0 := cellLater hb a0; replace a1 := cellLater hb a1; replace HB := hidden (HB.out.trans (hb.mono HB.out.size)); clear hb) | (go_at_call_of 19 (Value.int IntKind.i64 0); refine (HM0.out _).mono ?_; rintro r w9 ⟨rfl, hw⟩; obtain rfl := hw.symm) | (go_at_call_of 19 (Value.int IntKind.i64 1); refine (HM1.out _).mono ?_; rintro r w9 ⟨rfl, hw⟩; obtain rfl := hw.symm) | (go_at_call 14; refine (HL.out _).mono ?_; rintro r w9 ⟨rfl, hb⟩; replace HB := hidden (HB.out.trans (hb.mono HB.out.size)); clear hb))
    go_ret
    exact ⟨rfl, HB.out⟩

theorem bt_two7 (m x a B K E M X Y O U : Int) (n o p q : Bool) (w : World) (hB : ¬ B ≤ m) (k0 : (K == 4) = false) (h1 : (X == Y) = true) (h2 : (X == a) = false)
    (HL : Hid (∀ w, Calls Try.prog 14 #[] w fun r w' => r = .returned (.bool true) ∧ Below w.heap.size w w')) (HM0 : Hid (∀ w, Calls Try.prog 19 #[.int .i64 0] w fun r w' => r = .returned (.int .i64 0) ∧ w' = w)) (HM1 : Hid (∀ w, Calls Try.prog 19 #[.int .i64 1] w fun r w' => r = .returned (.int .i64 1) ∧ w' = w)) (HC : Hid (∀ w, Calls Try.prog 20 #[.agg #[.int .i64 m, .int .i64 x]] w fun r w' => r = .returned (.int .i64 0) ∧ w' = w.alloc (.cells #[.int .i64 m, .int .i64 x] 35))) (HBi : Hid (∀ w, Calls Try.prog 21 #[.agg #[.int .i64 m, .int .i64 x]] w fun r w' => r = .returned (.int .i64 B) ∧ w' = w.alloc (.cells #[.int .i64 m, .int .i64 x] 35)))
    (H1 : Hid (∀ w, Calls Try.prog 13 #[.agg #[.int .i64 m, .int .i64 x], .int .u64 a] w fun r w' => r = .returned (.tuple #[partsV K n E M, .int .i64 0]) ∧ Below w.heap.size w w')) (H2 : Hid (∀ w, Calls Try.prog 22 #[.agg #[.int .i64 m, .int .i64 x], .int .u64 a] w fun r w' => r = .returned (.tuple #[.int .u64 X, .int .i64 0]) ∧ Below w.heap.size w w')) (H3 : Hid (∀ w, Calls Try.prog 23 #[.agg #[.int .i64 m, .int .i64 x], .int .u64 a] w fun r w' => r = .returned (.tuple #[.int .u64 Y, .int .i64 0]) ∧ Below w.heap.size w w')) (H4 : Hid (∀ w, Calls Try.prog 25 #[.agg #[.int .i64 m, .int .i64 x], .int .u64 X, .int .u64 a] w fun r w' => r = .returned (.tuple #[.int .i64 (-1), .bool o, .int .i64 0]) ∧ Below w.heap.size w w')) (H5 : Hid (∀ w, Calls Try.prog 25 #[.agg #[.int .i64 m, .int .i64 x], .int .u64 a, .int .u64 Y] w fun r w' => r = .returned (.tuple #[.int .i64 (-1), .bool p, .int .i64 0]) ∧ Below w.heap.size w w')) (H9 : Hid (∀ w, Calls Try.prog 22 #[.agg #[.int .i64 m, .int .i64 x], .int .u64 X] w fun r w' => r = .returned (.tuple #[.int .u64 X, .int .i64 0]) ∧ Below w.heap.size w w')) (H10 : Hid (∀ w, Calls Try.prog 23 #[.agg #[.int .i64 m, .int .i64 x], .int .u64 Y] w fun r w' => r = .returned (.tuple #[.int .u64 Y, .int .i64 0]) ∧ Below w.heap.size w w')) (H6 : Hid (∀ w, Calls Try.prog 26 #[.agg #[.int .i64 m, .int .i64 x], .bool false, .int .u64 0, .int .u64 1, .int .i64 0, .bool false] w fun r w' => r = .returned (.tuple #[.int .u64 O, .int .i64 0]) ∧ Below w.heap.size w w')) (H7 : Hid (∀ w, Calls Try.prog 18 #[.agg #[.int .i64 m, .int .i64 x], .int .u64 X, .int .u64 O] w fun r w' => r = .returned (.tuple #[.int .u64 U, .int .i64 0]) ∧ Below w.heap.size w w')) (H8 : Hid (∀ w, Calls Try.prog 25 #[.agg #[.int .i64 m, .int .i64 x], .int .u64 U, .int .u64 Y] w fun r w' => r = .returned (.tuple #[.int .i64 0, .bool q, .int .i64 0]) ∧ Below w.heap.size w w')) :
    Calls Try.prog 5 #[.agg #[.int .i64 m, .int .i64 x], .int .u64 a] w fun r w' => r = .returned (.bool true) ∧ Below w.heap.size w w' := by
  have c0 : (w.alloc (.cells #[.int .i64 m, .int .i64 x] 35)).cell? ⟨w.heap.size, 0, none⟩ = some (.int .i64 m) := by simp
  have c1 : (w.alloc (.cells #[.int .i64 m, .int .i64 x] 35)).cell? ⟨w.heap.size, 1, none⟩ = some (.int .i64 x) := by simp
  have HB := hidden ((Below.refl w.heap.size w).alloc (Nat.le_refl _) (.cells #[.int .i64 m, .int .i64 x] 35))
  go_enter Try.func5, Try.ntmps5
  go_upto_region 1 with fail
  go_cut [37] from 28 to 37 (fun s wx => s = .bool (decide (B ≤ m)) ∧ wx.cell? ⟨w.heap.size, 0, none⟩ = some (.int .i64 m) ∧ wx.cell? ⟨w.heap.size, 1, none⟩ = some (.int .i64 x) ∧ Below w.heap.size w wx)
  case first =>
    go_region_held3 (fun w' => w'.cell? ⟨w.heap.size, 0, none⟩ = some (.int .i64 m) ∧ w'.cell? ⟨w.heap.size, 1, none⟩ = some (.int .i64 x)) (go_keep) (first | (go_at_call 20; refine (HC.out _).mono ?_; rintro r w1 ⟨rfl, hw⟩; subst hw) | (go_at_call 21; refine (HBi.out _).mono ?_; rintro r w1 ⟨rfl, hw⟩; subst hw))
    all_goals (try go_wp2_with fail)
    all_goals go_meet
    all_goals exact ⟨rfl, by go_keep, by go_keep, by repeat (first | exact Below.refl _ _ | apply Below.drew | (refine Below.alloc ?_ (by simp; try omega) _))⟩
  case rest =>
    obtain ⟨rfl, d0, d1, hb⟩ := hcut
    replace HB := hidden hb
    clear hb c0 c1
    have c0 := d0
    have c1 := d1
    clear d0 d1
    go_upto_region 4 with (first | (go_at_call_of 13 (Value.int IntKind.u64 a); refine (H1.out _).mono ?_; rintro r w9 ⟨rfl, hb⟩; replace c0 := cellLater hb c0; replace c1 := cellLater hb c1; replace HB := hidden (HB.out.trans (hb.mono HB.out.size)); clear hb))
    change Code.wp _ _ _ _ (w9.alloc (.cells #[.int .i64 K, .bool n, .int .i64 E, .int .u64 M] 38))
    obtain ⟨wA, hwA, hb, a0, a1⟩ := rbox K E M n w9
    rw [← hwA]
    clear hwA
    replace c0 := cellLater hb c0; replace c1 := cellLater hb c1; replace HB := hidden (HB.out.trans (hb.mono HB.out.size)); clear hb
    generalize w9.heap.size = j1 at *
    clear w9
    go_wp2_with (first | (go_at_call_of 22 (Value.int IntKind.u64 a); refine (H2.out _).mono ?_; rintro r w9 ⟨rfl, hb⟩; replace c0 := cellLater hb c0; replace c1 := cellLater hb c1; replace a0 := cellLater hb a0; replace a1 := cellLater hb a1; replace HB := hidden (HB.out.trans (hb.mono HB.out.size)); clear hb) | (go_at_call_of 22 (Value.int IntKind.u64 X); refine (H9.out _).mono ?_; rintro r w9 ⟨rfl, hb⟩; replace c0 := cellLater hb c0; replace c1 := cellLater hb c1; replace a0 := cellLater hb a0; replace a1 := cellLater hb a1; replace HB := hidden (HB.out.trans (hb.mono HB.out.size)); clear hb) | (go_at_call_of 23 (Value.int IntKind.u64 a); refine (H3.out _).mono ?_; rintro r w9 ⟨rfl, hb⟩; replace c0 := cellLater hb c0; replace c1 := cellLater hb c1; replace a0 := cellLater hb a0; replace a1 := cellLater hb a1; replace HB := hidden (HB.out.trans (hb.mono HB.out.size)); clear hb) | (go_at_call_of 23 (Value.int IntKind.u64 Y); refine (H10.out _).mono ?_; rintro r w9 ⟨rfl, hb⟩; replace c0 := cellLater hb c0; replace c1 := cellLater hb c1; replace a0 := cellLater hb a0; replace a1 := cellLater hb a1; replace HB := hidden (HB.out.trans (hb.mono HB.out.size)); clear hb) | (go_at_call_of 25 (Value.int IntKind.u64 U); refine (H8.out _).mono ?_; rintro r w9 ⟨rfl, hb⟩; replace c0 := cellLater hb c0; replace c1 := cellLater hb c1; replace a0 := cellLater hb a0; replace a1 := cellLater hb a1; replace HB := hidden (HB.out.trans (hb.mono HB.out.size)); clear hb) | (go_at_call_of 25 (Value.int IntKind.u64 X); refine (H4.out _).mono ?_; rintro r w9 ⟨rfl, hb⟩; replace c0 := cellLater hb c0; replace c1 := cellLater hb c1; replace a0 := cellLater hb a0; replace a1 := cellLater hb a1; replace HB := hidden (HB.out.trans (hb.mono HB.out.size)); clear hb) | (go_at_call 25; refine (H5.out _).mono ?_; rintro r w9 ⟨rfl, hb⟩; replace c0 := cellLater hb c0; replace c1 := cellLater hb c1; replace a0 := cellLater hb a0; replace a1 := cellLater hb a1; replace HB := hidden (HB.out.trans (hb.mono HB.out.size)); clear hb) | (go_at_call 26; refine (H6.out _).mono ?_; rintro r w9 ⟨rfl, hb⟩; replace c0 := cellLater hb c0; replace c1 := cellLater hb c1; replace a0 := cellLater hb a0; replace a1 := cellLater hb a1; replace HB := hidden (HB.out.trans (hb.mono HB.out.size)); clear hb) | (go_at_call 18; refine (H7.out _).mono ?_; rintro r w9 ⟨rfl, hb⟩; replace c0 := cellLater hb c0; replace c1 := cellLater hb c1; replace a0 := cellLater hb a0; replace a1 := cellLater hb a1; replace HB := hidden (HB.out.trans (hb.mono HB.out.size)); clear hb) | (go_at_call_of 19 (Value.int IntKind.i64 0); refine (HM0.out _).mono ?_; rintro r w9 ⟨rfl, hw⟩; obtain rfl := hw.symm) | (go_at_call_of 19 (Value.int IntKind.i64 1); refine (HM1.out _).mono ?_; rintro r w9 ⟨rfl, hw⟩; obtain rfl := hw.symm) | (go_at_call 14; refine (HL.out _).mono ?_; rintro r w9 ⟨rfl, hb⟩; replace HB := hidden (HB.out.trans (hb.mono HB.out.size)); clear hb))
    go_ret
    exact ⟨rfl, HB.out⟩

end Go.Proofs.Ythmobhnkoinmcaa
