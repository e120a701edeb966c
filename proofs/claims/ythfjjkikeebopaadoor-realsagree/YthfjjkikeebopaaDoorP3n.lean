/- Package soft's Ceil, Floor, Cmp and Sub. -/
import Derived.Test.YthfjjkikeebopaaDoorP3m
import Derived.Test.YthfjjkikeebopaaDoorX3m
namespace Go.Proofs.YthfjjkikeebopaaDoor
open Go.RowKit
set_option maxRecDepth 100000
set_option maxHeartbeats 400000
set_option linter.unusedVariables false

theorem pceil (m x a R g : Int) (w : World)
    (HW : Hid (∀ w, Calls Tryd.prog 43 #[.agg #[.int .i64 m, .int .i64 x], .int .u64 a, .bool false] w fun r w' => r = .returned (.tuple #[.int .u64 R, .int .i64 g]) ∧ Below w.heap.size w w')) :
    Calls Tryd.prog 23 #[.agg #[.int .i64 m, .int .i64 x], .int .u64 a] w fun r w' => r = .returned (.tuple #[.int .u64 R, .int .i64 g]) ∧ Below w.heap.size w w' := by
  go_enter Tryd.func23, Tryd.ntmps23
  go_wp2_with (go_at_call 43; refine (HW.out _).mono ?_; rintro r w1 ⟨rfl, hb⟩)
  go_ret2
  exact ⟨rfl, box_below _ hb⟩
theorem pfloor (m x a R g : Int) (w : World)
    (HW : Hid (∀ w, Calls Tryd.prog 43 #[.agg #[.int .i64 m, .int .i64 x], .int .u64 a, .bool true] w fun r w' => r = .returned (.tuple #[.int .u64 R, .int .i64 g]) ∧ Below w.heap.size w w')) :
    Calls Tryd.prog 24 #[.agg #[.int .i64 m, .int .i64 x], .int .u64 a] w fun r w' => r = .returned (.tuple #[.int .u64 R, .int .i64 g]) ∧ Below w.heap.size w w' := by
  go_enter Tryd.func24, Tryd.ntmps24
  go_wp2_with (go_at_call 43; refine (HW.out _).mono ?_; rintro r w1 ⟨rfl, hb⟩)
  go_ret2
  exact ⟨rfl, box_below _ hb⟩
/-- a pattern's rank -/
def rankI (k : Nat) (a : Int) : Int := if p2 k ≤ a then -(a % p2 k) else a % p2 k
theorem prank (m x : Nat) (a : Int) (w : World) (hok : okF m x) (a0 : 0 ≤ a) (a1 : a < p2 (m + x + 1)) :
    Calls Tryd.prog 69 #[fmtV m x, .int .u64 a] w fun r w' => r = .returned (.int .i64 (rankI (m + x) a)) ∧ Below w.heap.size w w' := by
  have HS := hidden (fun w => psignbit_any m x w hok)
  have hk : m + x ≤ 63 := by have := hok.2.1; have := hok.2.2.2; omega
  have h63 := p2_le63 hk
  have hp := p2_pos (m + x)
  have a2 : a < 18446744073709551616 := by rw [p2_succ] at a1; omega
  have k1 := andnot_top (m + x) a hk a0 a1 a2
  have k2 := andtop (m + x) a hk a0 a1 a2
  have r0 := Int.emod_nonneg a (show p2 (m + x) ≠ 0 by omega)
  have r1 := Int.emod_lt_of_pos a hp
  unfold rankI
  generalize a % p2 (m + x) = S at *
  generalize p2 (m + x) = P at *
  have k3 : IntKind.i64.wrap S = S := wrapi _ (by omega) (by omega)
  have k4 : IntKind.i64.wrap (-S) = -S := wrapi _ (by omega) (by omega)
  by_cases h : P ≤ a
  · rw [if_pos h] at k2 ⊢
    have hz : (P != 0) = true := by simp; omega
    go_enter Tryd.func69, Tryd.ntmps69
    go_wp2_with fail
    refine (HS.out _).mono ?_
    rintro r w1 ⟨rfl, hb1⟩
    have c0 : w1.cell? ⟨w.heap.size, 0, none⟩ = some (.int .i64 m) := cellLater hb1 (by simp)
    have c1 : w1.cell? ⟨w.heap.size, 1, none⟩ = some (.int .i64 x) := cellLater hb1 (by simp)
    have HB := hidden (box_below _ hb1)
    clear hb1
    go_wp2_with (go_at_call 35; refine (HS.out _).mono ?_; rintro r w2 ⟨rfl, hb2⟩)
    go_ret
    exact ⟨rfl, HB.out.trans (hb2.mono HB.out.size)⟩
  · rw [if_neg h] at k2 ⊢
    go_enter Tryd.func69, Tryd.ntmps69
    go_wp2_with fail
    refine (HS.out _).mono ?_
    rintro r w1 ⟨rfl, hb1⟩
    have c0 : w1.cell? ⟨w.heap.size, 0, none⟩ = some (.int .i64 m) := cellLater hb1 (by simp)
    have c1 : w1.cell? ⟨w.heap.size, 1, none⟩ = some (.int .i64 x) := cellLater hb1 (by simp)
    have HB := hidden (box_below _ hb1)
    clear hb1
    go_wp2_with (go_at_call 35; refine (HS.out _).mono ?_; rintro r w2 ⟨rfl, hb2⟩)
    go_ret
    exact ⟨rfl, HB.out.trans (hb2.mono HB.out.size)⟩
def cmpZ (a b : Int) : Int := if a < b then -1 else if b < a then 1 else 0
theorem pisnan (a : Int) (w : World) : Calls Tryd.prog 70 #[.int .i64 a] w fun r w' => r = .returned (.bool false) ∧ w' = w := by
  have h : (a != a) = false := by simp
  go_enter Tryd.func70, Tryd.ntmps70
  go_wp2
  go_ret
  exact ⟨rfl, rfl⟩
theorem pcompare (a b : Int) (w : World) : Calls Tryd.prog 68 #[.int .i64 a, .int .i64 b] w fun r w' => r = .returned (.int .i64 (cmpZ a b)) ∧ w' = w := by
  unfold cmpZ
  by_cases h1 : a < b
  · rw [if_pos h1]
    go_enter Tryd.func68, Tryd.ntmps68
    go_wp2_with (go_at_call 70; refine (pisnan _ _).mono ?_; rintro r w1 ⟨rfl, hw1⟩; obtain rfl := hw1.symm)
    go_ret
    exact ⟨rfl, rfl⟩
  · rw [if_neg h1]
    by_cases h2 : b < a
    · rw [if_pos h2]
      go_enter Tryd.func68, Tryd.ntmps68
      go_wp2_with (go_at_call 70; refine (pisnan _ _).mono ?_; rintro r w1 ⟨rfl, hw1⟩; obtain rfl := hw1.symm)
      go_ret
      exact ⟨rfl, rfl⟩
    · rw [if_neg h2]
      go_enter Tryd.func68, Tryd.ntmps68
      go_wp2_with (go_at_call 70; refine (pisnan _ _).mono ?_; rintro r w1 ⟨rfl, hw1⟩; obtain rfl := hw1.symm)
      go_ret
      exact ⟨rfl, rfl⟩
theorem pcmp_err (m x a b : Int) (w : World)
    (HO : Hid (∀ w, Calls Tryd.prog 29 #[.agg #[.int .i64 m, .int .i64 x], .int .u64 a, .int .u64 b] w fun r w' => r = .returned (.tuple #[partsV 0 false 0 0, partsV 0 false 0 0, .int .i64 1]) ∧ Below w.heap.size w w')) :
    Calls Tryd.prog 64 #[.agg #[.int .i64 m, .int .i64 x], .int .u64 a, .int .u64 b] w fun r w' => r = .returned (.tuple #[.int .i64 0, .bool false, .int .i64 1]) ∧ Below w.heap.size w w' := by
  go_enter Tryd.func64, Tryd.ntmps64
  go_wp2_with fail
  refine (HO.out _).mono ?_
  rintro r w1 ⟨rfl, hb1⟩
  have HB1 := hidden (box_below _ hb1)
  clear hb1
  go_wp2
  go_ret3
  refine ⟨rfl, ?_⟩
  have h0 := HB1.out
  exact (h0.alloc h0.size _).alloc (by have := h0.size; simp; omega) _
theorem pcmp_nan (m x : Nat) (a b K1 E1 M1 K2 E2 M2 : Int) (n1 n2 : Bool) (w : World)
    (HO : Hid (∀ w, Calls Tryd.prog 29 #[fmtV m x, .int .u64 a, .int .u64 b] w fun r w' => r = .returned (.tuple #[partsV K1 n1 E1 M1, partsV K2 n2 E2 M2, .int .i64 0]) ∧ Below w.heap.size w w'))
    (HE4 : Hid (∀ w, Calls Tryd.prog 30 #[partsV K1 n1 E1 M1, partsV K2 n2 E2 M2, .int .i64 4] w fun r w' => r = .returned (.bool true) ∧ Below w.heap.size w w'))
    : Calls Tryd.prog 64 #[fmtV m x, .int .u64 a, .int .u64 b] w fun r w' => r = .returned (.tuple #[.int .i64 0, .bool false, .int .i64 0]) ∧ Below w.heap.size w w' := by
  go_enter Tryd.func64, Tryd.ntmps64
  go_wp2_with fail
  refine (HO.out _).mono ?_
  rintro r w1 ⟨rfl, hb1⟩
  obtain ⟨w5, hw5, hx, c0, c1, p0, p1, p2', p3, q0, q1, q2', q3⟩ := open_boxes m x K1 E1 M1 K2 E2 M2 n1 n2 w w1 hb1
  have HB := hidden hx
  clear hx hb1
  go_upto_region 2 with fail
  change Code.wp _ _ _ _ ((w1.alloc (prt K1 n1 E1 M1)).alloc (prt K2 n2 E2 M2))
  rw [← hw5]
  clear hw5
  go_wp2_with (first | (go_at_call_of 30 (Value.int IntKind.i64 4); refine (HE4.out _).mono ?_; rintro r w9 ⟨rfl, hb⟩; have zz := ten_later hb ⟨c0, c1, p0, p1, p2', p3, q0, q1, q2', q3⟩; clear c0 c1 p0 p1 p2' p3 q0 q1 q2' q3; obtain ⟨c0, c1, p0, p1, p2', p3, q0, q1, q2', q3⟩ := zz; have HB := hidden (HB.out.trans (hb.mono HB.out.size)); clear hb))
  go_ret3
  exact ⟨rfl, HB.out⟩
theorem pcmp_num (m x : Nat) (a b K1 E1 M1 K2 E2 M2 ra rb : Int) (n1 n2 : Bool) (w : World)
    (HO : Hid (∀ w, Calls Tryd.prog 29 #[fmtV m x, .int .u64 a, .int .u64 b] w fun r w' => r = .returned (.tuple #[partsV K1 n1 E1 M1, partsV K2 n2 E2 M2, .int .i64 0]) ∧ Below w.heap.size w w'))
    (HE4 : Hid (∀ w, Calls Tryd.prog 30 #[partsV K1 n1 E1 M1, partsV K2 n2 E2 M2, .int .i64 4] w fun r w' => r = .returned (.bool false) ∧ Below w.heap.size w w'))
    (HR1 : Hid (∀ w, Calls Tryd.prog 69 #[fmtV m x, .int .u64 a] w fun r w' => r = .returned (.int .i64 ra) ∧ Below w.heap.size w w'))
    (HR2 : Hid (∀ w, Calls Tryd.prog 69 #[fmtV m x, .int .u64 b] w fun r w' => r = .returned (.int .i64 rb) ∧ Below w.heap.size w w'))
    : Calls Tryd.prog 64 #[fmtV m x, .int .u64 a, .int .u64 b] w fun r w' => r = .returned (.tuple #[.int .i64 (cmpZ ra rb), .bool true, .int .i64 0]) ∧ Below w.heap.size w w' := by
  go_enter Tryd.func64, Tryd.ntmps64
  go_wp2_with fail
  refine (HO.out _).mono ?_
  rintro r w1 ⟨rfl, hb1⟩
  obtain ⟨w5, hw5, hx, c0, c1, p0, p1, p2', p3, q0, q1, q2', q3⟩ := open_boxes m x K1 E1 M1 K2 E2 M2 n1 n2 w w1 hb1
  have HB := hidden hx
  clear hx hb1
  go_upto_region 2 with fail
  change Code.wp _ _ _ _ ((w1.alloc (prt K1 n1 E1 M1)).alloc (prt K2 n2 E2 M2))
  rw [← hw5]
  clear hw5
  go_upto_region 6 with (first | (go_at_call_of 30 (Value.int IntKind.i64 4); refine (HE4.out _).mono ?_; rintro r w9 ⟨rfl, hb⟩; have zz := ten_later hb ⟨c0, c1, p0, p1, p2', p3, q0, q1, q2', q3⟩; clear c0 c1 p0 p1 p2' p3 q0 q1 q2' q3; obtain ⟨c0, c1, p0, p1, p2', p3, q0, q1, q2', q3⟩ := zz; have HB := hidden (HB.out.trans (hb.mono HB.out.size)); clear hb))
  go_region_held3 (fun w' => w'.cell? ⟨w.heap.size, 0, none⟩ = some (.int .i64 m) ∧ w'.cell? ⟨w.heap.size, 1, none⟩ = some (.int .i64 x)) (go_keep) (first | (go_at_call_of 69 (Value.int IntKind.u64 a); refine (HR1.out _).mono ?_; rintro r w9 ⟨rfl, hb⟩; have c0 : w9.cell? ⟨w.heap.size, 0, none⟩ = some (.int .i64 m) := cellLater hb (by go_keep); have c1 : w9.cell? ⟨w.heap.size, 1, none⟩ = some (.int .i64 x) := cellLater hb (by go_keep); have HB : Hid (Below w.heap.size w w9) := hidden (by first | exact HB.out.trans (hb.mono HB.out.size) | exact HB.out.drew.trans (hb.mono HB.out.drew.size)); clear hb) | (go_at_call_of 69 (Value.int IntKind.u64 b); refine (HR2.out _).mono ?_; rintro r w9 ⟨rfl, hb⟩; have c0 : w9.cell? ⟨w.heap.size, 0, none⟩ = some (.int .i64 m) := cellLater hb (by go_keep); have c1 : w9.cell? ⟨w.heap.size, 1, none⟩ = some (.int .i64 x) := cellLater hb (by go_keep); have HB : Hid (Below w.heap.size w w9) := hidden (by first | exact HB.out.trans (hb.mono HB.out.size) | exact HB.out.drew.trans (hb.mono HB.out.drew.size)); clear hb) | (go_at_call 68; refine (pcompare _ _ _).mono ?_; rintro r w9 ⟨rfl, hw9⟩; obtain rfl := hw9.symm))
  all_goals
    go_wp2
    go_ret3
    exact ⟨rfl, by first | exact HB.out | exact HB.out.drew⟩
theorem psub_walk (m x a b P TB R g : Int) (w : World) (hx : bits .xor .u64 b P = TB)
    (HS : Hid (∀ w, Calls Tryd.prog 35 #[.agg #[.int .i64 m, .int .i64 x]] w fun r w' => r = .returned (.int .u64 P) ∧ Below w.heap.size w w'))
    (HA : Hid (∀ w, Calls Tryd.prog 17 #[.agg #[.int .i64 m, .int .i64 x], .int .u64 a, .int .u64 TB] w fun r w' => r = .returned (.tuple #[.int .u64 R, .int .i64 g]) ∧ Below w.heap.size w w')) :
    Calls Tryd.prog 18 #[.agg #[.int .i64 m, .int .i64 x], .int .u64 a, .int .u64 b] w fun r w' => r = .returned (.tuple #[.int .u64 R, .int .i64 g]) ∧ Below w.heap.size w w' := by
  have c0 : (w.alloc (.cells #[.int .i64 m, .int .i64 x] 36)).cell? ⟨w.heap.size, 0, none⟩ = some (.int .i64 m) := by simp
  have c1 : (w.alloc (.cells #[.int .i64 m, .int .i64 x] 36)).cell? ⟨w.heap.size, 1, none⟩ = some (.int .i64 x) := by simp
  have HB := hidden ((Below.refl w.heap.size w).alloc (Nat.le_refl _) (.cells #[.int .i64 m, .int .i64 x] 36))
  go_enter Tryd.func18, Tryd.ntmps18
  go_upto_region 1 with fail
  generalize w.alloc (.cells #[.int .i64 m, .int .i64 x] 36) = w5 at *
  go_region_held3 (fun w' => w'.cell? ⟨w.heap.size, 0, none⟩ = some (.int .i64 m) ∧ w'.cell? ⟨w.heap.size, 1, none⟩ = some (.int .i64 x)) (go_keep) (first | (go_at_call 35; refine (HS.out _).mono ?_; rintro r w9 ⟨rfl, hb⟩; have c0 : w9.cell? ⟨w.heap.size, 0, none⟩ = some (.int .i64 m) := cellLater hb (by go_keep); have c1 : w9.cell? ⟨w.heap.size, 1, none⟩ = some (.int .i64 x) := cellLater hb (by go_keep); have HB : Hid (Below w.heap.size w w9) := hidden (by first | exact HB.out.trans (hb.mono HB.out.size) | exact HB.out.drew.trans (hb.mono HB.out.drew.size)); clear hb) | (go_at_call 17; refine (HA.out _).mono ?_; rintro r w9 ⟨rfl, hb⟩; have c0 : w9.cell? ⟨w.heap.size, 0, none⟩ = some (.int .i64 m) := cellLater hb (by go_keep); have c1 : w9.cell? ⟨w.heap.size, 1, none⟩ = some (.int .i64 x) := cellLater hb (by go_keep); have HB : Hid (Below w.heap.size w w9) := hidden (by first | exact HB.out.trans (hb.mono HB.out.size) | exact HB.out.drew.trans (hb.mono HB.out.drew.size)); clear hb))
  all_goals
    go_wp2
    go_ret2
    exact ⟨rfl, by first | exact HB.out | exact HB.out.drew⟩
end Go.Proofs.YthfjjkikeebopaaDoor
