/- Contracts of package reals: integers as patterns, patterns as integers, patterns of the other format. -/
import Derived.Test.YthfjjkikeebopaaDoorP2d
import Derived.Test.YthfjjkikeebopaaDoorG4
namespace Go.Proofs.YthfjjkikeebopaaDoor
open Go.RowKit
set_option maxRecDepth 100000
set_option maxHeartbeats 400000
set_option linter.unusedVariables false

/-- the size of a word as an integer, and its pattern -/
def sizeI (n : Int) : Int := if 2147483648 ≤ n then 4294967296 - n else n
def ofI (m x : Nat) (n : Int) : Int := packP m x (sizeI n) 0 false + sgnW (decide (2147483648 ≤ n)) (m + x)
theorem pat_bd (m x : Nat) (N e : Int) (more s : Bool) (k : Nat) (hN : 0 ≤ N) (hx : 2 ≤ x) (hk : m + x + 1 ≤ k) : 0 ≤ packP m x N e more + sgnW s (m + x) ∧ packP m x N e more + sgnW s (m + x) < p2 k := by
  obtain ⟨h0, h1⟩ := pack_bd m x N e more hN hx
  have h2 : (p2 x - 1) * p2 m = p2 (m + x) - p2 m := by rw [Int.sub_mul, Int.one_mul, ← p2_add, Nat.add_comm x m]
  have h3 := p2_pos m
  have h4 : p2 (m + x + 1) ≤ p2 k := p2_mono hk
  rw [p2_succ] at h4
  have h5 := p2_pos (m + x)
  unfold sgnW
  cases s <;> simp <;> omega
theorem p2_32 : p2 32 = 4294967296 := by decide +kernel
/-- what is read of a whole number as an integer -/
def toI (R : Int) (s : Bool) : Int := if s then (if R = 0 then 0 else 4294967296 - min R 2147483648) else min R 2147483647
theorem ofint32 (m x : Nat) (n : Int) (w : World) (hok : okF m x) (hk : m + x + 1 ≤ 32) (n0 : 0 ≤ n) (n1 : n ≤ 4294967295) :
    Calls Tryd.prog 26 #[.agg #[.int .i64 (m : Int), .int .i64 (x : Int)], .int .u32 n] w fun r w' => r = .returned (.int .u32 (ofI m x n)) ∧ Below w.heap.size w w' := by
  have hx : 2 ≤ x := by have := hok.2.2.1; omega
  have hbd := pat_bd m x (sizeI n) 0 false (decide (2147483648 ≤ n)) 32 (by unfold sizeI; split <;> omega) hx hk
  rw [p2_32] at hbd
  change 0 ≤ ofI m x n ∧ ofI m x n < _ at hbd
  have HP := hidden (fun w => ppack_any m x (decide (2147483648 ≤ n)) false (sizeI n) 0 (sizeI n) 0 w hok (by omega) (by omega) (by omega) (by omega) (by omega) (by unfold sizeI; split <;> omega) (by unfold sizeI; split <;> omega) (fun h => by cases h))
  change Hid (∀ w, Calls Tryd.prog 38 _ w fun r w' => r = .returned (.tuple #[.int .u64 (ofI m x n), .int .i64 0]) ∧ Below w.heap.size w w') at HP
  generalize ofI m x n = R at *
  by_cases h : 2147483648 ≤ n
  · have e : sizeI n = 4294967296 - n := by unfold sizeI; rw [if_pos h]
    rw [e, decide_eq_true h] at HP
    have hS : IntKind.u32.wrap (-n) = 4294967296 - n := by rw [IntKind.wrap_u32]; omega
    have s0 : 0 ≤ 4294967296 - n := by omega
    have s1 : 4294967296 - n ≤ 2147483648 := by omega
    clear e
    generalize 4294967296 - n = S at *
    go_enter Tryd.func26, Tryd.ntmps26
    go_wp2_with (go_at_call 38; refine (HP.out _).mono ?_; rintro r w1 ⟨rfl, hb⟩)
    go_ret
    exact ⟨rfl, box_below _ hb⟩
  · have e : sizeI n = n := by unfold sizeI; rw [if_neg h]
    rw [e, decide_eq_false h] at HP
    clear e
    go_enter Tryd.func26, Tryd.ntmps26
    go_wp2_with (go_at_call 38; refine (HP.out _).mono ?_; rintro r w1 ⟨rfl, hb⟩)
    go_ret
    exact ⟨rfl, box_below _ hb⟩
theorem toint32 (m x a R g : Int) (near s : Bool) (w : World) (a0 : 0 ≤ a) (a1 : a < 4294967296) (r0 : 0 ≤ R) (r1 : R ≤ 1099511627776)
    (HW : Hid (∀ w, Calls Tryd.prog 45 #[.agg #[.int .i64 m, .int .i64 x], .int .u64 a, .bool near] w fun r w' => r = .returned (.tuple #[.int .u64 R, .bool s, .int .i64 g]) ∧ Below w.heap.size w w')) :
    Calls Tryd.prog 27 #[.agg #[.int .i64 m, .int .i64 x], .int .u32 a, .bool near] w fun r w' => r = .returned (.int .u32 (toI R s)) ∧ Below w.heap.size w w' := by
  cases s
  · go_enter Tryd.func27, Tryd.ntmps27
    go_wp2_with (go_at_call 45; refine (HW.out _).mono ?_; rintro r w1 ⟨rfl, hb⟩)
    go_ret
    exact ⟨ret_int (by unfold toI; simp <;> omega), box_below _ hb⟩
  · go_enter Tryd.func27, Tryd.ntmps27
    go_wp2_with (go_at_call 45; refine (HW.out _).mono ?_; rintro r w1 ⟨rfl, hb⟩)
    go_ret
    exact ⟨ret_int (by unfold toI; simp <;> omega), box_below _ hb⟩
theorem conv_u64 (m x m2 x2 a R g : Int) (w : World) (a0 : 0 ≤ a) (a1 : a < 4294967296) (r0 : 0 ≤ R) (r1 : R < 18446744073709551616)
    (HC : Hid (∀ w, Calls Tryd.prog 25 #[.agg #[.int .i64 m, .int .i64 x], .agg #[.int .i64 m2, .int .i64 x2], .int .u64 a] w fun r w' => r = .returned (.tuple #[.int .u64 R, .int .i64 g]) ∧ Below w.heap.size w w')) :
    Calls Tryd.prog 12 #[.agg #[.int .i64 m, .int .i64 x], .agg #[.int .i64 m2, .int .i64 x2], .int .u32 a] w fun r w' => r = .returned (.int .u64 R) ∧ Below w.heap.size w w' := by
  go_enter Tryd.func12, Tryd.ntmps12
  go_wp2_with (go_at_call 25; refine (HC.out _).mono ?_; rintro r w1 ⟨rfl, hb⟩)
  go_ret
  have hW : Below w.heap.size w ((w.alloc (.cells #[.int .i64 m, .int .i64 x] 36)).alloc (.cells #[.int .i64 m2, .int .i64 x2] 36)) := ((Below.refl _ _).alloc (Nat.le_refl _) _).alloc (by simp) _
  exact ⟨rfl, hW.trans (hb.mono hW.size)⟩
theorem conv_u32 (m x m2 x2 a R g : Int) (w : World) (a0 : 0 ≤ a) (a1 : a < 18446744073709551616) (r0 : 0 ≤ R) (r1 : R < 4294967296)
    (HC : Hid (∀ w, Calls Tryd.prog 25 #[.agg #[.int .i64 m, .int .i64 x], .agg #[.int .i64 m2, .int .i64 x2], .int .u64 a] w fun r w' => r = .returned (.tuple #[.int .u64 R, .int .i64 g]) ∧ Below w.heap.size w w')) :
    Calls Tryd.prog 16 #[.agg #[.int .i64 m, .int .i64 x], .agg #[.int .i64 m2, .int .i64 x2], .int .u64 a] w fun r w' => r = .returned (.int .u32 R) ∧ Below w.heap.size w w' := by
  go_enter Tryd.func16, Tryd.ntmps16
  go_wp2_with (go_at_call 25; refine (HC.out _).mono ?_; rintro r w1 ⟨rfl, hb⟩)
  go_ret
  have hW : Below w.heap.size w ((w.alloc (.cells #[.int .i64 m, .int .i64 x] 36)).alloc (.cells #[.int .i64 m2, .int .i64 x2] 36)) := ((Below.refl _ _).alloc (Nat.le_refl _) _).alloc (by simp) _
  exact ⟨rfl, hW.trans (hb.mono hW.size)⟩
theorem singleOf_c (n : Int) (w : World) (hl : Laid w) (n0 : 0 ≤ n) (n1 : n ≤ 4294967295) : Calls Tryd.prog 13 #[.int .u32 n] w fun r w' => r = .returned (.int .u32 (ofI 23 8 n)) ∧ Below w.heap.size w w' := by
  have HF : Hid (∀ w, Calls Tryd.prog 26 #[.agg #[.int .i64 23, .int .i64 8], .int .u32 n] w fun r w' => r = .returned (.int .u32 (ofI 23 8 n)) ∧ Below w.heap.size w w') := hidden fun w => ofint32 23 8 n w (by unfold okF; omega) (by omega) n0 n1
  obtain ⟨l0, l1, l2, l3⟩ := hl
  go_enter Tryd.func13, Tryd.ntmps13
  go_wp2_with (go_at_call 26; refine (HF.out _).mono ?_; rintro r w1 ⟨rfl, hb⟩)
  go_ret
  exact ⟨rfl, hb⟩
theorem singleInt_c (a R : Int) (near : Bool) (w : World) (hl : Laid w) (HF : Hid (∀ w, Calls Tryd.prog 27 #[.agg #[.int .i64 23, .int .i64 8], .int .u32 a, .bool near] w fun r w' => r = .returned (.int .u32 R) ∧ Below w.heap.size w w')) :
    Calls Tryd.prog 14 #[.int .u32 a, .bool near] w fun r w' => r = .returned (.int .u32 R) ∧ Below w.heap.size w w' := by
  obtain ⟨l0, l1, l2, l3⟩ := hl
  go_enter Tryd.func14, Tryd.ntmps14
  go_wp2_with (go_at_call 27; refine (HF.out _).mono ?_; rintro r w1 ⟨rfl, hb⟩)
  go_ret
  exact ⟨rfl, hb⟩
theorem widen_c (a R : Int) (w : World) (hl : Laid w) (HF : Hid (∀ w, Calls Tryd.prog 12 #[.agg #[.int .i64 23, .int .i64 8], .agg #[.int .i64 52, .int .i64 11], .int .u32 a] w fun r w' => r = .returned (.int .u64 R) ∧ Below w.heap.size w w')) :
    Calls Tryd.prog 6 #[.int .u32 a] w fun r w' => r = .returned (.int .u64 R) ∧ Below w.heap.size w w' := by
  obtain ⟨l0, l1, l2, l3⟩ := hl
  go_enter Tryd.func6, Tryd.ntmps6
  go_wp2_with (go_at_call 12; refine (HF.out _).mono ?_; rintro r w1 ⟨rfl, hb⟩)
  go_ret
  exact ⟨rfl, hb⟩
theorem narrow_c (a R : Int) (w : World) (hl : Laid w) (HF : Hid (∀ w, Calls Tryd.prog 16 #[.agg #[.int .i64 52, .int .i64 11], .agg #[.int .i64 23, .int .i64 8], .int .u64 a] w fun r w' => r = .returned (.int .u32 R) ∧ Below w.heap.size w w')) :
    Calls Tryd.prog 9 #[.int .u64 a] w fun r w' => r = .returned (.int .u32 R) ∧ Below w.heap.size w w' := by
  obtain ⟨l0, l1, l2, l3⟩ := hl
  go_enter Tryd.func9, Tryd.ntmps9
  go_wp2_with (go_at_call 16; refine (HF.out _).mono ?_; rintro r w1 ⟨rfl, hb⟩)
  go_ret
  exact ⟨rfl, hb⟩
end Go.Proofs.YthfjjkikeebopaaDoor
