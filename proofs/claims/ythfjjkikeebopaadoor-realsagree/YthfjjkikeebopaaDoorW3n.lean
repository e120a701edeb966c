/- What is known of a pattern by its kind. Package soft's Convert, leaf by leaf. What package soft's Convert answers, for every pattern of a format. What package soft's Cmp and Sub answer, for every two patterns of a format. Plain arithmetic for comparisons (no program in it): patterns stand in the order of their numbers. Plain facts on kinds and signs of patterns (no program in it). Plain facts on patterns: what lies below the sign, the sign turned, sums in range, and what a finite number's own pattern says (no program in it). Plain facts on differences of patterns: which way round does not matter to their size; nothing is left just of equals (no program in it). Plain facts: sums and products go either way round; a difference turned round is turned (no program in it). Plain facts: what is reckoned of patterns is a pattern of the format (no program in it). Plain arithmetic (no program in it): adding one pattern to two keeps their order. Plain arithmetic (no program in it): the difference of two numbers, neither more than twice the other, is exact. Plain arithmetic (no program in it): the root of a square's pattern lies within half a unit of the number. -/
import Derived.Test.YthfjjkikeebopaaDoorP3q
import Derived.Test.YthfjjkikeebopaaDoorV3
import Derived.Test.YthfjjkikeebopaaDoorK3
namespace Go.Proofs.YthfjjkikeebopaaDoor
open Go.RowKit
set_option maxHeartbeats 400000
set_option linter.unusedVariables false

/-- what is known of a pattern by its kind -/
structure PatK (m x : Nat) (a K : Int) (n : Bool) (E M : Int) : Prop where
  kind : K = 1 ∨ K = 2 ∨ K = 3 ∨ K = 4
  zero : K = 1 → E = 0 ∧ M = 0 ∧ a = sgnW n (m + x)
  fin : K = 2 → FinP m x E M ∧ packP m x M E false + sgnW n (m + x) = a
  inf : K = 3 → a = infI m x n
theorem patK (m x : Nat) (a : Int) (hok : okF m x) (a0 : 0 ≤ a) (ha : bl a ≤ 1 + x + m) : PatK m x a (kindI m x a) (negI m x a) (expI m x a) (manI m x a) := by
  have hx : 2 ≤ x := by have := hok.2.2.1; omega
  exact ⟨kind_all m x a, fun h => kind_zero m x a a0 ha h, fun h => ⟨fin_of m x a hx h, (kind_fin m x a a0 ha hx h).1⟩, fun h => (kind_inf m x a a0 ha h).2.2⟩
end Go.Proofs.YthfjjkikeebopaaDoor
namespace Go.Proofs.YthfjjkikeebopaaDoor
open Go.RowKit
set_option maxRecDepth 100000
set_option maxHeartbeats 400000
set_option linter.unusedVariables false

theorem open_box2 (m x m2 x2 K E M : Int) (n : Bool) (w w1 : World) (hb : Below ((w.alloc (.cells #[.int .i64 m, .int .i64 x] 36)).alloc (.cells #[.int .i64 m2, .int .i64 x2] 36)).heap.size ((w.alloc (.cells #[.int .i64 m, .int .i64 x] 36)).alloc (.cells #[.int .i64 m2, .int .i64 x2] 36)) w1) :
    ∃ w5, w5 = w1.alloc (prt K n E M) ∧ Below w.heap.size w w5 ∧ w5.cell? ⟨w.heap.size + 1, 0, none⟩ = some (.int .i64 m2) ∧ w5.cell? ⟨w.heap.size + 1, 1, none⟩ = some (.int .i64 x2) ∧
      w5.cell? ⟨w1.heap.size, 0, none⟩ = some (.int .i64 K) ∧ w5.cell? ⟨w1.heap.size, 1, none⟩ = some (.bool n) ∧ w5.cell? ⟨w1.heap.size, 2, none⟩ = some (.int .i64 E) ∧ w5.cell? ⟨w1.heap.size, 3, none⟩ = some (.int .u64 M) := by
  have hW : Below w.heap.size w ((w.alloc (.cells #[.int .i64 m, .int .i64 x] 36)).alloc (.cells #[.int .i64 m2, .int .i64 x2] 36)) := ((Below.refl _ _).alloc (Nat.le_refl _) _).alloc (by simp) _
  have hB := hW.trans (hb.mono hW.size)
  have d0 : w1.cell? ⟨w.heap.size + 1, 0, none⟩ = some (.int .i64 m2) := cellLater hb (by simp)
  have d1 : w1.cell? ⟨w.heap.size + 1, 1, none⟩ = some (.int .i64 x2) := cellLater hb (by simp)
  have hZ : Below w1.heap.size w1 (w1.alloc (prt K n E M)) := (Below.refl _ _).alloc (Nat.le_refl _) _
  obtain ⟨p0, p1, p2, p3, -⟩ := ps_fresh w1 K E M n
  exact ⟨_, rfl, hB.trans (hZ.mono hB.size), cellLater hZ d0, cellLater hZ d1, p0, p1, p2, p3⟩
theorem pconv_err (m x m2 x2 a : Int) (w : World)
    (HO : Hid (∀ w, Calls Tryd.prog 41 #[.agg #[.int .i64 m, .int .i64 x], .int .u64 a] w fun r w' => r = .returned (.tuple #[partsV 0 false 0 0, .int .i64 1]) ∧ Below w.heap.size w w')) :
    Calls Tryd.prog 25 #[.agg #[.int .i64 m, .int .i64 x], .agg #[.int .i64 m2, .int .i64 x2], .int .u64 a] w fun r w' => r = .returned (.tuple #[.int .u64 0, .int .i64 1]) ∧ Below w.heap.size w w' := by
  go_enter Tryd.func25, Tryd.ntmps25
  go_wp2_with fail
  refine (HO.out _).mono ?_
  rintro r w1 ⟨rfl, hb1⟩
  have hW : Below w.heap.size w ((w.alloc (.cells #[.int .i64 m, .int .i64 x] 36)).alloc (.cells #[.int .i64 m2, .int .i64 x2] 36)) := ((Below.refl _ _).alloc (Nat.le_refl _) _).alloc (by simp) _
  have HB1 := hidden (hW.trans (hb1.mono hW.size))
  clear hb1 hW
  go_wp2
  go_ret2
  exact ⟨rfl, HB1.out.alloc HB1.out.size _⟩
theorem pconv_no (m x m2 x2 a K E M : Int) (n : Bool) (w : World)
    (HO : Hid (∀ w, Calls Tryd.prog 41 #[.agg #[.int .i64 m, .int .i64 x], .int .u64 a] w fun r w' => r = .returned (.tuple #[partsV K n E M, .int .i64 0]) ∧ Below w.heap.size w w'))
    (HC : Hid (∀ w, Calls Tryd.prog 44 #[.agg #[.int .i64 m2, .int .i64 x2]] w fun r w' => r = .returned (.int .i64 1) ∧ Below w.heap.size w w'))
    : Calls Tryd.prog 25 #[.agg #[.int .i64 m, .int .i64 x], .agg #[.int .i64 m2, .int .i64 x2], .int .u64 a] w fun r w' => r = .returned (.tuple #[.int .u64 0, .int .i64 1]) ∧ Below w.heap.size w w' := by
  go_enter Tryd.func25, Tryd.ntmps25
  go_wp2_with fail
  refine (HO.out _).mono ?_
  rintro r w1 ⟨rfl, hb1⟩
  obtain ⟨w5, hw5, hx, c0, c1, p0, p1, p2', p3⟩ := open_box2 m x m2 x2 K E M n w w1 hb1
  have HB := hidden hx
  clear hx hb1
  go_upto_region 2 with fail
  change Code.wp _ _ _ _ (w1.alloc (prt K n E M))
  rw [← hw5]
  clear hw5
  go_wp2_with (first | (go_at_call 44; refine (HC.out _).mono ?_; rintro r w9 ⟨rfl, hb⟩; have zz := six_on hb ⟨c0, c1, p0, p1, p2', p3⟩; clear c0 c1 p0 p1 p2' p3; obtain ⟨c0, c1, p0, p1, p2', p3⟩ := zz; have HB := hidden (HB.out.trans (hb.mono HB.out.size)); clear hb))
  go_ret2
  exact ⟨rfl, HB.out⟩
theorem pconv_nan (m x m2 x2 a K E M R : Int) (n : Bool) (w : World)
    (HO : Hid (∀ w, Calls Tryd.prog 41 #[.agg #[.int .i64 m, .int .i64 x], .int .u64 a] w fun r w' => r = .returned (.tuple #[partsV K n E M, .int .i64 0]) ∧ Below w.heap.size w w'))
    (HC : Hid (∀ w, Calls Tryd.prog 44 #[.agg #[.int .i64 m2, .int .i64 x2]] w fun r w' => r = .returned (.int .i64 0) ∧ Below w.heap.size w w'))
    (HN : Hid (∀ w, Calls Tryd.prog 31 #[.agg #[.int .i64 m2, .int .i64 x2]] w fun r w' => r = .returned (.int .u64 R) ∧ Below w.heap.size w w'))
    (k4 : (K == 4) = true)
    : Calls Tryd.prog 25 #[.agg #[.int .i64 m, .int .i64 x], .agg #[.int .i64 m2, .int .i64 x2], .int .u64 a] w fun r w' => r = .returned (.tuple #[.int .u64 R, .int .i64 0]) ∧ Below w.heap.size w w' := by
  go_enter Tryd.func25, Tryd.ntmps25
  go_wp2_with fail
  refine (HO.out _).mono ?_
  rintro r w1 ⟨rfl, hb1⟩
  obtain ⟨w5, hw5, hx, c0, c1, p0, p1, p2', p3⟩ := open_box2 m x m2 x2 K E M n w w1 hb1
  have HB := hidden hx
  clear hx hb1
  go_upto_region 2 with fail
  change Code.wp _ _ _ _ (w1.alloc (prt K n E M))
  rw [← hw5]
  clear hw5
  go_wp2_with (first | (go_at_call 44; refine (HC.out _).mono ?_; rintro r w9 ⟨rfl, hb⟩; have zz := six_on hb ⟨c0, c1, p0, p1, p2', p3⟩; clear c0 c1 p0 p1 p2' p3; obtain ⟨c0, c1, p0, p1, p2', p3⟩ := zz; have HB := hidden (HB.out.trans (hb.mono HB.out.size)); clear hb) | (go_at_call 31; refine (HN.out _).mono ?_; rintro r w9 ⟨rfl, hb⟩; have zz := six_on hb ⟨c0, c1, p0, p1, p2', p3⟩; clear c0 c1 p0 p1 p2' p3; obtain ⟨c0, c1, p0, p1, p2', p3⟩ := zz; have HB := hidden (HB.out.trans (hb.mono HB.out.size)); clear hb))
  go_ret2
  exact ⟨rfl, HB.out⟩
theorem pconv_inf (m x m2 x2 a K E M R : Int) (n : Bool) (w : World)
    (HO : Hid (∀ w, Calls Tryd.prog 41 #[.agg #[.int .i64 m, .int .i64 x], .int .u64 a] w fun r w' => r = .returned (.tuple #[partsV K n E M, .int .i64 0]) ∧ Below w.heap.size w w'))
    (HC : Hid (∀ w, Calls Tryd.prog 44 #[.agg #[.int .i64 m2, .int .i64 x2]] w fun r w' => r = .returned (.int .i64 0) ∧ Below w.heap.size w w'))
    (HI : Hid (∀ w, Calls Tryd.prog 36 #[.agg #[.int .i64 m2, .int .i64 x2], .bool n] w fun r w' => r = .returned (.int .u64 R) ∧ Below w.heap.size w w'))
    (k4 : (K == 4) = false)
    (k3 : (K == 3) = true)
    : Calls Tryd.prog 25 #[.agg #[.int .i64 m, .int .i64 x], .agg #[.int .i64 m2, .int .i64 x2], .int .u64 a] w fun r w' => r = .returned (.tuple #[.int .u64 R, .int .i64 0]) ∧ Below w.heap.size w w' := by
  go_enter Tryd.func25, Tryd.ntmps25
  go_wp2_with fail
  refine (HO.out _).mono ?_
  rintro r w1 ⟨rfl, hb1⟩
  obtain ⟨w5, hw5, hx, c0, c1, p0, p1, p2', p3⟩ := open_box2 m x m2 x2 K E M n w w1 hb1
  have HB := hidden hx
  clear hx hb1
  go_upto_region 2 with fail
  change Code.wp _ _ _ _ (w1.alloc (prt K n E M))
  rw [← hw5]
  clear hw5
  go_wp2_with (first | (go_at_call 44; refine (HC.out _).mono ?_; rintro r w9 ⟨rfl, hb⟩; have zz := six_on hb ⟨c0, c1, p0, p1, p2', p3⟩; clear c0 c1 p0 p1 p2' p3; obtain ⟨c0, c1, p0, p1, p2', p3⟩ := zz; have HB := hidden (HB.out.trans (hb.mono HB.out.size)); clear hb) | (go_at_call 36; refine (HI.out _).mono ?_; rintro r w9 ⟨rfl, hb⟩; have zz := six_on hb ⟨c0, c1, p0, p1, p2', p3⟩; clear c0 c1 p0 p1 p2' p3; obtain ⟨c0, c1, p0, p1, p2', p3⟩ := zz; have HB := hidden (HB.out.trans (hb.mono HB.out.size)); clear hb))
  go_ret2
  exact ⟨rfl, HB.out⟩
theorem pconv_zero (m x m2 x2 a K E M R : Int) (n : Bool) (w : World)
    (HO : Hid (∀ w, Calls Tryd.prog 41 #[.agg #[.int .i64 m, .int .i64 x], .int .u64 a] w fun r w' => r = .returned (.tuple #[partsV K n E M, .int .i64 0]) ∧ Below w.heap.size w w'))
    (HC : Hid (∀ w, Calls Tryd.prog 44 #[.agg #[.int .i64 m2, .int .i64 x2]] w fun r w' => r = .returned (.int .i64 0) ∧ Below w.heap.size w w'))
    (HZ : Hid (∀ w, Calls Tryd.prog 33 #[.agg #[.int .i64 m2, .int .i64 x2], .bool n] w fun r w' => r = .returned (.int .u64 R) ∧ Below w.heap.size w w'))
    (k4 : (K == 4) = false)
    (k3 : (K == 3) = false)
    (k1 : (K == 1) = true)
    : Calls Tryd.prog 25 #[.agg #[.int .i64 m, .int .i64 x], .agg #[.int .i64 m2, .int .i64 x2], .int .u64 a] w fun r w' => r = .returned (.tuple #[.int .u64 R, .int .i64 0]) ∧ Below w.heap.size w w' := by
  go_enter Tryd.func25, Tryd.ntmps25
  go_wp2_with fail
  refine (HO.out _).mono ?_
  rintro r w1 ⟨rfl, hb1⟩
  obtain ⟨w5, hw5, hx, c0, c1, p0, p1, p2', p3⟩ := open_box2 m x m2 x2 K E M n w w1 hb1
  have HB := hidden hx
  clear hx hb1
  go_upto_region 2 with fail
  change Code.wp _ _ _ _ (w1.alloc (prt K n E M))
  rw [← hw5]
  clear hw5
  go_wp2_with (first | (go_at_call 44; refine (HC.out _).mono ?_; rintro r w9 ⟨rfl, hb⟩; have zz := six_on hb ⟨c0, c1, p0, p1, p2', p3⟩; clear c0 c1 p0 p1 p2' p3; obtain ⟨c0, c1, p0, p1, p2', p3⟩ := zz; have HB := hidden (HB.out.trans (hb.mono HB.out.size)); clear hb) | (go_at_call 33; refine (HZ.out _).mono ?_; rintro r w9 ⟨rfl, hb⟩; have zz := six_on hb ⟨c0, c1, p0, p1, p2', p3⟩; clear c0 c1 p0 p1 p2' p3; obtain ⟨c0, c1, p0, p1, p2', p3⟩ := zz; have HB := hidden (HB.out.trans (hb.mono HB.out.size)); clear hb))
  go_ret2
  exact ⟨rfl, HB.out⟩
theorem pconv_fin (m x m2 x2 a K E M R : Int) (n : Bool) (w : World)
    (HO : Hid (∀ w, Calls Tryd.prog 41 #[.agg #[.int .i64 m, .int .i64 x], .int .u64 a] w fun r w' => r = .returned (.tuple #[partsV K n E M, .int .i64 0]) ∧ Below w.heap.size w w'))
    (HC : Hid (∀ w, Calls Tryd.prog 44 #[.agg #[.int .i64 m2, .int .i64 x2]] w fun r w' => r = .returned (.int .i64 0) ∧ Below w.heap.size w w'))
    (HP : Hid (∀ w, Calls Tryd.prog 38 #[.agg #[.int .i64 m2, .int .i64 x2], .bool n, .int .u64 0, .int .u64 M, .int .i64 E, .bool false] w fun r w' => r = .returned (.tuple #[.int .u64 R, .int .i64 0]) ∧ Below w.heap.size w w'))
    (k4 : (K == 4) = false)
    (k3 : (K == 3) = false)
    (k1 : (K == 1) = false)
    : Calls Tryd.prog 25 #[.agg #[.int .i64 m, .int .i64 x], .agg #[.int .i64 m2, .int .i64 x2], .int .u64 a] w fun r w' => r = .returned (.tuple #[.int .u64 R, .int .i64 0]) ∧ Below w.heap.size w w' := by
  go_enter Tryd.func25, Tryd.ntmps25
  go_wp2_with fail
  refine (HO.out _).mono ?_
  rintro r w1 ⟨rfl, hb1⟩
  obtain ⟨w5, hw5, hx, c0, c1, p0, p1, p2', p3⟩ := open_box2 m x m2 x2 K E M n w w1 hb1
  have HB := hidden hx
  clear hx hb1
  go_upto_region 2 with fail
  change Code.wp _ _ _ _ (w1.alloc (prt K n E M))
  rw [← hw5]
  clear hw5
  go_wp2_with (first | (go_at_call 44; refine (HC.out _).mono ?_; rintro r w9 ⟨rfl, hb⟩; have zz := six_on hb ⟨c0, c1, p0, p1, p2', p3⟩; clear c0 c1 p0 p1 p2' p3; obtain ⟨c0, c1, p0, p1, p2', p3⟩ := zz; have HB := hidden (HB.out.trans (hb.mono HB.out.size)); clear hb) | (go_at_call 38; refine (HP.out _).mono ?_; rintro r w9 ⟨rfl, hb⟩; have zz := six_on hb ⟨c0, c1, p0, p1, p2', p3⟩; clear c0 c1 p0 p1 p2' p3; obtain ⟨c0, c1, p0, p1, p2', p3⟩ := zz; have HB := hidden (HB.out.trans (hb.mono HB.out.size)); clear hb))
  go_ret2
  exact ⟨rfl, HB.out⟩
end Go.Proofs.YthfjjkikeebopaaDoor
namespace Go.Proofs.YthfjjkikeebopaaDoor
open Go.RowKit
set_option maxRecDepth 100000
set_option maxHeartbeats 400000
set_option linter.unusedVariables false

def convK (m x : Nat) (K : Int) (n : Bool) (E M : Int) : Int := if K = 4 then nanI m x else if K = 3 then infI m x n else if K = 1 then sgnW n (m + x) else packP m x M E false + sgnW n (m + x)
theorem nan_bd (m x : Nat) (hm : 1 ≤ m) : 0 ≤ nanI m x ∧ nanI m x < p2 (m + x) := by
  have h1 : (p2 x - 1) * p2 m = p2 (m + x) - p2 m := by rw [Int.sub_mul, Int.one_mul, ← p2_add, Nat.add_comm x m]
  have h2 : p2 m = 2 * p2 (m - 1) := by rw [← p2_succ]; congr 1; omega
  have h3 := p2_pos (m - 1)
  have h4 : p2 m ≤ p2 (m + x) := p2_mono (by omega)
  unfold nanI
  omega
theorem inf_bd (m x : Nat) (n : Bool) : 0 ≤ infI m x n ∧ infI m x n < p2 (m + x + 1) := by
  have h1 : (p2 x - 1) * p2 m = p2 (m + x) - p2 m := by rw [Int.sub_mul, Int.one_mul, ← p2_add, Nat.add_comm x m]
  have h3 := p2_pos m
  have h4 : p2 m ≤ p2 (m + x) := p2_mono (by omega)
  rw [p2_succ]
  unfold infI sgnW
  cases n <;> simp <;> omega
theorem pack_lt (m x : Nat) (N e : Int) (more s : Bool) (hN : 0 ≤ N) (hx : 2 ≤ x) : 0 ≤ packP m x N e more + sgnW s (m + x) ∧ packP m x N e more + sgnW s (m + x) < p2 (m + x + 1) := by
  obtain ⟨h0, h1⟩ := pack_bd m x N e more hN hx
  have h2 : (p2 x - 1) * p2 m = p2 (m + x) - p2 m := by rw [Int.sub_mul, Int.one_mul, ← p2_add, Nat.add_comm x m]
  have h3 := p2_pos m
  rw [p2_succ]
  unfold sgnW
  cases s <;> simp <;> omega
theorem sgn_lt (k : Nat) (s : Bool) : 0 ≤ sgnW s k ∧ sgnW s k < p2 (k + 1) := by
  have := p2_pos k
  rw [p2_succ]
  unfold sgnW
  cases s <;> simp <;> omega
theorem conv_bd (m x m2 x2 : Nat) (a K E M : Int) (n : Bool) (hok2 : okF m2 x2) (g : PatK m x a K n E M) : 0 ≤ convK m2 x2 K n E M ∧ convK m2 x2 K n E M < p2 (m2 + x2 + 1) := by
  have hx : 2 ≤ x2 := by have := hok2.2.2.1; omega
  have hm : 1 ≤ m2 := by have := hok2.1; omega
  rcases g.kind with rfl | rfl | rfl | rfl
  · exact sgn_lt _ n
  · have h := (g.fin rfl).1.1
    exact pack_lt m2 x2 M E false n (by omega) hx
  · exact inf_bd m2 x2 n
  · have h := nan_bd m2 x2 hm
    have := p2_mono (show m2 + x2 ≤ m2 + x2 + 1 by omega)
    change 0 ≤ nanI m2 x2 ∧ nanI m2 x2 < _
    omega
theorem pconv_k (m x m2 x2 : Nat) (a K E M : Int) (n : Bool) (w : World) (hok : okF m x) (hok2 : okF m2 x2) (g : PatK m x a K n E M) (HO : Open1C m x a K n E M) :
    Calls Tryd.prog 25 #[.agg #[.int .i64 (m : Int), .int .i64 (x : Int)], .agg #[.int .i64 (m2 : Int), .int .i64 (x2 : Int)], .int .u64 a] w fun r w' => r = .returned (.tuple #[.int .u64 (convK m2 x2 K n E M), .int .i64 0]) ∧ Below w.heap.size w w' := by
  have HC : Hid (∀ w, Calls Tryd.prog 44 #[.agg #[.int .i64 (m2 : Int), .int .i64 (x2 : Int)]] w fun r w' => r = .returned (.int .i64 0) ∧ Below w.heap.size w w') := hidden fun w => by
    refine (pcheck_ok m2 x2 w hok2).mono ?_
    rintro r w' ⟨rfl, rfl⟩
    exact ⟨rfl, (Below.refl _ _).alloc (Nat.le_refl _) _⟩
  rcases g.kind with rfl | rfl | rfl | rfl
  · exact pconv_zero m x m2 x2 a 1 E M _ n w HO HC (hidden fun w => pzero_any m2 x2 n w hok2) rfl rfl rfl
  · obtain ⟨f, -⟩ := g.fin rfl
    obtain ⟨r1, r2, r3, r4⟩ := f.rng hok
    exact pconv_fin m x m2 x2 a 2 E M _ n w HO HC (hidden fun w => ppack_any m2 x2 n false M 0 M E w hok2 (by omega) (by omega) (by omega) (by omega) (by omega) (by omega) (by omega) (fun h => by cases h)) rfl rfl rfl
  · exact pconv_inf m x m2 x2 a 3 E M _ n w HO HC (hidden fun w => pinf_any m2 x2 n w hok2) rfl rfl
  · exact pconv_nan m x m2 x2 a 4 E M _ n w HO HC (hidden fun w => pnan_any m2 x2 w hok2) rfl
end Go.Proofs.YthfjjkikeebopaaDoor
namespace Go.Proofs.YthfjjkikeebopaaDoor
open Go.RowKit
set_option maxRecDepth 100000
set_option maxHeartbeats 400000
set_option linter.unusedVariables false

def cmpOk (K1 K2 : Int) : Bool := !(K1 == 4 || K2 == 4)
def cmpR (m x : Nat) (a b K1 K2 : Int) : Int := if K1 = 4 ∨ K2 = 4 then 0 else cmpZ (rankI (m + x) a) (rankI (m + x) b)
theorem pcmp_k (m x : Nat) (a b K1 E1 M1 K2 E2 M2 : Int) (n1 n2 : Bool) (w : World) (hok : okF m x) (a0 : 0 ≤ a) (a1 : a < p2 (m + x + 1)) (b0 : 0 ≤ b) (b1 : b < p2 (m + x + 1)) (HO : OpenC m x a b K1 n1 E1 M1 K2 n2 E2 M2) :
    Calls Tryd.prog 64 #[.agg #[.int .i64 (m : Int), .int .i64 (x : Int)], .int .u64 a, .int .u64 b] w fun r w' => r = .returned (.tuple #[.int .i64 (cmpR m x a b K1 K2), .bool (cmpOk K1 K2), .int .i64 0]) ∧ Below w.heap.size w w' := by
  by_cases h4 : (K1 == 4 || K2 == 4) = true
  · rw [show cmpOk K1 K2 = false by unfold cmpOk; rw [h4]; rfl, show cmpR m x a b K1 K2 = 0 by unfold cmpR; rw [if_pos (by simpa using h4)]]
    exact pcmp_nan m x a b _ _ _ _ _ _ _ _ w HO (pei _ _ _ _ _ _ _ _ _ _ h4)
  · have h4' : (K1 == 4 || K2 == 4) = false := by simpa using h4
    rw [show cmpOk K1 K2 = true by unfold cmpOk; rw [h4']; rfl, show cmpR m x a b K1 K2 = cmpZ (rankI (m + x) a) (rankI (m + x) b) by unfold cmpR; rw [if_neg (by simpa using h4)]]
    exact pcmp_num m x a b _ _ _ _ _ _ _ _ _ _ w HO (pei _ _ _ _ _ _ _ _ _ _ h4') (hidden fun w => prank m x a w hok a0 a1) (hidden fun w => prank m x b w hok b0 b1)
/-- Sub is Add with the other sign -/
theorem psub_k (m x : Nat) (a b K1 E1 M1 K2 E2 M2 : Int) (n1 n2 : Bool) (w : World) (hok : okF m x) (b0 : 0 ≤ b) (b1 : b < p2 (m + x + 1)) (h1 : K1 = 1 ∨ K1 = 2 ∨ K1 = 3 ∨ K1 = 4) (h2 : K2 = 1 ∨ K2 = 2 ∨ K2 = 3 ∨ K2 = 4) (f1 : K1 = 2 → FinP m x E1 M1) (f2 : K2 = 2 → FinP m x E2 M2) (HO : OpenC m x a (turnI (m + x) b) K1 n1 E1 M1 K2 n2 E2 M2) :
    Calls Tryd.prog 18 #[.agg #[.int .i64 (m : Int), .int .i64 (x : Int)], .int .u64 a, .int .u64 b] w fun r w' => r = .returned (.tuple #[.int .u64 (addK m x a (turnI (m + x) b) K1 n1 E1 M1 K2 n2 E2 M2), .int .i64 0]) ∧ Below w.heap.size w w' := by
  have hk : m + x ≤ 63 := by have := hok.2.1; have := hok.2.2.2; omega
  have hp := p2_mono (show m + x + 1 ≤ 64 by omega)
  rw [p2_64] at hp
  exact psub_walk m x a b _ _ _ 0 w (xor_top (m + x) b hk b0 b1 (by omega)) (hidden fun w => psignbit_any m x w hok) (hidden fun w => padd_k m x a _ _ _ _ _ _ _ _ _ w hok h1 h2 f1 f2 HO)
end Go.Proofs.YthfjjkikeebopaaDoor
namespace Go.Proofs.YthfjjkikeebopaaDoor
open Go.RowKit
set_option maxHeartbeats 400000
set_option linter.unusedVariables false

theorem pack_self (m x : Nat) (E M : Int) (hx : 2 ≤ x) (h : FinP m x E M) : packP m x M E false = (E - least m x) * p2 m + M := by
  rcases Int.lt_or_le M (p2 m) with hM | hM
  · obtain ⟨h0, h1, h2, h3, h4⟩ := h
    obtain rfl : E = least m x := by omega
    rw [pack_sub m x M h0 hM hx, Int.sub_self, Int.zero_mul, Int.zero_add]
  · exact pack_norm m x E M hx h hM
theorem fin_lt (m x : Nat) (E1 M1 E2 M2 : Int) (k1 k2 : Nat) (h1 : FinP m x E1 M1) (h2 : FinP m x E2 M2) (hk1 : E1 - min E1 E2 = k1) (hk2 : E2 - min E1 E2 = k2) (hlt : E1 < E2) :
    M1 * p2 k1 < M2 * p2 k2 ∧ (E1 - least m x) * p2 m + M1 < (E2 - least m x) * p2 m + M2 := by
  obtain ⟨a0, a1, a2, a3, a4⟩ := h1
  obtain ⟨b0, b1, b2, b3, b4⟩ := h2
  have hM2 : p2 m ≤ M2 := by rcases b4 with h | h <;> omega
  obtain rfl : k1 = 0 := by omega
  have hk : 1 ≤ k2 := by omega
  have hp := p2_pos m
  have h3 : p2 m * p2 1 ≤ M2 * p2 k2 := Int.mul_le_mul hM2 (p2_mono hk) (Int.le_of_lt (p2_pos _)) (by omega)
  rw [← p2_add] at h3
  refine ⟨by rw [p2_0]; omega, ?_⟩
  have h4 : (E1 - least m x + 1) * p2 m ≤ (E2 - least m x) * p2 m := Int.mul_le_mul_of_nonneg_right (by omega) (by omega)
  rw [Int.add_mul, Int.one_mul] at h4
  rw [p2_succ] at a1
  omega
theorem fin_order (m x : Nat) (E1 M1 E2 M2 : Int) (k1 k2 : Nat) (h1 : FinP m x E1 M1) (h2 : FinP m x E2 M2) (hk1 : E1 - min E1 E2 = k1) (hk2 : E2 - min E1 E2 = k2) :
    (M1 * p2 k1 < M2 * p2 k2 ↔ (E1 - least m x) * p2 m + M1 < (E2 - least m x) * p2 m + M2) ∧ (M2 * p2 k2 < M1 * p2 k1 ↔ (E2 - least m x) * p2 m + M2 < (E1 - least m x) * p2 m + M1) := by
  rcases Int.lt_trichotomy E1 E2 with h | h | h
  · obtain ⟨a, b⟩ := fin_lt m x E1 M1 E2 M2 k1 k2 h1 h2 hk1 hk2 h
    omega
  · subst h
    obtain rfl : k1 = 0 := by omega
    obtain rfl : k2 = 0 := by omega
    rw [p2_0]
    omega
  · obtain ⟨a, b⟩ := fin_lt m x E2 M2 E1 M1 k2 k1 h2 h1 (by rw [Int.min_comm]; exact hk2) (by rw [Int.min_comm]; exact hk1) h
    omega
/-- a pattern without its sign -/
def magI (m x : Nat) (K E M : Int) : Int := if K = 1 then 0 else if K = 2 then (E - least m x) * p2 m + M else (p2 x - 1) * p2 m
theorem mag_rank (m x : Nat) (a K E M : Int) (n : Bool) (hok : okF m x) (g : PatK m x a K n E M) (h4 : K ≠ 4) : rankI (m + x) a = sg n * magI m x K E M ∧ 0 ≤ magI m x K E M ∧ magI m x K E M ≤ (p2 x - 1) * p2 m ∧ (K = 2 → 0 < magI m x K E M ∧ magI m x K E M < (p2 x - 1) * p2 m) := by
  obtain ⟨t0, t1, t2, t3⟩ := top_bd m x hok
  have hx : 2 ≤ x := by have := hok.2.2.1; omega
  have hp := p2_pos (m + x)
  have key : ∀ g : Int, 0 ≤ g → g < p2 (m + x) → rankI (m + x) (g + sgnW n (m + x)) = sg n * g := by
    intro g g0 g1
    unfold rankI sgnW sg
    cases n
    · simp only [Bool.false_eq_true, if_false]
      rw [if_neg (by omega), Int.add_zero, Int.emod_eq_of_lt g0 g1]; omega
    · simp only [if_true]
      rw [if_pos (by omega), Int.add_emod_right, Int.emod_eq_of_lt g0 g1]; omega
  rcases g.kind with rfl | rfl | rfl | rfl
  · obtain ⟨-, -, ha⟩ := g.zero rfl
    have e : magI m x 1 E M = 0 := by simp [magI]
    rw [e]
    refine ⟨?_, by omega, t0, fun h => by omega⟩
    have := key 0 (by omega) (by omega)
    rw [Int.zero_add] at this
    rw [ha]; exact this
  · obtain ⟨hf, ha⟩ := g.fin rfl
    have e : magI m x 2 E M = (E - least m x) * p2 m + M := by simp [magI]
    have hs := pack_self m x E M hx hf
    have hb := pack_bd m x M E false (Int.le_of_lt hf.1) hx
    rw [e, ← hs]
    have hpos : 0 < packP m x M E false := by
      rw [hs]
      have : 0 ≤ (E - least m x) * p2 m := Int.mul_nonneg (by have := hf.2.2.1; omega) (Int.le_of_lt (p2_pos m))
      have := hf.1
      omega
    have hlt : packP m x M E false < (p2 x - 1) * p2 m := by
      rw [hs]
      have hbt := bias_two x hx
      have h1 : (E - least m x) * p2 m ≤ (p2 x - 1 - 2) * p2 m := Int.mul_le_mul_of_nonneg_right (by have := hf.2.2.2.1; unfold least; omega) (Int.le_of_lt (p2_pos m))
      rw [Int.sub_mul (p2 x - 1) 2] at h1
      have h2 := hf.2.1
      rw [p2_succ] at h2
      omega
    refine ⟨?_, by omega, by omega, fun _ => ⟨hpos, hlt⟩⟩
    rw [← ha]; exact key _ (by omega) (by omega)
  · have ha := g.inf rfl
    have e : magI m x 3 E M = (p2 x - 1) * p2 m := by simp [magI]
    rw [e]
    refine ⟨?_, t0, Int.le_refl _, fun h => by omega⟩
    rw [ha]; exact key _ t0 t1
  · exact absurd rfl h4
/-- the sign of a number -/
def sgz (S : Int) : Int := if S < 0 then -1 else if 0 < S then 1 else 0
theorem cmp_sum (n1 n2 : Bool) (X Y A B : Int) (x0 : 0 ≤ X) (y0 : 0 ≤ Y) (a0 : 0 ≤ A) (b0 : 0 ≤ B) (h1 : X < Y ↔ A < B) (h2 : Y < X ↔ B < A) (h3 : X = 0 ↔ A = 0) (h4 : Y = 0 ↔ B = 0) :
    cmpZ (sg n1 * A) (sg n2 * B) = sgz (sg n1 * X + sg (!n2) * Y) := by
  unfold cmpZ sgz sg
  cases n1 <;> cases n2 <;> simp only [Bool.not_false, Bool.not_true, Bool.false_eq_true, if_false, if_true] <;> repeat (first | omega | split)
end Go.Proofs.YthfjjkikeebopaaDoor
namespace Go.Proofs.YthfjjkikeebopaaDoor
open Go.RowKit
set_option maxHeartbeats 400000
set_option linter.unusedVariables false

theorem low_eq (m x : Nat) (a : Int) : a % p2 (m + x) = fldI m x a * p2 m + frcI m a := by
  unfold fldI frcI
  have h1 := Int.mul_ediv_add_emod a (p2 m)
  have h2 := Int.mul_ediv_add_emod (a / p2 m) (p2 x)
  have hP := p2_pos m
  have hX := p2_pos x
  have e : a = p2 (m + x) * (a / p2 m / p2 x) + (a / p2 m % p2 x * p2 m + a % p2 m) := by
    rw [p2_add]
    have h3 : p2 m * (a / p2 m) = p2 m * (p2 x * (a / p2 m / p2 x)) + p2 m * (a / p2 m % p2 x) := by rw [← Int.mul_add, h2]
    rw [Int.mul_assoc, Int.mul_comm (a / p2 m % p2 x)]
    omega
  have b0 := Int.emod_nonneg (a / p2 m) (show p2 x ≠ 0 by omega)
  have b1 := Int.emod_lt_of_pos (a / p2 m) hX
  have c0 := Int.emod_nonneg a (show p2 m ≠ 0 by omega)
  have c1 := Int.emod_lt_of_pos a hP
  generalize a / p2 m / p2 x = q at e
  generalize a / p2 m % p2 x = f at *
  generalize a % p2 m = r at *
  have k0 : 0 ≤ f * p2 m + r := by have := Int.mul_nonneg b0 (Int.le_of_lt hP); omega
  have k1 : f * p2 m + r < p2 (m + x) := by
    have : (f + 1) * p2 m ≤ p2 x * p2 m := Int.mul_le_mul_of_nonneg_right (by omega) (Int.le_of_lt hP)
    rw [Int.add_mul, Int.one_mul, ← p2_add, Nat.add_comm x m] at this
    omega
  rw [e, Int.mul_add_emod_self_left]
  exact Int.emod_eq_of_lt k0 k1
/-- what is no number is above infinity -/
theorem kind4_iff (m x : Nat) (a : Int) : kindI m x a = 4 ↔ (p2 x - 1) * p2 m < a % p2 (m + x) := by
  have h := low_eq m x a
  obtain ⟨f0, f1⟩ := fld_bd m x a
  obtain ⟨r0, r1⟩ := frc_bd m a
  unfold kindI
  by_cases h1 : fldI m x a = p2 x - 1
  · rw [if_pos h1, h, h1]
    by_cases h2 : frcI m a = 0
    · rw [if_pos h2, h2]; simp
    · rw [if_neg h2]; simp; omega
  · rw [if_neg h1]
    have h3 : (fldI m x a + 1) * p2 m ≤ (p2 x - 1) * p2 m := Int.mul_le_mul_of_nonneg_right (by omega) (Int.le_of_lt (p2_pos m))
    rw [Int.add_mul, Int.one_mul] at h3
    constructor
    · intro h4
      split at h4 <;> (try split at h4) <;> omega
    · intro h4; omega
theorem kind3_iff (m x : Nat) (a : Int) : kindI m x a = 3 ↔ a % p2 (m + x) = (p2 x - 1) * p2 m := by
  have h := low_eq m x a
  obtain ⟨f0, f1⟩ := fld_bd m x a
  obtain ⟨r0, r1⟩ := frc_bd m a
  unfold kindI
  by_cases h1 : fldI m x a = p2 x - 1
  · rw [if_pos h1, h, h1]
    by_cases h2 : frcI m a = 0
    · rw [if_pos h2, h2]; simp
    · rw [if_neg h2]; simp; omega
  · rw [if_neg h1]
    have h3 : (fldI m x a + 1) * p2 m ≤ (p2 x - 1) * p2 m := Int.mul_le_mul_of_nonneg_right (by omega) (Int.le_of_lt (p2_pos m))
    rw [Int.add_mul, Int.one_mul] at h3
    constructor
    · intro h4
      split at h4 <;> (try split at h4) <;> omega
    · intro h4; omega
theorem low_kind (m x : Nat) (a : Int) : kindI m x (a % p2 (m + x)) = 4 ↔ kindI m x a = 4 := by
  rw [kind4_iff, kind4_iff, Int.emod_emod_of_dvd _ (Int.dvd_refl _)]
theorem neg_iff (m x : Nat) (a : Int) (a0 : 0 ≤ a) (a1 : a < p2 (m + x + 1)) : negI m x a = decide (p2 (m + x) ≤ a) := by
  unfold negI
  rw [div_div]
  have hP := p2_pos (m + x)
  rw [p2_succ] at a1
  by_cases h : p2 (m + x) ≤ a
  · rw [decide_eq_true h]
    have e : a / p2 (m + x) = 1 := by
      rw [show a = (a - p2 (m + x)) + p2 (m + x) * 1 by omega, Int.add_mul_ediv_left _ _ (by omega), Int.ediv_eq_zero_of_lt (by omega) (by omega)]
      rfl
    rw [e]; rfl
  · rw [decide_eq_false h, Int.ediv_eq_zero_of_lt a0 (by omega)]
    rfl
/-- without its sign -/
theorem bare_t (k : Nat) (a : Int) (h : p2 k ≤ a) (a1 : a < p2 (k + 1)) : turnI k a = a % p2 k := by
  unfold turnI
  rw [if_pos h]
  rw [p2_succ] at a1
  have e : a % p2 k = a - p2 k := by
    rw [show a = (a - p2 k) + p2 k * 1 by omega, Int.add_mul_emod_self_left, Int.emod_eq_of_lt (by omega) (by omega)]
    omega
  rw [e]
theorem bare_f (k : Nat) (a : Int) (a0 : 0 ≤ a) (h : a < p2 k) : a % p2 k = a := Int.emod_eq_of_lt a0 h
theorem sgn_low (k : Nat) (s : Bool) (v : Int) (v0 : 0 ≤ v) (v1 : v < p2 k) : (v + sgnW s k) % p2 k = v := by
  unfold sgnW
  cases s
  · simp; exact Int.emod_eq_of_lt v0 v1
  · simp; exact Int.emod_eq_of_lt v0 v1
/-- a sum is no number only where a summand is none, or two infinities differ -/
theorem add_num (m x : Nat) (a b K1 E1 M1 K2 E2 M2 : Int) (n1 n2 : Bool) (hm : 1 ≤ m) (hx : 2 ≤ x) (ha : kindI m x a = K1) (hb : kindI m x b = K2) (h1 : K1 ≠ 4) (h2 : K2 ≠ 4) (h3 : ¬ (K1 = 3 ∧ K2 = 3)) : kindI m x (addK m x a b K1 n1 E1 M1 K2 n2 E2 M2) ≠ 4 := by
  have hT : (p2 x - 1) * p2 m = p2 (m + x) - p2 m := by rw [Int.sub_mul, Int.one_mul, ← p2_add, Nat.add_comm x m]
  have hP := p2_pos m
  have hle : p2 m ≤ p2 (m + x) := p2_mono (by omega)
  have hs : ∀ (N e : Int) (s : Bool), 0 ≤ N → kindI m x (packP m x N e false + sgnW s (m + x)) ≠ 4 := by
    intro N e s hN h4
    have hbd := pack_bd m x N e false hN hx
    have h5 := (kind4_iff m x _).1 h4
    rw [sgn_low (m + x) s _ hbd.1 (by omega)] at h5
    omega
  unfold addK
  rw [if_neg (by omega), if_neg (by omega)]
  split
  · rw [ha]; exact h1
  · split
    · rw [hb]; exact h2
    · split
      · intro h4
        have h5 := (kind4_iff m x _).1 h4
        have h6 := sgn_low (m + x) (n1 && n2) 0 (by omega) (p2_pos _)
        rw [Int.zero_add] at h6
        rw [h6] at h5
        have : 0 ≤ (p2 x - 1) * p2 m := by rw [hT]; omega
        omega
      · split
        · rw [hb]; exact h2
        · split
          · rw [ha]; exact h1
          · exact hs _ _ _ (by unfold absI; split <;> omega)
end Go.Proofs.YthfjjkikeebopaaDoor
namespace Go.Proofs.YthfjjkikeebopaaDoor
open Go.RowKit
set_option maxHeartbeats 400000
set_option linter.unusedVariables false

theorem kind_low (m x : Nat) (a : Int) : kindI m x (a % p2 (m + x)) = kindI m x a := by
  have h1 : frcI m (a % p2 (m + x)) = frcI m a := by
    unfold frcI
    exact Int.emod_emod_of_dvd _ ⟨p2 x, by rw [← p2_add]⟩
  have h2 : fldI m x (a % p2 (m + x)) = fldI m x a := by
    have e1 := low_eq m x (a % p2 (m + x))
    have e2 := low_eq m x a
    rw [Int.emod_emod_of_dvd _ (Int.dvd_refl _), h1] at e1
    have hP := p2_pos m
    have e3 : fldI m x a * p2 m = fldI m x (a % p2 (m + x)) * p2 m := by have h9 := e2.symm.trans e1; omega
    exact (Int.eq_of_mul_eq_mul_right (by omega) e3).symm
  unfold kindI
  rw [h1, h2]
theorem turn_low (k : Nat) (a : Int) : turnI k a % p2 k = a % p2 k := by
  unfold turnI
  split
  · exact Int.sub_emod_right _ _
  · exact Int.add_emod_right _ _
theorem turn_kind (m x : Nat) (a : Int) : kindI m x (turnI (m + x) a) = kindI m x a := by
  rw [← kind_low m x (turnI (m + x) a), turn_low, kind_low]
theorem turn_bd (k : Nat) (a : Int) (a0 : 0 ≤ a) (a1 : a < p2 (k + 1)) : 0 ≤ turnI k a ∧ turnI k a < p2 (k + 1) := by
  have := p2_pos k
  rw [p2_succ] at *
  unfold turnI
  split <;> omega
theorem add_bd (m x : Nat) (a b K1 E1 M1 K2 E2 M2 : Int) (n1 n2 : Bool) (hm : 1 ≤ m) (hx : 2 ≤ x) (a0 : 0 ≤ a) (a1 : a < p2 (m + x + 1)) (b0 : 0 ≤ b) (b1 : b < p2 (m + x + 1)) : 0 ≤ addK m x a b K1 n1 E1 M1 K2 n2 E2 M2 ∧ addK m x a b K1 n1 E1 M1 K2 n2 E2 M2 < p2 (m + x + 1) := by
  have hn : 0 ≤ nanI m x ∧ nanI m x < p2 (m + x + 1) := by
    have h := nan_bd m x hm
    have := p2_mono (show m + x ≤ m + x + 1 by omega)
    omega
  unfold addK
  split
  · exact hn
  split
  · exact hn
  split
  · exact ⟨a0, a1⟩
  split
  · exact ⟨b0, b1⟩
  split
  · exact sgn_lt _ _
  split
  · exact ⟨b0, b1⟩
  split
  · exact ⟨a0, a1⟩
  · exact pack_lt m x _ _ false _ (by unfold absI; split <;> omega) hx
theorem frc_low (m x : Nat) (a : Int) : frcI m (a % p2 (m + x)) = frcI m a := by
  unfold frcI
  exact Int.emod_emod_of_dvd _ ⟨p2 x, by rw [← p2_add]⟩
theorem fld_low (m x : Nat) (a : Int) : fldI m x (a % p2 (m + x)) = fldI m x a := by
  have e1 := low_eq m x (a % p2 (m + x))
  have e2 := low_eq m x a
  rw [Int.emod_emod_of_dvd _ (Int.dvd_refl _), frc_low] at e1
  have hP := p2_pos m
  have e3 : fldI m x a * p2 m = fldI m x (a % p2 (m + x)) * p2 m := by have h9 := e2.symm.trans e1; omega
  exact (Int.eq_of_mul_eq_mul_right (by omega) e3).symm
/-- the fields of a pattern that is laid out of them -/
theorem fields_of (m x : Nat) (F f : Int) (n : Bool) (F0 : 0 ≤ F) (F1 : F < p2 x) (f0 : 0 ≤ f) (f1 : f < p2 m) :
    fldI m x (F * p2 m + f + sgnW n (m + x)) = F ∧ frcI m (F * p2 m + f + sgnW n (m + x)) = f ∧ negI m x (F * p2 m + f + sgnW n (m + x)) = n := by
  have hP := p2_pos m
  have u0 : 0 ≤ F * p2 m + f := by have := Int.mul_nonneg F0 (Int.le_of_lt hP); omega
  have u1 : F * p2 m + f < p2 (m + x) := by
    have : (F + 1) * p2 m ≤ p2 x * p2 m := Int.mul_le_mul_of_nonneg_right (by omega) (Int.le_of_lt hP)
    rw [Int.add_mul, Int.one_mul, ← p2_add, Nat.add_comm x m] at this
    omega
  have hl := sgn_low (m + x) n _ u0 u1
  have c1 : fldI m x (F * p2 m + f) = F := by
    unfold fldI
    rw [show F * p2 m + f = f + p2 m * F by rw [Int.mul_comm]; omega, Int.add_mul_ediv_left _ _ (by omega), Int.ediv_eq_zero_of_lt f0 f1, Int.zero_add]
    exact Int.emod_eq_of_lt F0 F1
  have c2 : frcI m (F * p2 m + f) = f := by
    unfold frcI
    rw [show F * p2 m + f = f + p2 m * F by rw [Int.mul_comm]; omega, Int.add_mul_emod_self_left]
    exact Int.emod_eq_of_lt f0 f1
  refine ⟨by rw [← fld_low, hl, c1], by rw [← frc_low m x, hl, c2], ?_⟩
  have hpk := p2_pos (m + x)
  have b1 : 0 ≤ F * p2 m + f + sgnW n (m + x) ∧ F * p2 m + f + sgnW n (m + x) < p2 (m + x + 1) := by
    rw [p2_succ]; unfold sgnW; cases n <;> simp <;> omega
  rw [neg_iff m x _ b1.1 b1.2]
  unfold sgnW
  cases n
  · rw [decide_eq_false]; simp; omega
  · rw [decide_eq_true]; simp; omega
/-- what a finite number's pattern says is the number -/
theorem open_fin (m x : Nat) (E M : Int) (n : Bool) (hx : 2 ≤ x) (h : FinP m x E M) :
    kindI m x ((E - least m x) * p2 m + M + sgnW n (m + x)) = 2 ∧ negI m x ((E - least m x) * p2 m + M + sgnW n (m + x)) = n ∧ expI m x ((E - least m x) * p2 m + M + sgnW n (m + x)) = E ∧ manI m x ((E - least m x) * p2 m + M + sgnW n (m + x)) = M := by
  obtain ⟨h0, h1, h2, h3, h4⟩ := h
  have hP := p2_pos m
  have hb := bias_two x hx
  have h4x : p2 2 ≤ p2 x := p2_mono hx
  have e4 : p2 2 = 4 := rfl
  have hl : least m x = 1 - bias x - m := by unfold least; omega
  rw [p2_succ] at h1
  by_cases hn : p2 m ≤ M
  · have e : (E - least m x) * p2 m + M = (E - least m x + 1) * p2 m + (M - p2 m) := by rw [Int.add_mul, Int.one_mul]; omega
    rw [e]
    obtain ⟨c1, c2, c3⟩ := fields_of m x (E - least m x + 1) (M - p2 m) n (by omega) (by omega) (by omega) (by omega)
    have k2 : kindI m x ((E - least m x + 1) * p2 m + (M - p2 m) + sgnW n (m + x)) = 2 := by
      unfold kindI
      rw [c1, c2, if_neg (by omega), if_neg (by omega)]
    refine ⟨k2, c3, ?_, ?_⟩
    · unfold expI
      rw [if_pos k2, c1, if_neg (by omega)]
      omega
    · unfold manI
      rw [if_pos k2, c1, c2, if_neg (by omega)]
      omega
  · have hE : E = least m x := by rcases h4 with h | h <;> omega
    have e : (E - least m x) * p2 m + M = 0 * p2 m + M := by rw [hE, Int.sub_self]
    rw [e]
    obtain ⟨c1, c2, c3⟩ := fields_of m x 0 M n (by omega) (by omega) (by omega) (by omega)
    have k2 : kindI m x (0 * p2 m + M + sgnW n (m + x)) = 2 := by
      unfold kindI
      rw [c1, c2, if_neg (by omega), if_pos rfl, if_neg (by omega)]
    refine ⟨k2, c3, ?_, ?_⟩
    · unfold expI
      rw [if_pos k2, c1, if_pos rfl, hE]
    · unfold manI
      rw [if_pos k2, c1, c2, if_pos rfl]
theorem open_inf (m x : Nat) (n : Bool) (hx : 2 ≤ x) : kindI m x (infI m x n) = 3 ∧ negI m x (infI m x n) = n := by
  have h4x : p2 2 ≤ p2 x := p2_mono hx
  have e4 : p2 2 = 4 := rfl
  obtain ⟨c1, c2, c3⟩ := fields_of m x (p2 x - 1) 0 n (by omega) (by omega) (by omega) (p2_pos m)
  rw [Int.add_zero] at c1 c2 c3
  unfold infI kindI
  rw [c1, c2]
  exact ⟨by simp, c3⟩
theorem open_zero (m x : Nat) (n : Bool) (hx : 2 ≤ x) : kindI m x (sgnW n (m + x)) = 1 ∧ negI m x (sgnW n (m + x)) = n := by
  have h4x : p2 2 ≤ p2 x := p2_mono hx
  have e4 : p2 2 = 4 := rfl
  obtain ⟨c1, c2, c3⟩ := fields_of m x 0 0 n (by omega) (by omega) (by omega) (p2_pos m)
  rw [Int.zero_mul, Int.zero_add, Int.zero_add] at c1 c2 c3
  unfold kindI
  rw [c1, c2, if_neg (by omega)]
  exact ⟨by simp, c3⟩
end Go.Proofs.YthfjjkikeebopaaDoor
namespace Go.Proofs.YthfjjkikeebopaaDoor
open Go.RowKit
set_option maxHeartbeats 400000
set_option linter.unusedVariables false

theorem turn_parts (m x : Nat) (b : Int) (b0 : 0 ≤ b) (b1 : b < p2 (m + x + 1)) : kindI m x (turnI (m + x) b) = kindI m x b ∧ negI m x (turnI (m + x) b) = !negI m x b ∧ expI m x (turnI (m + x) b) = expI m x b ∧ manI m x (turnI (m + x) b) = manI m x b := by
  have hf : fldI m x (turnI (m + x) b) = fldI m x b := by rw [← fld_low m x (turnI (m + x) b), turn_low, fld_low]
  have hr : frcI m (turnI (m + x) b) = frcI m b := by rw [← frc_low m x (turnI (m + x) b), turn_low, frc_low]
  have hk := turn_kind m x b
  obtain ⟨t0, t1⟩ := turn_bd (m + x) b b0 b1
  refine ⟨hk, ?_, ?_, ?_⟩
  · rw [neg_iff m x _ t0 t1, neg_iff m x b b0 b1]
    have hP := p2_pos (m + x)
    rw [p2_succ] at b1
    unfold turnI
    by_cases h : p2 (m + x) ≤ b
    · rw [if_pos h, decide_eq_true h, decide_eq_false (by omega)]; rfl
    · rw [if_neg h, decide_eq_false h, decide_eq_true (by omega)]; rfl
  · unfold expI; rw [hk, hf]
  · unfold manI; rw [hk, hf, hr]
/-- the difference -/
def subD (m x : Nat) (a b : Int) : Int := addK m x a (turnI (m + x) b) (kindI m x a) (negI m x a) (expI m x a) (manI m x a) (kindI m x b) (!negI m x b) (expI m x b) (manI m x b)
theorem sub_eq (m x : Nat) (a b : Int) (b0 : 0 ≤ b) (b1 : b < p2 (m + x + 1)) : addK m x a (turnI (m + x) b) (kindI m x a) (negI m x a) (expI m x a) (manI m x a) (kindI m x (turnI (m + x) b)) (negI m x (turnI (m + x) b)) (expI m x (turnI (m + x) b)) (manI m x (turnI (m + x) b)) = subD m x a b := by
  obtain ⟨h1, h2, h3, h4⟩ := turn_parts m x b b0 b1
  rw [h1, h2, h3, h4]
  rfl
theorem sumS_turn (n1 n2 : Bool) (E1 M1 E2 M2 : Int) : sumS n2 E2 M2 (!n1) E1 M1 = -(sumS n1 E1 M1 (!n2) E2 M2) := by
  unfold sumS
  rw [Int.min_comm E2 E1]
  generalize M1 * p2 (E1 - min E1 E2).toNat = X
  generalize M2 * p2 (E2 - min E1 E2).toNat = Y
  cases n1 <;> cases n2 <;> simp [sg] <;> omega
theorem sum_low (m x : Nat) (n1 n2 : Bool) (E1 M1 E2 M2 : Int) (hx : 2 ≤ x) : sumI m x n1 E1 M1 n2 E2 M2 % p2 (m + x) = packP m x (absI (sumS n1 E1 M1 n2 E2 M2)) (min E1 E2) false := by
  have hbd := pack_bd m x (absI (sumS n1 E1 M1 n2 E2 M2)) (min E1 E2) false (by unfold absI; split <;> omega) hx
  have hT : (p2 x - 1) * p2 m = p2 (m + x) - p2 m := by rw [Int.sub_mul, Int.one_mul, ← p2_add, Nat.add_comm x m]
  have hP := p2_pos m
  unfold sumI
  exact sgn_low (m + x) _ _ hbd.1 (by omega)
theorem inf_low (m x : Nat) (n : Bool) : infI m x n % p2 (m + x) = (p2 x - 1) * p2 m := by
  have hT : (p2 x - 1) * p2 m = p2 (m + x) - p2 m := by rw [Int.sub_mul, Int.one_mul, ← p2_add, Nat.add_comm x m]
  have hP := p2_pos m
  have hle : p2 m ≤ p2 (m + x) := p2_mono (by omega)
  unfold infI
  exact sgn_low (m + x) n _ (by rw [hT]; omega) (by rw [hT]; omega)
theorem zero_low (k : Nat) (n : Bool) : sgnW n k % p2 k = 0 := by
  have h := sgn_low k n 0 (by omega) (p2_pos k)
  rw [Int.zero_add] at h
  exact h
/-- either way round the difference is as great -/
theorem sub_swap (m x : Nat) (a b : Int) (hok : okF m x) (a0 : 0 ≤ a) (a1 : a < p2 (m + x + 1)) (b0 : 0 ≤ b) (b1 : b < p2 (m + x + 1)) : subD m x a b % p2 (m + x) = subD m x b a % p2 (m + x) := by
  have hx : 2 ≤ x := by have := hok.2.2.1; omega
  have g1 := patK m x a hok a0 (bl_of_lt m x a a0 a1)
  have g2 := patK m x b hok b0 (bl_of_lt m x b b0 b1)
  unfold subD
  generalize negI m x a = n1 at *
  generalize negI m x b = n2 at *
  generalize expI m x a = E1 at *
  generalize expI m x b = E2 at *
  generalize manI m x a = M1 at *
  generalize manI m x b = M2 at *
  generalize kindI m x a = K1 at *
  generalize kindI m x b = K2 at *
  rcases g1.kind with rfl | rfl | rfl | rfl <;> rcases g2.kind with rfl | rfl | rfl | rfl
  · simp [addK, zero_low]
  · simp [addK, turn_low]
  · simp [addK, turn_low]
  · simp [addK]
  · simp [addK, turn_low]
  · simp only [addK]
    simp
    rw [sum_low m x n1 (!n2) E1 M1 E2 M2 hx, sum_low m x n2 (!n1) E2 M2 E1 M1 hx, sumS_turn n1 n2, Int.min_comm E2 E1]
    congr 1
    unfold absI
    split <;> split <;> omega
  · simp [addK, turn_low]
  · simp [addK]
  · simp [addK, turn_low]
  · simp [addK, turn_low]
  · rw [g1.inf rfl, g2.inf rfl]
    cases n1 <;> cases n2 <;> simp [addK, inf_low]
  · simp [addK]
  · simp [addK]
  · simp [addK]
  · simp [addK]
  · simp [addK]
/-- what is not 0 has no pattern 0 -/
theorem pack_pos (m x : Nat) (N e : Int) (hx : 2 ≤ x) (hN : 0 < N) (he : least m x ≤ e) : 0 < packP m x N e false := by
  obtain ⟨k, hk⟩ : ∃ k : Nat, e - least m x = k := ⟨(e - least m x).toNat, by omega⟩
  have h1 := pack_scale m x N e k (by omega)
  rw [← h1, show e - (k : Int) = least m x by omega]
  have h2 : 1 ≤ N * p2 k := by have := Int.mul_pos hN (p2_pos k); omega
  have h3 := pack_mono m x 1 (N * p2 k) (least m x) false (by omega) h2 hx
  by_cases hm : 1 < p2 m
  · rw [pack_sub m x 1 (by omega) hm hx] at h3
    omega
  · have hm0 : p2 m = 1 := by have := p2_pos m; omega
    have e1 : packP m x 1 (least m x) false = (least m x - least m x) * p2 m + 1 := by
      have hl : least m x ≤ bias x - m := by
        have hb := bias_two x hx
        have h4x : p2 2 ≤ p2 x := p2_mono hx
        have e4 : p2 2 = 4 := rfl
        unfold least
        omega
      exact pack_self m x (least m x) 1 hx ⟨by omega, by rw [p2_succ]; omega, Int.le_refl _, hl, .inr rfl⟩
    rw [Int.sub_self, Int.zero_mul, Int.zero_add] at e1
    omega
/-- nothing is left just of equals -/
theorem sub_zero_iff (m x : Nat) (a b : Int) (hok : okF m x) (a0 : 0 ≤ a) (a1 : a < p2 (m + x + 1)) (b0 : 0 ≤ b) (b1 : b < p2 (m + x + 1)) (h1 : kindI m x a ≠ 4) (h2 : kindI m x b ≠ 4) (h3 : ¬ (kindI m x a = 3 ∧ kindI m x b = 3)) : subD m x a b % p2 (m + x) = 0 ↔ cmpZ (rankI (m + x) a) (rankI (m + x) b) = 0 := by
  have hx : 2 ≤ x := by have := hok.2.2.1; omega
  have g1 := patK m x a hok a0 (bl_of_lt m x a a0 a1)
  have g2 := patK m x b hok b0 (bl_of_lt m x b b0 b1)
  obtain ⟨r1, s1, u1, v1⟩ := mag_rank m x a _ _ _ _ hok g1 h1
  obtain ⟨r2, s2, u2, v2⟩ := mag_rank m x b _ _ _ _ hok g2 h2
  rw [r1, r2]
  have hT : 0 < (p2 x - 1) * p2 m := by
    have h4 : p2 2 ≤ p2 x := p2_mono hx
    have e4 : p2 2 = 4 := rfl
    exact Int.mul_pos (by omega) (p2_pos m)
  have hlow : ∀ c : Int, ∀ n : Bool, ∀ G : Int, 0 ≤ c → c < p2 (m + x + 1) → rankI (m + x) c = sg n * G → 0 ≤ G → c % p2 (m + x) = G := by
    intro c n G c0 c1 hr hG
    have hPk := p2_pos (m + x)
    have k0 := Int.emod_nonneg c (show p2 (m + x) ≠ 0 by omega)
    unfold rankI at hr
    unfold sg at hr
    split at hr <;> cases n <;> simp at hr <;> omega
  have la := hlow a _ _ a0 a1 r1 s1
  have lb := hlow b _ _ b0 b1 r2 s2
  unfold subD
  generalize negI m x a = n1 at *
  generalize negI m x b = n2 at *
  generalize expI m x a = E1 at *
  generalize expI m x b = E2 at *
  generalize manI m x a = M1 at *
  generalize manI m x b = M2 at *
  generalize kindI m x a = K1 at *
  generalize kindI m x b = K2 at *
  have cz : ∀ (p q : Bool) (X Y : Int), 0 ≤ X → 0 ≤ Y → (cmpZ (sg p * X) (sg q * Y) = 0 ↔ sg p * X = sg q * Y) := by
    intro p q X Y _ _
    unfold cmpZ
    split
    · constructor <;> intro h <;> omega
    · split
      · constructor <;> intro h <;> omega
      · constructor <;> intro h <;> omega
  have ne0 : ∀ (p q : Bool) (X Y : Int), 0 ≤ X → 0 ≤ Y → X ≠ Y → ¬ (cmpZ (sg p * X) (sg q * Y) = 0) ∨ (X = 0 ∧ Y = 0) := by
    intro p q X Y hX hY hXY
    left
    rw [cz p q X Y hX hY]
    unfold sg
    cases p <;> cases q <;> simp <;> omega
  rcases g1.kind with rfl | rfl | rfl | rfl <;> rcases g2.kind with rfl | rfl | rfl | rfl
  · rw [show magI m x 1 E1 M1 = 0 by simp [magI], show magI m x 1 E2 M2 = 0 by simp [magI]]
    simp [addK, zero_low, cmpZ]
  · have v := v2 rfl
    have e1 : magI m x 1 E1 M1 = 0 := by simp [magI]
    rw [e1]
    rcases ne0 n1 n2 0 (magI m x 2 E2 M2) (by omega) s2 (by omega) with h | h
    · simp only [addK]
      simp [turn_low]
      rw [lb]
      constructor
      · intro h'; omega
      · intro h'; exact absurd h' (by simpa using h)
    · omega
  · have e1 : magI m x 1 E1 M1 = 0 := by simp [magI]
    have e2 : magI m x 3 E2 M2 = (p2 x - 1) * p2 m := by simp [magI]
    rw [e1]
    rw [e2] at lb s2 ⊢
    rcases ne0 n1 n2 0 ((p2 x - 1) * p2 m) (by omega) s2 (by omega) with h | h
    · simp only [addK]
      simp [turn_low]
      rw [lb]
      constructor
      · intro h'; omega
      · intro h'; exact absurd h' (by simpa using h)
    · omega
  · exact absurd rfl h2
  · have v := v1 rfl
    have e2 : magI m x 1 E2 M2 = 0 := by simp [magI]
    rw [e2]
    rcases ne0 n1 n2 (magI m x 2 E1 M1) 0 s1 (by omega) (by omega) with h | h
    · simp only [addK]
      simp
      rw [la]
      constructor
      · intro h'; omega
      · intro h'; exact absurd h' (by simpa using h)
    · omega
  · obtain ⟨f1, -⟩ := g1.fin rfl
    obtain ⟨f2, -⟩ := g2.fin rfl
    obtain ⟨k1, hk1⟩ : ∃ k : Nat, E1 - min E1 E2 = k := ⟨(E1 - min E1 E2).toNat, by omega⟩
    obtain ⟨k2, hk2⟩ : ∃ k : Nat, E2 - min E1 E2 = k := ⟨(E2 - min E1 E2).toNat, by omega⟩
    have hX : 0 < M1 * p2 k1 := Int.mul_pos f1.1 (p2_pos k1)
    have hY : 0 < M2 * p2 k2 := Int.mul_pos f2.1 (p2_pos k2)
    have ho := fin_order m x E1 M1 E2 M2 k1 k2 f1 f2 hk1 hk2
    have m1 : magI m x 2 E1 M1 = (E1 - least m x) * p2 m + M1 := by simp [magI]
    have m2 : magI m x 2 E2 M2 = (E2 - least m x) * p2 m + M2 := by simp [magI]
    have w1 := (v1 rfl).1
    have w2 := (v2 rfl).1
    rw [m1] at w1 s1 ⊢
    rw [m2] at w2 s2 ⊢
    rw [cmp_sum n1 n2 (M1 * p2 k1) (M2 * p2 k2) _ _ (by omega) (by omega) s1 s2 ho.1 ho.2 (by omega) (by omega)]
    have hs : sumS n1 E1 M1 (!n2) E2 M2 = sg n1 * (M1 * p2 k1) + sg (!n2) * (M2 * p2 k2) := by
      unfold sumS
      rw [hk1, hk2]
      simp
    simp only [addK]
    simp
    rw [sum_low m x n1 (!n2) E1 M1 E2 M2 hx, hs]
    generalize sg n1 * (M1 * p2 k1) + sg (!n2) * (M2 * p2 k2) = S
    by_cases hS : S = 0
    · subst hS
      simp [absI, packP, sgz]
    · have hp := pack_pos m x (absI S) (min E1 E2) hx (by unfold absI; split <;> omega) (by have := f1.2.2.1; have := f2.2.2.1; omega)
      constructor
      · intro h; omega
      · intro h
        unfold sgz at h
        split at h
        · omega
        · split at h <;> omega
  · have v := v1 rfl
    have e2 : magI m x 3 E2 M2 = (p2 x - 1) * p2 m := by simp [magI]
    rw [e2] at lb s2 ⊢
    rcases ne0 n1 n2 (magI m x 2 E1 M1) ((p2 x - 1) * p2 m) s1 s2 (by omega) with h | h
    · simp only [addK]
      simp [turn_low]
      rw [lb]
      constructor
      · intro h'; omega
      · intro h'; exact absurd h' h
    · omega
  · exact absurd rfl h2
  · have e1 : magI m x 3 E1 M1 = (p2 x - 1) * p2 m := by simp [magI]
    have e2 : magI m x 1 E2 M2 = 0 := by simp [magI]
    rw [e2]
    rw [e1] at la s1 ⊢
    rcases ne0 n1 n2 ((p2 x - 1) * p2 m) 0 s1 (by omega) (by omega) with h | h
    · simp only [addK]
      simp
      rw [la]
      constructor
      · intro h'; omega
      · intro h'; exact absurd h' (by simpa using h)
    · omega
  · have v := v2 rfl
    have e1 : magI m x 3 E1 M1 = (p2 x - 1) * p2 m := by simp [magI]
    rw [e1] at la s1 ⊢
    rcases ne0 n1 n2 ((p2 x - 1) * p2 m) (magI m x 2 E2 M2) s1 s2 (by omega) with h | h
    · simp only [addK]
      simp
      rw [la]
      constructor
      · intro h'; omega
      · intro h'; exact absurd h' h
    · omega
  · exact absurd ⟨rfl, rfl⟩ h3
  · exact absurd rfl h2
  · exact absurd rfl h1
  · exact absurd rfl h1
  · exact absurd rfl h1
  · exact absurd rfl h1
end Go.Proofs.YthfjjkikeebopaaDoor
namespace Go.Proofs.YthfjjkikeebopaaDoor
open Go.RowKit
set_option maxHeartbeats 400000
set_option linter.unusedVariables false

theorem turn_turn (k : Nat) (a : Int) (a0 : 0 ≤ a) (a1 : a < p2 (k + 1)) : turnI k (turnI k a) = a := by
  have := p2_pos k
  rw [p2_succ] at a1
  unfold turnI
  split <;> split <;> omega
theorem bne_comm' (p q : Bool) : (p != q) = (q != p) := by cases p <;> cases q <;> rfl
theorem mulK_comm (m x : Nat) (K1 E1 M1 K2 E2 M2 : Int) (n1 n2 : Bool) : mulK m x K1 n1 E1 M1 K2 n2 E2 M2 = mulK m x K2 n2 E2 M2 K1 n1 E1 M1 := by
  unfold mulK
  rw [bne_comm' n1 n2, Int.mul_comm M1 M2, Int.add_comm E1 E2]
  simp only [Or.comm (a := K1 = 4), Or.comm (a := K1 = 3), Or.comm (a := K1 = 1)]
theorem addK_comm (m x : Nat) (a b K1 E1 M1 K2 E2 M2 : Int) (n1 n2 : Bool) (g1 : PatK m x a K1 n1 E1 M1) (g2 : PatK m x b K2 n2 E2 M2) : addK m x a b K1 n1 E1 M1 K2 n2 E2 M2 = addK m x b a K2 n2 E2 M2 K1 n1 E1 M1 := by
  rcases g1.kind with rfl | rfl | rfl | rfl <;> rcases g2.kind with rfl | rfl | rfl | rfl
  · simp [addK, Bool.and_comm]
  · simp [addK]
  · simp [addK]
  · simp [addK]
  · simp [addK]
  · simp [addK, sumI_comm m x n1 n2]
  · simp [addK]
  · simp [addK]
  · simp [addK]
  · simp [addK]
  · rw [g1.inf rfl, g2.inf rfl]
    cases n1 <;> cases n2 <;> simp [addK]
  · simp [addK]
  · simp [addK]
  · simp [addK]
  · simp [addK]
  · simp [addK]
theorem turn_sgn (k : Nat) (s : Bool) (v : Int) (v0 : 0 ≤ v) (v1 : v < p2 k) : turnI k (v + sgnW s k) = v + sgnW (!s) k := by
  unfold turnI sgnW
  cases s <;> simp <;> omega
theorem turn_inf (m x : Nat) (s : Bool) : turnI (m + x) (infI m x s) = infI m x (!s) := by
  have hT : (p2 x - 1) * p2 m = p2 (m + x) - p2 m := by rw [Int.sub_mul, Int.one_mul, ← p2_add, Nat.add_comm x m]
  have hP := p2_pos m
  have hle : p2 m ≤ p2 (m + x) := p2_mono (by omega)
  unfold infI
  exact turn_sgn (m + x) s _ (by rw [hT]; omega) (by rw [hT]; omega)
/-- what a difference is, either way round -/
theorem sub_cases (m x : Nat) (a b : Int) (hok : okF m x) (a0 : 0 ≤ a) (a1 : a < p2 (m + x + 1)) (b0 : 0 ≤ b) (b1 : b < p2 (m + x + 1)) (h1 : kindI m x a ≠ 4) (h2 : kindI m x b ≠ 4) :
    (subD m x a b = nanI m x ∧ subD m x b a = nanI m x) ∨
    (kindI m x (subD m x a b) ≠ 4 ∧ subD m x a b % p2 (m + x) = 0 ∧ (kindI m x a ≠ 1 ∨ kindI m x b ≠ 1 ∨ a = b) ∧ subD m x a b = 0 ∧ subD m x b a = 0) ∨
    (kindI m x (subD m x a b) ≠ 4 ∧ (subD m x a b % p2 (m + x) ≠ 0 ∨ (subD m x a b % p2 (m + x) = 0 ∧ kindI m x a = 1 ∧ kindI m x b = 1 ∧ a ≠ b)) ∧ subD m x b a = turnI (m + x) (subD m x a b)) := by
  have hx : 2 ≤ x := by have := hok.2.2.1; omega
  have hm1 : 1 ≤ m := by have := hok.1; omega
  have hT : (p2 x - 1) * p2 m = p2 (m + x) - p2 m := by rw [Int.sub_mul, Int.one_mul, ← p2_add, Nat.add_comm x m]
  have hPm := p2_pos m
  have hle : p2 m ≤ p2 (m + x) := p2_mono (by omega)
  have hTp : 0 < (p2 x - 1) * p2 m := by
    have h4 : p2 2 ≤ p2 x := p2_mono hx
    have e4 : p2 2 = 4 := rfl
    exact Int.mul_pos (by omega) hPm
  have g1 := patK m x a hok a0 (bl_of_lt m x a a0 a1)
  have g2 := patK m x b hok b0 (bl_of_lt m x b b0 b1)
  obtain ⟨r1, s1, u1, v1⟩ := mag_rank m x a _ _ _ _ hok g1 h1
  obtain ⟨r2, s2, u2, v2⟩ := mag_rank m x b _ _ _ _ hok g2 h2
  have hlow : ∀ c : Int, ∀ n : Bool, ∀ G : Int, 0 ≤ c → c < p2 (m + x + 1) → rankI (m + x) c = sg n * G → 0 ≤ G → c % p2 (m + x) = G := by
    intro c n G c0 c1 hr hG
    have hPk := p2_pos (m + x)
    have k0 := Int.emod_nonneg c (show p2 (m + x) ≠ 0 by omega)
    unfold rankI at hr
    unfold sg at hr
    split at hr <;> cases n <;> simp at hr <;> omega
  have la := hlow a _ _ a0 a1 r1 s1
  have lb := hlow b _ _ b0 b1 r2 s2
  have tta := turn_turn (m + x) a a0 a1
  have ttb := turn_turn (m + x) b b0 b1
  have hk : ¬ (kindI m x a = 3 ∧ kindI m x b = 3) → kindI m x (subD m x a b) ≠ 4 := fun h3 => add_num m x a (turnI (m + x) b) _ _ _ _ _ _ _ _ hm1 hx rfl (turn_kind m x b) h1 h2 h3
  have tka := turn_kind m x a
  have tkb := turn_kind m x b
  have ka : ∃ K, kindI m x a = K := ⟨_, rfl⟩
  have kb : ∃ K, kindI m x b = K := ⟨_, rfl⟩
  obtain ⟨K1, hK1⟩ := ka
  obtain ⟨K2, hK2⟩ := kb
  rw [hK1, hK2] at hk
  rw [hK1] at g1 v1 la h1 ⊢
  rw [hK2] at g2 v2 lb h2 ⊢
  unfold subD at hk ⊢
  rw [hK1, hK2] at hk ⊢
  generalize negI m x a = n1 at *
  generalize negI m x b = n2 at *
  generalize expI m x a = E1 at *
  generalize expI m x b = E2 at *
  generalize manI m x a = M1 at *
  generalize manI m x b = M2 at *
  rcases g1.kind with rfl | rfl | rfl | rfl <;> rcases g2.kind with rfl | rfl | rfl | rfl
  · have hk' := hk (by decide)
    obtain ⟨-, -, ea⟩ := g1.zero rfl
    obtain ⟨-, -, eb⟩ := g2.zero rfl
    have e1 : addK m x a (turnI (m + x) b) 1 n1 E1 M1 1 (!n2) E2 M2 = sgnW (n1 && !n2) (m + x) := by simp [addK]
    have e2 : addK m x b (turnI (m + x) a) 1 n2 E2 M2 1 (!n1) E1 M1 = sgnW (n2 && !n1) (m + x) := by simp [addK]
    rw [e1] at hk' ⊢
    rw [e2]
    by_cases hn : n1 = n2
    · subst hn
      right; left
      refine ⟨hk', zero_low _ _, .inr (.inr (by rw [ea, eb])), ?_, ?_⟩ <;> cases n1 <;> rfl
    · right; right
      have hne : a ≠ b := by
        rw [ea, eb]
        have := p2_pos (m + x)
        intro h
        cases n1 <;> cases n2 <;> simp [sgnW] at h hn <;> omega
      refine ⟨hk', .inr ⟨zero_low _ _, rfl, rfl, hne⟩, ?_⟩
      have ht : ∀ s, turnI (m + x) (sgnW s (m + x)) = sgnW (!s) (m + x) := fun s => by
        have h := turn_sgn (m + x) s 0 (by omega) (p2_pos _)
        rw [Int.zero_add, Int.zero_add] at h
        exact h
      rw [ht]
      cases n1 <;> cases n2 <;> simp at hn ⊢
  · have hk' := hk (by decide)
    have e1 : addK m x a (turnI (m + x) b) 1 n1 E1 M1 2 (!n2) E2 M2 = turnI (m + x) b := by simp [addK]
    have e2 : addK m x b (turnI (m + x) a) 2 n2 E2 M2 1 (!n1) E1 M1 = b := by simp [addK]
    rw [e1] at hk' ⊢
    rw [e2]
    right; right
    exact ⟨hk', .inl (by rw [turn_low, lb]; have := (v2 rfl).1; omega), ttb.symm⟩
  · have hk' := hk (by decide)
    have e1 : addK m x a (turnI (m + x) b) 1 n1 E1 M1 3 (!n2) E2 M2 = turnI (m + x) b := by simp [addK]
    have e2 : addK m x b (turnI (m + x) a) 3 n2 E2 M2 1 (!n1) E1 M1 = b := by simp [addK]
    rw [e1] at hk' ⊢
    rw [e2]
    right; right
    refine ⟨hk', .inl ?_, ttb.symm⟩
    rw [turn_low, lb, show magI m x 3 E2 M2 = (p2 x - 1) * p2 m by simp [magI]]
    omega
  · exact absurd rfl h2
  · have hk' := hk (by decide)
    have e1 : addK m x a (turnI (m + x) b) 2 n1 E1 M1 1 (!n2) E2 M2 = a := by simp [addK]
    have e2 : addK m x b (turnI (m + x) a) 1 n2 E2 M2 2 (!n1) E1 M1 = turnI (m + x) a := by simp [addK]
    rw [e1] at hk' ⊢
    rw [e2]
    right; right
    exact ⟨hk', .inl (by rw [la]; have := (v1 rfl).1; omega), rfl⟩
  · have hk' := hk (by decide)
    obtain ⟨f1, -⟩ := g1.fin rfl
    obtain ⟨f2, -⟩ := g2.fin rfl
    have e1 : addK m x a (turnI (m + x) b) 2 n1 E1 M1 2 (!n2) E2 M2 = sumI m x n1 E1 M1 (!n2) E2 M2 := by simp [addK]
    have e2 : addK m x b (turnI (m + x) a) 2 n2 E2 M2 2 (!n1) E1 M1 = sumI m x n2 E2 M2 (!n1) E1 M1 := by simp [addK]
    have lo := sum_low m x n1 (!n2) E1 M1 E2 M2 hx
    rw [e1] at hk' ⊢
    rw [e2]
    have es : sumI m x n2 E2 M2 (!n1) E1 M1 = packP m x (absI (sumS n1 E1 M1 (!n2) E2 M2)) (min E1 E2) false + sgnW (decide (-(sumS n1 E1 M1 (!n2) E2 M2) < 0)) (m + x) := by
      unfold sumI
      rw [sumS_turn n1 n2, Int.min_comm E2 E1]
      congr 2
      unfold absI
      split <;> split <;> omega
    rw [es]
    by_cases hS : sumS n1 E1 M1 (!n2) E2 M2 = 0
    · right; left
      have z : sumI m x n1 E1 M1 (!n2) E2 M2 = 0 := by unfold sumI; rw [hS]; simp [absI, packP, sgnW]
      refine ⟨hk', by rw [z]; exact Int.zero_emod _, .inl (by decide), z, ?_⟩
      rw [hS]; simp [absI, packP, sgnW]
    · right; right
      have hA : 0 < absI (sumS n1 E1 M1 (!n2) E2 M2) := by unfold absI; split <;> omega
      have hp := pack_pos m x (absI (sumS n1 E1 M1 (!n2) E2 M2)) (min E1 E2) hx hA (by have := f1.2.2.1; have := f2.2.2.1; omega)
      have hbd := pack_bd m x (absI (sumS n1 E1 M1 (!n2) E2 M2)) (min E1 E2) false (by omega) hx
      refine ⟨hk', .inl (by rw [lo]; omega), ?_⟩
      have e3 : sumI m x n1 E1 M1 (!n2) E2 M2 = packP m x (absI (sumS n1 E1 M1 (!n2) E2 M2)) (min E1 E2) false + sgnW (decide (sumS n1 E1 M1 (!n2) E2 M2 < 0)) (m + x) := rfl
      rw [e3, turn_sgn (m + x) _ _ hbd.1 (by omega)]
      congr 2
      by_cases hs : sumS n1 E1 M1 (!n2) E2 M2 < 0
      · rw [decide_eq_true hs, decide_eq_false (by omega)]; rfl
      · rw [decide_eq_false hs, decide_eq_true (by omega)]; rfl
  · have hk' := hk (by decide)
    have e1 : addK m x a (turnI (m + x) b) 2 n1 E1 M1 3 (!n2) E2 M2 = turnI (m + x) b := by simp [addK]
    have e2 : addK m x b (turnI (m + x) a) 3 n2 E2 M2 2 (!n1) E1 M1 = b := by simp [addK]
    rw [e1] at hk' ⊢
    rw [e2]
    right; right
    refine ⟨hk', .inl ?_, ttb.symm⟩
    rw [turn_low, lb, show magI m x 3 E2 M2 = (p2 x - 1) * p2 m by simp [magI]]
    omega
  · exact absurd rfl h2
  · have hk' := hk (by decide)
    have e1 : addK m x a (turnI (m + x) b) 3 n1 E1 M1 1 (!n2) E2 M2 = a := by simp [addK]
    have e2 : addK m x b (turnI (m + x) a) 1 n2 E2 M2 3 (!n1) E1 M1 = turnI (m + x) a := by simp [addK]
    rw [e1] at hk' ⊢
    rw [e2]
    right; right
    refine ⟨hk', .inl ?_, rfl⟩
    rw [la, show magI m x 3 E1 M1 = (p2 x - 1) * p2 m by simp [magI]]
    omega
  · have hk' := hk (by decide)
    have e1 : addK m x a (turnI (m + x) b) 3 n1 E1 M1 2 (!n2) E2 M2 = a := by simp [addK]
    have e2 : addK m x b (turnI (m + x) a) 2 n2 E2 M2 3 (!n1) E1 M1 = turnI (m + x) a := by simp [addK]
    rw [e1] at hk' ⊢
    rw [e2]
    right; right
    refine ⟨hk', .inl ?_, rfl⟩
    rw [la, show magI m x 3 E1 M1 = (p2 x - 1) * p2 m by simp [magI]]
    omega
  · have ea := g1.inf rfl
    have eb := g2.inf rfl
    by_cases hn : n1 = n2
    · subst hn
      left
      constructor <;> cases n1 <;> simp [addK]
    · right; right
      have e1 : addK m x a (turnI (m + x) b) 3 n1 E1 M1 3 (!n2) E2 M2 = a := by cases n1 <;> cases n2 <;> simp [addK] at hn ⊢
      have e2 : addK m x b (turnI (m + x) a) 3 n2 E2 M2 3 (!n1) E1 M1 = b := by cases n1 <;> cases n2 <;> simp [addK] at hn ⊢
      rw [e1, e2]
      refine ⟨by rw [hK1]; decide, .inl ?_, ?_⟩
      · rw [la, show magI m x 3 E1 M1 = (p2 x - 1) * p2 m by simp [magI]]; omega
      · rw [ea, eb, turn_inf]
        congr 1
        cases n1 <;> cases n2 <;> simp at hn ⊢
  · exact absurd rfl h2
  · exact absurd rfl h1
  · exact absurd rfl h1
  · exact absurd rfl h1
  · exact absurd rfl h1
end Go.Proofs.YthfjjkikeebopaaDoor
namespace Go.Proofs.YthfjjkikeebopaaDoor
open Go.RowKit
set_option maxHeartbeats 400000
set_option linter.unusedVariables false

theorem man_nn (m x : Nat) (a : Int) : 0 ≤ manI m x a := by
  have h1 := frc_bd m a
  have h2 := p2_pos m
  unfold manI
  split
  · split <;> omega
  · omega
theorem nan_lt (m x : Nat) (hm : 1 ≤ m) : 0 ≤ nanI m x ∧ nanI m x < p2 (m + x + 1) := by
  have h := nan_bd m x hm
  have := p2_mono (show m + x ≤ m + x + 1 by omega)
  omega
theorem mulK_bd (m x : Nat) (K1 E1 M1 K2 E2 M2 : Int) (n1 n2 : Bool) (hm : 1 ≤ m) (hx : 2 ≤ x) (h1 : 0 ≤ M1) (h2 : 0 ≤ M2) : 0 ≤ mulK m x K1 n1 E1 M1 K2 n2 E2 M2 ∧ mulK m x K1 n1 E1 M1 K2 n2 E2 M2 < p2 (m + x + 1) := by
  unfold mulK
  split
  · exact nan_lt m x hm
  split
  · exact nan_lt m x hm
  split
  · exact inf_bd m x _
  split
  · exact sgn_lt _ _
  · exact pack_lt m x _ _ false _ (Int.mul_nonneg h1 h2) hx
theorem divK_bd (m x : Nat) (K1 E1 M1 K2 E2 M2 : Int) (n1 n2 : Bool) (hm : 1 ≤ m) (hx : 2 ≤ x) (h1 : 0 ≤ M1) (h2 : 0 ≤ M2) : 0 ≤ divK m x K1 n1 E1 M1 K2 n2 E2 M2 ∧ divK m x K1 n1 E1 M1 K2 n2 E2 M2 < p2 (m + x + 1) := by
  unfold divK
  split
  · exact nan_lt m x hm
  split
  · exact nan_lt m x hm
  split
  · exact nan_lt m x hm
  split
  · exact inf_bd m x _
  split
  · exact sgn_lt _ _
  · refine pack_lt m x _ _ _ _ ?_ hx
    unfold quoQ
    exact Int.ediv_nonneg (Int.mul_nonneg (Int.mul_nonneg h1 (Int.le_of_lt (p2_pos _))) (by decide)) (Int.mul_nonneg h2 (Int.le_of_lt (p2_pos _)))
theorem restK_bd (m x : Nat) (a K1 E1 M1 K2 E2 M2 : Int) (n1 n2 : Bool) (hm : 1 ≤ m) (hx : 2 ≤ x) (a0 : 0 ≤ a) (a1 : a < p2 (m + x + 1)) (h1 : 0 ≤ M1) (h2 : 0 ≤ M2) : 0 ≤ restK m x a K1 n1 E1 M1 K2 n2 E2 M2 ∧ restK m x a K1 n1 E1 M1 K2 n2 E2 M2 < p2 (m + x + 1) := by
  unfold restK
  split
  · exact nan_lt m x hm
  split
  · exact nan_lt m x hm
  split
  · exact ⟨a0, a1⟩
  split
  · exact ⟨a0, a1⟩
  · refine pack_lt m x _ _ _ _ ?_ hx
    have hA : 0 ≤ M1 * p2 (E1 - E2).toNat := Int.mul_nonneg h1 (Int.le_of_lt (p2_pos _))
    rcases Int.lt_or_le 0 M2 with h | h
    · exact Int.emod_nonneg _ (by omega)
    · have h0 : M2 = 0 := by omega
      rw [h0, Int.emod_zero]
      exact hA
theorem quoK_bd (m x : Nat) (K1 E1 M1 K2 E2 M2 : Int) (n1 n2 : Bool) (hm : 1 ≤ m) (hx : 2 ≤ x) (h1 : 0 ≤ M1) (h2 : 0 ≤ M2) : 0 ≤ quoK m x K1 n1 E1 M1 K2 n2 E2 M2 ∧ quoK m x K1 n1 E1 M1 K2 n2 E2 M2 < p2 (m + x + 1) := by
  unfold quoK
  split
  · exact nan_lt m x hm
  split
  · exact nan_lt m x hm
  split
  · exact sgn_lt _ _
  split
  · exact sgn_lt _ _
  · refine pack_lt m x _ _ _ _ ?_ hx
    unfold wqQ
    exact Int.ediv_nonneg (Int.ediv_nonneg (Int.mul_nonneg h1 (Int.le_of_lt (p2_pos _))) h2) (Int.le_of_lt (p2_pos _))
theorem sqrtK_bd (m x : Nat) (a K E M R : Int) (n : Bool) (hm : 1 ≤ m) (hx : 2 ≤ x) (a0 : 0 ≤ a) (a1 : a < p2 (m + x + 1)) (hR : 0 ≤ R) : 0 ≤ sqrtK m x a K n E M R ∧ sqrtK m x a K n E M R < p2 (m + x + 1) := by
  unfold sqrtK
  split
  · exact ⟨a0, a1⟩
  split
  · exact nan_lt m x hm
  split
  · exact ⟨a0, a1⟩
  · have h := pack_lt m x R (rootE E M) (decide (R * R ≠ rootS E M * 18446744073709551616)) false hR hx
    rw [show sgnW false (m + x) = 0 from rfl, Int.add_zero] at h
    exact h
theorem besideK_bd (m x : Nat) (a K E M : Int) (n dn : Bool) (hm : 1 ≤ m) (hx : 2 ≤ x) (a0 : 0 ≤ a) (a1 : a < p2 (m + x + 1)) (h1 : 0 ≤ M) : 0 ≤ besideK m x a K n E M dn ∧ besideK m x a K n E M dn < p2 (m + x + 1) := by
  unfold besideK
  split
  · exact nan_lt m x hm
  split
  · exact ⟨a0, a1⟩
  split
  · exact ⟨a0, a1⟩
  · refine pack_lt m x _ _ _ _ ?_ hx
    have h := Int.ediv_nonneg h1 (Int.le_of_lt (p2_pos (-E).toNat))
    split <;> omega
end Go.Proofs.YthfjjkikeebopaaDoor
namespace Go.Proofs.YthfjjkikeebopaaDoor
open Go.RowKit
set_option maxHeartbeats 1000000
set_option linter.unusedVariables false

/-- what a pattern that is zero or finite says, in units of the least power -/
def valL (m x : Nat) (K : Int) (n : Bool) (E M : Int) : Int := if K = 1 then 0 else sg n * (M * p2 (E - least m x).toNat)
/-- the rank of the nearest pattern -/
def spk (m x : Nat) (S : Int) : Int := if S < 0 then -(packP m x (-S) (least m x) false) else packP m x S (least m x) false
theorem pack_0 (m x : Nat) (e : Int) : packP m x 0 e false = 0 := by simp [packP]
theorem spk_mono (m x : Nat) (S T : Int) (hx : 2 ≤ x) (h : S ≤ T) : spk m x S ≤ spk m x T := by
  unfold spk
  split
  · split
    · have := pack_mono m x (-T) (-S) (least m x) false (by omega) (by omega) hx
      omega
    · have := pack_bd m x (-S) (least m x) false (by omega) hx
      have := pack_bd m x T (least m x) false (by omega) hx
      omega
  · split
    · omega
    · exact pack_mono m x S T (least m x) false (by omega) h hx
theorem spk_bd (m x : Nat) (S : Int) (hx : 2 ≤ x) : -((p2 x - 1) * p2 m) ≤ spk m x S ∧ spk m x S ≤ (p2 x - 1) * p2 m := by
  unfold spk
  split
  · have := pack_bd m x (-S) (least m x) false (by omega) hx
    omega
  · have := pack_bd m x S (least m x) false (by omega) hx
    omega
theorem spk_sg (m x : Nat) (n : Bool) (N : Int) (h : 0 ≤ N) : spk m x (sg n * N) = sg n * packP m x N (least m x) false := by
  unfold spk
  cases n
  · rw [sg_f, Int.one_mul, Int.one_mul, if_neg (by omega)]
  · rw [sg_t]
    by_cases h0 : N = 0
    · subst h0
      rw [if_neg (by omega), Int.mul_zero, pack_0]
      rfl
    · rw [if_pos (by omega), show -(-1 * N) = N by omega]
      omega
theorem rank_sg (m x : Nat) (n : Bool) (g : Int) (g0 : 0 ≤ g) (g1 : g < p2 (m + x)) : rankI (m + x) (g + sgnW n (m + x)) = sg n * g := by
  have hp := p2_pos (m + x)
  unfold rankI
  rw [sgn_low (m + x) n g g0 g1]
  unfold sgnW sg
  cases n
  · simp only [Bool.false_eq_true, if_false]
    rw [if_neg (by omega)]
    omega
  · simp only [if_true]
    rw [if_pos (by omega)]
    omega
theorem top_lt (m x : Nat) : (p2 x - 1) * p2 m < p2 (m + x) := by
  have hT : (p2 x - 1) * p2 m = p2 (m + x) - p2 m := by rw [Int.sub_mul, Int.one_mul, ← p2_add, Nat.add_comm x m]
  have hP := p2_pos m
  omega
theorem man_nn' (m x : Nat) (E M : Int) (h : FinP m x E M) (k : Nat) : 0 ≤ M * p2 k := Int.mul_nonneg (by have := h.1; omega) (by have := p2_pos k; omega)
theorem rank_val (m x : Nat) (a K E M : Int) (n : Bool) (hok : okF m x) (g : PatK m x a K n E M) (h : K = 1 ∨ K = 2) : rankI (m + x) a = spk m x (valL m x K n E M) := by
  have hx : 2 ≤ x := by have := hok.2.2.1; omega
  have hr := (mag_rank m x a K E M n hok g (by omega)).1
  rw [hr]
  unfold valL magI
  rcases h with rfl | rfl
  · rw [if_pos rfl, if_pos rfl]
    unfold spk
    rw [if_neg (by omega), pack_0, Int.mul_zero]
  · simp only [show ¬ ((2 : Int) = 1) by omega, if_false, if_true]
    have hf := (g.fin rfl).1
    rw [spk_sg m x n _ (man_nn' m x E M hf _), ← pack_self m x E M hx hf]
    have hl := hf.2.2.1
    have := pack_scale m x M E (E - least m x).toNat (by have := hf.1; omega)
    rw [show E - ((E - least m x).toNat : Int) = least m x by omega] at this
    rw [this]
theorem val_up (m x : Nat) (n : Bool) (E M e : Int) (h1 : least m x ≤ e) (h2 : e ≤ E) : valL m x 2 n E M = sg n * (M * p2 (E - e).toNat) * p2 (e - least m x).toNat := by
  unfold valL
  rw [if_neg (by omega), show (E - least m x).toNat = (E - e).toNat + (e - least m x).toNat by omega, p2_add, Int.mul_assoc, Int.mul_assoc]
theorem sum_val (m x : Nat) (n1 n2 : Bool) (E1 M1 E2 M2 : Int) (h1 : least m x ≤ E1) (h2 : least m x ≤ E2) : sumS n1 E1 M1 n2 E2 M2 * p2 (min E1 E2 - least m x).toNat = valL m x 2 n1 E1 M1 + valL m x 2 n2 E2 M2 := by
  rw [val_up m x n1 E1 M1 (min E1 E2) (by omega) (by omega), val_up m x n2 E2 M2 (min E1 E2) (by omega) (by omega)]
  unfold sumS
  rw [Int.add_mul]
theorem sum_rank (m x : Nat) (n1 n2 : Bool) (E1 M1 E2 M2 : Int) (hx : 2 ≤ x) (h1 : least m x ≤ E1) (h2 : least m x ≤ E2) : rankI (m + x) (sumI m x n1 E1 M1 n2 E2 M2) = spk m x (valL m x 2 n1 E1 M1 + valL m x 2 n2 E2 M2) := by
  rw [← sum_val m x n1 n2 E1 M1 E2 M2 h1 h2]
  unfold sumI
  generalize sumS n1 E1 M1 n2 E2 M2 = S
  have hA : 0 ≤ absI S := by unfold absI; split <;> omega
  have hT := top_lt m x
  have hb := pack_bd m x (absI S) (min E1 E2) false hA hx
  rw [rank_sg m x _ _ hb.1 (by omega)]
  have hs := pack_scale m x (absI S) (min E1 E2) (min E1 E2 - least m x).toNat hA
  rw [show min E1 E2 - ((min E1 E2 - least m x).toNat : Int) = least m x by omega] at hs
  rw [← hs]
  have hp := p2_pos (min E1 E2 - least m x).toNat
  generalize p2 (min E1 E2 - least m x).toNat = P at *
  have e : S * P = sg (decide (S < 0)) * (absI S * P) := by
    unfold sg absI
    by_cases h : S < 0
    · rw [decide_eq_true h, if_pos rfl, if_pos h, show -S * P = -(S * P) from Int.neg_mul S P]
      omega
    · rw [decide_eq_false h, if_neg h, if_neg (by simp), Int.one_mul]
  rw [e, spk_sg m x _ _ (Int.mul_nonneg hA (by omega))]
theorem add_rank (m x : Nat) (a c K1 E1 M1 K2 E2 M2 : Int) (n1 n2 : Bool) (hok : okF m x) (g1 : PatK m x a K1 n1 E1 M1) (g2 : PatK m x c K2 n2 E2 M2) (h1 : K1 = 1 ∨ K1 = 2) (h2 : K2 = 1 ∨ K2 = 2) :
    rankI (m + x) (addK m x a c K1 n1 E1 M1 K2 n2 E2 M2) = spk m x (valL m x K1 n1 E1 M1 + valL m x K2 n2 E2 M2) := by
  have hx : 2 ≤ x := by have := hok.2.2.1; omega
  have hr1 := rank_val m x a K1 E1 M1 n1 hok g1 h1
  have hr2 := rank_val m x c K2 E2 M2 n2 hok g2 h2
  have v1 : ∀ n E M, valL m x 1 n E M = 0 := by intro n E M; unfold valL; rw [if_pos rfl]
  unfold addK
  rw [if_neg (by omega), if_neg (by omega), if_neg (by omega), if_neg (by omega)]
  rcases h1 with rfl | rfl <;> rcases h2 with rfl | rfl
  · rw [if_pos (by omega), v1, v1]
    have := rank_sg m x (n1 && n2) 0 (by omega) (p2_pos _)
    rw [Int.zero_add] at this
    rw [this, Int.mul_zero]
    simp [spk, pack_0]
  · rw [if_neg (by omega), if_pos rfl, v1, Int.zero_add, hr2]
  · rw [if_neg (by omega), if_neg (by omega), if_pos rfl, v1, Int.add_zero, hr1]
  · rw [if_neg (by omega), if_neg (by omega), if_neg (by omega)]
    exact sum_rank m x n1 n2 E1 M1 E2 M2 hx (g1.fin rfl).1.2.2.1 (g2.fin rfl).1.2.2.1
theorem val_order (m x : Nat) (a b K1 E1 M1 K2 E2 M2 : Int) (n1 n2 : Bool) (hok : okF m x) (g1 : PatK m x a K1 n1 E1 M1) (g2 : PatK m x b K2 n2 E2 M2) (h1 : K1 = 1 ∨ K1 = 2) (h2 : K2 = 1 ∨ K2 = 2) (h : rankI (m + x) a ≤ rankI (m + x) b) :
    valL m x K1 n1 E1 M1 ≤ valL m x K2 n2 E2 M2 := by
  have hx : 2 ≤ x := by have := hok.2.2.1; omega
  apply Classical.byContradiction
  intro hc
  have hm := spk_mono m x _ _ hx (show valL m x K2 n2 E2 M2 ≤ valL m x K1 n1 E1 M1 by omega)
  rw [← rank_val m x a K1 E1 M1 n1 hok g1 h1, ← rank_val m x b K2 E2 M2 n2 hok g2 h2] at hm
  have e : rankI (m + x) a = rankI (m + x) b := by omega
  obtain ⟨r1, p1, q1, s1⟩ := mag_rank m x a K1 E1 M1 n1 hok g1 (by omega)
  obtain ⟨r2, p2', q2, s2⟩ := mag_rank m x b K2 E2 M2 n2 hok g2 (by omega)
  rw [r1, r2] at e
  apply hc
  have z1 : K1 = 1 → magI m x K1 E1 M1 = 0 := by rintro rfl; rfl
  have z2 : K2 = 1 → magI m x K2 E2 M2 = 0 := by rintro rfl; rfl
  have ez : (K1 = 1 ∧ K2 = 1) ∨ (K1 = 2 ∧ K2 = 2 ∧ n1 = n2 ∧ magI m x K1 E1 M1 = magI m x K2 E2 M2) := by
    unfold sg at e
    cases n1 <;> cases n2 <;> simp only [Bool.false_eq_true, if_false, if_true] at e <;> rcases h1 with h | h <;> rcases h2 with h' | h' <;> simp [h, h'] at * <;> omega
  rcases ez with ⟨rfl, rfl⟩ | ⟨rfl, rfl, rfl, em⟩
  · unfold valL
    rw [if_pos rfl, if_pos rfl]
    exact Int.le_refl _
  · have f1 := (g1.fin rfl).1
    have f2 := (g2.fin rfl).1
    have l1 := f1.2.2.1
    have l2 := f2.2.2.1
    have ho := fin_order m x E1 M1 E2 M2 (E1 - min E1 E2).toNat (E2 - min E1 E2).toNat f1 f2 (by omega) (by omega)
    unfold magI at em
    simp only [show ¬ ((2 : Int) = 1) by omega, if_false, if_true] at em
    have e2 : M1 * p2 (E1 - min E1 E2).toNat = M2 * p2 (E2 - min E1 E2).toNat := by omega
    rw [val_up m x n1 E1 M1 (min E1 E2) (by omega) (by omega), val_up m x n1 E2 M2 (min E1 E2) (by omega) (by omega), e2]
    exact Int.le_refl _
/-- adding one pattern keeps the order -/
theorem rises (m x : Nat) (a b c K1 E1 M1 K2 E2 M2 K3 E3 M3 : Int) (n1 n2 n3 : Bool) (hok : okF m x) (g1 : PatK m x a K1 n1 E1 M1) (g2 : PatK m x b K2 n2 E2 M2) (g3 : PatK m x c K3 n3 E3 M3) (h1 : K1 ≠ 4) (h2 : K2 ≠ 4) (h3 : K3 ≠ 4)
    (i1 : ¬ (K1 = 3 ∧ K3 = 3 ∧ n1 ≠ n3)) (i2 : ¬ (K2 = 3 ∧ K3 = 3 ∧ n2 ≠ n3)) (h : rankI (m + x) a ≤ rankI (m + x) b) :
    rankI (m + x) (addK m x a c K1 n1 E1 M1 K3 n3 E3 M3) ≤ rankI (m + x) (addK m x b c K2 n2 E2 M2 K3 n3 E3 M3) := by
  have hx : 2 ≤ x := by have := hok.2.2.1; omega
  obtain ⟨r1, p1, q1, s1⟩ := mag_rank m x a K1 E1 M1 n1 hok g1 h1
  obtain ⟨r2, p2', q2, s2⟩ := mag_rank m x b K2 E2 M2 n2 hok g2 h2
  have c1 := g1.kind
  have c2 := g2.kind
  have c3 := g3.kind
  have hT : 0 < (p2 x - 1) * p2 m := by
    have h4 : p2 2 ≤ p2 x := p2_mono hx
    have e4 : p2 2 = 4 := rfl
    exact Int.mul_pos (by omega) (p2_pos m)
  have t1 : K1 = 3 → magI m x K1 E1 M1 = (p2 x - 1) * p2 m := by rintro rfl; rfl
  have t2 : K2 = 3 → magI m x K2 E2 M2 = (p2 x - 1) * p2 m := by rintro rfl; rfl
  have z1 : K1 = 1 → magI m x K1 E1 M1 = 0 := by rintro rfl; rfl
  have z2 : K2 = 1 → magI m x K2 E2 M2 = 0 := by rintro rfl; rfl
  have ainf : ∀ (p q K n E M K' n' E' M'), K = 3 → K' ≠ 4 → ¬ (K = 3 ∧ K' = 3 ∧ n ≠ n') → addK m x p q K n E M K' n' E' M' = p := by
    intro p q K n E M K' n' E' M' hK hK' hi
    unfold addK
    rw [if_neg (by omega), if_neg hi, if_pos hK]
  by_cases k3 : K3 = 3
  · have key : ∀ (p K n E M), PatK m x p K n E M → K ≠ 4 → ¬ (K = 3 ∧ K3 = 3 ∧ n ≠ n3) → addK m x p c K n E M K3 n3 E3 M3 = c := by
      intro p K n E M g hK hi
      by_cases k : K = 3
      · rw [ainf p c K n E M K3 n3 E3 M3 k h3 hi, g.inf k, g3.inf k3]
        have : n = n3 := by
          apply Classical.byContradiction
          intro hn
          exact hi ⟨k, k3, hn⟩
        rw [this]
      · unfold addK
        rw [if_neg (by omega), if_neg hi, if_neg k, if_pos k3]
    rw [key a K1 n1 E1 M1 g1 h1 i1, key b K2 n2 E2 M2 g2 h2 i2]
    exact Int.le_refl _
  · have k3' : K3 = 1 ∨ K3 = 2 := by omega
    by_cases k1 : K1 = 3
    · rw [ainf a c K1 n1 E1 M1 K3 n3 E3 M3 k1 h3 i1]
      by_cases k2 : K2 = 3
      · rw [ainf b c K2 n2 E2 M2 K3 n3 E3 M3 k2 h3 i2]
        exact h
      · have ar := add_rank m x b c K2 E2 M2 K3 E3 M3 n2 n3 hok g2 g3 (by omega) k3'
        rw [ar]
        have sb := spk_bd m x (valL m x K2 n2 E2 M2 + valL m x K3 n3 E3 M3) hx
        have hl : magI m x K2 E2 M2 < (p2 x - 1) * p2 m := by
          rcases show K2 = 1 ∨ K2 = 2 by omega with k | k
          · rw [z2 k]; exact hT
          · exact (s2 k).2
        rw [t1 k1] at r1
        rw [r1, r2] at h
        rw [r1]
        clear i1 i2 ainf g1 g2 g3 ar r1 r2
        unfold sg at h ⊢
        cases n1 <;> cases n2 <;> simp only [Bool.false_eq_true, if_false, if_true] at h ⊢ <;> omega
    · have ar := add_rank m x a c K1 E1 M1 K3 E3 M3 n1 n3 hok g1 g3 (by omega) k3'
      rw [ar]
      have sb := spk_bd m x (valL m x K1 n1 E1 M1 + valL m x K3 n3 E3 M3) hx
      by_cases k2 : K2 = 3
      · rw [ainf b c K2 n2 E2 M2 K3 n3 E3 M3 k2 h3 i2]
        have hl : magI m x K1 E1 M1 < (p2 x - 1) * p2 m := by
          rcases show K1 = 1 ∨ K1 = 2 by omega with k | k
          · rw [z1 k]; exact hT
          · exact (s1 k).2
        rw [t2 k2] at r2
        rw [r1, r2] at h
        rw [r2]
        clear i1 i2 ainf g1 g2 g3 ar r1 r2
        unfold sg at h ⊢
        cases n1 <;> cases n2 <;> simp only [Bool.false_eq_true, if_false, if_true] at h ⊢ <;> omega
      · rw [add_rank m x b c K2 E2 M2 K3 E3 M3 n2 n3 hok g2 g3 (by omega) k3']
        have := val_order m x a b K1 E1 M1 K2 E2 M2 n1 n2 hok g1 g2 (by omega) (by omega) h
        exact spk_mono m x _ _ hx (by omega)
end Go.Proofs.YthfjjkikeebopaaDoor
namespace Go.Proofs.YthfjjkikeebopaaDoor
open Go.RowKit
set_option maxHeartbeats 1000000
set_option linter.unusedVariables false

theorem norm_ex (m x : Nat) : ∀ (t : Nat) (d : Int), 0 < d → d < p2 (m + 1) → least m x + t ≤ bias x - m → ∃ E M, FinP m x E M ∧ M * p2 (E - least m x).toNat = d * p2 t
  | 0, d, h0, h1, h2 => ⟨least m x, d, ⟨h0, h1, Int.le_refl _, by omega, .inr rfl⟩, by rw [show least m x - least m x = 0 by omega]; rfl⟩
  | t + 1, d, h0, h1, h2 => by
    by_cases hd : p2 m ≤ d
    · refine ⟨least m x + ((t + 1 : Nat) : Int), d, ⟨h0, h1, by omega, h2, .inl hd⟩, ?_⟩
      rw [show (least m x + ((t + 1 : Nat) : Int) - least m x).toNat = t + 1 by omega]
    · have hs : p2 (m + 1) = 2 * p2 m := p2_succ m
      obtain ⟨E, M, hf, e⟩ := norm_ex m x t (2 * d) (by omega) (by omega) (by omega)
      refine ⟨E, M, hf, ?_⟩
      rw [e, p2_succ t, Int.mul_comm 2 d, Int.mul_assoc]
theorem spk_val (m x : Nat) (n : Bool) (E M : Int) (hx : 2 ≤ x) (h : FinP m x E M) : spk m x (sg n * (M * p2 (E - least m x).toNat)) = sg n * ((E - least m x) * p2 m + M) := by
  rw [spk_sg m x n _ (man_nn' m x E M h _)]
  have := pack_scale m x M E (E - least m x).toNat (by have := h.1; omega)
  rw [show E - ((E - least m x).toNat : Int) = least m x by have := h.2.2.1; omega] at this
  rw [this, pack_self m x E M hx h]
theorem rank_inj (k : Nat) (a b : Int) (a0 : 0 ≤ a) (a1 : a < p2 (k + 1)) (b0 : 0 ≤ b) (b1 : b < p2 (k + 1)) (h : rankI k a = rankI k b) (hn : rankI k a ≠ 0) : a = b := by
  have hs : p2 (k + 1) = 2 * p2 k := p2_succ k
  have hp := p2_pos k
  have low : ∀ c, 0 ≤ c → c < p2 (k + 1) → (p2 k ≤ c → c % p2 k = c - p2 k) ∧ (¬ p2 k ≤ c → c % p2 k = c) := fun c c0 c1 => by
    refine ⟨fun h => ?_, fun h => Int.emod_eq_of_lt c0 (by omega)⟩
    rw [← Int.sub_emod_right]
    exact Int.emod_eq_of_lt (by omega) (by omega)
  have la := low a a0 a1
  have lb := low b b0 b1
  unfold rankI at h hn
  by_cases ha : p2 k ≤ a
  · rw [if_pos ha, la.1 ha] at h hn
    by_cases hb : p2 k ≤ b
    · rw [if_pos hb, lb.1 hb] at h; omega
    · rw [if_neg hb, lb.2 hb] at h; omega
  · rw [if_neg ha, la.2 ha] at h hn
    by_cases hb : p2 k ≤ b
    · rw [if_pos hb, lb.1 hb] at h; omega
    · rw [if_neg hb, lb.2 hb] at h; omega
theorem fin_pat (m x : Nat) (E M : Int) (n : Bool) (hx : 2 ≤ x) (h : FinP m x E M) : 0 < (E - least m x) * p2 m + M ∧ (E - least m x) * p2 m + M < p2 (m + x) ∧ 0 ≤ (E - least m x) * p2 m + M + sgnW n (m + x) ∧ (E - least m x) * p2 m + M + sgnW n (m + x) < p2 (m + x + 1) := by
  have h1 := pack_bd m x M E false (by have := h.1; omega) hx
  rw [pack_self m x E M hx h] at h1
  have hT := top_lt m x
  have hs : p2 (m + x + 1) = 2 * p2 (m + x) := p2_succ (m + x)
  have hp := p2_pos (m + x)
  have h0 : 0 ≤ (E - least m x) * p2 m := Int.mul_nonneg (by have := h.2.2.1; omega) (by have := p2_pos m; omega)
  have hM := h.1
  unfold sgnW
  split <;> omega
/-- a sum whose value some pattern tells is that pattern -/
theorem sum_tells (m x : Nat) (X E M : Int) (n : Bool) (hok : okF m x) (h : FinP m x E M) (X0 : 0 ≤ X) (X1 : X < p2 (m + x + 1)) (hr : rankI (m + x) X = spk m x (sg n * (M * p2 (E - least m x).toNat))) :
    X = (E - least m x) * p2 m + M + sgnW n (m + x) := by
  have hx : 2 ≤ x := by have := hok.2.2.1; omega
  obtain ⟨f0, f1, f2, f3⟩ := fin_pat m x E M n hx h
  have hP := rank_sg m x n _ (by omega) f1
  rw [spk_val m x n E M hx h] at hr
  refine rank_inj (m + x) _ _ X0 X1 f2 f3 (by rw [hr, hP]) ?_
  rw [hr]
  unfold sg
  split <;> omega
theorem val2 (m x : Nat) (n : Bool) (E M : Int) : valL m x 2 n E M = sg n * (M * p2 (E - least m x).toNat) := by unfold valL; rw [if_neg (by decide)]
/-- what is not above twice a number, by its pattern -/
theorem dbl (m x : Nat) (a b E1 M1 E2 M2 : Int) (hok : okF m x) (g1 : PatK m x a 2 false E1 M1) (g2 : PatK m x b 2 false E2 M2) (h : rankI (m + x) a ≤ rankI (m + x) (addK m x b b 2 false E2 M2 2 false E2 M2)) :
    valL m x 2 false E1 M1 ≤ valL m x 2 false E2 M2 + valL m x 2 false E2 M2 := by
  have hx : 2 ≤ x := by have := hok.2.2.1; omega
  have hs : p2 (m + 1) = 2 * p2 m := p2_succ m
  have hr := add_rank m x b b 2 E2 M2 2 E2 M2 false false hok g2 g2 (.inr rfl) (.inr rfl)
  have hra := rank_val m x a 2 E1 M1 false hok g1 (.inr rfl)
  have f1 := (g1.fin rfl).1
  have f2 := (g2.fin rfl).1
  apply Classical.byContradiction
  intro hc
  obtain ⟨E3, M3, f3, e3⟩ : ∃ E M, FinP m x E M ∧ M * p2 (E - least m x).toNat = valL m x 2 false E2 M2 + valL m x 2 false E2 M2 := by
    rw [val2, sg_f, Int.one_mul] at hc ⊢
    rw [val2, sg_f, Int.one_mul] at hc
    obtain ⟨a1, a2, a3, a4, a5⟩ := f2
    by_cases hn : p2 m ≤ M2
    · by_cases hE : E2 + 1 ≤ bias x - m
      · refine ⟨E2 + 1, M2, ⟨a1, a2, by omega, hE, .inl hn⟩, ?_⟩
        rw [show (E2 + 1 - least m x).toNat = (E2 - least m x).toNat + 1 by omega, p2_succ, Int.mul_comm 2, ← Int.mul_assoc, Int.mul_comm _ 2, Int.two_mul]
      · exfalso
        have hp := p2_pos (E2 - least m x).toNat
        have u1 : p2 m * p2 (E2 - least m x).toNat ≤ M2 * p2 (E2 - least m x).toNat := Int.mul_le_mul_of_nonneg_right hn (by omega)
        have u2 : M1 * p2 (E1 - least m x).toNat ≤ (p2 (m + 1) - 1) * p2 (E1 - least m x).toNat := Int.mul_le_mul_of_nonneg_right (by have := f1.2.1; omega) (by have := p2_pos (E1 - least m x).toNat; omega)
        have u3 : p2 (E1 - least m x).toNat ≤ p2 (E2 - least m x).toNat := p2_mono (by have := f1.2.2.2.1; omega)
        have u4 : (p2 (m + 1) - 1) * p2 (E1 - least m x).toNat ≤ (p2 (m + 1) - 1) * p2 (E2 - least m x).toNat := Int.mul_le_mul_of_nonneg_left u3 (by have := p2_pos (m + 1); omega)
        have u5 : (p2 (m + 1) - 1) * p2 (E2 - least m x).toNat = 2 * (p2 m * p2 (E2 - least m x).toNat) - p2 (E2 - least m x).toNat := by rw [Int.sub_mul, Int.one_mul, hs, Int.mul_assoc]
        omega
    · have hE : E2 = least m x := by omega
      refine ⟨E2, 2 * M2, ⟨by omega, by omega, a3, a4, .inr hE⟩, ?_⟩
      rw [Int.mul_assoc, Int.two_mul]
  rw [← e3] at hr hc
  have hv := spk_val m x false E3 M3 hx f3
  rw [sg_f, Int.one_mul, Int.one_mul] at hv
  rw [hv] at hr
  have hva := spk_val m x false E1 M1 hx f1
  rw [← val2] at hva
  rw [sg_f, Int.one_mul] at hva
  rw [hva] at hra
  have hle := spk_mono m x (M3 * p2 (E3 - least m x).toNat) (valL m x 2 false E1 M1) hx (by omega)
  rw [hv, hva] at hle
  have he : (E3 - least m x) * p2 m + M3 = (E1 - least m x) * p2 m + M1 := by omega
  have o3 := open_fin m x E3 M3 false hx f3
  have o1 := open_fin m x E1 M1 false hx f1
  rw [he] at o3
  have e1 : E3 = E1 := o3.2.2.1.symm.trans o1.2.2.1
  have e2 : M3 = M1 := o3.2.2.2.symm.trans o1.2.2.2
  subst e1 e2
  rw [val2, sg_f, Int.one_mul] at hc
  omega
/-- a difference's value, and that some pattern tells it -/
theorem diff_tells (m x : Nat) (E1 M1 E2 M2 : Int) (f1 : FinP m x E1 M1) (f2 : FinP m x E2 M2) (h1 : valL m x 2 false E1 M1 ≤ valL m x 2 false E2 M2 + valL m x 2 false E2 M2) (h2 : valL m x 2 false E2 M2 ≤ valL m x 2 false E1 M1 + valL m x 2 false E1 M1)
    (hD : valL m x 2 false E1 M1 - valL m x 2 false E2 M2 ≠ 0) : ∃ n E M, FinP m x E M ∧ sg n * (M * p2 (E - least m x).toNat) = valL m x 2 false E1 M1 - valL m x 2 false E2 M2 := by
  have le1 : least m x ≤ min E1 E2 := by have := f1.2.2.1; have := f2.2.2.1; omega
  have v1 := val_up m x false E1 M1 (min E1 E2) le1 (by omega)
  have v2 := val_up m x false E2 M2 (min E1 E2) le1 (by omega)
  rw [sg_f, Int.one_mul] at v1 v2
  have hq := p2_pos (min E1 E2 - least m x).toNat
  have hb1 : min E1 E2 ≤ bias x - m := by have := f1.2.2.2.1; omega
  have hm1 := f1.2.1
  have hm2 := f2.2.1
  generalize hQ : p2 (min E1 E2 - least m x).toNat = Q at *
  generalize hP1 : M1 * p2 (E1 - min E1 E2).toNat = P1 at *
  generalize hP2 : M2 * p2 (E2 - min E1 E2).toNat = P2 at *
  rw [v1, v2] at h1 h2 hD ⊢
  have c1 : P1 ≤ P2 + P2 := by
    rw [← Int.add_mul] at h1
    exact Int.le_of_mul_le_mul_right h1 hq
  have c2 : P2 ≤ P1 + P1 := by
    rw [← Int.add_mul] at h2
    exact Int.le_of_mul_le_mul_right h2 hq
  have c3 : P1 - P2 ≠ 0 := fun h => hD (by rw [← Int.sub_mul, h, Int.zero_mul])
  have hlt : P1 < p2 (m + 1) ∨ P2 < p2 (m + 1) := by
    by_cases he : E1 ≤ E2
    · left
      rw [show E1 - min E1 E2 = 0 by omega] at hP1
      rw [show M1 * p2 (0 : Int).toNat = M1 from Int.mul_one M1] at hP1
      omega
    · right
      rw [show E2 - min E1 E2 = 0 by omega] at hP2
      rw [show M2 * p2 (0 : Int).toNat = M2 from Int.mul_one M2] at hP2
      omega
  by_cases hneg : P1 - P2 < 0
  · obtain ⟨E, M, f, e⟩ := norm_ex m x (min E1 E2 - least m x).toNat (P2 - P1) (by omega) (by omega) (by omega)
    refine ⟨true, E, M, f, ?_⟩
    rw [e, hQ, sg_t, ← Int.sub_mul, ← Int.mul_assoc, show -1 * (P2 - P1) = P1 - P2 by omega]
  · obtain ⟨E, M, f, e⟩ := norm_ex m x (min E1 E2 - least m x).toNat (P1 - P2) (by omega) (by omega) (by omega)
    refine ⟨false, E, M, f, ?_⟩
    rw [e, hQ, sg_f, Int.one_mul, ← Int.sub_mul]
/-- the other sign's pattern -/
theorem turn_fin (m x : Nat) (b E M : Int) (hok : okF m x) (g : PatK m x b 2 false E M) : kindI m x (turnI (m + x) b) = 2 ∧ negI m x (turnI (m + x) b) = true ∧ expI m x (turnI (m + x) b) = E ∧ manI m x (turnI (m + x) b) = M ∧ 0 ≤ turnI (m + x) b ∧ turnI (m + x) b < p2 (m + x + 1) := by
  have hx : 2 ≤ x := by have := hok.2.2.1; omega
  obtain ⟨f, e⟩ := g.fin rfl
  obtain ⟨q0, q1, q2, q3⟩ := fin_pat m x E M true hx f
  have et : turnI (m + x) b = (E - least m x) * p2 m + M + sgnW true (m + x) := by
    rw [pack_self m x E M hx f] at e
    rw [show sgnW false (m + x) = 0 from rfl, Int.add_zero] at e
    unfold turnI
    rw [← e, if_neg (by omega)]
    rfl
  obtain ⟨o1, o2, o3, o4⟩ := open_fin m x E M true hx f
  rw [et]
  exact ⟨o1, o2, o3, o4, q2, q3⟩
theorem exact_back (m x : Nat) (a b E1 M1 E2 M2 : Int) (hok : okF m x) (a0 : 0 ≤ a) (a1 : a < p2 (m + x + 1)) (b0 : 0 ≤ b) (b1 : b < p2 (m + x + 1)) (g1 : PatK m x a 2 false E1 M1) (g2 : PatK m x b 2 false E2 M2)
    (h1 : valL m x 2 false E1 M1 ≤ valL m x 2 false E2 M2 + valL m x 2 false E2 M2) (h2 : valL m x 2 false E2 M2 ≤ valL m x 2 false E1 M1 + valL m x 2 false E1 M1) (X : Int) (hX : X = addK m x a (turnI (m + x) b) 2 false E1 M1 2 true E2 M2) :
    0 ≤ X ∧ X < p2 (m + x + 1) ∧ addK m x X b (kindI m x X) (negI m x X) (expI m x X) (manI m x X) 2 false E2 M2 = a := by
  have hx : 2 ≤ x := by have := hok.2.2.1; omega
  have hm1 : 1 ≤ m := by have := hok.1; omega
  obtain ⟨t1, t2, t3, t4, t5, t6⟩ := turn_fin m x b E2 M2 hok g2
  have gt : PatK m x (turnI (m + x) b) 2 true E2 M2 := by
    have := patK m x (turnI (m + x) b) hok t5 (bl_of_lt m x _ t5 t6)
    rwa [t1, t2, t3, t4] at this
  obtain ⟨X0, X1⟩ := add_bd m x a (turnI (m + x) b) 2 E1 M1 2 E2 M2 false true hm1 hx a0 a1 t5 t6
  have hrX := add_rank m x a (turnI (m + x) b) 2 E1 M1 2 E2 M2 false true hok g1 gt (.inr rfl) (.inr rfl)
  rw [← hX] at X0 X1 hrX
  have hneg : valL m x 2 true E2 M2 = -valL m x 2 false E2 M2 := by rw [val2, val2, sg_t, sg_f]; omega
  rw [hneg] at hrX
  have hra := rank_val m x a 2 E1 M1 false hok g1 (.inr rfl)
  have gX := patK m x X hok X0 (bl_of_lt m x _ X0 X1)
  have f1 := (g1.fin rfl).1
  have f2 := (g2.fin rfl).1
  have key : (kindI m x X = 1 ∨ kindI m x X = 2) ∧ valL m x (kindI m x X) (negI m x X) (expI m x X) (manI m x X) = valL m x 2 false E1 M1 - valL m x 2 false E2 M2 := by
    by_cases hD : valL m x 2 false E1 M1 - valL m x 2 false E2 M2 = 0
    · rw [show valL m x 2 false E1 M1 + -valL m x 2 false E2 M2 = 0 by omega, show spk m x 0 = 0 by simp [spk, pack_0]] at hrX
      have hz : kindI m x X = 1 := by
        have hp := p2_pos (m + x)
        have hs : p2 (m + x + 1) = 2 * p2 (m + x) := p2_succ (m + x)
        have hX0 : X = 0 ∨ X = p2 (m + x) := by
          unfold rankI at hrX
          by_cases hc : p2 (m + x) ≤ X
          · rw [if_pos hc, ← Int.sub_emod_right, Int.emod_eq_of_lt (by omega) (by omega)] at hrX; omega
          · rw [if_neg hc, Int.emod_eq_of_lt X0 (by omega)] at hrX; omega
        rcases hX0 with h | h
        · rw [h]; exact (open_zero m x false hx).1
        · rw [h]; exact (open_zero m x true hx).1
      rw [hD]
      refine ⟨.inl hz, ?_⟩
      unfold valL
      rw [if_pos hz]
    · obtain ⟨n, E, M, f, e⟩ := diff_tells m x E1 M1 E2 M2 f1 f2 h1 h2 hD
      rw [show valL m x 2 false E1 M1 + -valL m x 2 false E2 M2 = valL m x 2 false E1 M1 - valL m x 2 false E2 M2 by omega, ← e] at hrX
      have hXe := sum_tells m x X E M n hok f X0 X1 hrX
      obtain ⟨o1, o2, o3, o4⟩ := open_fin m x E M n hx f
      rw [← hXe] at o1 o2 o3 o4
      rw [o1, o2, o3, o4, val2, e]
      exact ⟨.inr rfl, rfl⟩
  have hrY := add_rank m x X b (kindI m x X) (expI m x X) (manI m x X) 2 E2 M2 (negI m x X) false hok gX g2 key.1 (.inr rfl)
  rw [key.2, show valL m x 2 false E1 M1 - valL m x 2 false E2 M2 + valL m x 2 false E2 M2 = valL m x 2 false E1 M1 by omega, ← hra] at hrY
  obtain ⟨Y0, Y1⟩ := add_bd m x X b (kindI m x X) (expI m x X) (manI m x X) 2 E2 M2 (negI m x X) false hm1 hx X0 X1 b0 b1
  refine ⟨X0, X1, rank_inj (m + x) _ _ Y0 Y1 a0 a1 hrY ?_⟩
  have hva := spk_val m x false E1 M1 hx f1
  rw [← val2, sg_f, Int.one_mul] at hva
  rw [hrY, hra, hva]
  have := (fin_pat m x E1 M1 false hx f1).1
  omega
end Go.Proofs.YthfjjkikeebopaaDoor
namespace Go.Proofs.YthfjjkikeebopaaDoor
open Go.RowKit
set_option maxHeartbeats 1000000
set_option linter.unusedVariables false

/-- what rounding leaves out is at most half of what is cut -/
theorem rnd_near (N : Int) (k : Nat) (hk : 1 ≤ k) (h0 : 0 ≤ N) : rnd N k false * (2 * p2 (k - 1)) - N ≤ p2 (k - 1) ∧ N - rnd N k false * (2 * p2 (k - 1)) ≤ p2 (k - 1) := by
  have hp := p2_pos (k - 1)
  have hd := Int.mul_ediv_add_emod N (p2 (k - 1))
  have hr0 := Int.emod_nonneg N (show p2 (k - 1) ≠ 0 by omega)
  have hr1 := Int.emod_lt_of_pos N hp
  unfold rnd
  generalize N / p2 (k - 1) = q at *
  generalize N % p2 (k - 1) = r at *
  generalize p2 (k - 1) = H at *
  have e0 : q / 2 * (2 * H) = 2 * (q / 2) * H := by rw [← Int.mul_assoc, Int.mul_comm (q / 2) 2]
  by_cases hq : q % 2 = 1
  · have e1 : 2 * (q / 2) = q - 1 := by omega
    have e2 : (q - 1) * H = H * q - H := by rw [Int.sub_mul, Int.one_mul, Int.mul_comm]
    split
    · rw [Int.add_mul, e0, e1, e2]; omega
    · rename_i hc
      rw [Int.add_zero, e0, e1, e2]
      have : r = 0 := by
        apply Classical.byContradiction
        intro h
        exact hc ⟨hq, .inr (.inl h)⟩
      omega
  · have e1 : 2 * (q / 2) = q := by omega
    have e2 : q * H = H * q := Int.mul_comm _ _
    rw [if_neg (fun h => hq h.1), Int.add_zero, e0, e1, e2]
    omega
/-- a number within half a unit of M rounds to M -/
theorem rnd_half (M R : Int) (j : Nat) (more : Bool) (hj : 1 ≤ j) (h1 : (2 * M - 1) * p2 (j - 1) ≤ R) (h2 : R < (2 * M + 1) * p2 (j - 1)) (h3 : R = (2 * M - 1) * p2 (j - 1) → more = true) : rnd R j more = M := by
  have hp := p2_pos (j - 1)
  have hd := Int.mul_ediv_add_emod R (p2 (j - 1))
  have hr0 := Int.emod_nonneg R (show p2 (j - 1) ≠ 0 by omega)
  have hr1 := Int.emod_lt_of_pos R hp
  have hq1 : 2 * M - 1 ≤ R / p2 (j - 1) := (Int.le_ediv_iff_mul_le hp).2 h1
  have hq2 : R / p2 (j - 1) < 2 * M + 1 := (Int.ediv_lt_iff_lt_mul hp).2 h2
  unfold rnd
  generalize hq : R / p2 (j - 1) = q at *
  by_cases hqe : q = 2 * M
  · rw [if_neg (by omega)]; omega
  · have hqo : q = 2 * M - 1 := by omega
    rw [if_pos]
    · omega
    · refine ⟨by omega, ?_⟩
      by_cases hr : R % p2 (j - 1) = 0
      · left
        refine h3 ?_
        rw [hr, hqo, Int.add_zero, Int.mul_comm] at hd
        exact hd.symm
      · exact .inr (.inl hr)
/-- the root of what is near a square -/
theorem root_half (M V R : Int) (j : Nat) (hj : 1 ≤ j) (hM : 1 ≤ M) (hR : IsRoot (V * (p2 j * p2 j)) R) (v1 : M * M - M + 1 ≤ V) (v2 : V ≤ M * M + M - 1) :
    (2 * M - 1) * p2 (j - 1) ≤ R ∧ R < (2 * M + 1) * p2 (j - 1) ∧ (R = (2 * M - 1) * p2 (j - 1) → R * R ≠ V * (p2 j * p2 j)) := by
  obtain ⟨r0, r1, r2⟩ := hR
  have hp := p2_pos (j - 1)
  have ej : p2 j = 2 * p2 (j - 1) := by
    have := p2_succ (j - 1)
    rwa [show j - 1 + 1 = j by omega] at this
  rw [ej] at r1 r2 ⊢
  generalize p2 (j - 1) = H at *
  have hH2 : 0 < H * H := Int.mul_pos hp hp
  have eV : V * (2 * H * (2 * H)) = 4 * V * (H * H) := by
    rw [show 2 * H * (2 * H) = 4 * (H * H) by rw [Int.mul_assoc, Int.mul_comm H (2 * H), Int.mul_assoc, ← Int.mul_assoc 2 2]; rfl, ← Int.mul_assoc, Int.mul_comm V 4]
  have sq : ∀ t : Int, t * H * (t * H) = t * t * (H * H) := fun t => by rw [Int.mul_assoc, Int.mul_comm H (t * H), Int.mul_assoc, ← Int.mul_assoc]
  have t1 : (2 * M - 1) * (2 * M - 1) = 4 * (M * M) - 4 * M + 1 := by
    rw [Int.sub_mul, Int.mul_sub, Int.one_mul, Int.mul_one, Int.mul_assoc, Int.mul_comm M (2 * M), Int.mul_assoc]
    omega
  have t2 : (2 * M + 1) * (2 * M + 1) = 4 * (M * M) + 4 * M + 1 := by
    rw [Int.add_mul, Int.mul_add, Int.one_mul, Int.mul_one, Int.mul_assoc, Int.mul_comm M (2 * M), Int.mul_assoc]
    omega
  have lo : (2 * M - 1) * (2 * M - 1) * (H * H) < 4 * V * (H * H) := Int.mul_lt_mul_of_pos_right (by rw [t1]; omega) hH2
  have hi : 4 * V * (H * H) < (2 * M + 1) * (2 * M + 1) * (H * H) := Int.mul_lt_mul_of_pos_right (by rw [t2]; omega) hH2
  rw [eV] at r1 r2
  rw [eV]
  have n1 : 0 ≤ (2 * M - 1) * H := Int.mul_nonneg (by omega) (by omega)
  refine ⟨?_, ?_, fun e => ?_⟩
  · apply Classical.byContradiction
    intro hc
    have : (R + 1) * (R + 1) ≤ (2 * M - 1) * H * ((2 * M - 1) * H) := Int.mul_le_mul (by omega) (by omega) (by omega) n1
    rw [sq] at this
    omega
  · apply Classical.byContradiction
    intro hc
    have : (2 * M + 1) * H * ((2 * M + 1) * H) ≤ R * R := Int.mul_le_mul (by omega) (by omega) (Int.mul_nonneg (by omega) (by omega)) r0
    rw [sq] at this
    omega
  · rw [e, sq]
    omega
end Go.Proofs.YthfjjkikeebopaaDoor
