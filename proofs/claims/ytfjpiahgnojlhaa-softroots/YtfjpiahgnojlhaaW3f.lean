/- What is known of a pattern by its kind. A number that is near by the page is packed. Package soft's Convert, leaf by leaf. What package soft's Convert answers, for every pattern of a format. Plain facts on what a pattern keeps of a number that is cut, and of a root told in another unit (no program in it). The document's Convert answers what package soft's answers, for every pattern of a format. Two patterns, held by the program and by the document: both say the same parts, or both refuse. The document's Sqrt answers what package soft's Sqrt answers, for every pattern of a format. The walk of SoftRoots: roots, and patterns of another format, are the page's. -/
import Derived.Test.YtfjpiahgnojlhaaP3q
import Derived.Test.YtfjpiahgnojlhaaN5m
import Derived.Test.YtfjpiahgnojlhaaM3c
import Derived.Test.YtfjpiahgnojlhaaS3v
import Derived.Test.YtfjpiahgnojlhaaS3b
import Derived.Test.YtfjpiahgnojlhaaL2d
import Derived.Test.YtfjpiahgnojlhaaS3y
import Derived.Test.YtfjpiahgnojlhaaN3m
import Derived.Test.YtfjpiahgnojlhaaL3a
namespace Go.Proofs.Ytfjpiahgnojlhaa
open Go.RowKit
set_option maxHeartbeats 400000
set_option linter.unusedVariables false

/-- what is known of a pattern by its kind -/
structure PatK (m x : Nat) (a K : Int) (n : Bool) (E M : Int) : Prop where
  kind : K = 1 ∨ K = 2 ∨ K = 3 ∨ K = 4
  zero : K = 1 → E = 0 ∧ M = 0 ∧ a = sgnW n (m + x)
  fin : K = 2 → FinP m x E M ∧ packP m x M E false + sgnW n (m + x) = a
  inf : K = 3 → a = infI m x n
theorem patK (m x : Nat) (a : Int) (hok : okF m x) (a0 : 0 ≤ a) (ha : bl a ≤ 1 + x + m) : PatK m x a (kindI m x a) (negI m x a) (expI m x a) (manI m x a) := by
  have hx : 2 ≤ x := by have := hok.2.2.1; omega
  exact ⟨kind_all m x a, fun h => kind_zero m x a a0 ha h, fun h => ⟨fin_of m x a hx h, (kind_fin m x a a0 ha hx h).1⟩, fun h => (kind_inf m x a a0 ha h).2.2⟩
end Go.Proofs.Ytfjpiahgnojlhaa
namespace Go.Proofs.Ytfjpiahgnojlhaa
open Go.RowKit
set_option maxHeartbeats 400000
set_option linter.unusedVariables false

theorem near_one (m x : Nat) (A e P : Int) (hA : 0 < A) (hx : 2 ≤ x) (h : IsNear m x A 1 e P) : P = packP m x A e false := by
  refine near_pack_gen m x A 1 e P A e false hA (by decide) hx (fun h => by cases h) h ?_ ?_ ?_
  · rw [show (e - e).toNat = 0 by omega, show p2 0 = 1 from rfl]; omega
  · rw [show (e - e).toNat = 0 by omega, show p2 0 = 1 from rfl]; omega
  · rw [show (e - e).toNat = 0 by omega, show p2 0 = 1 from rfl]; simp
end Go.Proofs.Ytfjpiahgnojlhaa
namespace Go.Proofs.Ytfjpiahgnojlhaa
open Go.RowKit
set_option maxRecDepth 100000
set_option maxHeartbeats 400000
set_option linter.unusedVariables false

theorem open_box2 (m x m2 x2 K E M : Int) (n : Bool) (w w1 : World) (hb : Below ((w.alloc (.cells #[.int .i64 m, .int .i64 x] 23)).alloc (.cells #[.int .i64 m2, .int .i64 x2] 23)).heap.size ((w.alloc (.cells #[.int .i64 m, .int .i64 x] 23)).alloc (.cells #[.int .i64 m2, .int .i64 x2] 23)) w1) :
    ∃ w5, w5 = w1.alloc (prt K n E M) ∧ Below w.heap.size w w5 ∧ w5.cell? ⟨w.heap.size + 1, 0, none⟩ = some (.int .i64 m2) ∧ w5.cell? ⟨w.heap.size + 1, 1, none⟩ = some (.int .i64 x2) ∧
      w5.cell? ⟨w1.heap.size, 0, none⟩ = some (.int .i64 K) ∧ w5.cell? ⟨w1.heap.size, 1, none⟩ = some (.bool n) ∧ w5.cell? ⟨w1.heap.size, 2, none⟩ = some (.int .i64 E) ∧ w5.cell? ⟨w1.heap.size, 3, none⟩ = some (.int .u64 M) := by
  have hW : Below w.heap.size w ((w.alloc (.cells #[.int .i64 m, .int .i64 x] 23)).alloc (.cells #[.int .i64 m2, .int .i64 x2] 23)) := ((Below.refl _ _).alloc (Nat.le_refl _) _).alloc (by simp) _
  have hB := hW.trans (hb.mono hW.size)
  have d0 : w1.cell? ⟨w.heap.size + 1, 0, none⟩ = some (.int .i64 m2) := cellLater hb (by simp)
  have d1 : w1.cell? ⟨w.heap.size + 1, 1, none⟩ = some (.int .i64 x2) := cellLater hb (by simp)
  have hZ : Below w1.heap.size w1 (w1.alloc (prt K n E M)) := (Below.refl _ _).alloc (Nat.le_refl _) _
  obtain ⟨p0, p1, p2, p3, -⟩ := ps_fresh w1 K E M n
  exact ⟨_, rfl, hB.trans (hZ.mono hB.size), cellLater hZ d0, cellLater hZ d1, p0, p1, p2, p3⟩
theorem pconv_err (m x m2 x2 a : Int) (w : World)
    (HO : Hid (∀ w, Calls Try.prog 39 #[.agg #[.int .i64 m, .int .i64 x], .int .u64 a] w fun r w' => r = .returned (.tuple #[partsV 0 false 0 0, .int .i64 1]) ∧ Below w.heap.size w w')) :
    Calls Try.prog 14 #[.agg #[.int .i64 m, .int .i64 x], .agg #[.int .i64 m2, .int .i64 x2], .int .u64 a] w fun r w' => r = .returned (.tuple #[.int .u64 0, .int .i64 1]) ∧ Below w.heap.size w w' := by
  go_enter Try.func14, Try.ntmps14
  go_wp2_with fail
  refine (HO.out _).mono ?_
  rintro r w1 ⟨rfl, hb1⟩
  have hW : Below w.heap.size w ((w.alloc (.cells #[.int .i64 m, .int .i64 x] 23)).alloc (.cells #[.int .i64 m2, .int .i64 x2] 23)) := ((Below.refl _ _).alloc (Nat.le_refl _) _).alloc (by simp) _
  have HB1 := hidden (hW.trans (hb1.mono hW.size))
  clear hb1 hW
  go_wp2
  go_ret2
  exact ⟨rfl, HB1.out.alloc HB1.out.size _⟩
theorem pconv_no (m x m2 x2 a K E M : Int) (n : Bool) (w : World)
    (HO : Hid (∀ w, Calls Try.prog 39 #[.agg #[.int .i64 m, .int .i64 x], .int .u64 a] w fun r w' => r = .returned (.tuple #[partsV K n E M, .int .i64 0]) ∧ Below w.heap.size w w'))
    (HC : Hid (∀ w, Calls Try.prog 46 #[.agg #[.int .i64 m2, .int .i64 x2]] w fun r w' => r = .returned (.int .i64 1) ∧ Below w.heap.size w w'))
    : Calls Try.prog 14 #[.agg #[.int .i64 m, .int .i64 x], .agg #[.int .i64 m2, .int .i64 x2], .int .u64 a] w fun r w' => r = .returned (.tuple #[.int .u64 0, .int .i64 1]) ∧ Below w.heap.size w w' := by
  go_enter Try.func14, Try.ntmps14
  go_wp2_with fail
  refine (HO.out _).mono ?_
  rintro r w1 ⟨rfl, hb1⟩
  obtain ⟨w5, hw5, hx, c0, c1, p0, p1, p2', p3⟩ := open_box2 m x m2 x2 K E M n w w1 hb1
  have HB := hidden hx
  clear hx hb1
  go_upto_region 2 with fail
  change Code.wp _ _ _ _ (w1.alloc (prt K n E M))
  rw [← hw5]
  clear hw5
  go_wp2_with (first | (go_at_call 46; refine (HC.out _).mono ?_; rintro r w9 ⟨rfl, hb⟩; have zz := six_on hb ⟨c0, c1, p0, p1, p2', p3⟩; clear c0 c1 p0 p1 p2' p3; obtain ⟨c0, c1, p0, p1, p2', p3⟩ := zz; have HB := hidden (HB.out.trans (hb.mono HB.out.size)); clear hb))
  go_ret2
  exact ⟨rfl, HB.out⟩
theorem pconv_nan (m x m2 x2 a K E M R : Int) (n : Bool) (w : World)
    (HO : Hid (∀ w, Calls Try.prog 39 #[.agg #[.int .i64 m, .int .i64 x], .int .u64 a] w fun r w' => r = .returned (.tuple #[partsV K n E M, .int .i64 0]) ∧ Below w.heap.size w w'))
    (HC : Hid (∀ w, Calls Try.prog 46 #[.agg #[.int .i64 m2, .int .i64 x2]] w fun r w' => r = .returned (.int .i64 0) ∧ Below w.heap.size w w'))
    (HN : Hid (∀ w, Calls Try.prog 20 #[.agg #[.int .i64 m2, .int .i64 x2]] w fun r w' => r = .returned (.int .u64 R) ∧ Below w.heap.size w w'))
    (k4 : (K == 4) = true)
    : Calls Try.prog 14 #[.agg #[.int .i64 m, .int .i64 x], .agg #[.int .i64 m2, .int .i64 x2], .int .u64 a] w fun r w' => r = .returned (.tuple #[.int .u64 R, .int .i64 0]) ∧ Below w.heap.size w w' := by
  go_enter Try.func14, Try.ntmps14
  go_wp2_with fail
  refine (HO.out _).mono ?_
  rintro r w1 ⟨rfl, hb1⟩
  obtain ⟨w5, hw5, hx, c0, c1, p0, p1, p2', p3⟩ := open_box2 m x m2 x2 K E M n w w1 hb1
  have HB := hidden hx
  clear hx hb1
  go_upto_region 2 with fail
  change Code.wp _ _ _ _ (w1.alloc (prt K n E M))
  rw [← hw5]
  clear hw5
  go_wp2_with (first | (go_at_call 46; refine (HC.out _).mono ?_; rintro r w9 ⟨rfl, hb⟩; have zz := six_on hb ⟨c0, c1, p0, p1, p2', p3⟩; clear c0 c1 p0 p1 p2' p3; obtain ⟨c0, c1, p0, p1, p2', p3⟩ := zz; have HB := hidden (HB.out.trans (hb.mono HB.out.size)); clear hb) | (go_at_call 20; refine (HN.out _).mono ?_; rintro r w9 ⟨rfl, hb⟩; have zz := six_on hb ⟨c0, c1, p0, p1, p2', p3⟩; clear c0 c1 p0 p1 p2' p3; obtain ⟨c0, c1, p0, p1, p2', p3⟩ := zz; have HB := hidden (HB.out.trans (hb.mono HB.out.size)); clear hb))
  go_ret2
  exact ⟨rfl, HB.out⟩
theorem pconv_inf (m x m2 x2 a K E M R : Int) (n : Bool) (w : World)
    (HO : Hid (∀ w, Calls Try.prog 39 #[.agg #[.int .i64 m, .int .i64 x], .int .u64 a] w fun r w' => r = .returned (.tuple #[partsV K n E M, .int .i64 0]) ∧ Below w.heap.size w w'))
    (HC : Hid (∀ w, Calls Try.prog 46 #[.agg #[.int .i64 m2, .int .i64 x2]] w fun r w' => r = .returned (.int .i64 0) ∧ Below w.heap.size w w'))
    (HI : Hid (∀ w, Calls Try.prog 21 #[.agg #[.int .i64 m2, .int .i64 x2], .bool n] w fun r w' => r = .returned (.int .u64 R) ∧ Below w.heap.size w w'))
    (k4 : (K == 4) = false)
    (k3 : (K == 3) = true)
    : Calls Try.prog 14 #[.agg #[.int .i64 m, .int .i64 x], .agg #[.int .i64 m2, .int .i64 x2], .int .u64 a] w fun r w' => r = .returned (.tuple #[.int .u64 R, .int .i64 0]) ∧ Below w.heap.size w w' := by
  go_enter Try.func14, Try.ntmps14
  go_wp2_with fail
  refine (HO.out _).mono ?_
  rintro r w1 ⟨rfl, hb1⟩
  obtain ⟨w5, hw5, hx, c0, c1, p0, p1, p2', p3⟩ := open_box2 m x m2 x2 K E M n w w1 hb1
  have HB := hidden hx
  clear hx hb1
  go_upto_region 2 with fail
  change Code.wp _ _ _ _ (w1.alloc (prt K n E M))
  rw [← hw5]
  clear hw5
  go_wp2_with (first | (go_at_call 46; refine (HC.out _).mono ?_; rintro r w9 ⟨rfl, hb⟩; have zz := six_on hb ⟨c0, c1, p0, p1, p2', p3⟩; clear c0 c1 p0 p1 p2' p3; obtain ⟨c0, c1, p0, p1, p2', p3⟩ := zz; have HB := hidden (HB.out.trans (hb.mono HB.out.size)); clear hb) | (go_at_call 21; refine (HI.out _).mono ?_; rintro r w9 ⟨rfl, hb⟩; have zz := six_on hb ⟨c0, c1, p0, p1, p2', p3⟩; clear c0 c1 p0 p1 p2' p3; obtain ⟨c0, c1, p0, p1, p2', p3⟩ := zz; have HB := hidden (HB.out.trans (hb.mono HB.out.size)); clear hb))
  go_ret2
  exact ⟨rfl, HB.out⟩
theorem pconv_zero (m x m2 x2 a K E M R : Int) (n : Bool) (w : World)
    (HO : Hid (∀ w, Calls Try.prog 39 #[.agg #[.int .i64 m, .int .i64 x], .int .u64 a] w fun r w' => r = .returned (.tuple #[partsV K n E M, .int .i64 0]) ∧ Below w.heap.size w w'))
    (HC : Hid (∀ w, Calls Try.prog 46 #[.agg #[.int .i64 m2, .int .i64 x2]] w fun r w' => r = .returned (.int .i64 0) ∧ Below w.heap.size w w'))
    (HZ : Hid (∀ w, Calls Try.prog 22 #[.agg #[.int .i64 m2, .int .i64 x2], .bool n] w fun r w' => r = .returned (.int .u64 R) ∧ Below w.heap.size w w'))
    (k4 : (K == 4) = false)
    (k3 : (K == 3) = false)
    (k1 : (K == 1) = true)
    : Calls Try.prog 14 #[.agg #[.int .i64 m, .int .i64 x], .agg #[.int .i64 m2, .int .i64 x2], .int .u64 a] w fun r w' => r = .returned (.tuple #[.int .u64 R, .int .i64 0]) ∧ Below w.heap.size w w' := by
  go_enter Try.func14, Try.ntmps14
  go_wp2_with fail
  refine (HO.out _).mono ?_
  rintro r w1 ⟨rfl, hb1⟩
  obtain ⟨w5, hw5, hx, c0, c1, p0, p1, p2', p3⟩ := open_box2 m x m2 x2 K E M n w w1 hb1
  have HB := hidden hx
  clear hx hb1
  go_upto_region 2 with fail
  change Code.wp _ _ _ _ (w1.alloc (prt K n E M))
  rw [← hw5]
  clear hw5
  go_wp2_with (first | (go_at_call 46; refine (HC.out _).mono ?_; rintro r w9 ⟨rfl, hb⟩; have zz := six_on hb ⟨c0, c1, p0, p1, p2', p3⟩; clear c0 c1 p0 p1 p2' p3; obtain ⟨c0, c1, p0, p1, p2', p3⟩ := zz; have HB := hidden (HB.out.trans (hb.mono HB.out.size)); clear hb) | (go_at_call 22; refine (HZ.out _).mono ?_; rintro r w9 ⟨rfl, hb⟩; have zz := six_on hb ⟨c0, c1, p0, p1, p2', p3⟩; clear c0 c1 p0 p1 p2' p3; obtain ⟨c0, c1, p0, p1, p2', p3⟩ := zz; have HB := hidden (HB.out.trans (hb.mono HB.out.size)); clear hb))
  go_ret2
  exact ⟨rfl, HB.out⟩
theorem pconv_fin (m x m2 x2 a K E M R : Int) (n : Bool) (w : World)
    (HO : Hid (∀ w, Calls Try.prog 39 #[.agg #[.int .i64 m, .int .i64 x], .int .u64 a] w fun r w' => r = .returned (.tuple #[partsV K n E M, .int .i64 0]) ∧ Below w.heap.size w w'))
    (HC : Hid (∀ w, Calls Try.prog 46 #[.agg #[.int .i64 m2, .int .i64 x2]] w fun r w' => r = .returned (.int .i64 0) ∧ Below w.heap.size w w'))
    (HP : Hid (∀ w, Calls Try.prog 24 #[.agg #[.int .i64 m2, .int .i64 x2], .bool n, .int .u64 0, .int .u64 M, .int .i64 E, .bool false] w fun r w' => r = .returned (.tuple #[.int .u64 R, .int .i64 0]) ∧ Below w.heap.size w w'))
    (k4 : (K == 4) = false)
    (k3 : (K == 3) = false)
    (k1 : (K == 1) = false)
    : Calls Try.prog 14 #[.agg #[.int .i64 m, .int .i64 x], .agg #[.int .i64 m2, .int .i64 x2], .int .u64 a] w fun r w' => r = .returned (.tuple #[.int .u64 R, .int .i64 0]) ∧ Below w.heap.size w w' := by
  go_enter Try.func14, Try.ntmps14
  go_wp2_with fail
  refine (HO.out _).mono ?_
  rintro r w1 ⟨rfl, hb1⟩
  obtain ⟨w5, hw5, hx, c0, c1, p0, p1, p2', p3⟩ := open_box2 m x m2 x2 K E M n w w1 hb1
  have HB := hidden hx
  clear hx hb1
  go_upto_region 2 with fail
  change Code.wp _ _ _ _ (w1.alloc (prt K n E M))
  rw [← hw5]
  clear hw5
  go_wp2_with (first | (go_at_call 46; refine (HC.out _).mono ?_; rintro r w9 ⟨rfl, hb⟩; have zz := six_on hb ⟨c0, c1, p0, p1, p2', p3⟩; clear c0 c1 p0 p1 p2' p3; obtain ⟨c0, c1, p0, p1, p2', p3⟩ := zz; have HB := hidden (HB.out.trans (hb.mono HB.out.size)); clear hb) | (go_at_call 24; refine (HP.out _).mono ?_; rintro r w9 ⟨rfl, hb⟩; have zz := six_on hb ⟨c0, c1, p0, p1, p2', p3⟩; clear c0 c1 p0 p1 p2' p3; obtain ⟨c0, c1, p0, p1, p2', p3⟩ := zz; have HB := hidden (HB.out.trans (hb.mono HB.out.size)); clear hb))
  go_ret2
  exact ⟨rfl, HB.out⟩
end Go.Proofs.Ytfjpiahgnojlhaa
namespace Go.Proofs.Ytfjpiahgnojlhaa
open Go.RowKit
set_option maxRecDepth 100000
set_option maxHeartbeats 400000
set_option linter.unusedVariables false

def convK (m x : Nat) (K : Int) (n : Bool) (E M : Int) : Int := if K = 4 then nanI m x else if K = 3 then infI m x n else if K = 1 then sgnW n (m + x) else packP m x M E false + sgnW n (m + x)
theorem nan_bd (m x : Nat) (hm : 1 ≤ m) : 0 ≤ nanI m x ∧ nanI m x < p2 (m + x) := by
  have h1 : (p2 x - 1) * p2 m = p2 (m + x) - p2 m := by rw [Int.sub_mul, Int.one_mul, ← p2_add, Nat.add_comm x m]
  have h2 : p2 m = 2 * p2 (m - 1) := by rw [← p2_succ]; congr 1; omega
  have h3 := p2_pos (m - 1)
  have h4 : p2 m ≤ p2 (m + x) := p2_mono (by omega)
  unfold nanI
  omega
theorem inf_bd (m x : Nat) (n : Bool) : 0 ≤ infI m x n ∧ infI m x n < p2 (m + x + 1) := by
  have h1 : (p2 x - 1) * p2 m = p2 (m + x) - p2 m := by rw [Int.sub_mul, Int.one_mul, ← p2_add, Nat.add_comm x m]
  have h3 := p2_pos m
  have h4 : p2 m ≤ p2 (m + x) := p2_mono (by omega)
  rw [p2_succ]
  unfold infI sgnW
  cases n <;> simp <;> omega
theorem pack_lt (m x : Nat) (N e : Int) (more s : Bool) (hN : 0 ≤ N) (hx : 2 ≤ x) : 0 ≤ packP m x N e more + sgnW s (m + x) ∧ packP m x N e more + sgnW s (m + x) < p2 (m + x + 1) := by
  obtain ⟨h0, h1⟩ := pack_bd m x N e more hN hx
  have h2 : (p2 x - 1) * p2 m = p2 (m + x) - p2 m := by rw [Int.sub_mul, Int.one_mul, ← p2_add, Nat.add_comm x m]
  have h3 := p2_pos m
  rw [p2_succ]
  unfold sgnW
  cases s <;> simp <;> omega
theorem sgn_lt (k : Nat) (s : Bool) : 0 ≤ sgnW s k ∧ sgnW s k < p2 (k + 1) := by
  have := p2_pos k
  rw [p2_succ]
  unfold sgnW
  cases s <;> simp <;> omega
theorem conv_bd (m x m2 x2 : Nat) (a K E M : Int) (n : Bool) (hok2 : okF m2 x2) (g : PatK m x a K n E M) : 0 ≤ convK m2 x2 K n E M ∧ convK m2 x2 K n E M < p2 (m2 + x2 + 1) := by
  have hx : 2 ≤ x2 := by have := hok2.2.2.1; omega
  have hm : 1 ≤ m2 := by have := hok2.1; omega
  rcases g.kind with rfl | rfl | rfl | rfl
  · exact sgn_lt _ n
  · have h := (g.fin rfl).1.1
    exact pack_lt m2 x2 M E false n (by omega) hx
  · exact inf_bd m2 x2 n
  · have h := nan_bd m2 x2 hm
    have := p2_mono (show m2 + x2 ≤ m2 + x2 + 1 by omega)
    change 0 ≤ nanI m2 x2 ∧ nanI m2 x2 < _
    omega
theorem pconv_k (m x m2 x2 : Nat) (a K E M : Int) (n : Bool) (w : World) (hok : okF m x) (hok2 : okF m2 x2) (g : PatK m x a K n E M) (HO : Open1C m x a K n E M) :
    Calls Try.prog 14 #[.agg #[.int .i64 (m : Int), .int .i64 (x : Int)], .agg #[.int .i64 (m2 : Int), .int .i64 (x2 : Int)], .int .u64 a] w fun r w' => r = .returned (.tuple #[.int .u64 (convK m2 x2 K n E M), .int .i64 0]) ∧ Below w.heap.size w w' := by
  have HC : Hid (∀ w, Calls Try.prog 46 #[.agg #[.int .i64 (m2 : Int), .int .i64 (x2 : Int)]] w fun r w' => r = .returned (.int .i64 0) ∧ Below w.heap.size w w') := hidden fun w => by
    refine (pcheck_ok m2 x2 w hok2).mono ?_
    rintro r w' ⟨rfl, rfl⟩
    exact ⟨rfl, (Below.refl _ _).alloc (Nat.le_refl _) _⟩
  rcases g.kind with rfl | rfl | rfl | rfl
  · exact pconv_zero m x m2 x2 a 1 E M _ n w HO HC (hidden fun w => pzero_any m2 x2 n w hok2) rfl rfl rfl
  · obtain ⟨f, -⟩ := g.fin rfl
    obtain ⟨r1, r2, r3, r4⟩ := f.rng hok
    exact pconv_fin m x m2 x2 a 2 E M _ n w HO HC (hidden fun w => ppack_any m2 x2 n false M 0 M E w hok2 (by omega) (by omega) (by omega) (by omega) (by omega) (by omega) (by omega) (fun h => by cases h)) rfl rfl rfl
  · exact pconv_inf m x m2 x2 a 3 E M _ n w HO HC (hidden fun w => pinf_any m2 x2 n w hok2) rfl rfl
  · exact pconv_nan m x m2 x2 a 4 E M _ n w HO HC (hidden fun w => pnan_any m2 x2 w hok2) rfl
end Go.Proofs.Ytfjpiahgnojlhaa
namespace Go.Proofs.Ytfjpiahgnojlhaa
open Go.RowKit
set_option maxHeartbeats 400000
set_option linter.unusedVariables false

theorem rnd_half (N : Int) (k : Nat) (more : Bool) (hk : 2 ≤ k) : rnd N k more = rnd (N / 2) (k - 1) (more || decide (N % 2 ≠ 0)) := by
  have e : p2 (k - 1) = 2 * p2 (k - 1 - 1) := by rw [← p2_succ]; congr 1; omega
  have hP := p2_pos (k - 1 - 1)
  unfold rnd
  rw [e]
  generalize p2 (k - 1 - 1) = P at *
  have d1 : N / (2 * P) = N / 2 / P := (Int.ediv_ediv_of_nonneg (show (0 : Int) ≤ 2 by decide)).symm
  have d2 : N % (2 * P) ≠ 0 ↔ (N / 2 % P ≠ 0 ∨ N % 2 ≠ 0) := by
    have h1 := Int.mul_ediv_add_emod N (2 * P)
    have h2 := Int.mul_ediv_add_emod (N / 2) P
    have h3 := Int.mul_ediv_add_emod N 2
    rw [d1] at h1
    have h4 := Int.emod_nonneg (N / 2) (show P ≠ 0 by omega)
    rw [Int.mul_assoc] at h1
    generalize P * (N / 2 / P) = U at *
    omega
  rw [d1]
  have d3 : (more = true ∨ N % (2 * P) ≠ 0 ∨ N / 2 / P / 2 % 2 = 1) ↔ ((more || decide (N % 2 ≠ 0)) = true ∨ N / 2 % P ≠ 0 ∨ N / 2 / P / 2 % 2 = 1) := by
    rw [d2, Bool.or_eq_true, decide_eq_true_iff]
    constructor
    · rintro (h | (h | h) | h)
      · exact .inl (.inl h)
      · exact .inr (.inl h)
      · exact .inl (.inr h)
      · exact .inr (.inr h)
    · rintro ((h | h) | h | h)
      · exact .inl h
      · exact .inr (.inl (.inr h))
      · exact .inr (.inl (.inl h))
      · exact .inr (.inr h)
  simp only [d3]
theorem bl_half (N : Int) (h : 0 < N / 2) : bl N = bl (N / 2) + 1 := by
  rcases (show N = 2 * (N / 2) ∨ N = 2 * (N / 2) + 1 by omega) with e | e
  · have := bl_two (N / 2) h
    rw [← e] at this
    exact this
  · have := bl_two_one (N / 2) h
    rw [← e] at this
    exact this
theorem bl_pos_of {N : Int} {k : Nat} (h : k + 1 ≤ bl N) : 0 < N := by
  rcases Int.lt_or_le 0 N with hN | hN
  · exact hN
  · have : bl N = 0 := by unfold bl; rw [if_pos hN]
    omega
theorem pack_half (m x : Nat) (N e : Int) (more : Bool) (h : m + 3 ≤ bl (N / 2)) : packP m x N e more = packP m x (N / 2) (e + 1) (more || decide (N % 2 ≠ 0)) := by
  have h0 : 0 < N / 2 := bl_pos_of (k := m + 2) h
  have hb := bl_half N h0
  rw [packP_pos _ _ _ _ _ (show 0 < N by omega), packP_pos _ _ _ _ _ h0, hb]
  have e1 : unitI m x (bl (N / 2) + 1) e = unitI m x (bl (N / 2)) (e + 1) := by unfold unitI; congr 1; omega
  have hu : e + 1 + bl (N / 2) - 1 - m ≤ unitI m x (bl (N / 2)) (e + 1) := by unfold unitI; omega
  rw [e1, show e + ((bl (N / 2) + 1 : Nat) : Int) - 1 = e + 1 + bl (N / 2) - 1 by omega]
  generalize unitI m x (bl (N / 2)) (e + 1) = U at *
  unfold unitsI
  rw [if_neg (show ¬ U - e ≤ 0 by omega), if_neg (show ¬ U - (e + 1) ≤ 0 by omega), rnd_half N _ more (by omega), show (U - e).toNat - 1 = (U - (e + 1)).toNat by omega]
/-- the lowest d bits cut off, and remembered -/
theorem pack_cut (m x : Nat) (N e : Int) (more : Bool) (d : Nat) (h : m + 3 ≤ bl (N / p2 d)) : packP m x N e more = packP m x (N / p2 d) (e + d) (more || decide (N % p2 d ≠ 0)) := by
  induction d with
  | zero =>
    rw [show p2 0 = 1 from rfl, Int.ediv_one, Int.emod_one]
    simp
  | succ d ih =>
    have hN : 0 < N / p2 (d + 1) := bl_pos_of (k := m + 2) h
    have e1 : N / p2 (d + 1) = N / p2 d / 2 := (half_step N d).symm
    have h1 : m + 3 ≤ bl (N / p2 d) := by
      have := bl_half (N / p2 d) (by rw [← e1]; exact hN)
      rw [← e1] at this
      omega
    rw [ih h1, pack_half m x (N / p2 d) (e + d) _ (by rw [← e1]; exact h), ← e1, show e + ((d + 1 : Nat) : Int) = e + d + 1 by omega]
    congr 1
    have hP := p2_pos d
    have d2 : N % p2 (d + 1) ≠ 0 ↔ (N % p2 d ≠ 0 ∨ N / p2 d % 2 ≠ 0) := by
      have g1 := Int.mul_ediv_add_emod N (p2 (d + 1))
      have g2 := Int.mul_ediv_add_emod N (p2 d)
      have g3 : N / p2 d = 2 * (N / p2 d / 2) + N / p2 d % 2 := by omega
      rw [e1, p2_succ] at g1
      rw [p2_succ]
      have g4 := Int.emod_nonneg N (show p2 d ≠ 0 by omega)
      have g5 : p2 d * (N / p2 d) = 2 * p2 d * (N / p2 d / 2) + p2 d * (N / p2 d % 2) := by
        rw [show p2 d * (N / p2 d) = p2 d * (2 * (N / p2 d / 2) + N / p2 d % 2) by rw [← g3], Int.mul_add, ← Int.mul_assoc, Int.mul_comm (p2 d) 2]
      rcases (show N / p2 d % 2 = 0 ∨ N / p2 d % 2 = 1 by omega) with g | g
      · rw [g] at g5 ⊢
        rw [Int.mul_zero] at g5
        generalize 2 * p2 d * (N / p2 d / 2) = U at *
        omega
      · rw [g] at g5 ⊢
        rw [Int.mul_one] at g5
        generalize 2 * p2 d * (N / p2 d / 2) = U at *
        omega
    simp only [d2]
    cases more <;> by_cases ha : N % p2 d = 0 <;> by_cases hb : N / p2 d % 2 = 0 <;> simp [ha, hb]
/-- a root told in a coarser unit -/
theorem root_cut (X R r : Int) (d : Nat) (hR : IsRoot (X * (p2 d * p2 d)) R) (hr : IsRoot X r) : r = R / p2 d ∧ (r * r ≠ X ↔ (R * R ≠ X * (p2 d * p2 d) ∨ R % p2 d ≠ 0)) := by
  obtain ⟨R0, R1, R2⟩ := hR
  have hP := p2_pos d
  have hPP : 0 < p2 d * p2 d := Int.mul_pos hP hP
  have g1 := Int.mul_ediv_add_emod R (p2 d)
  have g2 := Int.emod_nonneg R (show p2 d ≠ 0 by omega)
  have g3 := Int.emod_lt_of_pos R hP
  have q0 : 0 ≤ R / p2 d := Int.ediv_nonneg R0 (by omega)
  have sq : ∀ a : Int, p2 d * a * (p2 d * a) = a * a * (p2 d * p2 d) := fun a => by
    rw [Int.mul_comm (p2 d) a, Int.mul_assoc, Int.mul_left_comm (p2 d) a, ← Int.mul_assoc]
  have k : IsRoot X (R / p2 d) := by
    refine ⟨q0, ?_, ?_⟩
    · have h1 : p2 d * (R / p2 d) ≤ R := by omega
      have h2 := sq_le (Int.mul_nonneg (Int.le_of_lt hP) q0) h1
      rw [sq] at h2
      have h3 := Int.le_trans h2 R1
      rcases Int.lt_or_le X (R / p2 d * (R / p2 d)) with h | h
      · have := Int.mul_lt_mul_of_pos_right h hPP
        omega
      · exact h
    · have h1 : R + 1 ≤ p2 d * (R / p2 d + 1) := by rw [Int.mul_add]; omega
      have h2 := sq_le (show (0 : Int) ≤ R + 1 by omega) h1
      rw [sq] at h2
      have h3 := Int.lt_of_lt_of_le R2 h2
      rcases Int.lt_or_le X ((R / p2 d + 1) * (R / p2 d + 1)) with h | h
      · exact h
      · have := Int.mul_le_mul_of_nonneg_right h (Int.le_of_lt hPP)
        omega
  have e := hr.uniq k
  refine ⟨e, ?_⟩
  by_cases hz : R % p2 d = 0
  · have e2 : R = p2 d * r := by rw [e]; omega
    have e3 : R * R = r * r * (p2 d * p2 d) := by rw [e2, sq]
    rw [e3]
    constructor
    · intro h
      left
      intro h4
      exact h (Int.eq_of_mul_eq_mul_right (by omega) h4)
    · rintro (h | h) h4
      · exact h (by rw [h4])
      · exact h hz
  · constructor
    · intro _
      exact .inr hz
    · intro _ h4
      apply hz
      have e5 : IsRoot (X * (p2 d * p2 d)) (p2 d * r) := by
        refine ⟨Int.mul_nonneg (Int.le_of_lt hP) hr.1, ?_, ?_⟩
        · rw [sq, h4]; exact Int.le_refl _
        · have h5 := sq r
          rw [h4] at h5
          rw [← h5]
          have h6 : 0 ≤ p2 d * r := Int.mul_nonneg (Int.le_of_lt hP) hr.1
          rw [Int.add_mul, Int.mul_add, Int.mul_one, Int.one_mul]
          omega
      have e6 := IsRoot.uniq ⟨R0, R1, R2⟩ e5
      rw [e6]
      exact Int.mul_emod_right _ _
/-- what the page reckons of a root (X told in an even power e of 2) is what the finer root R gives -/
theorem root_pack (m x : Nat) (X R r e : Int) (d : Nat) (hR : IsRoot (X * (p2 d * p2 d)) R) (hr : IsRoot X r) (hb : m + 3 ≤ bl r) :
    packP m x r (e + d) (decide (r * r ≠ X)) = packP m x R e (decide (R * R ≠ X * (p2 d * p2 d))) := by
  obtain ⟨h1, h2⟩ := root_cut X R r d hR hr
  rw [pack_cut m x R e _ d (by rw [← h1]; exact hb), ← h1]
  congr 1
  rw [show (decide (r * r ≠ X)) = decide (R * R ≠ X * (p2 d * p2 d) ∨ R % p2 d ≠ 0) from decide_eq_decide.2 h2]
  by_cases ha : R * R = X * (p2 d * p2 d) <;> by_cases hc : R % p2 d = 0 <;> simp [ha, hc]
end Go.Proofs.Ytfjpiahgnojlhaa
namespace Go.Proofs.Ytfjpiahgnojlhaa
open Go.RowKit
set_option maxRecDepth 100000
set_option maxHeartbeats 400000
set_option linter.unusedVariables false

abbrev ROpenV (m x : Nat) (a K : Int) (n : Bool) (E M : Int) : Prop := Hid (∀ w, Calls Try.prog 41 #[.agg #[.int .i64 (m : Int), .int .i64 (x : Int)], .int .u64 a] w fun r w' => r = .returned (.tuple #[partsV K n E M, .int .i64 0]) ∧ Below w.heap.size w w')
theorem rconv_k (m x m2 x2 : Nat) (a K E M : Int) (n : Bool) (w : World) (hok : okF m x) (hok2 : okF m2 x2) (g : PatK m x a K n E M) (HO : ROpenV m x a K n E M) :
    Calls Try.prog 15 #[.agg #[.int .i64 (m : Int), .int .i64 (x : Int)], .agg #[.int .i64 (m2 : Int), .int .i64 (x2 : Int)], .int .u64 a] w fun r w' => r = .returned (.tuple #[.int .u64 (convK m2 x2 K n E M), .int .i64 0]) ∧ Below w.heap.size w w' := by
  have hx : 2 ≤ x2 := by have := hok2.2.2.1; omega
  have hm : m2 ≤ 52 := by have := hok2.2.1; omega
  have hm1 : 1 ≤ m2 := by have := hok2.1; omega
  have hx11 : x2 ≤ 11 := by have := hok2.2.2.2; omega
  have HC : Hid (∀ w, Calls Try.prog 47 #[.agg #[.int .i64 (m2 : Int), .int .i64 (x2 : Int)]] w fun r w' => r = .returned (.int .i64 0) ∧ Below w.heap.size w w') := hidden fun w => by
    refine (check_ok m2 x2 w hok2).mono ?_
    rintro r w' ⟨rfl, rfl⟩
    exact ⟨rfl, (Below.refl _ _).alloc (Nat.le_refl _) _⟩
  rcases g.kind with rfl | rfl | rfl | rfl
  · obtain ⟨rfl, rfl, -⟩ := g.zero rfl
    refine (rconv_num m x m2 x2 a 1 0 0 n w hok2 (by omega) (by omega) (by omega) HO HC rfl rfl).mono ?_
    rintro r w' ⟨P, rfl, hP, hb⟩
    have h0 : P = 0 := by rcases hP with h | h <;> omega
    refine ⟨?_, hb⟩
    rw [h0]
    simp [convK]
  · obtain ⟨f, -⟩ := g.fin rfl
    obtain ⟨r1, r2, r3, r4⟩ := f.rng hok
    refine (rconv_num m x m2 x2 a 2 E M n w hok2 (by omega) (by omega) (by omega) HO HC rfl rfl).mono ?_
    rintro r w' ⟨P, rfl, hP, hb⟩
    rcases hP with h | h
    · omega
    · refine ⟨?_, hb⟩
      rw [near_one m2 x2 M E P h.1 hx h.2]
      simp [convK]
  · exact rconv_inf m x m2 x2 a 3 E M _ n w HO HC (hidden fun w => inf_any m2 x2 n w hm hx11) rfl rfl
  · exact rconv_nan m x m2 x2 a 4 E M _ n w HO HC (hidden fun w => nan_any m2 x2 w hm hm1 hx11) rfl
end Go.Proofs.Ytfjpiahgnojlhaa
namespace Go.Proofs.Ytfjpiahgnojlhaa
open Go.RowKit
set_option maxRecDepth 100000
set_option maxHeartbeats 400000
set_option linter.unusedVariables false

abbrev ROpen2 (m x : Nat) (a b K1 : Int) (n1 : Bool) (E1 M1 K2 : Int) (n2 : Bool) (E2 M2 : Int) : Prop := Hid (∀ w, Calls Try.prog 25 #[.agg #[.int .i64 (m : Int), .int .i64 (x : Int)], .int .u64 a, .int .u64 b] w fun r w' => r = .returned (.tuple #[partsV K1 n1 E1 M1, partsV K2 n2 E2 M2, .int .i64 0]) ∧ Below w.heap.size w w')
abbrev BothErr (F : Nat) (m x a b : Int) : Prop := Hid (∀ w, Calls Try.prog F #[.agg #[.int .i64 m, .int .i64 x], .int .u64 a, .int .u64 b] w fun r w' => r = .returned (.tuple #[partsV 0 false 0 0, partsV 0 false 0 0, .int .i64 1]) ∧ Below w.heap.size w w')
abbrev ROpenC1 (m x : Nat) (a K : Int) (n : Bool) (E M : Int) : Prop := Hid (∀ w, Calls Try.prog 41 #[.agg #[.int .i64 (m : Int), .int .i64 (x : Int)], .int .u64 a] w fun r w' => r = .returned (.tuple #[partsV K n E M, .int .i64 0]) ∧ Below w.heap.size w w')
abbrev OpenErr (F : Nat) (m x a : Int) : Prop := Hid (∀ w, Calls Try.prog F #[.agg #[.int .i64 m, .int .i64 x], .int .u64 a] w fun r w' => r = .returned (.tuple #[partsV 0 false 0 0, .int .i64 1]) ∧ Below w.heap.size w w')
theorem ropen_one (m x : Nat) (a : Int) (hok : okF m x) (a0 : 0 ≤ a) (a1 : a ≤ 18446744073709551615) (ha : bl a ≤ 1 + x + m) : ROpenC1 m x a (kindI m x a) (negI m x a) (expI m x a) (manI m x a) := hidden fun w => ropen_any m x a w hok a0 a1 ha
theorem ropen_one_big (m x : Nat) (a : Int) (hok : okF m x) (a0 : 0 ≤ a) (a1 : a ≤ 18446744073709551615) (ha : 1 + x + m < bl a) : OpenErr 41 m x a := hidden fun w => ropen_big m x a _ _ w hok a0 a1 rfl rfl (top_big m x a a0 ha)
/-- one pattern -/
theorem open_one (m x a : Int) (a0 : 0 ≤ a) (a1 : a ≤ 18446744073709551615) :
    (∃ (m' x' : Nat) (K E M : Int) (n : Bool), m = m' ∧ x = x' ∧ okF m' x' ∧ bl a ≤ 1 + x' + m' ∧ PatK m' x' a K n E M ∧ Open1C m' x' a K n E M ∧ ROpenC1 m' x' a K n E M) ∨ (OpenErr 39 m x a ∧ OpenErr 41 m x a) := by
  by_cases hok : okF m x
  · obtain ⟨m, rfl⟩ := Int.eq_ofNat_of_zero_le (show 0 ≤ m by have := hok.1; omega)
    obtain ⟨x, rfl⟩ := Int.eq_ofNat_of_zero_le (show 0 ≤ x by have := hok.2.2.1; omega)
    by_cases ha : bl a ≤ 1 + x + m
    · exact .inl ⟨m, x, _, _, _, _, rfl, rfl, hok, ha, patK m x a hok a0 ha, popen1 m x a hok a0 a1 ha, ropen_one m x a hok a0 a1 ha⟩
    · exact .inr ⟨hidden fun w => popen_big m x a w hok a0 a1 (by omega), ropen_one_big m x a hok a0 a1 (by omega)⟩
  · exact .inr ⟨hidden fun w => popen_no m x a w hok, hidden fun w => ropen_no m x a w hok⟩
/-- two patterns -/
theorem open_both (m x a b : Int) (a0 : 0 ≤ a) (a1 : a ≤ 18446744073709551615) (b0 : 0 ≤ b) (b1 : b ≤ 18446744073709551615) :
    (∃ (m' x' : Nat) (K1 E1 M1 K2 E2 M2 : Int) (n1 n2 : Bool), m = m' ∧ x = x' ∧ okF m' x' ∧ bl a ≤ 1 + x' + m' ∧ bl b ≤ 1 + x' + m' ∧ PatK m' x' a K1 n1 E1 M1 ∧ PatK m' x' b K2 n2 E2 M2 ∧ OpenC m' x' a b K1 n1 E1 M1 K2 n2 E2 M2 ∧ ROpen2 m' x' a b K1 n1 E1 M1 K2 n2 E2 M2) ∨
    (BothErr 18 m x a b ∧ BothErr 25 m x a b) := by
  by_cases hok : okF m x
  · obtain ⟨m, rfl⟩ := Int.eq_ofNat_of_zero_le (show 0 ≤ m by have := hok.1; omega)
    obtain ⟨x, rfl⟩ := Int.eq_ofNat_of_zero_le (show 0 ≤ x by have := hok.2.2.1; omega)
    by_cases ha : bl a ≤ 1 + x + m
    · by_cases hb : bl b ≤ 1 + x + m
      · exact .inl ⟨m, x, _, _, _, _, _, _, _, _, rfl, rfl, hok, ha, hb, patK m x a hok a0 ha, patK m x b hok b0 hb, popen2 m x a b hok a0 a1 ha b0 b1 hb, hidden fun w => open2_any m x a b _ _ _ _ _ _ _ _ w (ropen_one m x a hok a0 a1 ha) (ropen_one m x b hok b0 b1 hb)⟩
      · exact .inr ⟨hidden fun w => pboth2_no2 m x a b _ _ _ _ w (popen1 m x a hok a0 a1 ha) (hidden fun w => popen_big m x b w hok b0 b1 (by omega)), hidden fun w => open2_no m x a b _ _ _ 0 0 0 0 1 _ false w (.inr ⟨rfl, rfl⟩) (ropen_one m x a hok a0 a1 ha) (ropen_one_big m x b hok b0 b1 (by omega))⟩
    · refine .inr ⟨hidden fun w => pboth2_no1 m x a b w (hidden fun w => popen_big m x a w hok a0 a1 (by omega)), hidden fun w => ?_⟩
      by_cases hb : bl b ≤ 1 + x + m
      · exact open2_no m x a b 0 0 0 _ _ _ 1 0 false _ w (.inl ⟨rfl, .inl rfl⟩) (ropen_one_big m x a hok a0 a1 (by omega)) (ropen_one m x b hok b0 b1 hb)
      · exact open2_no m x a b 0 0 0 0 0 0 1 1 false false w (.inl ⟨rfl, .inr rfl⟩) (ropen_one_big m x a hok a0 a1 (by omega)) (ropen_one_big m x b hok b0 b1 (by omega))
  · exact .inr ⟨hidden fun w => pboth2_no1 m x a b w (hidden fun w => popen_no m x a w hok), hidden fun w => open2_no m x a b 0 0 0 0 0 0 1 1 false false w (.inl ⟨rfl, .inr rfl⟩) (hidden fun w => ropen_no m x a w hok) (hidden fun w => ropen_no m x b w hok)⟩
end Go.Proofs.Ytfjpiahgnojlhaa
namespace Go.Proofs.Ytfjpiahgnojlhaa
open Go.RowKit
set_option maxRecDepth 100000
set_option maxHeartbeats 400000
set_option linter.unusedVariables false

abbrev ROpenS (m x : Nat) (a K : Int) (n : Bool) (E M : Int) : Prop := Hid (∀ w, Calls Try.prog 41 #[.agg #[.int .i64 (m : Int), .int .i64 (x : Int)], .int .u64 a] w fun r w' => r = .returned (.tuple #[partsV K n E M, .int .i64 0]) ∧ Below w.heap.size w w')
theorem sqrt_same (m x : Nat) (E M R rt P : Int) (k : Nat) (hx : 2 ≤ x) (hm : m ≤ 52) (hM0 : 0 < M) (hM1 : M < 9007199254740992) (hbl : bl M ≤ m + 1) (hR : IsRoot (rootS E M * 18446744073709551616) R) (hr : IsRoot (M * p2 k) rt) (hpar : (E - k) % 2 = 0) (h8 : 2 * m + 8 ≤ bl M + k) (h9 : bl M + k ≤ 2 * m + 9)
    (hP : IsNear m x (2 * rt + (if rt * rt < M * p2 k then 1 else 0)) 1 ((E - k) / 2 - 1) P) : P = packP m x R (rootE E M) (decide (R * R ≠ rootS E M * 18446744073709551616)) := by
  obtain ⟨u1, u2, u3, u4⟩ := upE_ok E M hM0 (by omega)
  have ub : 63 ≤ upE E M + bl M := by unfold upE; split <;> omega
  obtain ⟨d, hd⟩ : ∃ d : Nat, upE E M + 64 = k + (d + d) := ⟨(upE E M + 64 - k) / 2, by omega⟩
  have hX0 : 0 < M * p2 k := Int.mul_pos hM0 (p2_pos k)
  have hlow : p2 (2 * m + 7) ≤ M * p2 k := by
    obtain ⟨b0, b1, b2⟩ := bl_bd M hM0
    have h1 := Int.mul_le_mul_of_nonneg_right b1 (Int.le_of_lt (p2_pos k))
    rw [← p2_add] at h1
    exact Int.le_trans (p2_mono (by omega)) h1
  have hb : m + 3 ≤ bl rt := by
    have h1 : p2 (m + 3) ≤ rt := by
      rcases Int.lt_or_le rt (p2 (m + 3)) with h | h
      · exfalso
        have h2 := sq_le (show (0 : Int) ≤ rt + 1 by have := hr.1; omega) (show rt + 1 ≤ p2 (m + 3) by omega)
        rw [← p2_add, show m + 3 + (m + 3) = 2 * m + 6 by omega] at h2
        have h3 := hr.2.2
        have h4 := p2_mono (show 2 * m + 6 ≤ 2 * m + 7 by omega)
        omega
      · exact h
    have := lt_bl h1
    omega
  have hrt : 0 < rt := bl_pos_of (k := m + 2) hb
  have hne : (rt * rt < M * p2 k) ↔ (rt * rt ≠ M * p2 k) := by have := hr.2.1; omega
  have e1 : P = packP m x rt ((E - k) / 2) (decide (rt * rt ≠ M * p2 k)) := by
    refine near_pack m x rt ((E - k) / 2) P _ hrt hx (fun _ => hb) ?_
    by_cases h : rt * rt < M * p2 k
    · rw [if_pos h] at hP
      rw [decide_eq_true (hne.1 h)]
      exact hP
    · rw [if_neg h] at hP
      rw [decide_eq_false (fun h' => h (hne.2 h'))]
      exact hP
  have e2 : rootS E M * 18446744073709551616 = M * p2 k * (p2 d * p2 d) := by
    unfold rootS
    rw [show (18446744073709551616 : Int) = p2 64 by decide +kernel, Int.mul_assoc, ← p2_add, hd, p2_add, p2_add, ← Int.mul_assoc]
  have e3 : (E - k) / 2 = rootE E M + d := by unfold rootE; omega
  rw [e1, e3, e2]
  rw [e2] at hR
  exact root_pack m x (M * p2 k) R rt (rootE E M) d hR hr hb
theorem rsqrt_k (m x : Nat) (a K E M R : Int) (n : Bool) (w : World) (hok : okF m x) (g : PatK m x a K n E M) (hR : K = 2 → IsRoot (rootS E M * 18446744073709551616) R) (HO : ROpenS m x a K n E M) :
    Calls Try.prog 13 #[.agg #[.int .i64 (m : Int), .int .i64 (x : Int)], .int .u64 a] w fun r w' => r = .returned (.tuple #[.int .u64 (sqrtK m x a K n E M R), .int .i64 0]) ∧ Below w.heap.size w w' := by
  have hx : 2 ≤ x := by have := hok.2.2.1; omega
  have hm : m ≤ 52 := by have := hok.2.1; omega
  have hm1 : 1 ≤ m := by have := hok.1; omega
  have hx11 : x ≤ 11 := by have := hok.2.2.2; omega
  have HN : Hid (∀ w, Calls Try.prog 26 #[.agg #[.int .i64 (m : Int), .int .i64 (x : Int)]] w fun r w' => r = .returned (.int .u64 (nanI m x)) ∧ Below w.heap.size w w') := hidden fun w => nan_any m x w hm hm1 hx11
  rcases g.kind with rfl | rfl | rfl | rfl
  · rw [show sqrtK m x a 1 n E M R = a by simp [sqrtK]]
    exact rsqrt_self m x a 1 E M n w rfl (by cases n; exact .inl rfl; exact .inr ⟨rfl, rfl⟩) rfl HO
  · cases n
    · obtain ⟨f, -⟩ := g.fin rfl
      obtain ⟨r1, r2, r3, r4⟩ := f.rng hok
      have hblm : bl M ≤ m + 1 := bl_le (by omega) f.2.1
      refine (rsqrt_fin m x a E M w hok r3 r4 hblm r1 r2 HO).mono ?_
      rintro r w' ⟨k, rt, P, h1, h2, h3, h4, h5, rfl, hb⟩
      refine ⟨?_, hb⟩
      rw [sqrt_same m x E M R rt P k hx hm r3 r4 hblm (hR rfl) h1 h2 h3 h4 h5]
      simp [sqrtK, sgnW]
    · rw [show sqrtK m x a 2 true E M R = nanI m x by simp [sqrtK]]
      exact rsqrt_nan m x a 2 E M _ true w (.inr ⟨rfl, rfl, rfl⟩) HO HN
  · cases n
    · rw [show sqrtK m x a 3 false E M R = a by simp [sqrtK]]
      exact rsqrt_self m x a 3 E M false w rfl (.inl rfl) rfl HO
    · rw [show sqrtK m x a 3 true E M R = nanI m x by simp [sqrtK]]
      exact rsqrt_nan m x a 3 E M _ true w (.inr ⟨rfl, rfl, rfl⟩) HO HN
  · rw [show sqrtK m x a 4 n E M R = nanI m x by simp [sqrtK]]
    exact rsqrt_nan m x a 4 E M _ n w (.inl rfl) HO HN
end Go.Proofs.Ytfjpiahgnojlhaa
namespace Go.Proofs.Ytfjpiahgnojlhaa
open Go.RowKit
set_option maxRecDepth 100000
set_option maxHeartbeats 1000000
set_option linter.unusedVariables false

abbrev One1R (F : Nat) (m x a R g : Int) : Prop := Hid (∀ w, Calls Try.prog F #[.agg #[.int .i64 m, .int .i64 x], .int .u64 a] w fun r w' => r = .returned (.tuple #[.int .u64 R, .int .i64 g]) ∧ Below w.heap.size w w')
abbrev ConR (F : Nat) (m x m2 x2 a R g : Int) : Prop := Hid (∀ w, Calls Try.prog F #[.agg #[.int .i64 m, .int .i64 x], .agg #[.int .i64 m2, .int .i64 x2], .int .u64 a] w fun r w' => r = .returned (.tuple #[.int .u64 R, .int .i64 g]) ∧ Below w.heap.size w w')
theorem roots_same (m x a : Int) (a0 : 0 ≤ a) (a1 : a ≤ 18446744073709551615) :
    ∃ R g, (g = 0 ∨ g = 1) ∧ One1R 12 m x a R g ∧ One1R 13 m x a R g := by
  rcases open_one m x a a0 a1 with ⟨m, x, K, E, M, n, rfl, rfl, hok, ha, g, HO, HR⟩ | ⟨HO, HR⟩
  · by_cases h2 : K = 2
    · obtain ⟨f, -⟩ := g.fin h2
      obtain ⟨r1, r2, r3, r4⟩ := f.rng hok
      have hS : 0 ≤ rootS E M * 18446744073709551616 := Int.mul_nonneg (Int.mul_nonneg (by omega) (Int.le_of_lt (p2_pos _))) (by decide)
      obtain ⟨R, hR⟩ := root_ex_i _ hS
      exact ⟨_, 0, .inl rfl, hidden fun w => psqrt_k m x a K E M R n w hok g.kind (fun h => (g.fin h).1) (fun _ => hR) HO, hidden fun w => rsqrt_k m x a K E M R n w hok g (fun _ => hR) HR⟩
    · exact ⟨_, 0, .inl rfl, hidden fun w => psqrt_k m x a K E M 0 n w hok g.kind (fun h => (g.fin h).1) (fun h => absurd h h2) HO, hidden fun w => rsqrt_k m x a K E M 0 n w hok g (fun h => absurd h h2) HR⟩
  · exact ⟨0, 1, .inr rfl, hidden fun w => psqrt_err m x a w HO, hidden fun w => rsqrt_err m x a w HR⟩
theorem convs_same (m x m2 x2 a : Int) (a0 : 0 ≤ a) (a1 : a ≤ 18446744073709551615) :
    ∃ R g, (g = 0 ∨ g = 1) ∧ ConR 14 m x m2 x2 a R g ∧ ConR 15 m x m2 x2 a R g := by
  rcases open_one m x a a0 a1 with ⟨m, x, K, E, M, n, rfl, rfl, hok, ha, g, HO, HR⟩ | ⟨HO, HR⟩
  · by_cases hok2 : okF m2 x2
    · obtain ⟨m2, rfl⟩ := Int.eq_ofNat_of_zero_le (show 0 ≤ m2 by have := hok2.1; omega)
      obtain ⟨x2, rfl⟩ := Int.eq_ofNat_of_zero_le (show 0 ≤ x2 by have := hok2.2.2.1; omega)
      exact ⟨_, 0, .inl rfl, hidden fun w => pconv_k m x m2 x2 a K E M n w hok hok2 g HO, hidden fun w => rconv_k m x m2 x2 a K E M n w hok hok2 g HR⟩
    · refine ⟨0, 1, .inr rfl, hidden fun w => pconv_no m x m2 x2 a K E M n w HO (hidden fun w => ?_), hidden fun w => rconv_no m x m2 x2 a K E M n w HR (hidden fun w => ?_)⟩
      · refine (pcheck_no m2 x2 w hok2).mono ?_
        rintro r w' ⟨rfl, rfl⟩
        exact ⟨rfl, (Below.refl _ _).alloc (Nat.le_refl _) _⟩
      · refine (check_no m2 x2 w hok2).mono ?_
        rintro r w' ⟨rfl, rfl⟩
        exact ⟨rfl, (Below.refl _ _).alloc (Nat.le_refl _) _⟩
  · exact ⟨0, 1, .inr rfl, hidden fun w => pconv_err m x m2 x2 a w HO, hidden fun w => rconv_err m x m2 x2 a w HR⟩
theorem softRoots_one (m x m2 x2 a R g S h : Int) (w : World) (hg : g = 0 ∨ g = 1) (hh : h = 0 ∨ h = 1) (H1 : One1R 12 m x a R g) (H2 : One1R 13 m x a R g) (H3 : ConR 14 m x m2 x2 a S h) (H4 : ConR 15 m x m2 x2 a S h) :
    Calls Try.prog 4 #[.agg #[.int .i64 m, .int .i64 x], .agg #[.int .i64 m2, .int .i64 x2], .int .u64 a] w fun r w' => r = .returned (.bool true) ∧ Below w.heap.size w w' := by
  have HL := hidden live_any
  have HM1 : Hid (∀ w, Calls Try.prog 10 #[.int .i64 g] w fun r w' => r = .returned (.int .i64 g) ∧ w' = w) := hidden (fun w => num_any g w (by omega) (by omega))
  have HM2 : Hid (∀ w, Calls Try.prog 10 #[.int .i64 h] w fun r w' => r = .returned (.int .i64 h) ∧ w' = w) := hidden (fun w => num_any h w (by omega) (by omega))
  clear hg hh
  have hW : Below (w.alloc (.cells #[.int .i64 m, .int .i64 x] 23)).heap.size (w.alloc (.cells #[.int .i64 m, .int .i64 x] 23)) ((w.alloc (.cells #[.int .i64 m, .int .i64 x] 23)).alloc (.cells #[.int .i64 m2, .int .i64 x2] 23)) := (Below.refl _ _).alloc (Nat.le_refl _) _
  have c0 : ((w.alloc (.cells #[.int .i64 m, .int .i64 x] 23)).alloc (.cells #[.int .i64 m2, .int .i64 x2] 23)).cell? ⟨w.heap.size, 0, none⟩ = some (.int .i64 m) := cellLater hW (by simp)
  have c1 : ((w.alloc (.cells #[.int .i64 m, .int .i64 x] 23)).alloc (.cells #[.int .i64 m2, .int .i64 x2] 23)).cell? ⟨w.heap.size, 1, none⟩ = some (.int .i64 x) := cellLater hW (by simp)
  have d0 : ((w.alloc (.cells #[.int .i64 m, .int .i64 x] 23)).alloc (.cells #[.int .i64 m2, .int .i64 x2] 23)).cell? ⟨w.heap.size + 1, 0, none⟩ = some (.int .i64 m2) := by simp
  have d1 : ((w.alloc (.cells #[.int .i64 m, .int .i64 x] 23)).alloc (.cells #[.int .i64 m2, .int .i64 x2] 23)).cell? ⟨w.heap.size + 1, 1, none⟩ = some (.int .i64 x2) := by simp
  have HB := hidden (((Below.refl w.heap.size w).alloc (Nat.le_refl _) (.cells #[.int .i64 m, .int .i64 x] 23)).alloc (by simp) (.cells #[.int .i64 m2, .int .i64 x2] 23))
  clear hW
  go_enter Try.func4, Try.ntmps4
  go_upto_region 1 with fail
  generalize (w.alloc (.cells #[.int .i64 m, .int .i64 x] 23)).alloc (.cells #[.int .i64 m2, .int .i64 x2] 23) = w5 at *
  go_wp2_with (first | (go_at_call 12; refine (H1.out _).mono ?_; rintro r w9 ⟨rfl, hb⟩; have c0 := cellLater hb c0; have c1 := cellLater hb c1; have d0 := cellLater hb d0; have d1 := cellLater hb d1; have HB := hidden (HB.out.trans (hb.mono HB.out.size)); clear hb) | (go_at_call 13; refine (H2.out _).mono ?_; rintro r w9 ⟨rfl, hb⟩; have c0 := cellLater hb c0; have c1 := cellLater hb c1; have d0 := cellLater hb d0; have d1 := cellLater hb d1; have HB := hidden (HB.out.trans (hb.mono HB.out.size)); clear hb) | (go_at_call 14; refine (H3.out _).mono ?_; rintro r w9 ⟨rfl, hb⟩; have c0 := cellLater hb c0; have c1 := cellLater hb c1; have d0 := cellLater hb d0; have d1 := cellLater hb d1; have HB := hidden (HB.out.trans (hb.mono HB.out.size)); clear hb) | (go_at_call 15; refine (H4.out _).mono ?_; rintro r w9 ⟨rfl, hb⟩; have c0 := cellLater hb c0; have c1 := cellLater hb c1; have d0 := cellLater hb d0; have d1 := cellLater hb d1; have HB := hidden (HB.out.trans (hb.mono HB.out.size)); clear hb) | (go_at_call_of 10 (Value.int IntKind.i64 g); refine (HM1.out _).mono ?_; rintro r w9 ⟨rfl, hw⟩; obtain rfl := hw.symm) | (go_at_call_of 10 (Value.int IntKind.i64 h); refine (HM2.out _).mono ?_; rintro r w9 ⟨rfl, hw⟩; obtain rfl := hw.symm) | (go_at_call 11; refine (HL.out _).mono ?_; rintro r w9 ⟨rfl, hb⟩; have HB := hidden (HB.out.trans (hb.mono HB.out.size)); clear hb))
  go_ret
  exact ⟨rfl, HB.out⟩
theorem softRoots_walk (a0 b0 a1 b1 a2 : Int) (w : World) (w0 : (Lit.int .i64 a0).wf = true) (x0 : (Lit.int .i64 b0).wf = true) (w1 : (Lit.int .i64 a1).wf = true) (x1 : (Lit.int .i64 b1).wf = true) (w2 : (Lit.int .u64 a2).wf = true) :
    Calls Try.prog 4 #[.agg #[.int .i64 a0, .int .i64 b0], .agg #[.int .i64 a1, .int .i64 b1], .int .u64 a2] w fun r w' => r = .returned (.bool true) ∧ Below w.heap.size w w' := by
  have c2 := bounds_u64 w2
  obtain ⟨R, g, hg, H1, H2⟩ := roots_same a0 b0 a2 c2.1 c2.2
  obtain ⟨S, h, hh, H3, H4⟩ := convs_same a0 b0 a1 b1 a2 c2.1 c2.2
  exact softRoots_one a0 b0 a1 b1 a2 R g S h w hg hh H1 H2 H3 H4
end Go.Proofs.Ytfjpiahgnojlhaa
