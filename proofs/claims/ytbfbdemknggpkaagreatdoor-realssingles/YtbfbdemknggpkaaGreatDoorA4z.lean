/- The document's Sub (package grottoref03). Contract of the document's whole (package grottoref03): a number's part ahead of the point. The document's step (package grottoref03): the next whole number on one side. The document's Ceil and Floor (package grottoref03). The document's Whole (package grottoref03), leaf by leaf. The document's Mod (package grottoref03): where nothing is divided. A number that is near by the page is packed. The document's Add answers what package soft's Add answers, for every two patterns of a format. Two patterns, held by the program and by the document: both say the same parts, or both refuse. The document's Mul and Div answer what package soft's answer, for every two patterns of a format. Plain facts on what a pattern keeps of a number that is cut, and of a root told in another unit (no program in it). Plain arithmetic for comparisons (no program in it): patterns stand in the order of their numbers. The document's Mod answers what package soft's Mod answers, for every two patterns of a format. The document's Sqrt answers what package soft's Sqrt answers, for every pattern of a format. The document's step and Whole answer what package soft's answer, for every pattern of a format. Plain facts on kinds and signs of patterns (no program in it). Plain facts on patterns: what lies below the sign, the sign turned, sums in range, and what a finite number's own pattern says (no program in it). Plain facts: what is reckoned of patterns is a pattern of the format (no program in it). The document's small functions for layer 4 (package grottoref04): Format, Of, Int. The document's Reckon (package grottoref04), by its operations. RealsSingles and RealsDoubles: what is reckoned of any two singles and of any two doubles is the page's. -/
import Derived.Test.YtbfbdemknggpkaaGreatDoorS3ij
import Derived.Test.YtbfbdemknggpkaaGreatDoorS3e
import Derived.Test.YtbfbdemknggpkaaGreatDoorS3c
import Derived.Test.YtbfbdemknggpkaaGreatDoorN5m
import Derived.Test.YtbfbdemknggpkaaGreatDoorR4x
import Derived.Test.YtbfbdemknggpkaaGreatDoorS3b
import Derived.Test.YtbfbdemknggpkaaGreatDoorL2d
import Derived.Test.YtbfbdemknggpkaaGreatDoorS3r
import Derived.Test.YtbfbdemknggpkaaGreatDoorM3c
import Derived.Test.YtbfbdemknggpkaaGreatDoorS3w
import Derived.Test.YtbfbdemknggpkaaGreatDoorS3y
import Derived.Test.YtbfbdemknggpkaaGreatDoorN3m
import Derived.Test.YtbfbdemknggpkaaGreatDoorV3
import Derived.Test.YtbfbdemknggpkaaGreatDoorK3
import Derived.Test.YtbfbdemknggpkaaGreatDoorN3a
namespace Go.Proofs.YtbfbdemknggpkaaGreatDoor
open Go.RowKit
set_option maxRecDepth 100000
set_option maxHeartbeats 1000000
set_option linter.unusedVariables false

theorem rsub_err (m x a b : Int) (w : World)
    (HO : Hid (∀ w, Calls Tryz.prog 42 #[.agg #[.int .i64 m, .int .i64 x], .int .u64 b] w fun r w' => r = .returned (.tuple #[partsV 0 false 0 0, .int .i64 1]) ∧ Below w.heap.size w w')) :
    Calls Tryz.prog 13 #[.agg #[.int .i64 m, .int .i64 x], .int .u64 a, .int .u64 b] w fun r w' => r = .returned (.tuple #[.int .u64 0, .int .i64 1]) ∧ Below w.heap.size w w' := by
  go_enter Tryz.func13, Tryz.ntmps13
  go_wp2_with fail
  refine (HO.out _).mono ?_
  rintro r w1 ⟨rfl, hb1⟩
  have HB1 := hidden (box_below _ hb1)
  clear hb1
  go_wp2
  go_ret2
  exact ⟨rfl, HB1.out.alloc HB1.out.size _⟩
theorem rsub_walk (m x a b TB R g K E M : Int) (n : Bool) (w : World)
    (HO : Hid (∀ w, Calls Tryz.prog 42 #[.agg #[.int .i64 m, .int .i64 x], .int .u64 b] w fun r w' => r = .returned (.tuple #[partsV K n E M, .int .i64 0]) ∧ Below w.heap.size w w'))
    (HT : Hid (∀ w, Calls Tryz.prog 43 #[.agg #[.int .i64 m, .int .i64 x], .int .u64 b] w fun r w' => r = .returned (.int .u64 TB) ∧ Below w.heap.size w w'))
    (HA : Hid (∀ w, Calls Tryz.prog 12 #[.agg #[.int .i64 m, .int .i64 x], .int .u64 a, .int .u64 TB] w fun r w' => r = .returned (.tuple #[.int .u64 R, .int .i64 g]) ∧ Below w.heap.size w w')) :
    Calls Tryz.prog 13 #[.agg #[.int .i64 m, .int .i64 x], .int .u64 a, .int .u64 b] w fun r w' => r = .returned (.tuple #[.int .u64 R, .int .i64 g]) ∧ Below w.heap.size w w' := by
  go_enter Tryz.func13, Tryz.ntmps13
  go_wp2_with fail
  refine (HO.out _).mono ?_
  rintro r w1 ⟨rfl, hb1⟩
  have d0 : w1.cell? ⟨w.heap.size, 0, none⟩ = some (.int .i64 m) := cellLater hb1 (by simp)
  have d1 : w1.cell? ⟨w.heap.size, 1, none⟩ = some (.int .i64 x) := cellLater hb1 (by simp)
  have hZ : Below w1.heap.size w1 (w1.alloc (.cells #[.int .i64 K, .bool n, .int .i64 E, .int .u64 M] 53)) := (Below.refl _ _).alloc (Nat.le_refl _) _
  have c0 := cellLater hZ d0
  have c1 := cellLater hZ d1
  have hB := box_below _ hb1
  have HB := hidden (hB.trans (hZ.mono hB.size))
  clear hB hZ hb1 d0 d1
  go_upto_region 2 with fail
  change Code.wp _ _ _ _ (w1.alloc (.cells #[.int .i64 K, .bool n, .int .i64 E, .int .u64 M] 53))
  generalize w1.alloc (.cells #[.int .i64 K, .bool n, .int .i64 E, .int .u64 M] 53) = w5 at *
  go_upto_region 4 with fail
  go_region_held3 (fun w' => w'.cell? ⟨w.heap.size, 0, none⟩ = some (.int .i64 m) ∧ w'.cell? ⟨w.heap.size, 1, none⟩ = some (.int .i64 x)) (go_keep) (first | (go_at_call 43; refine (HT.out _).mono ?_; rintro r w9 ⟨rfl, hb⟩; have c0 : w9.cell? ⟨w.heap.size, 0, none⟩ = some (.int .i64 m) := cellLater hb (by go_keep); have c1 : w9.cell? ⟨w.heap.size, 1, none⟩ = some (.int .i64 x) := cellLater hb (by go_keep); have HB : Hid (Below w.heap.size w w9) := hidden (by first | exact HB.out.trans (hb.mono HB.out.size) | exact HB.out.drew.trans (hb.mono HB.out.drew.size)); clear hb) | (go_at_call 12; refine (HA.out _).mono ?_; rintro r w9 ⟨rfl, hb⟩; have c0 : w9.cell? ⟨w.heap.size, 0, none⟩ = some (.int .i64 m) := cellLater hb (by go_keep); have c1 : w9.cell? ⟨w.heap.size, 1, none⟩ = some (.int .i64 x) := cellLater hb (by go_keep); have HB : Hid (Below w.heap.size w w9) := hidden (by first | exact HB.out.trans (hb.mono HB.out.size) | exact HB.out.drew.trans (hb.mono HB.out.drew.size)); clear hb))
  all_goals
    go_wp2
    go_ret2
    exact ⟨rfl, by first | exact HB.out | exact HB.out.drew⟩
end Go.Proofs.YtbfbdemknggpkaaGreatDoor
namespace Go.Proofs.YtbfbdemknggpkaaGreatDoor
open Go.RowKit
set_option maxRecDepth 100000
set_option maxHeartbeats 400000
set_option linter.unusedVariables false

def WholeRet (w : World) (N : Int) (beh : Bool) (L : Nat) (r : Ending) (w' : World) : Prop := ∃ a l c ds, r = .returned (.tuple #[.slice a l c, .bool beh]) ∧ HasNat w' a l c ds N ∧ l ≤ L ∧ Below w.heap.size w w'
theorem up_has {w : World} {a : Option Addr} {l c : Nat} {ds : List Int} {N : Int} (h : HasNat w a l c ds N) (n : Nat) (hl : (l : Int) ≤ 20000) (hn : (n : Int) ≤ 100000) :
    Calls Tryz.prog 48 #[.slice a l c, .int .i64 n] w fun r w' => ∃ a2 l2 c2 d2, r = .returned (.slice a2 l2 c2) ∧ HasNat w' a2 l2 c2 d2 (N * p2 n) ∧ l2 ≤ n / 16 + l + 1 ∧ Below w.heap.size w w' := by
  refine (up_any a l c ds n w h.rd h.ok hl hn).mono ?_
  rintro r w' ⟨a2, l2, c2, d2, rfl, r2, k2, v2, lb, t2, hb, -⟩
  rw [h.val] at v2
  exact ⟨a2, l2, c2, d2, rfl, ⟨r2, k2, v2, t2⟩, lb, hb⟩
theorem natOf_has (x : Int) (w : World) (x0 : 0 ≤ x) (x1 : x ≤ 18446744073709551615) :
    Calls Tryz.prog 45 #[.int .u64 x] w fun r w' => ∃ a2 l2 c2 d2, r = .returned (.slice a2 l2 c2) ∧ HasNat w' a2 l2 c2 d2 x ∧ l2 ≤ 4 ∧ Below w.heap.size w w' := by
  refine (natOf_any x w x0 x1).mono ?_
  rintro r w' ⟨a2, l2, c2, d2, rfl, r2, k2, v2, lb, t2, hb, -⟩
  exact ⟨a2, l2, c2, d2, rfl, ⟨r2, k2, v2, t2⟩, lb, hb⟩
theorem one_has (w : World) : Calls Tryz.prog 41 #[] w fun r w' => ∃ a2 l2 c2 d2, r = .returned (.slice a2 l2 c2) ∧ HasNat w' a2 l2 c2 d2 1 ∧ l2 ≤ 1 ∧ Below w.heap.size w w' := by
  refine (one_any w).mono ?_
  rintro r w' ⟨rfl, rfl⟩
  exact ⟨_, _, _, [1], rfl, ⟨rd_one w, fun d hd => by simp at hd; omega, by simp [nv], .inr (by decide)⟩, Nat.le_refl _, (Below.refl _ _).alloc (Nat.le_refl _) _⟩
theorem whole_up (K M : Int) (n near : Bool) (k : Nat) (w : World) (hk : (k : Int) ≤ 3000) (m0 : 0 ≤ M) (m1 : M ≤ 18446744073709551615) :
    Calls Tryz.prog 79 #[partsV K n (k : Int) M, .bool near] w fun r w' => WholeRet w (M * p2 k) false (k / 16 + 5) r w' := by
  obtain ⟨f0, f1, f2, f3, -⟩ := ps_fresh w K (k : Int) M n
  have HB := hidden (((Below.refl w.heap.size w).alloc (Nat.le_refl _) (.cells #[.int .i64 K, .bool n, .int .i64 (k : Int), .int .u64 M] 53)))
  have hk0 : (0 : Int) ≤ k := by omega
  go_enter Tryz.func79, Tryz.ntmps79
  go_upto_region 1 with fail
  change Code.wp _ _ _ _ (w.alloc (.cells #[.int .i64 K, .bool n, .int .i64 (k : Int), .int .u64 M] 53))
  generalize w.alloc (.cells #[.int .i64 K, .bool n, .int .i64 (k : Int), .int .u64 M] 53) = w5 at *
  go_upto_region 2 with fail
  go_region_held3 (fun w' => w'.cell? ⟨w.heap.size, 2, none⟩ = some (.int .i64 (k : Int)) ∧ w'.cell? ⟨w.heap.size, 3, none⟩ = some (.int .u64 M)) (go_keep) (first | (go_at_call 45; refine (natOf_has M w5.drew m0 m1).mono ?_; rintro r w6 ⟨a6, l6, c6, d6, rfl, h6, hl6, hb6⟩; have f2 := cellLater hb6 (cellLater ((Below.refl _ _).drew) f2); have f3 := cellLater hb6 (cellLater ((Below.refl _ _).drew) f3); have H6 := hidden h6; have HB6 := hidden (HB.out.drew.trans (hb6.mono HB.out.drew.size)); clear h6 hb6) | (go_at_call 48; refine (up_has H6.out k (by omega) (by omega)).mono ?_; rintro r w7 ⟨a7, l7, c7, d7, rfl, h7, hl7, hb7⟩; have f2 := cellLater hb7 f2; have f3 := cellLater hb7 f3; have H7 := hidden h7; have HB7 := hidden (HB6.out.trans (hb7.mono HB6.out.size)); clear h7 hb7))
  all_goals
    go_wp2
    go_ret2
    exact ⟨a7, l7, c7, d7, rfl, H7.out, by omega, HB7.out⟩
theorem div_is2 {N b q r : Int} (h : b * q + r = N) (r0 : 0 ≤ r) (r1 : r < b) : N / b = q ∧ N % b = r := by
  rw [← h, Int.add_comm, Int.add_mul_ediv_left _ _ (by omega), Int.add_mul_emod_self_left, Int.ediv_eq_zero_of_lt r0 r1, Int.emod_eq_of_lt r0 r1]
  omega
theorem whole_cut (K E M : Int) (n : Bool) (k : Nat) (w : World) (hk : -E = k) (hk0 : 0 < k) (hk1 : (k : Int) ≤ 3000) (m0 : 0 ≤ M) (m1 : M ≤ 18446744073709551615) :
    Calls Tryz.prog 79 #[partsV K n E M, .bool false] w fun r w' => WholeRet w (M / p2 k) (decide (M % p2 k ≠ 0)) 4 r w' := by
  obtain ⟨f0, f1, f2, f3, -⟩ := ps_fresh w K E M n
  have HB := hidden (((Below.refl w.heap.size w).alloc (Nat.le_refl _) (.cells #[.int .i64 K, .bool n, .int .i64 E, .int .u64 M] 53)))
  have hE : ¬ 0 ≤ E := by omega
  have hw : IntKind.i64.wrap (-E) = k := by rw [wrapi _ (by omega) (by omega)]; exact hk
  have hkn : (0 : Int) ≤ k := by omega
  have HKE := hidden hk
  clear hk
  go_enter Tryz.func79, Tryz.ntmps79
  go_upto_region 1 with fail
  change Code.wp _ _ _ _ (w.alloc (.cells #[.int .i64 K, .bool n, .int .i64 E, .int .u64 M] 53))
  generalize w.alloc (.cells #[.int .i64 K, .bool n, .int .i64 E, .int .u64 M] 53) = w5 at *
  go_upto_region 3 with fail
  go_region_held3 (fun w' => w'.cell? ⟨w.heap.size, 2, none⟩ = some (.int .i64 E) ∧ w'.cell? ⟨w.heap.size, 3, none⟩ = some (.int .u64 M)) (go_keep) (first | (go_at_call 41; refine (one_has w5.drew).mono ?_; rintro r w6 ⟨a6, l6, c6, d6, rfl, h6, hl6, hb6⟩; have f2 := cellLater hb6 (cellLater ((Below.refl _ _).drew) f2); have f3 := cellLater hb6 (cellLater ((Below.refl _ _).drew) f3); have H6 := hidden h6; have HB6 := hidden (HB.out.drew.trans (hb6.mono HB.out.drew.size)); clear h6 hb6) | (go_at_call 48; refine (up_has H6.out k (by omega) (by omega)).mono ?_; rintro r w7 ⟨a7, l7, c7, d7, rfl, h7, hl7, hb7⟩; have f2 := cellLater hb7 f2; have f3 := cellLater hb7 f3; rw [Int.one_mul] at h7; have H7 := hidden h7; have HB7 := hidden (HB6.out.trans (hb7.mono HB6.out.size)); clear h7 hb7))
  all_goals
    go_wp2_with fail
    refine (natOf_has M _ m0 m1).mono ?_
    rintro r w8 ⟨a8, l8, c8, d8, rfl, h8, hl8, hb8⟩
    have HD8 := hidden (H7.out.later hb8)
    have H8 := hidden h8
    have HB8 := hidden (HB7.out.trans (hb8.mono HB7.out.size))
    clear h8 hb8
    go_wp2_with fail
    refine (quo_any a8 a7 l8 c8 l7 c7 d8 d7 M (p2 k) _ H8.out HD8.out (p2_pos k) (by omega) (by omega)).mono ?_
    rintro r w9 ⟨aq, lq, cq, dq, ar, lr, cr, dr, Q, R, rfl, hq, hr, hqr, hlt, hlq, hlr, hb9⟩
    obtain ⟨eQ, eR⟩ := div_is2 (N := M) (b := p2 k) (q := Q) (r := R) (by rw [Int.mul_comm (p2 k) Q]; exact hqr) hr.nonneg hlt
    have hlq4 : lq ≤ 4 := by
      have := hq.len_le H8.out (by rw [← eQ]; exact Int.ediv_le_self _ m0)
      omega
    have HQ := hidden hq
    have HR := hidden hr
    have HD9 := hidden (HD8.out.later hb9)
    have HB9 := hidden (HB8.out.trans (hb9.mono HB8.out.size))
    have hRn := hr.nonneg
    have HE := hidden eQ
    have HE2 := hidden eR
    have HLT := hidden hlt
    clear hq hr hqr hlt hb9 eQ eR hlq
    have hbeh : Hid (decide (0 < bl R) = decide (M % p2 k ≠ 0)) := hidden (by
      rw [HE2.out]
      refine decide_eq_decide.2 ⟨fun h h0 => ?_, fun h => ?_⟩
      · rw [h0, bl_zero] at h; omega
      · have := (bl_bd R (by omega)).1; omega)
    go_wp2_with (go_at_call 39; refine (bits_bl HR.out (by omega)).mono ?_; rintro r w10 ⟨rfl, hw10⟩; obtain rfl := hw10.symm)
    go_ret2
    refine ⟨aq, lq, cq, dq, ?_, by rw [HE.out]; exact HQ.out, hlq4, HB9.out⟩
    rw [← hbeh.out]
    rfl
theorem whole_near0 (K E M : Int) (n : Bool) (k : Nat) (w : World) (hk : -E = k) (hk0 : 0 < k) (hk1 : (k : Int) ≤ 3000) (m0 : 0 ≤ M) (m1 : M ≤ 18446744073709551615) (hlo : 2 * (M % p2 k) < p2 k) :
    Calls Tryz.prog 79 #[partsV K n E M, .bool true] w fun r w' => WholeRet w (M / p2 k) (decide (M % p2 k ≠ 0)) 4 r w' := by
  obtain ⟨f0, f1, f2, f3, -⟩ := ps_fresh w K E M n
  have HB := hidden (((Below.refl w.heap.size w).alloc (Nat.le_refl _) (.cells #[.int .i64 K, .bool n, .int .i64 E, .int .u64 M] 53)))
  have hE : ¬ 0 ≤ E := by omega
  have hw : IntKind.i64.wrap (-E) = k := by rw [wrapi _ (by omega) (by omega)]; exact hk
  have hkn : (0 : Int) ≤ k := by omega
  have HKE := hidden hk
  clear hk
  go_enter Tryz.func79, Tryz.ntmps79
  go_upto_region 1 with fail
  change Code.wp _ _ _ _ (w.alloc (.cells #[.int .i64 K, .bool n, .int .i64 E, .int .u64 M] 53))
  generalize w.alloc (.cells #[.int .i64 K, .bool n, .int .i64 E, .int .u64 M] 53) = w5 at *
  go_upto_region 3 with fail
  go_region_held3 (fun w' => w'.cell? ⟨w.heap.size, 2, none⟩ = some (.int .i64 E) ∧ w'.cell? ⟨w.heap.size, 3, none⟩ = some (.int .u64 M)) (go_keep) (first | (go_at_call 41; refine (one_has w5.drew).mono ?_; rintro r w6 ⟨a6, l6, c6, d6, rfl, h6, hl6, hb6⟩; have f2 := cellLater hb6 (cellLater ((Below.refl _ _).drew) f2); have f3 := cellLater hb6 (cellLater ((Below.refl _ _).drew) f3); have H6 := hidden h6; have HB6 := hidden (HB.out.drew.trans (hb6.mono HB.out.drew.size)); clear h6 hb6) | (go_at_call 48; refine (up_has H6.out k (by omega) (by omega)).mono ?_; rintro r w7 ⟨a7, l7, c7, d7, rfl, h7, hl7, hb7⟩; have f2 := cellLater hb7 f2; have f3 := cellLater hb7 f3; rw [Int.one_mul] at h7; have H7 := hidden h7; have HB7 := hidden (HB6.out.trans (hb7.mono HB6.out.size)); clear h7 hb7))
  all_goals
    go_wp2_with fail
    refine (natOf_has M _ m0 m1).mono ?_
    rintro r w8 ⟨a8, l8, c8, d8, rfl, h8, hl8, hb8⟩
    have HD8 := hidden (H7.out.later hb8)
    have H8 := hidden h8
    have HB8 := hidden (HB7.out.trans (hb8.mono HB7.out.size))
    clear h8 hb8
    go_wp2_with fail
    refine (quo_any a8 a7 l8 c8 l7 c7 d8 d7 M (p2 k) _ H8.out HD8.out (p2_pos k) (by omega) (by omega)).mono ?_
    rintro r w9 ⟨aq, lq, cq, dq, ar, lr, cr, dr, Q, R, rfl, hq, hr, hqr, hlt, hlq, hlr, hb9⟩
    obtain ⟨eQ, eR⟩ := div_is2 (N := M) (b := p2 k) (q := Q) (r := R) (by rw [Int.mul_comm (p2 k) Q]; exact hqr) hr.nonneg hlt
    have hlq4 : lq ≤ 4 := by
      have := hq.len_le H8.out (by rw [← eQ]; exact Int.ediv_le_self _ m0)
      omega
    have HQ := hidden hq
    have HR := hidden hr
    have HD9 := hidden (HD8.out.later hb9)
    have HB9 := hidden (HB8.out.trans (hb9.mono HB8.out.size))
    have hRn := hr.nonneg
    have HE := hidden eQ
    have HE2 := hidden eR
    have HLT := hidden hlt
    clear hq hr hqr hlt hb9 eQ eR hlq
    have hbeh : Hid (decide (0 < bl R) = decide (M % p2 k ≠ 0)) := hidden (by
      rw [HE2.out]
      refine decide_eq_decide.2 ⟨fun h h0 => ?_, fun h => ?_⟩
      · rw [h0, bl_zero] at h; omega
      · have := (bl_bd R (by omega)).1; omega)
    go_wp2_with fail
    refine (up_has HR.out 1 (by omega) (by omega)).mono ?_
    rintro r w11 ⟨au, lu, cu, du, rfl, hu, hlu, hb11⟩
    have HU := hidden hu
    have HD11 := hidden (HD9.out.later hb11)
    have HQ11 := hidden (HQ.out.later hb11)
    have HR11 := hidden (HR.out.later hb11)
    have HB11 := hidden (HB9.out.trans (hb11.mono HB9.out.size))
    clear hu hb11
    go_wp2_with fail
    refine (cmp_any au a7 lu cu l7 c7 du d7 _ HU.out.rd HD11.out.rd HU.out.ok HD11.out.ok (by omega) (by omega)).mono ?_
    rintro r w12 ⟨rfl, hb12⟩
    rw [HU.out.val, HD11.out.val]
    have HQ12 := hidden (HQ11.out.later hb12)
    have HR12 := hidden (HR11.out.later hb12)
    have HB12 := hidden (HB11.out.trans (hb12.mono HB11.out.size))
    clear hb12
    have e1 : p2 1 = 2 := rfl
    have hcm : ¬ 0 ≤ cmpI (R * p2 1) (p2 k) := by
      have h1 := hlo
      rw [HE2.out] at h1
      rw [e1]
      unfold cmpI
      split <;> (try split) <;> omega
    clear e1
    generalize cmpI (R * p2 1) (p2 k) = CC at *
    go_wp2_with (go_at_call 39; refine (bits_bl HR12.out (by omega)).mono ?_; rintro r w10 ⟨rfl, hw10⟩; obtain rfl := hw10.symm)
    go_ret2
    refine ⟨aq, lq, cq, dq, ?_, by rw [HE.out]; exact HQ12.out, hlq4, HB12.out⟩
    rw [← hbeh.out]
    rfl
theorem whole_near1 (K E M : Int) (n : Bool) (k : Nat) (w : World) (hk : -E = k) (hk0 : 0 < k) (hk1 : (k : Int) ≤ 3000) (m0 : 0 ≤ M) (m1 : M ≤ 18446744073709551615) (hhi : p2 k ≤ 2 * (M % p2 k)) :
    Calls Tryz.prog 79 #[partsV K n E M, .bool true] w fun r w' => WholeRet w (M / p2 k + 1) (decide (M % p2 k ≠ 0)) 5 r w' := by
  obtain ⟨f0, f1, f2, f3, -⟩ := ps_fresh w K E M n
  have HB := hidden (((Below.refl w.heap.size w).alloc (Nat.le_refl _) (.cells #[.int .i64 K, .bool n, .int .i64 E, .int .u64 M] 53)))
  have hE : ¬ 0 ≤ E := by omega
  have hw : IntKind.i64.wrap (-E) = k := by rw [wrapi _ (by omega) (by omega)]; exact hk
  have hkn : (0 : Int) ≤ k := by omega
  have HKE := hidden hk
  clear hk
  go_enter Tryz.func79, Tryz.ntmps79
  go_upto_region 1 with fail
  change Code.wp _ _ _ _ (w.alloc (.cells #[.int .i64 K, .bool n, .int .i64 E, .int .u64 M] 53))
  generalize w.alloc (.cells #[.int .i64 K, .bool n, .int .i64 E, .int .u64 M] 53) = w5 at *
  go_upto_region 3 with fail
  go_region_held3 (fun w' => w'.cell? ⟨w.heap.size, 2, none⟩ = some (.int .i64 E) ∧ w'.cell? ⟨w.heap.size, 3, none⟩ = some (.int .u64 M)) (go_keep) (first | (go_at_call 41; refine (one_has w5.drew).mono ?_; rintro r w6 ⟨a6, l6, c6, d6, rfl, h6, hl6, hb6⟩; have f2 := cellLater hb6 (cellLater ((Below.refl _ _).drew) f2); have f3 := cellLater hb6 (cellLater ((Below.refl _ _).drew) f3); have H6 := hidden h6; have HB6 := hidden (HB.out.drew.trans (hb6.mono HB.out.drew.size)); clear h6 hb6) | (go_at_call 48; refine (up_has H6.out k (by omega) (by omega)).mono ?_; rintro r w7 ⟨a7, l7, c7, d7, rfl, h7, hl7, hb7⟩; have f2 := cellLater hb7 f2; have f3 := cellLater hb7 f3; rw [Int.one_mul] at h7; have H7 := hidden h7; have HB7 := hidden (HB6.out.trans (hb7.mono HB6.out.size)); clear h7 hb7))
  all_goals
    go_wp2_with fail
    refine (natOf_has M _ m0 m1).mono ?_
    rintro r w8 ⟨a8, l8, c8, d8, rfl, h8, hl8, hb8⟩
    have HD8 := hidden (H7.out.later hb8)
    have H8 := hidden h8
    have HB8 := hidden (HB7.out.trans (hb8.mono HB7.out.size))
    clear h8 hb8
    go_wp2_with fail
    refine (quo_any a8 a7 l8 c8 l7 c7 d8 d7 M (p2 k) _ H8.out HD8.out (p2_pos k) (by omega) (by omega)).mono ?_
    rintro r w9 ⟨aq, lq, cq, dq, ar, lr, cr, dr, Q, R, rfl, hq, hr, hqr, hlt, hlq, hlr, hb9⟩
    obtain ⟨eQ, eR⟩ := div_is2 (N := M) (b := p2 k) (q := Q) (r := R) (by rw [Int.mul_comm (p2 k) Q]; exact hqr) hr.nonneg hlt
    have hlq4 : lq ≤ 4 := by
      have := hq.len_le H8.out (by rw [← eQ]; exact Int.ediv_le_self _ m0)
      omega
    have HQ := hidden hq
    have HR := hidden hr
    have HD9 := hidden (HD8.out.later hb9)
    have HB9 := hidden (HB8.out.trans (hb9.mono HB8.out.size))
    have hRn := hr.nonneg
    have HE := hidden eQ
    have HE2 := hidden eR
    have HLT := hidden hlt
    clear hq hr hqr hlt hb9 eQ eR hlq
    have hbeh : Hid (decide (0 < bl R) = decide (M % p2 k ≠ 0)) := hidden (by
      rw [HE2.out]
      refine decide_eq_decide.2 ⟨fun h h0 => ?_, fun h => ?_⟩
      · rw [h0, bl_zero] at h; omega
      · have := (bl_bd R (by omega)).1; omega)
    go_wp2_with fail
    refine (up_has HR.out 1 (by omega) (by omega)).mono ?_
    rintro r w11 ⟨au, lu, cu, du, rfl, hu, hlu, hb11⟩
    have HU := hidden hu
    have HD11 := hidden (HD9.out.later hb11)
    have HQ11 := hidden (HQ.out.later hb11)
    have HR11 := hidden (HR.out.later hb11)
    have HB11 := hidden (HB9.out.trans (hb11.mono HB9.out.size))
    clear hu hb11
    go_wp2_with fail
    refine (cmp_any au a7 lu cu l7 c7 du d7 _ HU.out.rd HD11.out.rd HU.out.ok HD11.out.ok (by omega) (by omega)).mono ?_
    rintro r w12 ⟨rfl, hb12⟩
    rw [HU.out.val, HD11.out.val]
    have HQ12 := hidden (HQ11.out.later hb12)
    have HR12 := hidden (HR11.out.later hb12)
    have HB12 := hidden (HB11.out.trans (hb12.mono HB11.out.size))
    clear hb12
    have e1 : p2 1 = 2 := rfl
    have hcm : 0 ≤ cmpI (R * p2 1) (p2 k) := by
      have h1 := hhi
      rw [HE2.out] at h1
      rw [e1]
      unfold cmpI
      split <;> (try split) <;> omega
    clear e1
    generalize cmpI (R * p2 1) (p2 k) = CC at *
    go_wp2_with fail
    refine (one_has _).mono ?_
    rintro r w13 ⟨ao, lo, co, do', rfl, ho, hlo, hb13⟩
    have HO := hidden ho
    have HQ13 := hidden (HQ12.out.later hb13)
    have HR13 := hidden (HR12.out.later hb13)
    have HB13 := hidden (HB12.out.trans (hb13.mono HB12.out.size))
    clear ho hb13
    go_wp2_with fail
    refine (plus_any aq ao lq cq lo co dq do' _ HQ13.out.rd HO.out.rd HQ13.out.ok HO.out.ok (by omega) (by omega)).mono ?_
    rintro r w14 ⟨an, ln, cn, dn, rfl, rn, kn, vn, lbn, tn, hb14, -⟩
    rw [HQ13.out.val, HO.out.val] at vn
    have HN := hidden (has_of3 rn kn vn tn)
    have HR14 := hidden (HR13.out.later hb14)
    have HB14 := hidden (HB13.out.trans (hb14.mono HB13.out.size))
    clear rn kn vn tn hb14
    go_wp2_with (go_at_call 39; refine (bits_bl HR14.out (by omega)).mono ?_; rintro r w10 ⟨rfl, hw10⟩; obtain rfl := hw10.symm)
    go_ret2
    refine ⟨an, ln, cn, dn, ?_, by rw [HE.out]; exact HN.out, by omega, HB14.out⟩
    rw [← hbeh.out]
    rfl
end Go.Proofs.YtbfbdemknggpkaaGreatDoor
namespace Go.Proofs.YtbfbdemknggpkaaGreatDoor
open Go.RowKit
set_option maxRecDepth 100000
set_option maxHeartbeats 400000
set_option linter.unusedVariables false

theorem ropen_box (m x K E M : Int) (n : Bool) (w w1 : World) (hb : Below (w.alloc (.cells #[.int .i64 m, .int .i64 x] 37)).heap.size (w.alloc (.cells #[.int .i64 m, .int .i64 x] 37)) w1) :
    ∃ w5, w5 = w1.alloc (.cells #[.int .i64 K, .bool n, .int .i64 E, .int .u64 M] 53) ∧ Below w.heap.size w w5 ∧ w5.cell? ⟨w.heap.size, 0, none⟩ = some (.int .i64 m) ∧ w5.cell? ⟨w.heap.size, 1, none⟩ = some (.int .i64 x) ∧
      w5.cell? ⟨w1.heap.size, 0, none⟩ = some (.int .i64 K) ∧ w5.cell? ⟨w1.heap.size, 1, none⟩ = some (.bool n) ∧ w5.cell? ⟨w1.heap.size, 2, none⟩ = some (.int .i64 E) ∧ w5.cell? ⟨w1.heap.size, 3, none⟩ = some (.int .u64 M) := by
  have hB := box_below _ hb
  have d0 : w1.cell? ⟨w.heap.size, 0, none⟩ = some (.int .i64 m) := cellLater hb (by simp)
  have d1 : w1.cell? ⟨w.heap.size, 1, none⟩ = some (.int .i64 x) := cellLater hb (by simp)
  have hZ : Below w1.heap.size w1 (w1.alloc (.cells #[.int .i64 K, .bool n, .int .i64 E, .int .u64 M] 53)) := (Below.refl _ _).alloc (Nat.le_refl _) _
  obtain ⟨p0, p1, p2, p3, -⟩ := ps_fresh w1 K E M n
  exact ⟨_, rfl, hB.trans (hZ.mono hB.size), cellLater hZ d0, cellLater hZ d1, p0, p1, p2, p3⟩
theorem rstep_err (m x a : Int) (up : Bool) (w : World)
    (HO : Hid (∀ w, Calls Tryz.prog 42 #[.agg #[.int .i64 m, .int .i64 x], .int .u64 a] w fun r w' => r = .returned (.tuple #[partsV 0 false 0 0, .int .i64 1]) ∧ Below w.heap.size w w')) :
    Calls Tryz.prog 51 #[.agg #[.int .i64 m, .int .i64 x], .int .u64 a, .bool up] w fun r w' => r = .returned (.tuple #[.int .u64 0, .int .i64 1]) ∧ Below w.heap.size w w' := by
  go_enter Tryz.func51, Tryz.ntmps51
  go_wp2_with fail
  refine (HO.out _).mono ?_
  rintro r w1 ⟨rfl, hb1⟩
  have HB1 := hidden (box_below _ hb1)
  clear hb1
  go_wp2
  go_ret2
  exact ⟨rfl, HB1.out.alloc HB1.out.size _⟩
theorem rstep_nan (m x a K E M R : Int) (n up : Bool) (w : World)
    (HO : Hid (∀ w, Calls Tryz.prog 42 #[.agg #[.int .i64 m, .int .i64 x], .int .u64 a] w fun r w' => r = .returned (.tuple #[partsV K n E M, .int .i64 0]) ∧ Below w.heap.size w w'))
    (HN : Hid (∀ w, Calls Tryz.prog 34 #[.agg #[.int .i64 m, .int .i64 x]] w fun r w' => r = .returned (.int .u64 R) ∧ Below w.heap.size w w'))
    (k4 : (K == 4) = true) :
    Calls Tryz.prog 51 #[.agg #[.int .i64 m, .int .i64 x], .int .u64 a, .bool up] w fun r w' => r = .returned (.tuple #[.int .u64 R, .int .i64 0]) ∧ Below w.heap.size w w' := by
  go_enter Tryz.func51, Tryz.ntmps51
  go_wp2_with fail
  refine (HO.out _).mono ?_
  rintro r w1 ⟨rfl, hb1⟩
  obtain ⟨w5, hw5, hx, c0, c1, p0, p1, p2', p3⟩ := ropen_box m x K E M n w w1 hb1
  have HB := hidden hx
  clear hx hb1
  go_upto_region 2 with fail
  change Code.wp _ _ _ _ (w1.alloc (.cells #[.int .i64 K, .bool n, .int .i64 E, .int .u64 M] 53))
  rw [← hw5]
  clear hw5
  go_wp2_with (go_at_call 34; refine (HN.out _).mono ?_; rintro r w9 ⟨rfl, hb⟩)
  go_ret2
  exact ⟨rfl, HB.out.trans (hb.mono HB.out.size)⟩
theorem rstep_self (m x a K E M : Int) (n up : Bool) (w : World)
    (HO : Hid (∀ w, Calls Tryz.prog 42 #[.agg #[.int .i64 m, .int .i64 x], .int .u64 a] w fun r w' => r = .returned (.tuple #[partsV K n E M, .int .i64 0]) ∧ Below w.heap.size w w'))
    (k4 : (K == 4) = false) (k2 : (K != 2) = true) :
    Calls Tryz.prog 51 #[.agg #[.int .i64 m, .int .i64 x], .int .u64 a, .bool up] w fun r w' => r = .returned (.tuple #[.int .u64 a, .int .i64 0]) ∧ Below w.heap.size w w' := by
  go_enter Tryz.func51, Tryz.ntmps51
  go_wp2_with fail
  refine (HO.out _).mono ?_
  rintro r w1 ⟨rfl, hb1⟩
  obtain ⟨w5, hw5, hx, c0, c1, p0, p1, p2', p3⟩ := ropen_box m x K E M n w w1 hb1
  have HB := hidden hx
  clear hx hb1
  go_upto_region 2 with fail
  change Code.wp _ _ _ _ (w1.alloc (.cells #[.int .i64 K, .bool n, .int .i64 E, .int .u64 M] 53))
  rw [← hw5]
  clear hw5
  go_wp2
  go_ret2
  exact ⟨rfl, HB.out⟩
/-- what step answers of a whole number N -/
def StepRet (w : World) (m x : Nat) (n : Bool) (N : Int) (r : Ending) (w' : World) : Prop := ∃ P, r = .returned (.tuple #[.int .u64 (P + sgnW n (m + x)), .int .i64 0]) ∧ ((N = 0 ∧ P = 0) ∨ (0 < N ∧ IsNear m x N 1 0 P)) ∧ Below w.heap.size w w'
theorem rstep_plain (m x : Nat) (a E M N : Int) (n up : Bool) (L : Nat) (w : World) (hok : okF m x) (hL : L ≤ 300) (hN0 : 0 ≤ N)
    (HO : Hid (∀ w, Calls Tryz.prog 42 #[.agg #[.int .i64 (m : Int), .int .i64 (x : Int)], .int .u64 a] w fun r w' => r = .returned (.tuple #[partsV 2 n E M, .int .i64 0]) ∧ Below w.heap.size w w'))
    (HW : Hid (∀ w, Calls Tryz.prog 79 #[partsV 2 n E M, .bool false] w fun r w' => WholeRet w N false L r w')) :
    Calls Tryz.prog 51 #[.agg #[.int .i64 (m : Int), .int .i64 (x : Int)], .int .u64 a, .bool up] w fun r w' => StepRet w m x n N r w' := by
  go_enter Tryz.func51, Tryz.ntmps51
  go_wp2_with fail
  refine (HO.out _).mono ?_
  rintro r w1 ⟨rfl, hb1⟩
  obtain ⟨w5, hw5, hx, c0, c1, p0, p1, p2', p3⟩ := ropen_box m x 2 E M n w w1 hb1
  have HB := hidden hx
  clear hx hb1
  go_upto_region 2 with fail
  change Code.wp _ _ _ _ (w1.alloc (.cells #[.int .i64 2, .bool n, .int .i64 E, .int .u64 M] 53))
  rw [← hw5]
  clear hw5
  go_wp2_with fail
  refine (HW.out _).mono ?_
  rintro r w6 ⟨a6, l6, c6, d6, rfl, h6, hl6, hb6⟩
  have c0 := cellLater hb6 c0
  have c1 := cellLater hb6 c1
  have p1 := cellLater hb6 p1
  have H6 := hidden h6
  have HB6 := hidden (HB.out.trans (hb6.mono HB.out.size))
  clear h6 hb6
  all_goals
    generalize w6 = wk at *
    have HN := H6
    have HBK := HB6
    go_upto_region 11 with fail
    go_region_held3 (fun w' => w'.cell? ⟨w.heap.size, 0, none⟩ = some (.int .i64 m) ∧ w'.cell? ⟨w.heap.size, 1, none⟩ = some (.int .i64 x) ∧ w'.cell? ⟨w1.heap.size, 1, none⟩ = some (.bool n)) (go_keep) (first | (go_at_call 41; refine (one_has wk.drew).mono ?_; rintro r w20 ⟨ao, lo, co, do', rfl, ho, hlo, hb20⟩; have c0 := cellLater hb20 (cellLater ((Below.refl _ _).drew) c0); have c1 := cellLater hb20 (cellLater ((Below.refl _ _).drew) c1); have p1 := cellLater hb20 (cellLater ((Below.refl _ _).drew) p1); have HO1 := hidden ho; have HN2 := hidden ((HN.out.later ((Below.refl _ _).drew)).later hb20); have HB20 := hidden (HBK.out.drew.trans (hb20.mono HBK.out.drew.size)); clear ho hb20) | (go_at_call 40; refine (near_any m x n _ _ _ _ _ _ _ _ _ 1 0 _ hok HN2.out HO1.out (by omega) (by omega) (by omega) (by omega) (by omega)).mono ?_; rintro r w21 ⟨P, rfl, hP, hb21⟩; have c0 := cellLater hb21 c0; have c1 := cellLater hb21 c1; have p1 := cellLater hb21 p1; have HB21 := hidden (HB20.out.trans (hb21.mono HB20.out.size)); have HP := hidden hP; clear hb21 hP))
    all_goals
      go_wp2
      go_ret2
      exact ⟨P, rfl, HP.out, HB21.out⟩
theorem rstep_same (m x : Nat) (a E M N : Int) (n up : Bool) (L : Nat) (w : World) (hok : okF m x) (hL : L ≤ 300) (hN0 : 0 ≤ N)
    (HO : Hid (∀ w, Calls Tryz.prog 42 #[.agg #[.int .i64 (m : Int), .int .i64 (x : Int)], .int .u64 a] w fun r w' => r = .returned (.tuple #[partsV 2 n E M, .int .i64 0]) ∧ Below w.heap.size w w'))
    (HW : Hid (∀ w, Calls Tryz.prog 79 #[partsV 2 n E M, .bool false] w fun r w' => WholeRet w N true L r w')) (hup : (up != n) = false) :
    Calls Tryz.prog 51 #[.agg #[.int .i64 (m : Int), .int .i64 (x : Int)], .int .u64 a, .bool up] w fun r w' => StepRet w m x n N r w' := by
  go_enter Tryz.func51, Tryz.ntmps51
  go_wp2_with fail
  refine (HO.out _).mono ?_
  rintro r w1 ⟨rfl, hb1⟩
  obtain ⟨w5, hw5, hx, c0, c1, p0, p1, p2', p3⟩ := ropen_box m x 2 E M n w w1 hb1
  have HB := hidden hx
  clear hx hb1
  go_upto_region 2 with fail
  change Code.wp _ _ _ _ (w1.alloc (.cells #[.int .i64 2, .bool n, .int .i64 E, .int .u64 M] 53))
  rw [← hw5]
  clear hw5
  go_wp2_with fail
  refine (HW.out _).mono ?_
  rintro r w6 ⟨a6, l6, c6, d6, rfl, h6, hl6, hb6⟩
  have c0 := cellLater hb6 c0
  have c1 := cellLater hb6 c1
  have p1 := cellLater hb6 p1
  have H6 := hidden h6
  have HB6 := hidden (HB.out.trans (hb6.mono HB.out.size))
  clear h6 hb6
  cases n <;> cases up <;> simp at hup
  · generalize w6 = wk at *
    have HN := H6
    have HBK := HB6
    go_upto_region 11 with fail
    go_region_held3 (fun w' => w'.cell? ⟨w.heap.size, 0, none⟩ = some (.int .i64 m) ∧ w'.cell? ⟨w.heap.size, 1, none⟩ = some (.int .i64 x) ∧ w'.cell? ⟨w1.heap.size, 1, none⟩ = some (.bool false)) (go_keep) (first | (go_at_call 41; refine (one_has wk.drew).mono ?_; rintro r w20 ⟨ao, lo, co, do', rfl, ho, hlo, hb20⟩; have c0 := cellLater hb20 (cellLater ((Below.refl _ _).drew) c0); have c1 := cellLater hb20 (cellLater ((Below.refl _ _).drew) c1); have p1 := cellLater hb20 (cellLater ((Below.refl _ _).drew) p1); have HO1 := hidden ho; have HN2 := hidden ((HN.out.later ((Below.refl _ _).drew)).later hb20); have HB20 := hidden (HBK.out.drew.trans (hb20.mono HBK.out.drew.size)); clear ho hb20) | (go_at_call 40; refine (near_any m x false _ _ _ _ _ _ _ _ _ 1 0 _ hok HN2.out HO1.out (by omega) (by omega) (by omega) (by omega) (by omega)).mono ?_; rintro r w21 ⟨P, rfl, hP, hb21⟩; have c0 := cellLater hb21 c0; have c1 := cellLater hb21 c1; have p1 := cellLater hb21 p1; have HB21 := hidden (HB20.out.trans (hb21.mono HB20.out.size)); have HP := hidden hP; clear hb21 hP))
    all_goals
      go_wp2
      go_ret2
      exact ⟨P, rfl, HP.out, HB21.out⟩
  · generalize w6 = wk at *
    have HN := H6
    have HBK := HB6
    go_upto_region 11 with fail
    go_region_held3 (fun w' => w'.cell? ⟨w.heap.size, 0, none⟩ = some (.int .i64 m) ∧ w'.cell? ⟨w.heap.size, 1, none⟩ = some (.int .i64 x) ∧ w'.cell? ⟨w1.heap.size, 1, none⟩ = some (.bool true)) (go_keep) (first | (go_at_call 41; refine (one_has wk.drew).mono ?_; rintro r w20 ⟨ao, lo, co, do', rfl, ho, hlo, hb20⟩; have c0 := cellLater hb20 (cellLater ((Below.refl _ _).drew) c0); have c1 := cellLater hb20 (cellLater ((Below.refl _ _).drew) c1); have p1 := cellLater hb20 (cellLater ((Below.refl _ _).drew) p1); have HO1 := hidden ho; have HN2 := hidden ((HN.out.later ((Below.refl _ _).drew)).later hb20); have HB20 := hidden (HBK.out.drew.trans (hb20.mono HBK.out.drew.size)); clear ho hb20) | (go_at_call 40; refine (near_any m x true _ _ _ _ _ _ _ _ _ 1 0 _ hok HN2.out HO1.out (by omega) (by omega) (by omega) (by omega) (by omega)).mono ?_; rintro r w21 ⟨P, rfl, hP, hb21⟩; have c0 := cellLater hb21 c0; have c1 := cellLater hb21 c1; have p1 := cellLater hb21 p1; have HB21 := hidden (HB20.out.trans (hb21.mono HB20.out.size)); have HP := hidden hP; clear hb21 hP))
    all_goals
      go_wp2
      go_ret2
      exact ⟨P, rfl, HP.out, HB21.out⟩
theorem rstep_more (m x : Nat) (a E M N : Int) (n up : Bool) (L : Nat) (w : World) (hok : okF m x) (hL : L ≤ 300) (hN0 : 0 ≤ N)
    (HO : Hid (∀ w, Calls Tryz.prog 42 #[.agg #[.int .i64 (m : Int), .int .i64 (x : Int)], .int .u64 a] w fun r w' => r = .returned (.tuple #[partsV 2 n E M, .int .i64 0]) ∧ Below w.heap.size w w'))
    (HW : Hid (∀ w, Calls Tryz.prog 79 #[partsV 2 n E M, .bool false] w fun r w' => WholeRet w N true L r w')) (hup : (up != n) = true) :
    Calls Tryz.prog 51 #[.agg #[.int .i64 (m : Int), .int .i64 (x : Int)], .int .u64 a, .bool up] w fun r w' => StepRet w m x n (N + 1) r w' := by
  go_enter Tryz.func51, Tryz.ntmps51
  go_wp2_with fail
  refine (HO.out _).mono ?_
  rintro r w1 ⟨rfl, hb1⟩
  obtain ⟨w5, hw5, hx, c0, c1, p0, p1, p2', p3⟩ := ropen_box m x 2 E M n w w1 hb1
  have HB := hidden hx
  clear hx hb1
  go_upto_region 2 with fail
  change Code.wp _ _ _ _ (w1.alloc (.cells #[.int .i64 2, .bool n, .int .i64 E, .int .u64 M] 53))
  rw [← hw5]
  clear hw5
  go_wp2_with fail
  refine (HW.out _).mono ?_
  rintro r w6 ⟨a6, l6, c6, d6, rfl, h6, hl6, hb6⟩
  have c0 := cellLater hb6 c0
  have c1 := cellLater hb6 c1
  have p1 := cellLater hb6 p1
  have H6 := hidden h6
  have HB6 := hidden (HB.out.trans (hb6.mono HB.out.size))
  clear h6 hb6
  cases n <;> cases up <;> simp at hup
  · go_wp2_with fail
    refine (one_has _).mono ?_
    rintro r w7 ⟨a7, l7, c7, d7, rfl, h7, hl7, hb7⟩
    have c0 := cellLater hb7 c0
    have c1 := cellLater hb7 c1
    have p1 := cellLater hb7 p1
    have H7 := hidden h7
    have H6' := hidden (H6.out.later hb7)
    have HB7 := hidden (HB6.out.trans (hb7.mono HB6.out.size))
    clear h7 hb7
    go_wp2_with fail
    refine (plus_any a6 a7 l6 c6 l7 c7 d6 d7 _ H6'.out.rd H7.out.rd H6'.out.ok H7.out.ok (by omega) (by omega)).mono ?_
    rintro r wk ⟨an, ln, cn, dn, rfl, rn, kn, vn, lbn, tn, hb8, -⟩
    rw [H6'.out.val, H7.out.val] at vn
    have c0 := cellLater hb8 c0
    have c1 := cellLater hb8 c1
    have p1 := cellLater hb8 p1
    have HN := hidden (has_of3 rn kn vn tn)
    have HBK := hidden (HB7.out.trans (hb8.mono HB7.out.size))
    clear rn kn vn tn hb8
    go_upto_region 11 with fail
    go_region_held3 (fun w' => w'.cell? ⟨w.heap.size, 0, none⟩ = some (.int .i64 m) ∧ w'.cell? ⟨w.heap.size, 1, none⟩ = some (.int .i64 x) ∧ w'.cell? ⟨w1.heap.size, 1, none⟩ = some (.bool false)) (go_keep) (first | (go_at_call 41; refine (one_has wk.drew).mono ?_; rintro r w20 ⟨ao, lo, co, do', rfl, ho, hlo, hb20⟩; have c0 := cellLater hb20 (cellLater ((Below.refl _ _).drew) c0); have c1 := cellLater hb20 (cellLater ((Below.refl _ _).drew) c1); have p1 := cellLater hb20 (cellLater ((Below.refl _ _).drew) p1); have HO1 := hidden ho; have HN2 := hidden ((HN.out.later ((Below.refl _ _).drew)).later hb20); have HB20 := hidden (HBK.out.drew.trans (hb20.mono HBK.out.drew.size)); clear ho hb20) | (go_at_call 40; refine (near_any m x false _ _ _ _ _ _ _ _ _ 1 0 _ hok HN2.out HO1.out (by omega) (by omega) (by omega) (by omega) (by omega)).mono ?_; rintro r w21 ⟨P, rfl, hP, hb21⟩; have c0 := cellLater hb21 c0; have c1 := cellLater hb21 c1; have p1 := cellLater hb21 p1; have HB21 := hidden (HB20.out.trans (hb21.mono HB20.out.size)); have HP := hidden hP; clear hb21 hP))
    all_goals
      go_wp2
      go_ret2
      exact ⟨P, rfl, HP.out, HB21.out⟩
  · go_wp2_with fail
    refine (one_has _).mono ?_
    rintro r w7 ⟨a7, l7, c7, d7, rfl, h7, hl7, hb7⟩
    have c0 := cellLater hb7 c0
    have c1 := cellLater hb7 c1
    have p1 := cellLater hb7 p1
    have H7 := hidden h7
    have H6' := hidden (H6.out.later hb7)
    have HB7 := hidden (HB6.out.trans (hb7.mono HB6.out.size))
    clear h7 hb7
    go_wp2_with fail
    refine (plus_any a6 a7 l6 c6 l7 c7 d6 d7 _ H6'.out.rd H7.out.rd H6'.out.ok H7.out.ok (by omega) (by omega)).mono ?_
    rintro r wk ⟨an, ln, cn, dn, rfl, rn, kn, vn, lbn, tn, hb8, -⟩
    rw [H6'.out.val, H7.out.val] at vn
    have c0 := cellLater hb8 c0
    have c1 := cellLater hb8 c1
    have p1 := cellLater hb8 p1
    have HN := hidden (has_of3 rn kn vn tn)
    have HBK := hidden (HB7.out.trans (hb8.mono HB7.out.size))
    clear rn kn vn tn hb8
    go_upto_region 11 with fail
    go_region_held3 (fun w' => w'.cell? ⟨w.heap.size, 0, none⟩ = some (.int .i64 m) ∧ w'.cell? ⟨w.heap.size, 1, none⟩ = some (.int .i64 x) ∧ w'.cell? ⟨w1.heap.size, 1, none⟩ = some (.bool true)) (go_keep) (first | (go_at_call 41; refine (one_has wk.drew).mono ?_; rintro r w20 ⟨ao, lo, co, do', rfl, ho, hlo, hb20⟩; have c0 := cellLater hb20 (cellLater ((Below.refl _ _).drew) c0); have c1 := cellLater hb20 (cellLater ((Below.refl _ _).drew) c1); have p1 := cellLater hb20 (cellLater ((Below.refl _ _).drew) p1); have HO1 := hidden ho; have HN2 := hidden ((HN.out.later ((Below.refl _ _).drew)).later hb20); have HB20 := hidden (HBK.out.drew.trans (hb20.mono HBK.out.drew.size)); clear ho hb20) | (go_at_call 40; refine (near_any m x true _ _ _ _ _ _ _ _ _ 1 0 _ hok HN2.out HO1.out (by omega) (by omega) (by omega) (by omega) (by omega)).mono ?_; rintro r w21 ⟨P, rfl, hP, hb21⟩; have c0 := cellLater hb21 c0; have c1 := cellLater hb21 c1; have p1 := cellLater hb21 p1; have HB21 := hidden (HB20.out.trans (hb21.mono HB20.out.size)); have HP := hidden hP; clear hb21 hP))
    all_goals
      go_wp2
      go_ret2
      exact ⟨P, rfl, HP.out, HB21.out⟩
end Go.Proofs.YtbfbdemknggpkaaGreatDoor
namespace Go.Proofs.YtbfbdemknggpkaaGreatDoor
open Go.RowKit
set_option maxRecDepth 100000
set_option maxHeartbeats 400000
set_option linter.unusedVariables false

theorem rceil (m x a R g : Int) (w : World)
    (HW : Hid (∀ w, Calls Tryz.prog 51 #[.agg #[.int .i64 m, .int .i64 x], .int .u64 a, .bool true] w fun r w' => r = .returned (.tuple #[.int .u64 R, .int .i64 g]) ∧ Below w.heap.size w w')) :
    Calls Tryz.prog 18 #[.agg #[.int .i64 m, .int .i64 x], .int .u64 a] w fun r w' => r = .returned (.tuple #[.int .u64 R, .int .i64 g]) ∧ Below w.heap.size w w' := by
  go_enter Tryz.func18, Tryz.ntmps18
  go_wp2_with (go_at_call 51; refine (HW.out _).mono ?_; rintro r w1 ⟨rfl, hb⟩)
  go_ret2
  exact ⟨rfl, box_below _ hb⟩
theorem rfloor (m x a R g : Int) (w : World)
    (HW : Hid (∀ w, Calls Tryz.prog 51 #[.agg #[.int .i64 m, .int .i64 x], .int .u64 a, .bool false] w fun r w' => r = .returned (.tuple #[.int .u64 R, .int .i64 g]) ∧ Below w.heap.size w w')) :
    Calls Tryz.prog 19 #[.agg #[.int .i64 m, .int .i64 x], .int .u64 a] w fun r w' => r = .returned (.tuple #[.int .u64 R, .int .i64 g]) ∧ Below w.heap.size w w' := by
  go_enter Tryz.func19, Tryz.ntmps19
  go_wp2_with (go_at_call 51; refine (HW.out _).mono ?_; rintro r w1 ⟨rfl, hb⟩)
  go_ret2
  exact ⟨rfl, box_below _ hb⟩
end Go.Proofs.YtbfbdemknggpkaaGreatDoor
namespace Go.Proofs.YtbfbdemknggpkaaGreatDoor
open Go.RowKit
set_option maxRecDepth 100000
set_option maxHeartbeats 400000
set_option linter.unusedVariables false

theorem small_has {w : World} {a : Option Addr} {l c : Nat} {ds : List Int} {N : Int} (h : HasNat w a l c ds N) (hl : (l : Int) ≤ 1000000) (hx : N ≤ 18446744073709551615) :
    Calls Tryz.prog 76 #[.slice a l c] w fun r w' => r = .returned (.int .u64 N) ∧ w' = w := by
  have := small_any a l c ds w h.rd h.ok hl (by rw [h.val]; exact hx)
  rw [h.val] at this
  exact this
end Go.Proofs.YtbfbdemknggpkaaGreatDoor
namespace Go.Proofs.YtbfbdemknggpkaaGreatDoor
open Go.RowKit
set_option maxRecDepth 100000
set_option maxHeartbeats 2000000
set_option linter.unusedVariables false

theorem below_join3 {a X w7 : World} (h2 : Below X.heap.size X w7) (h1 : Below a.heap.size a X) : Below a.heap.size a w7 := h1.trans (h2.mono h1.size)
theorem rmod_err (m x a b : Int) (w : World)
    (HO : Hid (∀ w, Calls Tryz.prog 33 #[.agg #[.int .i64 m, .int .i64 x], .int .u64 a, .int .u64 b] w fun r w' => r = .returned (.tuple #[partsV 0 false 0 0, partsV 0 false 0 0, .int .i64 1]) ∧ Below w.heap.size w w')) :
    Calls Tryz.prog 16 #[.agg #[.int .i64 m, .int .i64 x], .int .u64 a, .int .u64 b] w fun r w' => r = .returned (.tuple #[.int .u64 0, .int .u64 0, .int .i64 1]) ∧ Below w.heap.size w w' := by
  go_enter Tryz.func16, Tryz.ntmps16
  go_wp2_with fail
  refine (HO.out _).mono ?_
  rintro r w1 ⟨rfl, hb1⟩
  have HB1 := hidden (box_below _ hb1)
  clear hb1
  go_wp2
  go_ret3
  refine ⟨rfl, ?_⟩
  have h0 := HB1.out
  exact (h0.alloc h0.size _).alloc (by have := h0.size; simp; omega) _
theorem rmod_nan (m x : Nat) (a b K1 E1 M1 K2 E2 M2 : Int) (n1 n2 : Bool) (w : World) (hok : okF m x) (hK : (K1 = 1 ∧ K2 = 1) ∨ (K1 = 1 ∧ K2 = 4) ∨ (K1 = 2 ∧ K2 = 1) ∨ (K1 = 2 ∧ K2 = 4) ∨ (K1 = 3 ∧ K2 = 1) ∨ (K1 = 3 ∧ K2 = 2) ∨ (K1 = 3 ∧ K2 = 3) ∨ (K1 = 3 ∧ K2 = 4) ∨ (K1 = 4 ∧ K2 = 1) ∨ (K1 = 4 ∧ K2 = 2) ∨ (K1 = 4 ∧ K2 = 3) ∨ (K1 = 4 ∧ K2 = 4))
    (hO : Hid (∀ w, Calls Tryz.prog 33 #[.agg #[.int .i64 m, .int .i64 x], .int .u64 a, .int .u64 b] w fun r w' => r = .returned (.tuple #[partsV K1 n1 E1 M1, partsV K2 n2 E2 M2, .int .i64 0]) ∧ Below w.heap.size w w')) :
    Calls Tryz.prog 16 #[.agg #[.int .i64 m, .int .i64 x], .int .u64 a, .int .u64 b] w fun r w' => r = .returned (.tuple #[.int .u64 ((p2 x - 1) * p2 m + p2 (m - 1)), .int .u64 ((p2 x - 1) * p2 m + p2 (m - 1)), .int .i64 0]) ∧ Below w.heap.size w w' := by
  have HK := hidden hK
  clear hK
  have hm : m ≤ 52 := by have := hok.2.1; omega
  have hm0 : 1 ≤ m := by have := hok.1; omega
  have hx : x ≤ 11 := by have := hok.2.2.2; omega
  have HR := hidden (fun w => nan_any m x w hm hm0 hx)
  go_enter Tryz.func16, Tryz.ntmps16
  go_wp2_with fail
  refine (hO.out _).mono ?_
  rintro r w1 ⟨rfl, hb1⟩
  have d0 : w1.cell? ⟨w.heap.size, 0, none⟩ = some (.int .i64 m) := cellLater hb1 (by simp)
  have d1 : w1.cell? ⟨w.heap.size, 1, none⟩ = some (.int .i64 x) := cellLater hb1 (by simp)
  have hbA : Below w1.heap.size w1 ((w1.alloc (.cells #[.int .i64 K1, .bool n1, .int .i64 E1, .int .u64 M1] 53)).alloc (.cells #[.int .i64 K2, .bool n2, .int .i64 E2, .int .u64 M2] 53)) := ((Below.refl _ _).alloc (Nat.le_refl _) _).alloc (by simp) _
  have HB := hidden ((box_below _ hb1).trans (hbA.mono (box_below _ hb1).size))
  have c0 := cellLater hbA d0
  have c1 := cellLater hbA d1
  have hbP : Below (w1.alloc (.cells #[.int .i64 K1, .bool n1, .int .i64 E1, .int .u64 M1] 53)).heap.size (w1.alloc (.cells #[.int .i64 K1, .bool n1, .int .i64 E1, .int .u64 M1] 53)) ((w1.alloc (.cells #[.int .i64 K1, .bool n1, .int .i64 E1, .int .u64 M1] 53)).alloc (.cells #[.int .i64 K2, .bool n2, .int .i64 E2, .int .u64 M2] 53)) := (Below.refl _ _).alloc (Nat.le_refl _) _
  have p0 : ((w1.alloc (.cells #[.int .i64 K1, .bool n1, .int .i64 E1, .int .u64 M1] 53)).alloc (.cells #[.int .i64 K2, .bool n2, .int .i64 E2, .int .u64 M2] 53)).cell? ⟨w1.heap.size, 0, none⟩ = some (.int .i64 K1) := cellLater hbP (by simp)
  have p1 : ((w1.alloc (.cells #[.int .i64 K1, .bool n1, .int .i64 E1, .int .u64 M1] 53)).alloc (.cells #[.int .i64 K2, .bool n2, .int .i64 E2, .int .u64 M2] 53)).cell? ⟨w1.heap.size, 1, none⟩ = some (.bool n1) := cellLater hbP (by simp)
  have p2 : ((w1.alloc (.cells #[.int .i64 K1, .bool n1, .int .i64 E1, .int .u64 M1] 53)).alloc (.cells #[.int .i64 K2, .bool n2, .int .i64 E2, .int .u64 M2] 53)).cell? ⟨w1.heap.size, 2, none⟩ = some (.int .i64 E1) := cellLater hbP (by simp)
  have p3 : ((w1.alloc (.cells #[.int .i64 K1, .bool n1, .int .i64 E1, .int .u64 M1] 53)).alloc (.cells #[.int .i64 K2, .bool n2, .int .i64 E2, .int .u64 M2] 53)).cell? ⟨w1.heap.size, 3, none⟩ = some (.int .u64 M1) := cellLater hbP (by simp)
  have q0 : ((w1.alloc (.cells #[.int .i64 K1, .bool n1, .int .i64 E1, .int .u64 M1] 53)).alloc (.cells #[.int .i64 K2, .bool n2, .int .i64 E2, .int .u64 M2] 53)).cell? ⟨w1.heap.size + 1, 0, none⟩ = some (.int .i64 K2) := by simp
  have q1 : ((w1.alloc (.cells #[.int .i64 K1, .bool n1, .int .i64 E1, .int .u64 M1] 53)).alloc (.cells #[.int .i64 K2, .bool n2, .int .i64 E2, .int .u64 M2] 53)).cell? ⟨w1.heap.size + 1, 1, none⟩ = some (.bool n2) := by simp
  have q2 : ((w1.alloc (.cells #[.int .i64 K1, .bool n1, .int .i64 E1, .int .u64 M1] 53)).alloc (.cells #[.int .i64 K2, .bool n2, .int .i64 E2, .int .u64 M2] 53)).cell? ⟨w1.heap.size + 1, 2, none⟩ = some (.int .i64 E2) := by simp
  have q3 : ((w1.alloc (.cells #[.int .i64 K1, .bool n1, .int .i64 E1, .int .u64 M1] 53)).alloc (.cells #[.int .i64 K2, .bool n2, .int .i64 E2, .int .u64 M2] 53)).cell? ⟨w1.heap.size + 1, 3, none⟩ = some (.int .u64 M2) := by simp
  clear hb1 hbA hbP d0 d1
  go_upto_region 2 with fail
  generalize ((w1.alloc (.cells #[.int .i64 K1, .bool n1, .int .i64 E1, .int .u64 M1] 53)).alloc (.cells #[.int .i64 K2, .bool n2, .int .i64 E2, .int .u64 M2] 53)) = w5 at *
  rcases HK.out with ⟨rfl, rfl⟩ | ⟨rfl, rfl⟩ | ⟨rfl, rfl⟩ | ⟨rfl, rfl⟩ | ⟨rfl, rfl⟩ | ⟨rfl, rfl⟩ | ⟨rfl, rfl⟩ | ⟨rfl, rfl⟩ | ⟨rfl, rfl⟩ | ⟨rfl, rfl⟩ | ⟨rfl, rfl⟩ | ⟨rfl, rfl⟩
  all_goals
    go_wp2_with fail
    go_region_held3 (fun w' => w'.cell? ⟨w.heap.size, 0, none⟩ = some (.int .i64 (m : Int)) ∧ w'.cell? ⟨w.heap.size, 1, none⟩ = some (.int .i64 (x : Int))) (go_keep) (first | (go_at_call 34; (fail_if_success (have t_ := HN1)); refine (HR.out _).mono ?_; rintro r w6 ⟨rfl, hb6⟩; have c0 : w6.cell? ⟨w.heap.size, 0, none⟩ = some (.int .i64 (m : Int)) := cellLater hb6 (by go_keep); have c1 : w6.cell? ⟨w.heap.size, 1, none⟩ = some (.int .i64 (x : Int)) := cellLater hb6 (by go_keep); have HN1 : Hid (Below w5.heap.size w5 w6) := hidden (below_join3 hb6 (by first | exact Below.refl _ _ | exact (Below.refl _ _).drew)); clear hb6) | (go_at_call 34; refine (HR.out _).mono ?_; rintro r w7 ⟨rfl, hb7⟩; have c0 : w7.cell? ⟨w.heap.size, 0, none⟩ = some (.int .i64 (m : Int)) := cellLater hb7 (by go_keep); have c1 : w7.cell? ⟨w.heap.size, 1, none⟩ = some (.int .i64 (x : Int)) := cellLater hb7 (by go_keep); have HN2 := hidden (HN1.out.trans (hb7.mono HN1.out.size)); clear hb7))
  all_goals
    go_wp2
    go_ret3
    exact ⟨rfl, HB.out.trans (HN2.out.mono HB.out.size)⟩
theorem rmod_inf (m x : Nat) (a b K1 E1 M1 K2 E2 M2 : Int) (n1 n2 : Bool) (w : World) (hok : okF m x) (hK : (K1 = 1 ∧ K2 = 3) ∨ (K1 = 2 ∧ K2 = 3))
    (hO : Hid (∀ w, Calls Tryz.prog 33 #[.agg #[.int .i64 m, .int .i64 x], .int .u64 a, .int .u64 b] w fun r w' => r = .returned (.tuple #[partsV K1 n1 E1 M1, partsV K2 n2 E2 M2, .int .i64 0]) ∧ Below w.heap.size w w')) :
    Calls Tryz.prog 16 #[.agg #[.int .i64 m, .int .i64 x], .int .u64 a, .int .u64 b] w fun r w' => r = .returned (.tuple #[.int .u64 a, .int .u64 (sgnW (n1 != n2) (m + x)), .int .i64 0]) ∧ Below w.heap.size w w' := by
  have HK := hidden hK
  clear hK
  have hm : m ≤ 52 := by have := hok.2.1; omega
  have hm0 : 1 ≤ m := by have := hok.1; omega
  have hx : x ≤ 11 := by have := hok.2.2.2; omega
  have HR : Hid (∀ w, Calls Tryz.prog 36 #[.agg #[.int .i64 (m : Int), .int .i64 (x : Int)], .bool (n1 != n2)] w fun r w' => r = .returned (.int .u64 (sgnW (n1 != n2) (m + x))) ∧ Below w.heap.size w w') := hidden fun w => by
    refine (zero_any m x (n1 != n2) w hm hx).mono ?_
    rintro r w' ⟨rfl, hw⟩
    subst hw
    refine ⟨rfl, ?_⟩
    repeat (first | exact Below.refl _ _ | apply Below.drew | (refine Below.alloc ?_ (by simp; try omega) _))
  go_enter Tryz.func16, Tryz.ntmps16
  go_wp2_with fail
  refine (hO.out _).mono ?_
  rintro r w1 ⟨rfl, hb1⟩
  have d0 : w1.cell? ⟨w.heap.size, 0, none⟩ = some (.int .i64 m) := cellLater hb1 (by simp)
  have d1 : w1.cell? ⟨w.heap.size, 1, none⟩ = some (.int .i64 x) := cellLater hb1 (by simp)
  have hbA : Below w1.heap.size w1 ((w1.alloc (.cells #[.int .i64 K1, .bool n1, .int .i64 E1, .int .u64 M1] 53)).alloc (.cells #[.int .i64 K2, .bool n2, .int .i64 E2, .int .u64 M2] 53)) := ((Below.refl _ _).alloc (Nat.le_refl _) _).alloc (by simp) _
  have HB := hidden ((box_below _ hb1).trans (hbA.mono (box_below _ hb1).size))
  have c0 := cellLater hbA d0
  have c1 := cellLater hbA d1
  have hbP : Below (w1.alloc (.cells #[.int .i64 K1, .bool n1, .int .i64 E1, .int .u64 M1] 53)).heap.size (w1.alloc (.cells #[.int .i64 K1, .bool n1, .int .i64 E1, .int .u64 M1] 53)) ((w1.alloc (.cells #[.int .i64 K1, .bool n1, .int .i64 E1, .int .u64 M1] 53)).alloc (.cells #[.int .i64 K2, .bool n2, .int .i64 E2, .int .u64 M2] 53)) := (Below.refl _ _).alloc (Nat.le_refl _) _
  have p0 : ((w1.alloc (.cells #[.int .i64 K1, .bool n1, .int .i64 E1, .int .u64 M1] 53)).alloc (.cells #[.int .i64 K2, .bool n2, .int .i64 E2, .int .u64 M2] 53)).cell? ⟨w1.heap.size, 0, none⟩ = some (.int .i64 K1) := cellLater hbP (by simp)
  have p1 : ((w1.alloc (.cells #[.int .i64 K1, .bool n1, .int .i64 E1, .int .u64 M1] 53)).alloc (.cells #[.int .i64 K2, .bool n2, .int .i64 E2, .int .u64 M2] 53)).cell? ⟨w1.heap.size, 1, none⟩ = some (.bool n1) := cellLater hbP (by simp)
  have p2 : ((w1.alloc (.cells #[.int .i64 K1, .bool n1, .int .i64 E1, .int .u64 M1] 53)).alloc (.cells #[.int .i64 K2, .bool n2, .int .i64 E2, .int .u64 M2] 53)).cell? ⟨w1.heap.size, 2, none⟩ = some (.int .i64 E1) := cellLater hbP (by simp)
  have p3 : ((w1.alloc (.cells #[.int .i64 K1, .bool n1, .int .i64 E1, .int .u64 M1] 53)).alloc (.cells #[.int .i64 K2, .bool n2, .int .i64 E2, .int .u64 M2] 53)).cell? ⟨w1.heap.size, 3, none⟩ = some (.int .u64 M1) := cellLater hbP (by simp)
  have q0 : ((w1.alloc (.cells #[.int .i64 K1, .bool n1, .int .i64 E1, .int .u64 M1] 53)).alloc (.cells #[.int .i64 K2, .bool n2, .int .i64 E2, .int .u64 M2] 53)).cell? ⟨w1.heap.size + 1, 0, none⟩ = some (.int .i64 K2) := by simp
  have q1 : ((w1.alloc (.cells #[.int .i64 K1, .bool n1, .int .i64 E1, .int .u64 M1] 53)).alloc (.cells #[.int .i64 K2, .bool n2, .int .i64 E2, .int .u64 M2] 53)).cell? ⟨w1.heap.size + 1, 1, none⟩ = some (.bool n2) := by simp
  have q2 : ((w1.alloc (.cells #[.int .i64 K1, .bool n1, .int .i64 E1, .int .u64 M1] 53)).alloc (.cells #[.int .i64 K2, .bool n2, .int .i64 E2, .int .u64 M2] 53)).cell? ⟨w1.heap.size + 1, 2, none⟩ = some (.int .i64 E2) := by simp
  have q3 : ((w1.alloc (.cells #[.int .i64 K1, .bool n1, .int .i64 E1, .int .u64 M1] 53)).alloc (.cells #[.int .i64 K2, .bool n2, .int .i64 E2, .int .u64 M2] 53)).cell? ⟨w1.heap.size + 1, 3, none⟩ = some (.int .u64 M2) := by simp
  clear hb1 hbA hbP d0 d1
  go_upto_region 2 with fail
  generalize ((w1.alloc (.cells #[.int .i64 K1, .bool n1, .int .i64 E1, .int .u64 M1] 53)).alloc (.cells #[.int .i64 K2, .bool n2, .int .i64 E2, .int .u64 M2] 53)) = w5 at *
  rcases HK.out with ⟨rfl, rfl⟩ | ⟨rfl, rfl⟩
  all_goals
    go_wp2_with (go_at_call 36; refine (HR.out _).mono ?_; rintro r w6 ⟨rfl, hb6⟩; have c0 := cellLater hb6 c0; have c1 := cellLater hb6 c1; have HB := hidden (HB.out.trans (hb6.mono HB.out.size)); clear hb6)
    go_ret3
    exact ⟨rfl, HB.out⟩
end Go.Proofs.YtbfbdemknggpkaaGreatDoor
namespace Go.Proofs.YtbfbdemknggpkaaGreatDoor
open Go.RowKit
set_option maxHeartbeats 400000
set_option linter.unusedVariables false

theorem near_one (m x : Nat) (A e P : Int) (hA : 0 < A) (hx : 2 ≤ x) (h : IsNear m x A 1 e P) : P = packP m x A e false := by
  refine near_pack_gen m x A 1 e P A e false hA (by decide) hx (fun h => by cases h) h ?_ ?_ ?_
  · rw [show (e - e).toNat = 0 by omega, show p2 0 = 1 from rfl]; omega
  · rw [show (e - e).toNat = 0 by omega, show p2 0 = 1 from rfl]; omega
  · rw [show (e - e).toNat = 0 by omega, show p2 0 = 1 from rfl]; simp
end Go.Proofs.YtbfbdemknggpkaaGreatDoor
namespace Go.Proofs.YtbfbdemknggpkaaGreatDoor
open Go.RowKit
set_option maxRecDepth 100000
set_option maxHeartbeats 1000000
set_option linter.unusedVariables false

theorem addis (m x : Nat) (S e R : Int) (hx : 2 ≤ x) (h : AddIs m x S e R) : R = packP m x (absI S) e false + sgnW (decide (S < 0)) (m + x) := by
  rcases h with ⟨rfl, rfl⟩ | ⟨hS, P, hP, rfl⟩
  · have : absI 0 = 0 := rfl
    rw [this]
    simp [packP, sgnW]
  · have hA : 0 < absI S := by unfold absI; split <;> omega
    rw [near_one m x (absI S) e P hA hx hP]
theorem sgnI_sg (n : Bool) : sgnI n = sg n := rfl
theorem addis_two (m x : Nat) (n1 n2 : Bool) (E1 M1 E2 M2 e R : Int) (k1 k2 : Nat) (hx : 2 ≤ x) (he : min E1 E2 = e) (hk1 : E1 - e = k1) (hk2 : E2 - e = k2) (h : AddIs m x (sgnI n1 * (M1 * p2 k1) + sgnI n2 * (M2 * p2 k2)) e R) : R = sumI m x n1 E1 M1 n2 E2 M2 := by
  rw [addis m x _ e R hx h]
  unfold sumI sumS
  rw [he, show (E1 - e).toNat = k1 by omega, show (E2 - e).toNat = k2 by omega]
  rfl
/-- zero and a number is the number -/
theorem sum_zero (m x : Nat) (n1 n2 : Bool) (E1 E2 M2 b : Int) (hM : 0 < M2) (hb : packP m x M2 E2 false + sgnW n2 (m + x) = b) : sumI m x n1 E1 0 n2 E2 M2 = b := by
  unfold sumI sumS
  obtain ⟨k, hk⟩ : ∃ k : Nat, E2 - min E1 E2 = k := ⟨(E2 - min E1 E2).toNat, by omega⟩
  rw [hk, Int.zero_mul, Int.mul_zero, Int.zero_add, show ((k : Int)).toNat = k by omega]
  have hX : 0 < M2 * p2 k := Int.mul_pos hM (p2_pos k)
  have hp : packP m x (M2 * p2 k) (min E1 E2) false = packP m x M2 E2 false := by
    rw [← pack_scale m x M2 E2 k (by omega)]
    congr 1
    omega
  rw [← hb, ← hp]
  generalize M2 * p2 k = X at *
  unfold absI
  cases n2
  · rw [sg_f, Int.one_mul, if_neg (by omega), decide_eq_false (by omega)]
  · rw [sg_t, if_pos (by omega), decide_eq_true (show -1 * X < 0 by omega), show -(-1 * X) = X by omega]
abbrev ROpenC (m x : Nat) (a b K1 : Int) (n1 : Bool) (E1 M1 K2 : Int) (n2 : Bool) (E2 M2 : Int) : Prop := Hid (∀ w, Calls Tryz.prog 33 #[.agg #[.int .i64 (m : Int), .int .i64 (x : Int)], .int .u64 a, .int .u64 b] w fun r w' => r = .returned (.tuple #[partsV K1 n1 E1 M1, partsV K2 n2 E2 M2, .int .i64 0]) ∧ Below w.heap.size w w')
theorem radd_k (m x : Nat) (a b K1 E1 M1 K2 E2 M2 : Int) (n1 n2 : Bool) (w : World) (hok : okF m x) (g1 : PatK m x a K1 n1 E1 M1) (g2 : PatK m x b K2 n2 E2 M2) (HO : ROpenC m x a b K1 n1 E1 M1 K2 n2 E2 M2) :
    Calls Tryz.prog 12 #[.agg #[.int .i64 (m : Int), .int .i64 (x : Int)], .int .u64 a, .int .u64 b] w fun r w' => r = .returned (.tuple #[.int .u64 (addK m x a b K1 n1 E1 M1 K2 n2 E2 M2), .int .i64 0]) ∧ Below w.heap.size w w' := by
  have hx : 2 ≤ x := by have := hok.2.2.1; omega
  have hm : m ≤ 52 := by have := hok.2.1; omega
  have hm1 : 1 ≤ m := by have := hok.1; omega
  have hx11 : x ≤ 11 := by have := hok.2.2.2; omega
  have HN : Hid (∀ w, Calls Tryz.prog 34 #[.agg #[.int .i64 (m : Int), .int .i64 (x : Int)]] w fun r w' => r = .returned (.int .u64 (nanI m x)) ∧ Below w.heap.size w w') := hidden fun w => nan_any m x w hm hm1 hx11
  have HI : ∀ s, Hid (∀ w, Calls Tryz.prog 35 #[.agg #[.int .i64 (m : Int), .int .i64 (x : Int)], .bool s] w fun r w' => r = .returned (.int .u64 (infI m x s)) ∧ Below w.heap.size w w') := fun s => hidden fun w => inf_any m x s w hm hx11
  have HZ : ∀ s, Hid (∀ w, Calls Tryz.prog 36 #[.agg #[.int .i64 (m : Int), .int .i64 (x : Int)], .bool s] w fun r w' => r = .returned (.int .u64 (sgnW s (m + x))) ∧ Below w.heap.size w w') := fun s => hidden fun w => by
    refine (zero_any m x s w hm hx11).mono ?_
    rintro r w' ⟨rfl, hw⟩
    subst hw
    refine ⟨rfl, ?_⟩
    repeat (first | exact Below.refl _ _ | apply Below.drew | (refine Below.alloc ?_ (by simp; try omega) _))
  rcases g1.kind with rfl | rfl | rfl | rfl <;> rcases g2.kind with rfl | rfl | rfl | rfl
  · cases n1
    · rw [show addK m x a b 1 false E1 M1 1 n2 E2 M2 = sgnW false (m + x) by simp [addK]]; exact radd_11f m x a b E1 M1 E2 M2 _ n2 w HO (HZ _)
    · rw [show addK m x a b 1 true E1 M1 1 n2 E2 M2 = sgnW n2 (m + x) by simp [addK]]; exact radd_11t m x a b E1 M1 E2 M2 _ n2 w HO (HZ _)
  · rw [show addK m x a b 1 n1 E1 M1 2 n2 E2 M2 = b by simp [addK]]; 
    obtain ⟨rfl, rfl, -⟩ := g1.zero rfl
    obtain ⟨f2, h2⟩ := g2.fin rfl
    have r2 := f2.rng hok
    obtain ⟨k1, hk1⟩ : ∃ k : Nat, 0 - min 0 E2 = k := ⟨(0 - min 0 E2).toNat, by omega⟩
    obtain ⟨k2, hk2⟩ : ∃ k : Nat, E2 - min 0 E2 = k := ⟨(E2 - min 0 E2).toNat, by omega⟩
    refine (radd_sum_12 m x a b 0 0 E2 M2 _ n1 n2 k1 k2 w hok (by omega) (by omega) (by omega) (by omega) rfl hk1 hk2 (by omega) (by omega) HO).mono ?_
    rintro r w' ⟨R, rfl, hR, hb⟩
    have e := addis_two m x n1 n2 0 0 E2 M2 _ R k1 k2 hx rfl hk1 hk2 hR
    rw [sum_zero m x n1 n2 0 E2 M2 b f2.1 h2] at e
    exact ⟨by rw [e], hb⟩
  · have hb := g2.inf rfl
    rw [show addK m x a b 1 n1 E1 M1 3 n2 E2 M2 = b by simp [addK]]; rw [hb] at HO ⊢; exact radd_13 m x a _ E1 M1 E2 M2 _ n1 n2 w HO (HI _)
  · rw [show addK m x a b 1 n1 E1 M1 4 n2 E2 M2 = nanI m x by simp [addK]]; exact radd_14 m x a b E1 M1 E2 M2 _ n1 n2 w HO HN
  · rw [show addK m x a b 2 n1 E1 M1 1 n2 E2 M2 = a by simp [addK]]; 
    obtain ⟨f1, h1⟩ := g1.fin rfl
    have r1 := f1.rng hok
    obtain ⟨rfl, rfl, -⟩ := g2.zero rfl
    obtain ⟨k1, hk1⟩ : ∃ k : Nat, E1 - min E1 0 = k := ⟨(E1 - min E1 0).toNat, by omega⟩
    obtain ⟨k2, hk2⟩ : ∃ k : Nat, 0 - min E1 0 = k := ⟨(0 - min E1 0).toNat, by omega⟩
    refine (radd_sum_21 m x a b E1 M1 0 0 _ n1 n2 k1 k2 w hok (by omega) (by omega) (by omega) (by omega) rfl hk1 hk2 (by omega) (by omega) HO).mono ?_
    rintro r w' ⟨R, rfl, hR, hb⟩
    have e := addis_two m x n1 n2 E1 M1 0 0 _ R k1 k2 hx rfl hk1 hk2 hR
    rw [sumI_comm, sum_zero m x n2 n1 0 E1 M1 a f1.1 h1] at e
    exact ⟨by rw [e], hb⟩
  · rw [show addK m x a b 2 n1 E1 M1 2 n2 E2 M2 = sumI m x n1 E1 M1 n2 E2 M2 by simp [addK]]; 
    obtain ⟨f1, h1⟩ := g1.fin rfl
    have r1 := f1.rng hok
    obtain ⟨f2, h2⟩ := g2.fin rfl
    have r2 := f2.rng hok
    obtain ⟨k1, hk1⟩ : ∃ k : Nat, E1 - min E1 E2 = k := ⟨(E1 - min E1 E2).toNat, by omega⟩
    obtain ⟨k2, hk2⟩ : ∃ k : Nat, E2 - min E1 E2 = k := ⟨(E2 - min E1 E2).toNat, by omega⟩
    refine (radd_sum_22 m x a b E1 M1 E2 M2 _ n1 n2 k1 k2 w hok (by omega) (by omega) (by omega) (by omega) rfl hk1 hk2 (by omega) (by omega) HO).mono ?_
    rintro r w' ⟨R, rfl, hR, hb⟩
    have e := addis_two m x n1 n2 E1 M1 E2 M2 _ R k1 k2 hx rfl hk1 hk2 hR
    exact ⟨by rw [e], hb⟩
  · have hb := g2.inf rfl
    rw [show addK m x a b 2 n1 E1 M1 3 n2 E2 M2 = b by simp [addK]]; rw [hb] at HO ⊢; exact radd_23 m x a _ E1 M1 E2 M2 _ n1 n2 w HO (HI _)
  · rw [show addK m x a b 2 n1 E1 M1 4 n2 E2 M2 = nanI m x by simp [addK]]; exact radd_24 m x a b E1 M1 E2 M2 _ n1 n2 w HO HN
  · have ha := g1.inf rfl
    cases n1
    · rw [show addK m x a b 3 false E1 M1 1 n2 E2 M2 = a by simp [addK]]; rw [ha] at HO ⊢; exact radd_31f m x _ b E1 M1 E2 M2 _ n2 w HO (HI _)
    · rw [show addK m x a b 3 true E1 M1 1 n2 E2 M2 = a by simp [addK]]; rw [ha] at HO ⊢; exact radd_31t m x _ b E1 M1 E2 M2 _ n2 w HO (HI _)
  · have ha := g1.inf rfl
    cases n1
    · rw [show addK m x a b 3 false E1 M1 2 n2 E2 M2 = a by simp [addK]]; rw [ha] at HO ⊢; exact radd_32f m x _ b E1 M1 E2 M2 _ n2 w HO (HI _)
    · rw [show addK m x a b 3 true E1 M1 2 n2 E2 M2 = a by simp [addK]]; rw [ha] at HO ⊢; exact radd_32t m x _ b E1 M1 E2 M2 _ n2 w HO (HI _)
  · have ha := g1.inf rfl
    cases n1 <;> cases n2
    · rw [show addK m x a b 3 false E1 M1 3 false E2 M2 = a by simp [addK]]; rw [ha] at HO ⊢; exact radd_33ff m x _ b E1 M1 E2 M2 _ w HO (HI _)
    · rw [show addK m x a b 3 false E1 M1 3 true E2 M2 = nanI m x by simp [addK]]; exact radd_33ft m x a b E1 M1 E2 M2 _ w HO HN
    · rw [show addK m x a b 3 true E1 M1 3 false E2 M2 = nanI m x by simp [addK]]; exact radd_33tf m x a b E1 M1 E2 M2 _ w HO HN
    · rw [show addK m x a b 3 true E1 M1 3 true E2 M2 = a by simp [addK]]; rw [ha] at HO ⊢; exact radd_33tt m x _ b E1 M1 E2 M2 _ w HO (HI _)
  · rw [show addK m x a b 3 n1 E1 M1 4 n2 E2 M2 = nanI m x by simp [addK]]; exact radd_34 m x a b E1 M1 E2 M2 _ n1 n2 w HO HN
  · rw [show addK m x a b 4 n1 E1 M1 1 n2 E2 M2 = nanI m x by simp [addK]]; exact radd_41 m x a b E1 M1 E2 M2 _ n1 n2 w HO HN
  · rw [show addK m x a b 4 n1 E1 M1 2 n2 E2 M2 = nanI m x by simp [addK]]; exact radd_42 m x a b E1 M1 E2 M2 _ n1 n2 w HO HN
  · rw [show addK m x a b 4 n1 E1 M1 3 n2 E2 M2 = nanI m x by simp [addK]]; exact radd_43 m x a b E1 M1 E2 M2 _ n1 n2 w HO HN
  · rw [show addK m x a b 4 n1 E1 M1 4 n2 E2 M2 = nanI m x by simp [addK]]; exact radd_44 m x a b E1 M1 E2 M2 _ n1 n2 w HO HN
end Go.Proofs.YtbfbdemknggpkaaGreatDoor
namespace Go.Proofs.YtbfbdemknggpkaaGreatDoor
open Go.RowKit
set_option maxRecDepth 100000
set_option maxHeartbeats 400000
set_option linter.unusedVariables false

abbrev ROpen2 (m x : Nat) (a b K1 : Int) (n1 : Bool) (E1 M1 K2 : Int) (n2 : Bool) (E2 M2 : Int) : Prop := Hid (∀ w, Calls Tryz.prog 33 #[.agg #[.int .i64 (m : Int), .int .i64 (x : Int)], .int .u64 a, .int .u64 b] w fun r w' => r = .returned (.tuple #[partsV K1 n1 E1 M1, partsV K2 n2 E2 M2, .int .i64 0]) ∧ Below w.heap.size w w')
abbrev BothErr (F : Nat) (m x a b : Int) : Prop := Hid (∀ w, Calls Tryz.prog F #[.agg #[.int .i64 m, .int .i64 x], .int .u64 a, .int .u64 b] w fun r w' => r = .returned (.tuple #[partsV 0 false 0 0, partsV 0 false 0 0, .int .i64 1]) ∧ Below w.heap.size w w')
abbrev ROpenC1 (m x : Nat) (a K : Int) (n : Bool) (E M : Int) : Prop := Hid (∀ w, Calls Tryz.prog 42 #[.agg #[.int .i64 (m : Int), .int .i64 (x : Int)], .int .u64 a] w fun r w' => r = .returned (.tuple #[partsV K n E M, .int .i64 0]) ∧ Below w.heap.size w w')
abbrev OpenErr (F : Nat) (m x a : Int) : Prop := Hid (∀ w, Calls Tryz.prog F #[.agg #[.int .i64 m, .int .i64 x], .int .u64 a] w fun r w' => r = .returned (.tuple #[partsV 0 false 0 0, .int .i64 1]) ∧ Below w.heap.size w w')
theorem ropen_one (m x : Nat) (a : Int) (hok : okF m x) (a0 : 0 ≤ a) (a1 : a ≤ 18446744073709551615) (ha : bl a ≤ 1 + x + m) : ROpenC1 m x a (kindI m x a) (negI m x a) (expI m x a) (manI m x a) := hidden fun w => ropen_any m x a w hok a0 a1 ha
theorem ropen_one_big (m x : Nat) (a : Int) (hok : okF m x) (a0 : 0 ≤ a) (a1 : a ≤ 18446744073709551615) (ha : 1 + x + m < bl a) : OpenErr 42 m x a := hidden fun w => ropen_big m x a _ _ w hok a0 a1 rfl rfl (top_big m x a a0 ha)
/-- one pattern -/
theorem open_one (m x a : Int) (a0 : 0 ≤ a) (a1 : a ≤ 18446744073709551615) :
    (∃ (m' x' : Nat) (K E M : Int) (n : Bool), m = m' ∧ x = x' ∧ okF m' x' ∧ bl a ≤ 1 + x' + m' ∧ PatK m' x' a K n E M ∧ Open1C m' x' a K n E M ∧ ROpenC1 m' x' a K n E M) ∨ (OpenErr 68 m x a ∧ OpenErr 42 m x a) := by
  by_cases hok : okF m x
  · obtain ⟨m, rfl⟩ := Int.eq_ofNat_of_zero_le (show 0 ≤ m by have := hok.1; omega)
    obtain ⟨x, rfl⟩ := Int.eq_ofNat_of_zero_le (show 0 ≤ x by have := hok.2.2.1; omega)
    by_cases ha : bl a ≤ 1 + x + m
    · exact .inl ⟨m, x, _, _, _, _, rfl, rfl, hok, ha, patK m x a hok a0 ha, popen1 m x a hok a0 a1 ha, ropen_one m x a hok a0 a1 ha⟩
    · exact .inr ⟨hidden fun w => popen_big m x a w hok a0 a1 (by omega), ropen_one_big m x a hok a0 a1 (by omega)⟩
  · exact .inr ⟨hidden fun w => popen_no m x a w hok, hidden fun w => ropen_no m x a w hok⟩
/-- two patterns -/
theorem open_both (m x a b : Int) (a0 : 0 ≤ a) (a1 : a ≤ 18446744073709551615) (b0 : 0 ≤ b) (b1 : b ≤ 18446744073709551615) :
    (∃ (m' x' : Nat) (K1 E1 M1 K2 E2 M2 : Int) (n1 n2 : Bool), m = m' ∧ x = x' ∧ okF m' x' ∧ bl a ≤ 1 + x' + m' ∧ bl b ≤ 1 + x' + m' ∧ PatK m' x' a K1 n1 E1 M1 ∧ PatK m' x' b K2 n2 E2 M2 ∧ OpenC m' x' a b K1 n1 E1 M1 K2 n2 E2 M2 ∧ ROpen2 m' x' a b K1 n1 E1 M1 K2 n2 E2 M2) ∨
    (BothErr 56 m x a b ∧ BothErr 33 m x a b) := by
  by_cases hok : okF m x
  · obtain ⟨m, rfl⟩ := Int.eq_ofNat_of_zero_le (show 0 ≤ m by have := hok.1; omega)
    obtain ⟨x, rfl⟩ := Int.eq_ofNat_of_zero_le (show 0 ≤ x by have := hok.2.2.1; omega)
    by_cases ha : bl a ≤ 1 + x + m
    · by_cases hb : bl b ≤ 1 + x + m
      · exact .inl ⟨m, x, _, _, _, _, _, _, _, _, rfl, rfl, hok, ha, hb, patK m x a hok a0 ha, patK m x b hok b0 hb, popen2 m x a b hok a0 a1 ha b0 b1 hb, hidden fun w => open2_any m x a b _ _ _ _ _ _ _ _ w (ropen_one m x a hok a0 a1 ha) (ropen_one m x b hok b0 b1 hb)⟩
      · exact .inr ⟨hidden fun w => pboth2_no2 m x a b _ _ _ _ w (popen1 m x a hok a0 a1 ha) (hidden fun w => popen_big m x b w hok b0 b1 (by omega)), hidden fun w => open2_no m x a b _ _ _ 0 0 0 0 1 _ false w (.inr ⟨rfl, rfl⟩) (ropen_one m x a hok a0 a1 ha) (ropen_one_big m x b hok b0 b1 (by omega))⟩
    · refine .inr ⟨hidden fun w => pboth2_no1 m x a b w (hidden fun w => popen_big m x a w hok a0 a1 (by omega)), hidden fun w => ?_⟩
      by_cases hb : bl b ≤ 1 + x + m
      · exact open2_no m x a b 0 0 0 _ _ _ 1 0 false _ w (.inl ⟨rfl, .inl rfl⟩) (ropen_one_big m x a hok a0 a1 (by omega)) (ropen_one m x b hok b0 b1 hb)
      · exact open2_no m x a b 0 0 0 0 0 0 1 1 false false w (.inl ⟨rfl, .inr rfl⟩) (ropen_one_big m x a hok a0 a1 (by omega)) (ropen_one_big m x b hok b0 b1 (by omega))
  · exact .inr ⟨hidden fun w => pboth2_no1 m x a b w (hidden fun w => popen_no m x a w hok), hidden fun w => open2_no m x a b 0 0 0 0 0 0 1 1 false false w (.inl ⟨rfl, .inr rfl⟩) (hidden fun w => ropen_no m x a w hok) (hidden fun w => ropen_no m x b w hok)⟩
end Go.Proofs.YtbfbdemknggpkaaGreatDoor
namespace Go.Proofs.YtbfbdemknggpkaaGreatDoor
open Go.RowKit
set_option maxRecDepth 100000
set_option maxHeartbeats 400000
set_option linter.unusedVariables false

abbrev Ret2 (F : Nat) (m x : Nat) (a b R : Int) (w : World) : Prop := Calls Tryz.prog F #[.agg #[.int .i64 (m : Int), .int .i64 (x : Int)], .int .u64 a, .int .u64 b] w fun r w' => r = .returned (.tuple #[.int .u64 R, .int .i64 0]) ∧ Below w.heap.size w w'
theorem PatK.small {m x : Nat} {a K E M : Int} {n : Bool} (g : PatK m x a K n E M) (hok : okF m x) (h : K = 1 ∨ K = 2) : 0 ≤ M ∧ M < 9007199254740992 ∧ -1100 ≤ E ∧ E ≤ 1100 ∧ (K = 1 → M = 0) ∧ (K = 2 → 0 < M) := by
  rcases h with rfl | rfl
  · obtain ⟨rfl, rfl, -⟩ := g.zero rfl
    refine ⟨by omega, by omega, by omega, by omega, fun _ => rfl, fun h => by cases h⟩
  · obtain ⟨f, -⟩ := g.fin rfl
    obtain ⟨h1, h2, h3, h4⟩ := f.rng hok
    exact ⟨by omega, h4, h1, h2, (fun h => by cases h), fun _ => h3⟩
theorem rmul_small (m x : Nat) (a b K1 E1 M1 K2 E2 M2 : Int) (n1 n2 : Bool) (w : World) (hok : okF m x) (g1 : PatK m x a K1 n1 E1 M1) (g2 : PatK m x b K2 n2 E2 M2) (h1 : K1 = 1 ∨ K1 = 2) (h2 : K2 = 1 ∨ K2 = 2) (HO : ROpen2 m x a b K1 n1 E1 M1 K2 n2 E2 M2) :
    Ret2 14 m x a b (mulK m x K1 n1 E1 M1 K2 n2 E2 M2) w := by
  have hx : 2 ≤ x := by have := hok.2.2.1; omega
  obtain ⟨a0, a1, a2, a3, a4, a5⟩ := g1.small hok h1
  obtain ⟨b0, b1, b2, b3, b4, b5⟩ := g2.small hok h2
  refine (rmul_near m x a b K1 E1 M1 K2 E2 M2 n1 n2 w hok h1 h2 a0 (by omega) b0 (by omega) (by omega) (by omega) HO).mono ?_
  rintro r w' ⟨P, rfl, hP, hb⟩
  have e : P + sgnW (n1 != n2) (m + x) = mulK m x K1 n1 E1 M1 K2 n2 E2 M2 := by
    rcases h1 with rfl | rfl
    · rw [a4 rfl, Int.zero_mul] at hP
      have h0 : P = 0 := by rcases hP with h | h <;> omega
      rcases h2 with rfl | rfl <;> simp [mulK, h0]
    · rcases h2 with rfl | rfl
      · rw [b4 rfl, Int.mul_zero] at hP
        have h0 : P = 0 := by rcases hP with h | h <;> omega
        simp [mulK, h0]
      · have hp := Int.mul_pos (a5 rfl) (b5 rfl)
        rcases hP with h | h
        · omega
        · rw [near_one m x (M1 * M2) (E1 + E2) P hp hx h.2]
          simp [mulK]
  exact ⟨by rw [e], hb⟩
theorem rmul_k (m x : Nat) (a b K1 E1 M1 K2 E2 M2 : Int) (n1 n2 : Bool) (w : World) (hok : okF m x) (g1 : PatK m x a K1 n1 E1 M1) (g2 : PatK m x b K2 n2 E2 M2) (HO : ROpen2 m x a b K1 n1 E1 M1 K2 n2 E2 M2) :
    Ret2 14 m x a b (mulK m x K1 n1 E1 M1 K2 n2 E2 M2) w := by
  have nan : mulK m x K1 n1 E1 M1 K2 n2 E2 M2 = (p2 x - 1) * p2 m + p2 (m - 1) → ((K1 = 1 ∧ K2 = 3) ∨ (K1 = 1 ∧ K2 = 4) ∨ (K1 = 2 ∧ K2 = 4) ∨ (K1 = 3 ∧ K2 = 1) ∨ (K1 = 3 ∧ K2 = 4) ∨ (K1 = 4 ∧ K2 = 1) ∨ (K1 = 4 ∧ K2 = 2) ∨ (K1 = 4 ∧ K2 = 3) ∨ (K1 = 4 ∧ K2 = 4)) → Ret2 14 m x a b (mulK m x K1 n1 E1 M1 K2 n2 E2 M2) w := fun e h => by rw [e]; unfold Ret2; exact rmul_nan m x a b K1 E1 M1 K2 E2 M2 n1 n2 w hok h HO
  have inf : mulK m x K1 n1 E1 M1 K2 n2 E2 M2 = (p2 x - 1) * p2 m + sgnW (n1 != n2) (m + x) → ((K1 = 2 ∧ K2 = 3) ∨ (K1 = 3 ∧ K2 = 2) ∨ (K1 = 3 ∧ K2 = 3)) → Ret2 14 m x a b (mulK m x K1 n1 E1 M1 K2 n2 E2 M2) w := fun e h => by rw [e]; unfold Ret2; exact rmul_inf m x a b K1 E1 M1 K2 E2 M2 n1 n2 w hok h HO
  rcases g1.kind with rfl | rfl | rfl | rfl <;> rcases g2.kind with rfl | rfl | rfl | rfl
  all_goals first
    | exact rmul_small m x a b _ E1 M1 _ E2 M2 n1 n2 w hok g1 g2 (by decide) (by decide) HO
    | exact nan (by simp [mulK, nanI]) (by decide)
    | exact inf (by simp [mulK, infI]) (by decide)
theorem rdiv_small (m x : Nat) (a b K1 E1 M1 K2 E2 M2 : Int) (n1 n2 : Bool) (w : World) (hok : okF m x) (g1 : PatK m x a K1 n1 E1 M1) (g2 : PatK m x b K2 n2 E2 M2) (h1 : K1 = 1 ∨ K1 = 2) (h2 : K2 = 2) (HO : ROpen2 m x a b K1 n1 E1 M1 K2 n2 E2 M2) :
    Ret2 15 m x a b (divK m x K1 n1 E1 M1 K2 n2 E2 M2) w := by
  have hx : 2 ≤ x := by have := hok.2.2.1; omega
  have hm : m ≤ 52 := by have := hok.2.1; omega
  obtain ⟨a0, a1, a2, a3, a4, a5⟩ := g1.small hok h1
  obtain ⟨b0, b1, b2, b3, b4, b5⟩ := g2.small hok (.inr h2)
  have hM2 := b5 h2
  refine (rdiv_near m x a b K1 E1 M1 K2 E2 M2 n1 n2 w hok h1 h2 a0 (by omega) hM2 (by omega) (by omega) (by omega) HO).mono ?_
  rintro r w' ⟨P, rfl, hP, hb⟩
  have e : P + sgnW (n1 != n2) (m + x) = divK m x K1 n1 E1 M1 K2 n2 E2 M2 := by
    subst h2
    rcases h1 with rfl | rfl
    · have := a4 rfl
      have h0 : P = 0 := by rcases hP with h | h <;> omega
      simp [divK, h0]
    · have hM1 := a5 rfl
      rcases hP with h | h
      · omega
      · obtain ⟨q1, q2, q3⟩ := quo_near M1 M2 E1 E2 _ _ (quoQ M1 M2) (quoE E1 M1 E2 M2) hM1 hM2 rfl rfl
        have hq := quoQ_bd M1 M2 hM1 (by omega) hM2 (by omega)
        have hl := quoQ_bl M1 M2 hM1 (by omega) hM2 (by omega)
        have hp : P = divI m x E1 M1 E2 M2 := near_pack_gen m x M1 M2 (E1 - E2) P (quoQ M1 M2) (quoE E1 M1 E2 M2) _ (by omega) hM2 hx (fun _ => by omega) h.2 q1 q2 (by rw [← q3, decide_eq_false_iff_not, Decidable.not_not]; rfl)
        rw [hp]
        simp [divK]
  exact ⟨by rw [e], hb⟩
theorem rdiv_k (m x : Nat) (a b K1 E1 M1 K2 E2 M2 : Int) (n1 n2 : Bool) (w : World) (hok : okF m x) (g1 : PatK m x a K1 n1 E1 M1) (g2 : PatK m x b K2 n2 E2 M2) (HO : ROpen2 m x a b K1 n1 E1 M1 K2 n2 E2 M2) :
    Ret2 15 m x a b (divK m x K1 n1 E1 M1 K2 n2 E2 M2) w := by
  have nan : divK m x K1 n1 E1 M1 K2 n2 E2 M2 = (p2 x - 1) * p2 m + p2 (m - 1) → ((K1 = 1 ∧ K2 = 1) ∨ (K1 = 1 ∧ K2 = 4) ∨ (K1 = 2 ∧ K2 = 4) ∨ (K1 = 3 ∧ K2 = 3) ∨ (K1 = 3 ∧ K2 = 4) ∨ (K1 = 4 ∧ K2 = 1) ∨ (K1 = 4 ∧ K2 = 2) ∨ (K1 = 4 ∧ K2 = 3) ∨ (K1 = 4 ∧ K2 = 4)) → Ret2 15 m x a b (divK m x K1 n1 E1 M1 K2 n2 E2 M2) w := fun e h => by rw [e]; unfold Ret2; exact rdiv_nan m x a b K1 E1 M1 K2 E2 M2 n1 n2 w hok h HO
  have inf : divK m x K1 n1 E1 M1 K2 n2 E2 M2 = (p2 x - 1) * p2 m + sgnW (n1 != n2) (m + x) → ((K1 = 2 ∧ K2 = 1) ∨ (K1 = 3 ∧ K2 = 1) ∨ (K1 = 3 ∧ K2 = 2)) → Ret2 15 m x a b (divK m x K1 n1 E1 M1 K2 n2 E2 M2) w := fun e h => by rw [e]; unfold Ret2; exact rdiv_inf m x a b K1 E1 M1 K2 E2 M2 n1 n2 w hok h HO
  have zero : divK m x K1 n1 E1 M1 K2 n2 E2 M2 = sgnW (n1 != n2) (m + x) → ((K1 = 1 ∧ K2 = 3) ∨ (K1 = 2 ∧ K2 = 3)) → Ret2 15 m x a b (divK m x K1 n1 E1 M1 K2 n2 E2 M2) w := fun e h => by rw [e]; unfold Ret2; exact rdiv_zero m x a b K1 E1 M1 K2 E2 M2 n1 n2 w hok h HO
  rcases g1.kind with rfl | rfl | rfl | rfl <;> rcases g2.kind with rfl | rfl | rfl | rfl
  all_goals first
    | exact rdiv_small m x a b _ E1 M1 _ E2 M2 n1 n2 w hok g1 g2 (by decide) (by decide) HO
    | exact nan (by simp [divK, nanI]) (by decide)
    | exact inf (by simp [divK, infI]) (by decide)
    | exact zero (by simp [divK]) (by decide)
end Go.Proofs.YtbfbdemknggpkaaGreatDoor
namespace Go.Proofs.YtbfbdemknggpkaaGreatDoor
open Go.RowKit
set_option maxHeartbeats 400000
set_option linter.unusedVariables false

theorem rnd_half (N : Int) (k : Nat) (more : Bool) (hk : 2 ≤ k) : rnd N k more = rnd (N / 2) (k - 1) (more || decide (N % 2 ≠ 0)) := by
  have e : p2 (k - 1) = 2 * p2 (k - 1 - 1) := by rw [← p2_succ]; congr 1; omega
  have hP := p2_pos (k - 1 - 1)
  unfold rnd
  rw [e]
  generalize p2 (k - 1 - 1) = P at *
  have d1 : N / (2 * P) = N / 2 / P := (Int.ediv_ediv_of_nonneg (show (0 : Int) ≤ 2 by decide)).symm
  have d2 : N % (2 * P) ≠ 0 ↔ (N / 2 % P ≠ 0 ∨ N % 2 ≠ 0) := by
    have h1 := Int.mul_ediv_add_emod N (2 * P)
    have h2 := Int.mul_ediv_add_emod (N / 2) P
    have h3 := Int.mul_ediv_add_emod N 2
    rw [d1] at h1
    have h4 := Int.emod_nonneg (N / 2) (show P ≠ 0 by omega)
    rw [Int.mul_assoc] at h1
    generalize P * (N / 2 / P) = U at *
    omega
  rw [d1]
  have d3 : (more = true ∨ N % (2 * P) ≠ 0 ∨ N / 2 / P / 2 % 2 = 1) ↔ ((more || decide (N % 2 ≠ 0)) = true ∨ N / 2 % P ≠ 0 ∨ N / 2 / P / 2 % 2 = 1) := by
    rw [d2, Bool.or_eq_true, decide_eq_true_iff]
    constructor
    · rintro (h | (h | h) | h)
      · exact .inl (.inl h)
      · exact .inr (.inl h)
      · exact .inl (.inr h)
      · exact .inr (.inr h)
    · rintro ((h | h) | h | h)
      · exact .inl h
      · exact .inr (.inl (.inr h))
      · exact .inr (.inl (.inl h))
      · exact .inr (.inr h)
  simp only [d3]
theorem bl_half (N : Int) (h : 0 < N / 2) : bl N = bl (N / 2) + 1 := by
  rcases (show N = 2 * (N / 2) ∨ N = 2 * (N / 2) + 1 by omega) with e | e
  · have := bl_two (N / 2) h
    rw [← e] at this
    exact this
  · have := bl_two_one (N / 2) h
    rw [← e] at this
    exact this
theorem bl_pos_of {N : Int} {k : Nat} (h : k + 1 ≤ bl N) : 0 < N := by
  rcases Int.lt_or_le 0 N with hN | hN
  · exact hN
  · have : bl N = 0 := by unfold bl; rw [if_pos hN]
    omega
theorem pack_half (m x : Nat) (N e : Int) (more : Bool) (h : m + 3 ≤ bl (N / 2)) : packP m x N e more = packP m x (N / 2) (e + 1) (more || decide (N % 2 ≠ 0)) := by
  have h0 : 0 < N / 2 := bl_pos_of (k := m + 2) h
  have hb := bl_half N h0
  rw [packP_pos _ _ _ _ _ (show 0 < N by omega), packP_pos _ _ _ _ _ h0, hb]
  have e1 : unitI m x (bl (N / 2) + 1) e = unitI m x (bl (N / 2)) (e + 1) := by unfold unitI; congr 1; omega
  have hu : e + 1 + bl (N / 2) - 1 - m ≤ unitI m x (bl (N / 2)) (e + 1) := by unfold unitI; omega
  rw [e1, show e + ((bl (N / 2) + 1 : Nat) : Int) - 1 = e + 1 + bl (N / 2) - 1 by omega]
  generalize unitI m x (bl (N / 2)) (e + 1) = U at *
  unfold unitsI
  rw [if_neg (show ¬ U - e ≤ 0 by omega), if_neg (show ¬ U - (e + 1) ≤ 0 by omega), rnd_half N _ more (by omega), show (U - e).toNat - 1 = (U - (e + 1)).toNat by omega]
/-- the lowest d bits cut off, and remembered -/
theorem pack_cut (m x : Nat) (N e : Int) (more : Bool) (d : Nat) (h : m + 3 ≤ bl (N / p2 d)) : packP m x N e more = packP m x (N / p2 d) (e + d) (more || decide (N % p2 d ≠ 0)) := by
  induction d with
  | zero =>
    rw [show p2 0 = 1 from rfl, Int.ediv_one, Int.emod_one]
    simp
  | succ d ih =>
    have hN : 0 < N / p2 (d + 1) := bl_pos_of (k := m + 2) h
    have e1 : N / p2 (d + 1) = N / p2 d / 2 := (half_step N d).symm
    have h1 : m + 3 ≤ bl (N / p2 d) := by
      have := bl_half (N / p2 d) (by rw [← e1]; exact hN)
      rw [← e1] at this
      omega
    rw [ih h1, pack_half m x (N / p2 d) (e + d) _ (by rw [← e1]; exact h), ← e1, show e + ((d + 1 : Nat) : Int) = e + d + 1 by omega]
    congr 1
    have hP := p2_pos d
    have d2 : N % p2 (d + 1) ≠ 0 ↔ (N % p2 d ≠ 0 ∨ N / p2 d % 2 ≠ 0) := by
      have g1 := Int.mul_ediv_add_emod N (p2 (d + 1))
      have g2 := Int.mul_ediv_add_emod N (p2 d)
      have g3 : N / p2 d = 2 * (N / p2 d / 2) + N / p2 d % 2 := by omega
      rw [e1, p2_succ] at g1
      rw [p2_succ]
      have g4 := Int.emod_nonneg N (show p2 d ≠ 0 by omega)
      have g5 : p2 d * (N / p2 d) = 2 * p2 d * (N / p2 d / 2) + p2 d * (N / p2 d % 2) := by
        rw [show p2 d * (N / p2 d) = p2 d * (2 * (N / p2 d / 2) + N / p2 d % 2) by rw [← g3], Int.mul_add, ← Int.mul_assoc, Int.mul_comm (p2 d) 2]
      rcases (show N / p2 d % 2 = 0 ∨ N / p2 d % 2 = 1 by omega) with g | g
      · rw [g] at g5 ⊢
        rw [Int.mul_zero] at g5
        generalize 2 * p2 d * (N / p2 d / 2) = U at *
        omega
      · rw [g] at g5 ⊢
        rw [Int.mul_one] at g5
        generalize 2 * p2 d * (N / p2 d / 2) = U at *
        omega
    simp only [d2]
    cases more <;> by_cases ha : N % p2 d = 0 <;> by_cases hb : N / p2 d % 2 = 0 <;> simp [ha, hb]
/-- a root told in a coarser unit -/
theorem root_cut (X R r : Int) (d : Nat) (hR : IsRoot (X * (p2 d * p2 d)) R) (hr : IsRoot X r) : r = R / p2 d ∧ (r * r ≠ X ↔ (R * R ≠ X * (p2 d * p2 d) ∨ R % p2 d ≠ 0)) := by
  obtain ⟨R0, R1, R2⟩ := hR
  have hP := p2_pos d
  have hPP : 0 < p2 d * p2 d := Int.mul_pos hP hP
  have g1 := Int.mul_ediv_add_emod R (p2 d)
  have g2 := Int.emod_nonneg R (show p2 d ≠ 0 by omega)
  have g3 := Int.emod_lt_of_pos R hP
  have q0 : 0 ≤ R / p2 d := Int.ediv_nonneg R0 (by omega)
  have sq : ∀ a : Int, p2 d * a * (p2 d * a) = a * a * (p2 d * p2 d) := fun a => by
    rw [Int.mul_comm (p2 d) a, Int.mul_assoc, Int.mul_left_comm (p2 d) a, ← Int.mul_assoc]
  have k : IsRoot X (R / p2 d) := by
    refine ⟨q0, ?_, ?_⟩
    · have h1 : p2 d * (R / p2 d) ≤ R := by omega
      have h2 := sq_le (Int.mul_nonneg (Int.le_of_lt hP) q0) h1
      rw [sq] at h2
      have h3 := Int.le_trans h2 R1
      rcases Int.lt_or_le X (R / p2 d * (R / p2 d)) with h | h
      · have := Int.mul_lt_mul_of_pos_right h hPP
        omega
      · exact h
    · have h1 : R + 1 ≤ p2 d * (R / p2 d + 1) := by rw [Int.mul_add]; omega
      have h2 := sq_le (show (0 : Int) ≤ R + 1 by omega) h1
      rw [sq] at h2
      have h3 := Int.lt_of_lt_of_le R2 h2
      rcases Int.lt_or_le X ((R / p2 d + 1) * (R / p2 d + 1)) with h | h
      · exact h
      · have := Int.mul_le_mul_of_nonneg_right h (Int.le_of_lt hPP)
        omega
  have e := hr.uniq k
  refine ⟨e, ?_⟩
  by_cases hz : R % p2 d = 0
  · have e2 : R = p2 d * r := by rw [e]; omega
    have e3 : R * R = r * r * (p2 d * p2 d) := by rw [e2, sq]
    rw [e3]
    constructor
    · intro h
      left
      intro h4
      exact h (Int.eq_of_mul_eq_mul_right (by omega) h4)
    · rintro (h | h) h4
      · exact h (by rw [h4])
      · exact h hz
  · constructor
    · intro _
      exact .inr hz
    · intro _ h4
      apply hz
      have e5 : IsRoot (X * (p2 d * p2 d)) (p2 d * r) := by
        refine ⟨Int.mul_nonneg (Int.le_of_lt hP) hr.1, ?_, ?_⟩
        · rw [sq, h4]; exact Int.le_refl _
        · have h5 := sq r
          rw [h4] at h5
          rw [← h5]
          have h6 : 0 ≤ p2 d * r := Int.mul_nonneg (Int.le_of_lt hP) hr.1
          rw [Int.add_mul, Int.mul_add, Int.mul_one, Int.one_mul]
          omega
      have e6 := IsRoot.uniq ⟨R0, R1, R2⟩ e5
      rw [e6]
      exact Int.mul_emod_right _ _
/-- what the page reckons of a root (X told in an even power e of 2) is what the finer root R gives -/
theorem root_pack (m x : Nat) (X R r e : Int) (d : Nat) (hR : IsRoot (X * (p2 d * p2 d)) R) (hr : IsRoot X r) (hb : m + 3 ≤ bl r) :
    packP m x r (e + d) (decide (r * r ≠ X)) = packP m x R e (decide (R * R ≠ X * (p2 d * p2 d))) := by
  obtain ⟨h1, h2⟩ := root_cut X R r d hR hr
  rw [pack_cut m x R e _ d (by rw [← h1]; exact hb), ← h1]
  congr 1
  rw [show (decide (r * r ≠ X)) = decide (R * R ≠ X * (p2 d * p2 d) ∨ R % p2 d ≠ 0) from decide_eq_decide.2 h2]
  by_cases ha : R * R = X * (p2 d * p2 d) <;> by_cases hc : R % p2 d = 0 <;> simp [ha, hc]
end Go.Proofs.YtbfbdemknggpkaaGreatDoor
namespace Go.Proofs.YtbfbdemknggpkaaGreatDoor
open Go.RowKit
set_option maxHeartbeats 400000
set_option linter.unusedVariables false

theorem pack_self (m x : Nat) (E M : Int) (hx : 2 ≤ x) (h : FinP m x E M) : packP m x M E false = (E - least m x) * p2 m + M := by
  rcases Int.lt_or_le M (p2 m) with hM | hM
  · obtain ⟨h0, h1, h2, h3, h4⟩ := h
    obtain rfl : E = least m x := by omega
    rw [pack_sub m x M h0 hM hx, Int.sub_self, Int.zero_mul, Int.zero_add]
  · exact pack_norm m x E M hx h hM
theorem fin_lt (m x : Nat) (E1 M1 E2 M2 : Int) (k1 k2 : Nat) (h1 : FinP m x E1 M1) (h2 : FinP m x E2 M2) (hk1 : E1 - min E1 E2 = k1) (hk2 : E2 - min E1 E2 = k2) (hlt : E1 < E2) :
    M1 * p2 k1 < M2 * p2 k2 ∧ (E1 - least m x) * p2 m + M1 < (E2 - least m x) * p2 m + M2 := by
  obtain ⟨a0, a1, a2, a3, a4⟩ := h1
  obtain ⟨b0, b1, b2, b3, b4⟩ := h2
  have hM2 : p2 m ≤ M2 := by rcases b4 with h | h <;> omega
  obtain rfl : k1 = 0 := by omega
  have hk : 1 ≤ k2 := by omega
  have hp := p2_pos m
  have h3 : p2 m * p2 1 ≤ M2 * p2 k2 := Int.mul_le_mul hM2 (p2_mono hk) (Int.le_of_lt (p2_pos _)) (by omega)
  rw [← p2_add] at h3
  refine ⟨by rw [p2_0]; omega, ?_⟩
  have h4 : (E1 - least m x + 1) * p2 m ≤ (E2 - least m x) * p2 m := Int.mul_le_mul_of_nonneg_right (by omega) (by omega)
  rw [Int.add_mul, Int.one_mul] at h4
  rw [p2_succ] at a1
  omega
theorem fin_order (m x : Nat) (E1 M1 E2 M2 : Int) (k1 k2 : Nat) (h1 : FinP m x E1 M1) (h2 : FinP m x E2 M2) (hk1 : E1 - min E1 E2 = k1) (hk2 : E2 - min E1 E2 = k2) :
    (M1 * p2 k1 < M2 * p2 k2 ↔ (E1 - least m x) * p2 m + M1 < (E2 - least m x) * p2 m + M2) ∧ (M2 * p2 k2 < M1 * p2 k1 ↔ (E2 - least m x) * p2 m + M2 < (E1 - least m x) * p2 m + M1) := by
  rcases Int.lt_trichotomy E1 E2 with h | h | h
  · obtain ⟨a, b⟩ := fin_lt m x E1 M1 E2 M2 k1 k2 h1 h2 hk1 hk2 h
    omega
  · subst h
    obtain rfl : k1 = 0 := by omega
    obtain rfl : k2 = 0 := by omega
    rw [p2_0]
    omega
  · obtain ⟨a, b⟩ := fin_lt m x E2 M2 E1 M1 k2 k1 h2 h1 (by rw [Int.min_comm]; exact hk2) (by rw [Int.min_comm]; exact hk1) h
    omega
/-- a pattern without its sign -/
def magI (m x : Nat) (K E M : Int) : Int := if K = 1 then 0 else if K = 2 then (E - least m x) * p2 m + M else (p2 x - 1) * p2 m
theorem mag_rank (m x : Nat) (a K E M : Int) (n : Bool) (hok : okF m x) (g : PatK m x a K n E M) (h4 : K ≠ 4) : rankI (m + x) a = sg n * magI m x K E M ∧ 0 ≤ magI m x K E M ∧ magI m x K E M ≤ (p2 x - 1) * p2 m ∧ (K = 2 → 0 < magI m x K E M ∧ magI m x K E M < (p2 x - 1) * p2 m) := by
  obtain ⟨t0, t1, t2, t3⟩ := top_bd m x hok
  have hx : 2 ≤ x := by have := hok.2.2.1; omega
  have hp := p2_pos (m + x)
  have key : ∀ g : Int, 0 ≤ g → g < p2 (m + x) → rankI (m + x) (g + sgnW n (m + x)) = sg n * g := by
    intro g g0 g1
    unfold rankI sgnW sg
    cases n
    · simp only [Bool.false_eq_true, if_false]
      rw [if_neg (by omega), Int.add_zero, Int.emod_eq_of_lt g0 g1]; omega
    · simp only [if_true]
      rw [if_pos (by omega), Int.add_emod_right, Int.emod_eq_of_lt g0 g1]; omega
  rcases g.kind with rfl | rfl | rfl | rfl
  · obtain ⟨-, -, ha⟩ := g.zero rfl
    have e : magI m x 1 E M = 0 := by simp [magI]
    rw [e]
    refine ⟨?_, by omega, t0, fun h => by omega⟩
    have := key 0 (by omega) (by omega)
    rw [Int.zero_add] at this
    rw [ha]; exact this
  · obtain ⟨hf, ha⟩ := g.fin rfl
    have e : magI m x 2 E M = (E - least m x) * p2 m + M := by simp [magI]
    have hs := pack_self m x E M hx hf
    have hb := pack_bd m x M E false (Int.le_of_lt hf.1) hx
    rw [e, ← hs]
    have hpos : 0 < packP m x M E false := by
      rw [hs]
      have : 0 ≤ (E - least m x) * p2 m := Int.mul_nonneg (by have := hf.2.2.1; omega) (Int.le_of_lt (p2_pos m))
      have := hf.1
      omega
    have hlt : packP m x M E false < (p2 x - 1) * p2 m := by
      rw [hs]
      have hbt := bias_two x hx
      have h1 : (E - least m x) * p2 m ≤ (p2 x - 1 - 2) * p2 m := Int.mul_le_mul_of_nonneg_right (by have := hf.2.2.2.1; unfold least; omega) (Int.le_of_lt (p2_pos m))
      rw [Int.sub_mul (p2 x - 1) 2] at h1
      have h2 := hf.2.1
      rw [p2_succ] at h2
      omega
    refine ⟨?_, by omega, by omega, fun _ => ⟨hpos, hlt⟩⟩
    rw [← ha]; exact key _ (by omega) (by omega)
  · have ha := g.inf rfl
    have e : magI m x 3 E M = (p2 x - 1) * p2 m := by simp [magI]
    rw [e]
    refine ⟨?_, t0, Int.le_refl _, fun h => by omega⟩
    rw [ha]; exact key _ t0 t1
  · exact absurd rfl h4
/-- the sign of a number -/
def sgz (S : Int) : Int := if S < 0 then -1 else if 0 < S then 1 else 0
theorem cmp_sum (n1 n2 : Bool) (X Y A B : Int) (x0 : 0 ≤ X) (y0 : 0 ≤ Y) (a0 : 0 ≤ A) (b0 : 0 ≤ B) (h1 : X < Y ↔ A < B) (h2 : Y < X ↔ B < A) (h3 : X = 0 ↔ A = 0) (h4 : Y = 0 ↔ B = 0) :
    cmpZ (sg n1 * A) (sg n2 * B) = sgz (sg n1 * X + sg (!n2) * Y) := by
  unfold cmpZ sgz sg
  cases n1 <;> cases n2 <;> simp only [Bool.not_false, Bool.not_true, Bool.false_eq_true, if_false, if_true] <;> repeat (first | omega | split)
end Go.Proofs.YtbfbdemknggpkaaGreatDoor
namespace Go.Proofs.YtbfbdemknggpkaaGreatDoor
open Go.RowKit
set_option maxRecDepth 100000
set_option maxHeartbeats 400000
set_option linter.unusedVariables false

abbrev Ret3 (F : Nat) (m x : Nat) (a b R Q : Int) (w : World) : Prop := Calls Tryz.prog F #[.agg #[.int .i64 (m : Int), .int .i64 (x : Int)], .int .u64 a, .int .u64 b] w fun r w' => r = .returned (.tuple #[.int .u64 R, .int .u64 Q, .int .i64 0]) ∧ Below w.heap.size w w'
theorem quo_pack (m x : Nat) (Q : Int) (hm : m ≤ 52) (hQ : 0 ≤ Q) : packP m x Q 0 false = packP m x (Q / p2 (bl Q - 64)) ((bl Q - 64 : Nat) : Int) (decide (Q % p2 (bl Q - 64) ≠ 0)) := by
  by_cases h : bl Q ≤ 64
  · rw [show bl Q - 64 = 0 by omega, show p2 0 = 1 from rfl, Int.ediv_one, Int.emod_one]
    simp
  · have hQ0 : 0 < Q := by
      rcases Int.lt_or_le 0 Q with h1 | h1
      · exact h1
      · have : bl Q = 0 := by unfold bl; rw [if_pos h1]
        omega
    obtain ⟨b0, b1, b2⟩ := bl_bd Q hQ0
    have h2 : p2 63 ≤ Q / p2 (bl Q - 64) := by
      have h3 : p2 63 * p2 (bl Q - 64) ≤ Q := by rw [← p2_add, show 63 + (bl Q - 64) = bl Q - 1 by omega]; exact b1
      exact (Int.le_ediv_iff_mul_le (p2_pos _)).2 h3
    have h4 := lt_bl h2
    have h5 := pack_cut m x Q 0 false (bl Q - 64) (by omega)
    rw [Bool.false_or, Int.zero_add] at h5
    exact h5
theorem rmod_small (m x : Nat) (a b K1 E1 M1 E2 M2 : Int) (n1 n2 : Bool) (w : World) (hok : okF m x) (g1 : PatK m x a K1 n1 E1 M1) (g2 : PatK m x b 2 n2 E2 M2) (h1 : K1 = 1 ∨ K1 = 2) (HO : ROpen2 m x a b K1 n1 E1 M1 2 n2 E2 M2) :
    Ret3 16 m x a b (restK m x a K1 n1 E1 M1 2 n2 E2 M2) (quoK m x K1 n1 E1 M1 2 n2 E2 M2) w := by
  have hx : 2 ≤ x := by have := hok.2.2.1; omega
  have hm : m ≤ 52 := by have := hok.2.1; omega
  obtain ⟨f2, hf2⟩ := g2.fin rfl
  obtain ⟨r1, r2, r3, r4⟩ := f2.rng hok
  have q1 : 0 ≤ M1 ∧ M1 < 9007199254740992 ∧ -1100 ≤ E1 ∧ E1 ≤ 1100 := by
    rcases h1 with rfl | rfl
    · obtain ⟨rfl, rfl, -⟩ := g1.zero rfl
      omega
    · obtain ⟨f1, -⟩ := g1.fin rfl
      obtain ⟨s1, s2, s3, s4⟩ := f1.rng hok
      omega
  obtain ⟨k1, hk1⟩ : ∃ k : Nat, E1 - min E1 E2 = k := ⟨(E1 - min E1 E2).toNat, by omega⟩
  obtain ⟨k2, hk2⟩ : ∃ k : Nat, E2 - min E1 E2 = k := ⟨(E2 - min E1 E2).toNat, by omega⟩
  refine (rmod_num m x a b K1 E1 M1 E2 M2 (min E1 E2) n1 n2 k1 k2 w hok (by rcases h1 with rfl | rfl <;> rfl) (by rcases h1 with rfl | rfl <;> rfl) q1.1 (by omega) r3 (by omega) rfl hk1 hk2 (by omega) (by omega) HO).mono ?_
  rintro r w' ⟨P, Q, R, T, rfl, hE, hR0, hR1, hQ0, hP, hT, hb⟩
  have hPe : P = packP m x R (min E1 E2) false := by
    rcases hP with ⟨h, h'⟩ | ⟨h, h'⟩
    · rw [h, h']; simp [packP]
    · exact near_one m x R _ P h hx h'
  have hTe : T = packP m x Q 0 false := by
    rcases hT with ⟨h, h'⟩ | ⟨h, h'⟩
    · rw [h, h']; simp [packP]
    · exact near_one m x Q 0 T h hx h'
  have hY : 0 < M2 * p2 k2 := Int.mul_pos r3 (p2_pos k2)
  have hdm : M1 * p2 k1 / (M2 * p2 k2) = Q ∧ M1 * p2 k1 % (M2 * p2 k2) = R := by
    have h : M1 * p2 k1 = R + M2 * p2 k2 * Q := by rw [Int.mul_comm (M2 * p2 k2) Q]; omega
    rw [h, Int.add_mul_ediv_left _ _ (by omega), Int.add_mul_emod_self_left, Int.ediv_eq_zero_of_lt hR0 hR1, Int.emod_eq_of_lt hR0 hR1]
    omega
  have goal : P + sgnW n1 (m + x) = restK m x a K1 n1 E1 M1 2 n2 E2 M2 ∧ T + sgnW (n1 != n2) (m + x) = quoK m x K1 n1 E1 M1 2 n2 E2 M2 := by
    rcases h1 with rfl | rfl
    · obtain ⟨rfl, rfl, ha⟩ := g1.zero rfl
      rw [Int.zero_mul, Int.zero_ediv, Int.zero_emod] at hdm
      obtain ⟨rfl, rfl⟩ := hdm
      rw [hPe, hTe]
      constructor
      · simp [packP, restK]; exact ha.symm
      · simp [packP, quoK]
    · obtain ⟨f1, hf1⟩ := g1.fin rfl
      by_cases hlt : E1 < E2
      · have e1 : k1 = 0 := by omega
        subst e1
        have hmin : min E1 E2 = E1 := by omega
        have hM : M1 < M2 * p2 k2 := by
          have n2' : p2 m ≤ M2 := by
            rcases f2.2.2.2.2 with h | h
            · exact h
            · have := f1.2.2.1; omega
          have h3 := f1.2.1
          rw [p2_succ] at h3
          have h4 : 2 ≤ p2 k2 := by
            have := p2_mono (show 1 ≤ k2 by omega)
            rw [show p2 1 = 2 from rfl] at this
            exact this
          have h5 := Int.mul_le_mul n2' h4 (by decide) (by omega)
          omega
        rw [show p2 0 = 1 from rfl, Int.mul_one, Int.ediv_eq_zero_of_lt q1.1 hM, Int.emod_eq_of_lt q1.1 hM] at hdm
        obtain ⟨rfl, rfl⟩ := hdm
        rw [hPe, hTe, hmin]
        constructor
        · simp [restK, hlt]; exact hf1
        · simp [packP, quoK, hlt]
      · have e2 : k2 = 0 := by omega
        subst e2
        have hmin : min E1 E2 = E2 := by omega
        have hk : (E1 - E2).toNat = k1 := by omega
        rw [show p2 0 = 1 from rfl, Int.mul_one] at hdm
        obtain ⟨h5, h6⟩ := hdm
        rw [hPe, hTe, hmin, quo_pack m x Q hm hQ0]
        constructor
        · simp [restK, hlt, hk, h6]
        · simp [quoK, hlt, hk, wqQ, wqS, h5]
  exact ⟨by rw [goal.1, goal.2], hb⟩
theorem rmod_k (m x : Nat) (a b K1 E1 M1 K2 E2 M2 : Int) (n1 n2 : Bool) (w : World) (hok : okF m x) (g1 : PatK m x a K1 n1 E1 M1) (g2 : PatK m x b K2 n2 E2 M2) (HO : ROpen2 m x a b K1 n1 E1 M1 K2 n2 E2 M2) :
    Ret3 16 m x a b (restK m x a K1 n1 E1 M1 K2 n2 E2 M2) (quoK m x K1 n1 E1 M1 K2 n2 E2 M2) w := by
  have nan : restK m x a K1 n1 E1 M1 K2 n2 E2 M2 = (p2 x - 1) * p2 m + p2 (m - 1) → quoK m x K1 n1 E1 M1 K2 n2 E2 M2 = (p2 x - 1) * p2 m + p2 (m - 1) → ((K1 = 1 ∧ K2 = 1) ∨ (K1 = 1 ∧ K2 = 4) ∨ (K1 = 2 ∧ K2 = 1) ∨ (K1 = 2 ∧ K2 = 4) ∨ (K1 = 3 ∧ K2 = 1) ∨ (K1 = 3 ∧ K2 = 2) ∨ (K1 = 3 ∧ K2 = 3) ∨ (K1 = 3 ∧ K2 = 4) ∨ (K1 = 4 ∧ K2 = 1) ∨ (K1 = 4 ∧ K2 = 2) ∨ (K1 = 4 ∧ K2 = 3) ∨ (K1 = 4 ∧ K2 = 4)) → Ret3 16 m x a b (restK m x a K1 n1 E1 M1 K2 n2 E2 M2) (quoK m x K1 n1 E1 M1 K2 n2 E2 M2) w := fun e e' h => by rw [e, e']; unfold Ret3; exact rmod_nan m x a b K1 E1 M1 K2 E2 M2 n1 n2 w hok h HO
  have inf : restK m x a K1 n1 E1 M1 K2 n2 E2 M2 = a → quoK m x K1 n1 E1 M1 K2 n2 E2 M2 = sgnW (n1 != n2) (m + x) → ((K1 = 1 ∧ K2 = 3) ∨ (K1 = 2 ∧ K2 = 3)) → Ret3 16 m x a b (restK m x a K1 n1 E1 M1 K2 n2 E2 M2) (quoK m x K1 n1 E1 M1 K2 n2 E2 M2) w := fun e e' h => by rw [e, e']; unfold Ret3; exact rmod_inf m x a b K1 E1 M1 K2 E2 M2 n1 n2 w hok h HO
  rcases g1.kind with rfl | rfl | rfl | rfl <;> rcases g2.kind with rfl | rfl | rfl | rfl
  all_goals first
    | exact rmod_small m x a b _ E1 M1 E2 M2 n1 n2 w hok g1 g2 (by decide) HO
    | exact nan (by simp [restK, nanI]) (by simp [quoK, nanI]) (by decide)
    | exact inf (by simp [restK]) (by simp [quoK]) (by decide)
end Go.Proofs.YtbfbdemknggpkaaGreatDoor
namespace Go.Proofs.YtbfbdemknggpkaaGreatDoor
open Go.RowKit
set_option maxRecDepth 100000
set_option maxHeartbeats 400000
set_option linter.unusedVariables false

abbrev ROpenS (m x : Nat) (a K : Int) (n : Bool) (E M : Int) : Prop := Hid (∀ w, Calls Tryz.prog 42 #[.agg #[.int .i64 (m : Int), .int .i64 (x : Int)], .int .u64 a] w fun r w' => r = .returned (.tuple #[partsV K n E M, .int .i64 0]) ∧ Below w.heap.size w w')
theorem sqrt_same (m x : Nat) (E M R rt P : Int) (k : Nat) (hx : 2 ≤ x) (hm : m ≤ 52) (hM0 : 0 < M) (hM1 : M < 9007199254740992) (hbl : bl M ≤ m + 1) (hR : IsRoot (rootS E M * 18446744073709551616) R) (hr : IsRoot (M * p2 k) rt) (hpar : (E - k) % 2 = 0) (h8 : 2 * m + 8 ≤ bl M + k) (h9 : bl M + k ≤ 2 * m + 9)
    (hP : IsNear m x (2 * rt + (if rt * rt < M * p2 k then 1 else 0)) 1 ((E - k) / 2 - 1) P) : P = packP m x R (rootE E M) (decide (R * R ≠ rootS E M * 18446744073709551616)) := by
  obtain ⟨u1, u2, u3, u4⟩ := upE_ok E M hM0 (by omega)
  have ub : 63 ≤ upE E M + bl M := by unfold upE; split <;> omega
  obtain ⟨d, hd⟩ : ∃ d : Nat, upE E M + 64 = k + (d + d) := ⟨(upE E M + 64 - k) / 2, by omega⟩
  have hX0 : 0 < M * p2 k := Int.mul_pos hM0 (p2_pos k)
  have hlow : p2 (2 * m + 7) ≤ M * p2 k := by
    obtain ⟨b0, b1, b2⟩ := bl_bd M hM0
    have h1 := Int.mul_le_mul_of_nonneg_right b1 (Int.le_of_lt (p2_pos k))
    rw [← p2_add] at h1
    exact Int.le_trans (p2_mono (by omega)) h1
  have hb : m + 3 ≤ bl rt := by
    have h1 : p2 (m + 3) ≤ rt := by
      rcases Int.lt_or_le rt (p2 (m + 3)) with h | h
      · exfalso
        have h2 := sq_le (show (0 : Int) ≤ rt + 1 by have := hr.1; omega) (show rt + 1 ≤ p2 (m + 3) by omega)
        rw [← p2_add, show m + 3 + (m + 3) = 2 * m + 6 by omega] at h2
        have h3 := hr.2.2
        have h4 := p2_mono (show 2 * m + 6 ≤ 2 * m + 7 by omega)
        omega
      · exact h
    have := lt_bl h1
    omega
  have hrt : 0 < rt := bl_pos_of (k := m + 2) hb
  have hne : (rt * rt < M * p2 k) ↔ (rt * rt ≠ M * p2 k) := by have := hr.2.1; omega
  have e1 : P = packP m x rt ((E - k) / 2) (decide (rt * rt ≠ M * p2 k)) := by
    refine near_pack m x rt ((E - k) / 2) P _ hrt hx (fun _ => hb) ?_
    by_cases h : rt * rt < M * p2 k
    · rw [if_pos h] at hP
      rw [decide_eq_true (hne.1 h)]
      exact hP
    · rw [if_neg h] at hP
      rw [decide_eq_false (fun h' => h (hne.2 h'))]
      exact hP
  have e2 : rootS E M * 18446744073709551616 = M * p2 k * (p2 d * p2 d) := by
    unfold rootS
    rw [show (18446744073709551616 : Int) = p2 64 by decide +kernel, Int.mul_assoc, ← p2_add, hd, p2_add, p2_add, ← Int.mul_assoc]
  have e3 : (E - k) / 2 = rootE E M + d := by unfold rootE; omega
  rw [e1, e3, e2]
  rw [e2] at hR
  exact root_pack m x (M * p2 k) R rt (rootE E M) d hR hr hb
theorem rsqrt_k (m x : Nat) (a K E M R : Int) (n : Bool) (w : World) (hok : okF m x) (g : PatK m x a K n E M) (hR : K = 2 → IsRoot (rootS E M * 18446744073709551616) R) (HO : ROpenS m x a K n E M) :
    Calls Tryz.prog 17 #[.agg #[.int .i64 (m : Int), .int .i64 (x : Int)], .int .u64 a] w fun r w' => r = .returned (.tuple #[.int .u64 (sqrtK m x a K n E M R), .int .i64 0]) ∧ Below w.heap.size w w' := by
  have hx : 2 ≤ x := by have := hok.2.2.1; omega
  have hm : m ≤ 52 := by have := hok.2.1; omega
  have hm1 : 1 ≤ m := by have := hok.1; omega
  have hx11 : x ≤ 11 := by have := hok.2.2.2; omega
  have HN : Hid (∀ w, Calls Tryz.prog 34 #[.agg #[.int .i64 (m : Int), .int .i64 (x : Int)]] w fun r w' => r = .returned (.int .u64 (nanI m x)) ∧ Below w.heap.size w w') := hidden fun w => nan_any m x w hm hm1 hx11
  rcases g.kind with rfl | rfl | rfl | rfl
  · rw [show sqrtK m x a 1 n E M R = a by simp [sqrtK]]
    exact rsqrt_self m x a 1 E M n w rfl (by cases n; exact .inl rfl; exact .inr ⟨rfl, rfl⟩) rfl HO
  · cases n
    · obtain ⟨f, -⟩ := g.fin rfl
      obtain ⟨r1, r2, r3, r4⟩ := f.rng hok
      have hblm : bl M ≤ m + 1 := bl_le (by omega) f.2.1
      refine (rsqrt_fin m x a E M w hok r3 r4 hblm r1 r2 HO).mono ?_
      rintro r w' ⟨k, rt, P, h1, h2, h3, h4, h5, rfl, hb⟩
      refine ⟨?_, hb⟩
      rw [sqrt_same m x E M R rt P k hx hm r3 r4 hblm (hR rfl) h1 h2 h3 h4 h5]
      simp [sqrtK, sgnW]
    · rw [show sqrtK m x a 2 true E M R = nanI m x by simp [sqrtK]]
      exact rsqrt_nan m x a 2 E M _ true w (.inr ⟨rfl, rfl, rfl⟩) HO HN
  · cases n
    · rw [show sqrtK m x a 3 false E M R = a by simp [sqrtK]]
      exact rsqrt_self m x a 3 E M false w rfl (.inl rfl) rfl HO
    · rw [show sqrtK m x a 3 true E M R = nanI m x by simp [sqrtK]]
      exact rsqrt_nan m x a 3 E M _ true w (.inr ⟨rfl, rfl, rfl⟩) HO HN
  · rw [show sqrtK m x a 4 n E M R = nanI m x by simp [sqrtK]]
    exact rsqrt_nan m x a 4 E M _ n w (.inl rfl) HO HN
end Go.Proofs.YtbfbdemknggpkaaGreatDoor
namespace Go.Proofs.YtbfbdemknggpkaaGreatDoor
open Go.RowKit
set_option maxRecDepth 100000
set_option maxHeartbeats 1000000
set_option linter.unusedVariables false

theorem stepret {w : World} {m x : Nat} {n : Bool} {N : Int} {r : Ending} {w' : World} (hx : 2 ≤ x) (h : StepRet w m x n N r w') : r = .returned (.tuple #[.int .u64 (packP m x N 0 false + sgnW n (m + x)), .int .i64 0]) ∧ Below w.heap.size w w' := by
  obtain ⟨P, rfl, hP, hb⟩ := h
  refine ⟨?_, hb⟩
  have e : P = packP m x N 0 false := by
    rcases hP with ⟨rfl, rfl⟩ | ⟨h0, h1⟩
    · simp [packP]
    · exact near_one m x N 0 P h0 hx h1
  rw [e]
abbrev One1C (F : Nat) (m x a R g : Int) : Prop := Hid (∀ w, Calls Tryz.prog F #[.agg #[.int .i64 m, .int .i64 x], .int .u64 a] w fun r w' => r = .returned (.tuple #[.int .u64 R, .int .i64 g]) ∧ Below w.heap.size w w')
abbrev WhC (F : Nat) (m x a : Int) (near : Bool) (R : Int) (s : Bool) (g : Int) : Prop := Hid (∀ w, Calls Tryz.prog F #[.agg #[.int .i64 m, .int .i64 x], .int .u64 a, .bool near] w fun r w' => r = .returned (.tuple #[.int .u64 R, .bool s, .int .i64 g]) ∧ Below w.heap.size w w')
abbrev ROpen1 (m x : Nat) (a K : Int) (n : Bool) (E M : Int) : Prop := Hid (∀ w, Calls Tryz.prog 42 #[.agg #[.int .i64 (m : Int), .int .i64 (x : Int)], .int .u64 a] w fun r w' => r = .returned (.tuple #[partsV K n E M, .int .i64 0]) ∧ Below w.heap.size w w')
theorem rstep_k (m x : Nat) (a K E M : Int) (n up : Bool) (w : World) (hok : okF m x) (g : PatK m x a K n E M) (HO : ROpen1 m x a K n E M) :
    Calls Tryz.prog 51 #[.agg #[.int .i64 (m : Int), .int .i64 (x : Int)], .int .u64 a, .bool up] w fun r w' => r = .returned (.tuple #[.int .u64 (besideK m x a K n E M (!up)), .int .i64 0]) ∧ Below w.heap.size w w' := by
  have hx : 2 ≤ x := by have := hok.2.2.1; omega
  have hm : m ≤ 52 := by have := hok.2.1; omega
  have hm1 : 1 ≤ m := by have := hok.1; omega
  have hx11 : x ≤ 11 := by have := hok.2.2.2; omega
  rcases g.kind with rfl | rfl | rfl | rfl
  · rw [show besideK m x a 1 n E M (!up) = a by simp [besideK]]
    exact rstep_self m x a 1 E M n up w HO rfl rfl
  · obtain ⟨f, hf⟩ := g.fin rfl
    obtain ⟨r1, r2, r3, r4⟩ := f.rng hok
    by_cases he : 0 ≤ E
    · obtain ⟨k, rfl⟩ := Int.eq_ofNat_of_zero_le he
      rw [show besideK m x a 2 n k M (!up) = a by simp [besideK]]
      have hN : 0 ≤ M * p2 k := Int.mul_nonneg (by omega) (Int.le_of_lt (p2_pos k))
      refine (rstep_plain m x a k M (M * p2 k) n up (k / 16 + 5) w hok (by omega) hN HO (hidden fun w => whole_up 2 M n false k w (by omega) (by omega) (by omega))).mono ?_
      intro r w' h
      obtain ⟨h1, h2⟩ := stepret hx h
      refine ⟨?_, h2⟩
      have e := pack_scale m x M k k (by omega)
      rw [Int.sub_self] at e
      rw [h1, e, hf]
    · obtain ⟨k, hk⟩ : ∃ k : Nat, -E = k := ⟨(-E).toNat, by omega⟩
      have hkn : (-E).toNat = k := by omega
      have hbe : besideK m x a 2 n E M (!up) = packP m x (M / p2 k + (if M % p2 k ≠ 0 ∧ n = !up then 1 else 0)) 0 false + sgnW n (m + x) := by
        unfold besideK
        rw [if_neg (by decide), if_neg (by decide), if_neg he, hkn]
      rw [hbe]
      have q0 : 0 ≤ M / p2 k := Int.ediv_nonneg (by omega) (Int.le_of_lt (p2_pos k))
      have HW := hidden (fun w => whole_cut 2 E M n k w hk (by omega) (by omega) (by omega) (by omega))
      by_cases hm0 : M % p2 k = 0
      · rw [decide_eq_false (fun h => h hm0)] at HW
        rw [if_neg (fun h => h.1 hm0), Int.add_zero]
        exact (rstep_plain m x a E M (M / p2 k) n up 4 w hok (by omega) q0 HO HW).mono fun r w' h => stepret hx h
      · rw [decide_eq_true hm0] at HW
        by_cases hn : n = !up
        · rw [if_pos ⟨hm0, hn⟩]
          exact (rstep_more m x a E M (M / p2 k) n up 4 w hok (by omega) q0 HO HW (by subst hn; cases up <;> rfl)).mono fun r w' h => stepret hx h
        · rw [if_neg (fun h => hn h.2), Int.add_zero]
          exact (rstep_same m x a E M (M / p2 k) n up 4 w hok (by omega) q0 HO HW (by cases n <;> cases up <;> simp_all)).mono fun r w' h => stepret hx h
  · rw [show besideK m x a 3 n E M (!up) = a by simp [besideK]]
    exact rstep_self m x a 3 E M n up w HO rfl rfl
  · rw [show besideK m x a 4 n E M (!up) = nanI m x by simp [besideK]]
    exact rstep_nan m x a 4 E M _ n up w HO (hidden fun w => nan_any m x w hm hm1 hx11) rfl
theorem half_bit2 (M : Int) (k : Nat) (hk : 0 < k) : M % p2 k = p2 (k - 1) * (M / p2 (k - 1) % 2) + M % p2 (k - 1) := by
  have h1 := Int.mul_ediv_add_emod M (p2 (k - 1))
  have h2 := Int.mul_ediv_add_emod M (p2 k)
  have h3 := half_step M (k - 1)
  rw [show k - 1 + 1 = k by omega] at h3
  have e : p2 k = 2 * p2 (k - 1) := by rw [← p2_succ]; congr 1; omega
  rw [← h3, e] at h2
  rw [e]
  generalize M / p2 (k - 1) = D at *
  have h4 : p2 (k - 1) * D = 2 * (p2 (k - 1) * (D / 2)) + p2 (k - 1) * (D % 2) := by
    have h5 : D = 2 * (D / 2) + D % 2 := by omega
    rw [show p2 (k - 1) * D = p2 (k - 1) * (2 * (D / 2) + D % 2) by rw [← h5], Int.mul_add, Int.mul_left_comm]
  rw [Int.mul_assoc] at h2
  generalize p2 (k - 1) * (D / 2) = U at *
  generalize p2 (k - 1) * (D % 2) = V at *
  omega
end Go.Proofs.YtbfbdemknggpkaaGreatDoor
namespace Go.Proofs.YtbfbdemknggpkaaGreatDoor
open Go.RowKit
set_option maxHeartbeats 400000
set_option linter.unusedVariables false

theorem low_eq (m x : Nat) (a : Int) : a % p2 (m + x) = fldI m x a * p2 m + frcI m a := by
  unfold fldI frcI
  have h1 := Int.mul_ediv_add_emod a (p2 m)
  have h2 := Int.mul_ediv_add_emod (a / p2 m) (p2 x)
  have hP := p2_pos m
  have hX := p2_pos x
  have e : a = p2 (m + x) * (a / p2 m / p2 x) + (a / p2 m % p2 x * p2 m + a % p2 m) := by
    rw [p2_add]
    have h3 : p2 m * (a / p2 m) = p2 m * (p2 x * (a / p2 m / p2 x)) + p2 m * (a / p2 m % p2 x) := by rw [← Int.mul_add, h2]
    rw [Int.mul_assoc, Int.mul_comm (a / p2 m % p2 x)]
    omega
  have b0 := Int.emod_nonneg (a / p2 m) (show p2 x ≠ 0 by omega)
  have b1 := Int.emod_lt_of_pos (a / p2 m) hX
  have c0 := Int.emod_nonneg a (show p2 m ≠ 0 by omega)
  have c1 := Int.emod_lt_of_pos a hP
  generalize a / p2 m / p2 x = q at e
  generalize a / p2 m % p2 x = f at *
  generalize a % p2 m = r at *
  have k0 : 0 ≤ f * p2 m + r := by have := Int.mul_nonneg b0 (Int.le_of_lt hP); omega
  have k1 : f * p2 m + r < p2 (m + x) := by
    have : (f + 1) * p2 m ≤ p2 x * p2 m := Int.mul_le_mul_of_nonneg_right (by omega) (Int.le_of_lt hP)
    rw [Int.add_mul, Int.one_mul, ← p2_add, Nat.add_comm x m] at this
    omega
  rw [e, Int.mul_add_emod_self_left]
  exact Int.emod_eq_of_lt k0 k1
/-- what is no number is above infinity -/
theorem kind4_iff (m x : Nat) (a : Int) : kindI m x a = 4 ↔ (p2 x - 1) * p2 m < a % p2 (m + x) := by
  have h := low_eq m x a
  obtain ⟨f0, f1⟩ := fld_bd m x a
  obtain ⟨r0, r1⟩ := frc_bd m a
  unfold kindI
  by_cases h1 : fldI m x a = p2 x - 1
  · rw [if_pos h1, h, h1]
    by_cases h2 : frcI m a = 0
    · rw [if_pos h2, h2]; simp
    · rw [if_neg h2]; simp; omega
  · rw [if_neg h1]
    have h3 : (fldI m x a + 1) * p2 m ≤ (p2 x - 1) * p2 m := Int.mul_le_mul_of_nonneg_right (by omega) (Int.le_of_lt (p2_pos m))
    rw [Int.add_mul, Int.one_mul] at h3
    constructor
    · intro h4
      split at h4 <;> (try split at h4) <;> omega
    · intro h4; omega
theorem kind3_iff (m x : Nat) (a : Int) : kindI m x a = 3 ↔ a % p2 (m + x) = (p2 x - 1) * p2 m := by
  have h := low_eq m x a
  obtain ⟨f0, f1⟩ := fld_bd m x a
  obtain ⟨r0, r1⟩ := frc_bd m a
  unfold kindI
  by_cases h1 : fldI m x a = p2 x - 1
  · rw [if_pos h1, h, h1]
    by_cases h2 : frcI m a = 0
    · rw [if_pos h2, h2]; simp
    · rw [if_neg h2]; simp; omega
  · rw [if_neg h1]
    have h3 : (fldI m x a + 1) * p2 m ≤ (p2 x - 1) * p2 m := Int.mul_le_mul_of_nonneg_right (by omega) (Int.le_of_lt (p2_pos m))
    rw [Int.add_mul, Int.one_mul] at h3
    constructor
    · intro h4
      split at h4 <;> (try split at h4) <;> omega
    · intro h4; omega
theorem low_kind (m x : Nat) (a : Int) : kindI m x (a % p2 (m + x)) = 4 ↔ kindI m x a = 4 := by
  rw [kind4_iff, kind4_iff, Int.emod_emod_of_dvd _ (Int.dvd_refl _)]
theorem neg_iff (m x : Nat) (a : Int) (a0 : 0 ≤ a) (a1 : a < p2 (m + x + 1)) : negI m x a = decide (p2 (m + x) ≤ a) := by
  unfold negI
  rw [div_div]
  have hP := p2_pos (m + x)
  rw [p2_succ] at a1
  by_cases h : p2 (m + x) ≤ a
  · rw [decide_eq_true h]
    have e : a / p2 (m + x) = 1 := by
      rw [show a = (a - p2 (m + x)) + p2 (m + x) * 1 by omega, Int.add_mul_ediv_left _ _ (by omega), Int.ediv_eq_zero_of_lt (by omega) (by omega)]
      rfl
    rw [e]; rfl
  · rw [decide_eq_false h, Int.ediv_eq_zero_of_lt a0 (by omega)]
    rfl
/-- without its sign -/
theorem bare_t (k : Nat) (a : Int) (h : p2 k ≤ a) (a1 : a < p2 (k + 1)) : turnI k a = a % p2 k := by
  unfold turnI
  rw [if_pos h]
  rw [p2_succ] at a1
  have e : a % p2 k = a - p2 k := by
    rw [show a = (a - p2 k) + p2 k * 1 by omega, Int.add_mul_emod_self_left, Int.emod_eq_of_lt (by omega) (by omega)]
    omega
  rw [e]
theorem bare_f (k : Nat) (a : Int) (a0 : 0 ≤ a) (h : a < p2 k) : a % p2 k = a := Int.emod_eq_of_lt a0 h
theorem sgn_low (k : Nat) (s : Bool) (v : Int) (v0 : 0 ≤ v) (v1 : v < p2 k) : (v + sgnW s k) % p2 k = v := by
  unfold sgnW
  cases s
  · simp; exact Int.emod_eq_of_lt v0 v1
  · simp; exact Int.emod_eq_of_lt v0 v1
/-- a sum is no number only where a summand is none, or two infinities differ -/
theorem add_num (m x : Nat) (a b K1 E1 M1 K2 E2 M2 : Int) (n1 n2 : Bool) (hm : 1 ≤ m) (hx : 2 ≤ x) (ha : kindI m x a = K1) (hb : kindI m x b = K2) (h1 : K1 ≠ 4) (h2 : K2 ≠ 4) (h3 : ¬ (K1 = 3 ∧ K2 = 3)) : kindI m x (addK m x a b K1 n1 E1 M1 K2 n2 E2 M2) ≠ 4 := by
  have hT : (p2 x - 1) * p2 m = p2 (m + x) - p2 m := by rw [Int.sub_mul, Int.one_mul, ← p2_add, Nat.add_comm x m]
  have hP := p2_pos m
  have hle : p2 m ≤ p2 (m + x) := p2_mono (by omega)
  have hs : ∀ (N e : Int) (s : Bool), 0 ≤ N → kindI m x (packP m x N e false + sgnW s (m + x)) ≠ 4 := by
    intro N e s hN h4
    have hbd := pack_bd m x N e false hN hx
    have h5 := (kind4_iff m x _).1 h4
    rw [sgn_low (m + x) s _ hbd.1 (by omega)] at h5
    omega
  unfold addK
  rw [if_neg (by omega), if_neg (by omega)]
  split
  · rw [ha]; exact h1
  · split
    · rw [hb]; exact h2
    · split
      · intro h4
        have h5 := (kind4_iff m x _).1 h4
        have h6 := sgn_low (m + x) (n1 && n2) 0 (by omega) (p2_pos _)
        rw [Int.zero_add] at h6
        rw [h6] at h5
        have : 0 ≤ (p2 x - 1) * p2 m := by rw [hT]; omega
        omega
      · split
        · rw [hb]; exact h2
        · split
          · rw [ha]; exact h1
          · exact hs _ _ _ (by unfold absI; split <;> omega)
end Go.Proofs.YtbfbdemknggpkaaGreatDoor
namespace Go.Proofs.YtbfbdemknggpkaaGreatDoor
open Go.RowKit
set_option maxHeartbeats 400000
set_option linter.unusedVariables false

theorem kind_low (m x : Nat) (a : Int) : kindI m x (a % p2 (m + x)) = kindI m x a := by
  have h1 : frcI m (a % p2 (m + x)) = frcI m a := by
    unfold frcI
    exact Int.emod_emod_of_dvd _ ⟨p2 x, by rw [← p2_add]⟩
  have h2 : fldI m x (a % p2 (m + x)) = fldI m x a := by
    have e1 := low_eq m x (a % p2 (m + x))
    have e2 := low_eq m x a
    rw [Int.emod_emod_of_dvd _ (Int.dvd_refl _), h1] at e1
    have hP := p2_pos m
    have e3 : fldI m x a * p2 m = fldI m x (a % p2 (m + x)) * p2 m := by have h9 := e2.symm.trans e1; omega
    exact (Int.eq_of_mul_eq_mul_right (by omega) e3).symm
  unfold kindI
  rw [h1, h2]
theorem turn_low (k : Nat) (a : Int) : turnI k a % p2 k = a % p2 k := by
  unfold turnI
  split
  · exact Int.sub_emod_right _ _
  · exact Int.add_emod_right _ _
theorem turn_kind (m x : Nat) (a : Int) : kindI m x (turnI (m + x) a) = kindI m x a := by
  rw [← kind_low m x (turnI (m + x) a), turn_low, kind_low]
theorem turn_bd (k : Nat) (a : Int) (a0 : 0 ≤ a) (a1 : a < p2 (k + 1)) : 0 ≤ turnI k a ∧ turnI k a < p2 (k + 1) := by
  have := p2_pos k
  rw [p2_succ] at *
  unfold turnI
  split <;> omega
theorem add_bd (m x : Nat) (a b K1 E1 M1 K2 E2 M2 : Int) (n1 n2 : Bool) (hm : 1 ≤ m) (hx : 2 ≤ x) (a0 : 0 ≤ a) (a1 : a < p2 (m + x + 1)) (b0 : 0 ≤ b) (b1 : b < p2 (m + x + 1)) : 0 ≤ addK m x a b K1 n1 E1 M1 K2 n2 E2 M2 ∧ addK m x a b K1 n1 E1 M1 K2 n2 E2 M2 < p2 (m + x + 1) := by
  have hn : 0 ≤ nanI m x ∧ nanI m x < p2 (m + x + 1) := by
    have h := nan_bd m x hm
    have := p2_mono (show m + x ≤ m + x + 1 by omega)
    omega
  unfold addK
  split
  · exact hn
  split
  · exact hn
  split
  · exact ⟨a0, a1⟩
  split
  · exact ⟨b0, b1⟩
  split
  · exact sgn_lt _ _
  split
  · exact ⟨b0, b1⟩
  split
  · exact ⟨a0, a1⟩
  · exact pack_lt m x _ _ false _ (by unfold absI; split <;> omega) hx
theorem frc_low (m x : Nat) (a : Int) : frcI m (a % p2 (m + x)) = frcI m a := by
  unfold frcI
  exact Int.emod_emod_of_dvd _ ⟨p2 x, by rw [← p2_add]⟩
theorem fld_low (m x : Nat) (a : Int) : fldI m x (a % p2 (m + x)) = fldI m x a := by
  have e1 := low_eq m x (a % p2 (m + x))
  have e2 := low_eq m x a
  rw [Int.emod_emod_of_dvd _ (Int.dvd_refl _), frc_low] at e1
  have hP := p2_pos m
  have e3 : fldI m x a * p2 m = fldI m x (a % p2 (m + x)) * p2 m := by have h9 := e2.symm.trans e1; omega
  exact (Int.eq_of_mul_eq_mul_right (by omega) e3).symm
/-- the fields of a pattern that is laid out of them -/
theorem fields_of (m x : Nat) (F f : Int) (n : Bool) (F0 : 0 ≤ F) (F1 : F < p2 x) (f0 : 0 ≤ f) (f1 : f < p2 m) :
    fldI m x (F * p2 m + f + sgnW n (m + x)) = F ∧ frcI m (F * p2 m + f + sgnW n (m + x)) = f ∧ negI m x (F * p2 m + f + sgnW n (m + x)) = n := by
  have hP := p2_pos m
  have u0 : 0 ≤ F * p2 m + f := by have := Int.mul_nonneg F0 (Int.le_of_lt hP); omega
  have u1 : F * p2 m + f < p2 (m + x) := by
    have : (F + 1) * p2 m ≤ p2 x * p2 m := Int.mul_le_mul_of_nonneg_right (by omega) (Int.le_of_lt hP)
    rw [Int.add_mul, Int.one_mul, ← p2_add, Nat.add_comm x m] at this
    omega
  have hl := sgn_low (m + x) n _ u0 u1
  have c1 : fldI m x (F * p2 m + f) = F := by
    unfold fldI
    rw [show F * p2 m + f = f + p2 m * F by rw [Int.mul_comm]; omega, Int.add_mul_ediv_left _ _ (by omega), Int.ediv_eq_zero_of_lt f0 f1, Int.zero_add]
    exact Int.emod_eq_of_lt F0 F1
  have c2 : frcI m (F * p2 m + f) = f := by
    unfold frcI
    rw [show F * p2 m + f = f + p2 m * F by rw [Int.mul_comm]; omega, Int.add_mul_emod_self_left]
    exact Int.emod_eq_of_lt f0 f1
  refine ⟨by rw [← fld_low, hl, c1], by rw [← frc_low m x, hl, c2], ?_⟩
  have hpk := p2_pos (m + x)
  have b1 : 0 ≤ F * p2 m + f + sgnW n (m + x) ∧ F * p2 m + f + sgnW n (m + x) < p2 (m + x + 1) := by
    rw [p2_succ]; unfold sgnW; cases n <;> simp <;> omega
  rw [neg_iff m x _ b1.1 b1.2]
  unfold sgnW
  cases n
  · rw [decide_eq_false]; simp; omega
  · rw [decide_eq_true]; simp; omega
/-- what a finite number's pattern says is the number -/
theorem open_fin (m x : Nat) (E M : Int) (n : Bool) (hx : 2 ≤ x) (h : FinP m x E M) :
    kindI m x ((E - least m x) * p2 m + M + sgnW n (m + x)) = 2 ∧ negI m x ((E - least m x) * p2 m + M + sgnW n (m + x)) = n ∧ expI m x ((E - least m x) * p2 m + M + sgnW n (m + x)) = E ∧ manI m x ((E - least m x) * p2 m + M + sgnW n (m + x)) = M := by
  obtain ⟨h0, h1, h2, h3, h4⟩ := h
  have hP := p2_pos m
  have hb := bias_two x hx
  have h4x : p2 2 ≤ p2 x := p2_mono hx
  have e4 : p2 2 = 4 := rfl
  have hl : least m x = 1 - bias x - m := by unfold least; omega
  rw [p2_succ] at h1
  by_cases hn : p2 m ≤ M
  · have e : (E - least m x) * p2 m + M = (E - least m x + 1) * p2 m + (M - p2 m) := by rw [Int.add_mul, Int.one_mul]; omega
    rw [e]
    obtain ⟨c1, c2, c3⟩ := fields_of m x (E - least m x + 1) (M - p2 m) n (by omega) (by omega) (by omega) (by omega)
    have k2 : kindI m x ((E - least m x + 1) * p2 m + (M - p2 m) + sgnW n (m + x)) = 2 := by
      unfold kindI
      rw [c1, c2, if_neg (by omega), if_neg (by omega)]
    refine ⟨k2, c3, ?_, ?_⟩
    · unfold expI
      rw [if_pos k2, c1, if_neg (by omega)]
      omega
    · unfold manI
      rw [if_pos k2, c1, c2, if_neg (by omega)]
      omega
  · have hE : E = least m x := by rcases h4 with h | h <;> omega
    have e : (E - least m x) * p2 m + M = 0 * p2 m + M := by rw [hE, Int.sub_self]
    rw [e]
    obtain ⟨c1, c2, c3⟩ := fields_of m x 0 M n (by omega) (by omega) (by omega) (by omega)
    have k2 : kindI m x (0 * p2 m + M + sgnW n (m + x)) = 2 := by
      unfold kindI
      rw [c1, c2, if_neg (by omega), if_pos rfl, if_neg (by omega)]
    refine ⟨k2, c3, ?_, ?_⟩
    · unfold expI
      rw [if_pos k2, c1, if_pos rfl, hE]
    · unfold manI
      rw [if_pos k2, c1, c2, if_pos rfl]
theorem open_inf (m x : Nat) (n : Bool) (hx : 2 ≤ x) : kindI m x (infI m x n) = 3 ∧ negI m x (infI m x n) = n := by
  have h4x : p2 2 ≤ p2 x := p2_mono hx
  have e4 : p2 2 = 4 := rfl
  obtain ⟨c1, c2, c3⟩ := fields_of m x (p2 x - 1) 0 n (by omega) (by omega) (by omega) (p2_pos m)
  rw [Int.add_zero] at c1 c2 c3
  unfold infI kindI
  rw [c1, c2]
  exact ⟨by simp, c3⟩
theorem open_zero (m x : Nat) (n : Bool) (hx : 2 ≤ x) : kindI m x (sgnW n (m + x)) = 1 ∧ negI m x (sgnW n (m + x)) = n := by
  have h4x : p2 2 ≤ p2 x := p2_mono hx
  have e4 : p2 2 = 4 := rfl
  obtain ⟨c1, c2, c3⟩ := fields_of m x 0 0 n (by omega) (by omega) (by omega) (p2_pos m)
  rw [Int.zero_mul, Int.zero_add, Int.zero_add] at c1 c2 c3
  unfold kindI
  rw [c1, c2, if_neg (by omega)]
  exact ⟨by simp, c3⟩
end Go.Proofs.YtbfbdemknggpkaaGreatDoor
namespace Go.Proofs.YtbfbdemknggpkaaGreatDoor
open Go.RowKit
set_option maxHeartbeats 400000
set_option linter.unusedVariables false

theorem man_nn (m x : Nat) (a : Int) : 0 ≤ manI m x a := by
  have h1 := frc_bd m a
  have h2 := p2_pos m
  unfold manI
  split
  · split <;> omega
  · omega
theorem nan_lt (m x : Nat) (hm : 1 ≤ m) : 0 ≤ nanI m x ∧ nanI m x < p2 (m + x + 1) := by
  have h := nan_bd m x hm
  have := p2_mono (show m + x ≤ m + x + 1 by omega)
  omega
theorem mulK_bd (m x : Nat) (K1 E1 M1 K2 E2 M2 : Int) (n1 n2 : Bool) (hm : 1 ≤ m) (hx : 2 ≤ x) (h1 : 0 ≤ M1) (h2 : 0 ≤ M2) : 0 ≤ mulK m x K1 n1 E1 M1 K2 n2 E2 M2 ∧ mulK m x K1 n1 E1 M1 K2 n2 E2 M2 < p2 (m + x + 1) := by
  unfold mulK
  split
  · exact nan_lt m x hm
  split
  · exact nan_lt m x hm
  split
  · exact inf_bd m x _
  split
  · exact sgn_lt _ _
  · exact pack_lt m x _ _ false _ (Int.mul_nonneg h1 h2) hx
theorem divK_bd (m x : Nat) (K1 E1 M1 K2 E2 M2 : Int) (n1 n2 : Bool) (hm : 1 ≤ m) (hx : 2 ≤ x) (h1 : 0 ≤ M1) (h2 : 0 ≤ M2) : 0 ≤ divK m x K1 n1 E1 M1 K2 n2 E2 M2 ∧ divK m x K1 n1 E1 M1 K2 n2 E2 M2 < p2 (m + x + 1) := by
  unfold divK
  split
  · exact nan_lt m x hm
  split
  · exact nan_lt m x hm
  split
  · exact nan_lt m x hm
  split
  · exact inf_bd m x _
  split
  · exact sgn_lt _ _
  · refine pack_lt m x _ _ _ _ ?_ hx
    unfold quoQ
    exact Int.ediv_nonneg (Int.mul_nonneg (Int.mul_nonneg h1 (Int.le_of_lt (p2_pos _))) (by decide)) (Int.mul_nonneg h2 (Int.le_of_lt (p2_pos _)))
theorem restK_bd (m x : Nat) (a K1 E1 M1 K2 E2 M2 : Int) (n1 n2 : Bool) (hm : 1 ≤ m) (hx : 2 ≤ x) (a0 : 0 ≤ a) (a1 : a < p2 (m + x + 1)) (h1 : 0 ≤ M1) (h2 : 0 ≤ M2) : 0 ≤ restK m x a K1 n1 E1 M1 K2 n2 E2 M2 ∧ restK m x a K1 n1 E1 M1 K2 n2 E2 M2 < p2 (m + x + 1) := by
  unfold restK
  split
  · exact nan_lt m x hm
  split
  · exact nan_lt m x hm
  split
  · exact ⟨a0, a1⟩
  split
  · exact ⟨a0, a1⟩
  · refine pack_lt m x _ _ _ _ ?_ hx
    have hA : 0 ≤ M1 * p2 (E1 - E2).toNat := Int.mul_nonneg h1 (Int.le_of_lt (p2_pos _))
    rcases Int.lt_or_le 0 M2 with h | h
    · exact Int.emod_nonneg _ (by omega)
    · have h0 : M2 = 0 := by omega
      rw [h0, Int.emod_zero]
      exact hA
theorem quoK_bd (m x : Nat) (K1 E1 M1 K2 E2 M2 : Int) (n1 n2 : Bool) (hm : 1 ≤ m) (hx : 2 ≤ x) (h1 : 0 ≤ M1) (h2 : 0 ≤ M2) : 0 ≤ quoK m x K1 n1 E1 M1 K2 n2 E2 M2 ∧ quoK m x K1 n1 E1 M1 K2 n2 E2 M2 < p2 (m + x + 1) := by
  unfold quoK
  split
  · exact nan_lt m x hm
  split
  · exact nan_lt m x hm
  split
  · exact sgn_lt _ _
  split
  · exact sgn_lt _ _
  · refine pack_lt m x _ _ _ _ ?_ hx
    unfold wqQ
    exact Int.ediv_nonneg (Int.ediv_nonneg (Int.mul_nonneg h1 (Int.le_of_lt (p2_pos _))) h2) (Int.le_of_lt (p2_pos _))
theorem sqrtK_bd (m x : Nat) (a K E M R : Int) (n : Bool) (hm : 1 ≤ m) (hx : 2 ≤ x) (a0 : 0 ≤ a) (a1 : a < p2 (m + x + 1)) (hR : 0 ≤ R) : 0 ≤ sqrtK m x a K n E M R ∧ sqrtK m x a K n E M R < p2 (m + x + 1) := by
  unfold sqrtK
  split
  · exact ⟨a0, a1⟩
  split
  · exact nan_lt m x hm
  split
  · exact ⟨a0, a1⟩
  · have h := pack_lt m x R (rootE E M) (decide (R * R ≠ rootS E M * 18446744073709551616)) false hR hx
    rw [show sgnW false (m + x) = 0 from rfl, Int.add_zero] at h
    exact h
theorem besideK_bd (m x : Nat) (a K E M : Int) (n dn : Bool) (hm : 1 ≤ m) (hx : 2 ≤ x) (a0 : 0 ≤ a) (a1 : a < p2 (m + x + 1)) (h1 : 0 ≤ M) : 0 ≤ besideK m x a K n E M dn ∧ besideK m x a K n E M dn < p2 (m + x + 1) := by
  unfold besideK
  split
  · exact nan_lt m x hm
  split
  · exact ⟨a0, a1⟩
  split
  · exact ⟨a0, a1⟩
  · refine pack_lt m x _ _ _ _ ?_ hx
    have h := Int.ediv_nonneg h1 (Int.le_of_lt (p2_pos (-E).toNat))
    split <;> omega
end Go.Proofs.YtbfbdemknggpkaaGreatDoor
namespace Go.Proofs.YtbfbdemknggpkaaGreatDoor
open Go.RowKit
set_option maxRecDepth 100000
set_option maxHeartbeats 400000
set_option linter.unusedVariables false

theorem has_of4 {w : World} {a : Option Addr} {l c : Nat} {ds : List Int} {N : Int} (rt : RdD w a l c ds) (kt : OkD ds) (vt : nv ds = N) (tt : l = 0 ∨ ds.getD (l - 1) 0 ≠ 0) : HasNat w a l c ds N := ⟨rt, kt, vt, tt⟩
theorem rd_one4 (w : World) : RdD (w.alloc (.cells #[.int .i64 1] 3)) (some ⟨w.heap.size, 0, none⟩) 1 1 [1] := by
  refine ⟨rfl, Nat.le_refl _, .inr ⟨w.heap.size, 0, rfl, fun i hi => ?_⟩⟩
  obtain rfl : i = 0 := by omega
  simp
def fmV (wide : Bool) : Value := .agg #[.int .i64 (if wide then 52 else 23), .int .i64 (if wide then 11 else 8)]
theorem fm_t (w : World) : Calls Tryz.prog 11 #[.bool true] w fun r w' => r = .returned (.agg #[.int .i64 52, .int .i64 11]) ∧ Below w.heap.size w w' := by
  go_enter Tryz.func11, Tryz.ntmps11
  go_wp2
  refine bodyPost_ret (v := .agg #[.int .i64 52, .int .i64 11]) (by simp [results, Tryz.results11, go_sem]) rfl ⟨rfl, ?_⟩
  exact (Below.refl _ _).alloc (Nat.le_refl _) _
theorem fm_f (w : World) : Calls Tryz.prog 11 #[.bool false] w fun r w' => r = .returned (.agg #[.int .i64 23, .int .i64 8]) ∧ Below w.heap.size w w' := by
  go_enter Tryz.func11, Tryz.ntmps11
  go_wp2
  refine bodyPost_ret (v := .agg #[.int .i64 23, .int .i64 8]) (by simp [results, Tryz.results11, go_sem]) rfl ⟨rfl, ?_⟩
  exact (Below.refl _ _).alloc (Nat.le_refl _) _
end Go.Proofs.YtbfbdemknggpkaaGreatDoor
namespace Go.Proofs.YtbfbdemknggpkaaGreatDoor
open Go.RowKit
set_option maxRecDepth 100000
set_option maxHeartbeats 400000
set_option linter.unusedVariables false

theorem rreck_1 (wide : Bool) (m x a b R Q g : Int) (w : World)
    (HF : Hid (∀ w, Calls Tryz.prog 11 #[.bool wide] w fun r w' => r = .returned (.agg #[.int .i64 m, .int .i64 x]) ∧ Below w.heap.size w w'))
    (H : Hid (∀ w, Calls Tryz.prog 12 #[.agg #[.int .i64 m, .int .i64 x], .int .u64 a, .int .u64 b] w fun r w' => r = .returned (.tuple #[.int .u64 R, .int .i64 g]) ∧ Below w.heap.size w w'))
    : Calls Tryz.prog 6 #[.bool wide, .int .i64 1, .int .u64 a, .int .u64 b] w fun r w' => r = .returned (.tuple #[.int .u64 R, .int .i64 0]) ∧ Below w.heap.size w w' := by
  go_enter Tryz.func6, Tryz.ntmps6
  go_wp2_with fail
  refine (HF.out _).mono ?_
  rintro r w1 ⟨rfl, hb1⟩
  have c0 : (w1.alloc (.cells #[.int .i64 m, .int .i64 x] 37)).cell? ⟨w1.heap.size, 0, none⟩ = some (.int .i64 m) := by simp
  have c1 : (w1.alloc (.cells #[.int .i64 m, .int .i64 x] 37)).cell? ⟨w1.heap.size, 1, none⟩ = some (.int .i64 x) := by simp
  have HB := hidden (hb1.alloc hb1.size (.cells #[.int .i64 m, .int .i64 x] 37))
  clear hb1
  go_upto_region 2 with fail
  generalize w1.alloc (.cells #[.int .i64 m, .int .i64 x] 37) = w5 at *
  go_wp2_with (go_at_call 12; refine (H.out _).mono ?_; rintro r w9 ⟨rfl, hb⟩; have HB := hidden (HB.out.trans (hb.mono HB.out.size)); clear hb)
  go_ret2
  exact ⟨rfl, HB.out⟩
theorem rreck_2 (wide : Bool) (m x a b R Q g : Int) (w : World)
    (HF : Hid (∀ w, Calls Tryz.prog 11 #[.bool wide] w fun r w' => r = .returned (.agg #[.int .i64 m, .int .i64 x]) ∧ Below w.heap.size w w'))
    (H : Hid (∀ w, Calls Tryz.prog 13 #[.agg #[.int .i64 m, .int .i64 x], .int .u64 a, .int .u64 b] w fun r w' => r = .returned (.tuple #[.int .u64 R, .int .i64 g]) ∧ Below w.heap.size w w'))
    : Calls Tryz.prog 6 #[.bool wide, .int .i64 2, .int .u64 a, .int .u64 b] w fun r w' => r = .returned (.tuple #[.int .u64 R, .int .i64 0]) ∧ Below w.heap.size w w' := by
  go_enter Tryz.func6, Tryz.ntmps6
  go_wp2_with fail
  refine (HF.out _).mono ?_
  rintro r w1 ⟨rfl, hb1⟩
  have c0 : (w1.alloc (.cells #[.int .i64 m, .int .i64 x] 37)).cell? ⟨w1.heap.size, 0, none⟩ = some (.int .i64 m) := by simp
  have c1 : (w1.alloc (.cells #[.int .i64 m, .int .i64 x] 37)).cell? ⟨w1.heap.size, 1, none⟩ = some (.int .i64 x) := by simp
  have HB := hidden (hb1.alloc hb1.size (.cells #[.int .i64 m, .int .i64 x] 37))
  clear hb1
  go_upto_region 2 with fail
  generalize w1.alloc (.cells #[.int .i64 m, .int .i64 x] 37) = w5 at *
  go_wp2_with (go_at_call 13; refine (H.out _).mono ?_; rintro r w9 ⟨rfl, hb⟩; have HB := hidden (HB.out.trans (hb.mono HB.out.size)); clear hb)
  go_ret2
  exact ⟨rfl, HB.out⟩
theorem rreck_3 (wide : Bool) (m x a b R Q g : Int) (w : World)
    (HF : Hid (∀ w, Calls Tryz.prog 11 #[.bool wide] w fun r w' => r = .returned (.agg #[.int .i64 m, .int .i64 x]) ∧ Below w.heap.size w w'))
    (H : Hid (∀ w, Calls Tryz.prog 14 #[.agg #[.int .i64 m, .int .i64 x], .int .u64 a, .int .u64 b] w fun r w' => r = .returned (.tuple #[.int .u64 R, .int .i64 g]) ∧ Below w.heap.size w w'))
    : Calls Tryz.prog 6 #[.bool wide, .int .i64 3, .int .u64 a, .int .u64 b] w fun r w' => r = .returned (.tuple #[.int .u64 R, .int .i64 0]) ∧ Below w.heap.size w w' := by
  go_enter Tryz.func6, Tryz.ntmps6
  go_wp2_with fail
  refine (HF.out _).mono ?_
  rintro r w1 ⟨rfl, hb1⟩
  have c0 : (w1.alloc (.cells #[.int .i64 m, .int .i64 x] 37)).cell? ⟨w1.heap.size, 0, none⟩ = some (.int .i64 m) := by simp
  have c1 : (w1.alloc (.cells #[.int .i64 m, .int .i64 x] 37)).cell? ⟨w1.heap.size, 1, none⟩ = some (.int .i64 x) := by simp
  have HB := hidden (hb1.alloc hb1.size (.cells #[.int .i64 m, .int .i64 x] 37))
  clear hb1
  go_upto_region 2 with fail
  generalize w1.alloc (.cells #[.int .i64 m, .int .i64 x] 37) = w5 at *
  go_wp2_with (go_at_call 14; refine (H.out _).mono ?_; rintro r w9 ⟨rfl, hb⟩; have HB := hidden (HB.out.trans (hb.mono HB.out.size)); clear hb)
  go_ret2
  exact ⟨rfl, HB.out⟩
theorem rreck_4 (wide : Bool) (m x a b R Q g : Int) (w : World)
    (HF : Hid (∀ w, Calls Tryz.prog 11 #[.bool wide] w fun r w' => r = .returned (.agg #[.int .i64 m, .int .i64 x]) ∧ Below w.heap.size w w'))
    (H : Hid (∀ w, Calls Tryz.prog 15 #[.agg #[.int .i64 m, .int .i64 x], .int .u64 a, .int .u64 b] w fun r w' => r = .returned (.tuple #[.int .u64 R, .int .i64 g]) ∧ Below w.heap.size w w'))
    : Calls Tryz.prog 6 #[.bool wide, .int .i64 4, .int .u64 a, .int .u64 b] w fun r w' => r = .returned (.tuple #[.int .u64 R, .int .i64 0]) ∧ Below w.heap.size w w' := by
  go_enter Tryz.func6, Tryz.ntmps6
  go_wp2_with fail
  refine (HF.out _).mono ?_
  rintro r w1 ⟨rfl, hb1⟩
  have c0 : (w1.alloc (.cells #[.int .i64 m, .int .i64 x] 37)).cell? ⟨w1.heap.size, 0, none⟩ = some (.int .i64 m) := by simp
  have c1 : (w1.alloc (.cells #[.int .i64 m, .int .i64 x] 37)).cell? ⟨w1.heap.size, 1, none⟩ = some (.int .i64 x) := by simp
  have HB := hidden (hb1.alloc hb1.size (.cells #[.int .i64 m, .int .i64 x] 37))
  clear hb1
  go_upto_region 2 with fail
  generalize w1.alloc (.cells #[.int .i64 m, .int .i64 x] 37) = w5 at *
  go_wp2_with (go_at_call 15; refine (H.out _).mono ?_; rintro r w9 ⟨rfl, hb⟩; have HB := hidden (HB.out.trans (hb.mono HB.out.size)); clear hb)
  go_ret2
  exact ⟨rfl, HB.out⟩
theorem rreck_5 (wide : Bool) (m x a b R Q g : Int) (w : World)
    (HF : Hid (∀ w, Calls Tryz.prog 11 #[.bool wide] w fun r w' => r = .returned (.agg #[.int .i64 m, .int .i64 x]) ∧ Below w.heap.size w w'))
    (H : Hid (∀ w, Calls Tryz.prog 16 #[.agg #[.int .i64 m, .int .i64 x], .int .u64 a, .int .u64 b] w fun r w' => r = .returned (.tuple #[.int .u64 R, .int .u64 Q, .int .i64 g]) ∧ Below w.heap.size w w'))
    : Calls Tryz.prog 6 #[.bool wide, .int .i64 5, .int .u64 a, .int .u64 b] w fun r w' => r = .returned (.tuple #[.int .u64 R, .int .i64 0]) ∧ Below w.heap.size w w' := by
  go_enter Tryz.func6, Tryz.ntmps6
  go_wp2_with fail
  refine (HF.out _).mono ?_
  rintro r w1 ⟨rfl, hb1⟩
  have c0 : (w1.alloc (.cells #[.int .i64 m, .int .i64 x] 37)).cell? ⟨w1.heap.size, 0, none⟩ = some (.int .i64 m) := by simp
  have c1 : (w1.alloc (.cells #[.int .i64 m, .int .i64 x] 37)).cell? ⟨w1.heap.size, 1, none⟩ = some (.int .i64 x) := by simp
  have HB := hidden (hb1.alloc hb1.size (.cells #[.int .i64 m, .int .i64 x] 37))
  clear hb1
  go_upto_region 2 with fail
  generalize w1.alloc (.cells #[.int .i64 m, .int .i64 x] 37) = w5 at *
  go_wp2_with (go_at_call 16; refine (H.out _).mono ?_; rintro r w9 ⟨rfl, hb⟩; have HB := hidden (HB.out.trans (hb.mono HB.out.size)); clear hb)
  go_ret2
  exact ⟨rfl, HB.out⟩
theorem rreck_6 (wide : Bool) (m x a b R Q g : Int) (w : World)
    (HF : Hid (∀ w, Calls Tryz.prog 11 #[.bool wide] w fun r w' => r = .returned (.agg #[.int .i64 m, .int .i64 x]) ∧ Below w.heap.size w w'))
    (H : Hid (∀ w, Calls Tryz.prog 16 #[.agg #[.int .i64 m, .int .i64 x], .int .u64 a, .int .u64 b] w fun r w' => r = .returned (.tuple #[.int .u64 Q, .int .u64 R, .int .i64 g]) ∧ Below w.heap.size w w'))
    : Calls Tryz.prog 6 #[.bool wide, .int .i64 6, .int .u64 a, .int .u64 b] w fun r w' => r = .returned (.tuple #[.int .u64 R, .int .i64 0]) ∧ Below w.heap.size w w' := by
  go_enter Tryz.func6, Tryz.ntmps6
  go_wp2_with fail
  refine (HF.out _).mono ?_
  rintro r w1 ⟨rfl, hb1⟩
  have c0 : (w1.alloc (.cells #[.int .i64 m, .int .i64 x] 37)).cell? ⟨w1.heap.size, 0, none⟩ = some (.int .i64 m) := by simp
  have c1 : (w1.alloc (.cells #[.int .i64 m, .int .i64 x] 37)).cell? ⟨w1.heap.size, 1, none⟩ = some (.int .i64 x) := by simp
  have HB := hidden (hb1.alloc hb1.size (.cells #[.int .i64 m, .int .i64 x] 37))
  clear hb1
  go_upto_region 2 with fail
  generalize w1.alloc (.cells #[.int .i64 m, .int .i64 x] 37) = w5 at *
  go_wp2_with (go_at_call 16; refine (H.out _).mono ?_; rintro r w9 ⟨rfl, hb⟩; have HB := hidden (HB.out.trans (hb.mono HB.out.size)); clear hb)
  go_ret2
  exact ⟨rfl, HB.out⟩
theorem rreck_7 (wide : Bool) (m x a b R Q g : Int) (w : World)
    (HF : Hid (∀ w, Calls Tryz.prog 11 #[.bool wide] w fun r w' => r = .returned (.agg #[.int .i64 m, .int .i64 x]) ∧ Below w.heap.size w w'))
    (H : Hid (∀ w, Calls Tryz.prog 17 #[.agg #[.int .i64 m, .int .i64 x], .int .u64 a] w fun r w' => r = .returned (.tuple #[.int .u64 R, .int .i64 g]) ∧ Below w.heap.size w w'))
    : Calls Tryz.prog 6 #[.bool wide, .int .i64 7, .int .u64 a, .int .u64 b] w fun r w' => r = .returned (.tuple #[.int .u64 R, .int .i64 0]) ∧ Below w.heap.size w w' := by
  go_enter Tryz.func6, Tryz.ntmps6
  go_wp2_with fail
  refine (HF.out _).mono ?_
  rintro r w1 ⟨rfl, hb1⟩
  have c0 : (w1.alloc (.cells #[.int .i64 m, .int .i64 x] 37)).cell? ⟨w1.heap.size, 0, none⟩ = some (.int .i64 m) := by simp
  have c1 : (w1.alloc (.cells #[.int .i64 m, .int .i64 x] 37)).cell? ⟨w1.heap.size, 1, none⟩ = some (.int .i64 x) := by simp
  have HB := hidden (hb1.alloc hb1.size (.cells #[.int .i64 m, .int .i64 x] 37))
  clear hb1
  go_upto_region 2 with fail
  generalize w1.alloc (.cells #[.int .i64 m, .int .i64 x] 37) = w5 at *
  go_wp2_with (go_at_call 17; refine (H.out _).mono ?_; rintro r w9 ⟨rfl, hb⟩; have HB := hidden (HB.out.trans (hb.mono HB.out.size)); clear hb)
  go_ret2
  exact ⟨rfl, HB.out⟩
theorem rreck_8 (wide : Bool) (m x a b R Q g : Int) (w : World)
    (HF : Hid (∀ w, Calls Tryz.prog 11 #[.bool wide] w fun r w' => r = .returned (.agg #[.int .i64 m, .int .i64 x]) ∧ Below w.heap.size w w'))
    (H : Hid (∀ w, Calls Tryz.prog 18 #[.agg #[.int .i64 m, .int .i64 x], .int .u64 a] w fun r w' => r = .returned (.tuple #[.int .u64 R, .int .i64 g]) ∧ Below w.heap.size w w'))
    : Calls Tryz.prog 6 #[.bool wide, .int .i64 8, .int .u64 a, .int .u64 b] w fun r w' => r = .returned (.tuple #[.int .u64 R, .int .i64 0]) ∧ Below w.heap.size w w' := by
  go_enter Tryz.func6, Tryz.ntmps6
  go_wp2_with fail
  refine (HF.out _).mono ?_
  rintro r w1 ⟨rfl, hb1⟩
  have c0 : (w1.alloc (.cells #[.int .i64 m, .int .i64 x] 37)).cell? ⟨w1.heap.size, 0, none⟩ = some (.int .i64 m) := by simp
  have c1 : (w1.alloc (.cells #[.int .i64 m, .int .i64 x] 37)).cell? ⟨w1.heap.size, 1, none⟩ = some (.int .i64 x) := by simp
  have HB := hidden (hb1.alloc hb1.size (.cells #[.int .i64 m, .int .i64 x] 37))
  clear hb1
  go_upto_region 2 with fail
  generalize w1.alloc (.cells #[.int .i64 m, .int .i64 x] 37) = w5 at *
  go_wp2_with (go_at_call 18; refine (H.out _).mono ?_; rintro r w9 ⟨rfl, hb⟩; have HB := hidden (HB.out.trans (hb.mono HB.out.size)); clear hb)
  go_ret2
  exact ⟨rfl, HB.out⟩
theorem rreck_9 (wide : Bool) (m x a b R Q g : Int) (w : World)
    (HF : Hid (∀ w, Calls Tryz.prog 11 #[.bool wide] w fun r w' => r = .returned (.agg #[.int .i64 m, .int .i64 x]) ∧ Below w.heap.size w w'))
    (H : Hid (∀ w, Calls Tryz.prog 19 #[.agg #[.int .i64 m, .int .i64 x], .int .u64 a] w fun r w' => r = .returned (.tuple #[.int .u64 R, .int .i64 g]) ∧ Below w.heap.size w w'))
    : Calls Tryz.prog 6 #[.bool wide, .int .i64 9, .int .u64 a, .int .u64 b] w fun r w' => r = .returned (.tuple #[.int .u64 R, .int .i64 0]) ∧ Below w.heap.size w w' := by
  go_enter Tryz.func6, Tryz.ntmps6
  go_wp2_with fail
  refine (HF.out _).mono ?_
  rintro r w1 ⟨rfl, hb1⟩
  have c0 : (w1.alloc (.cells #[.int .i64 m, .int .i64 x] 37)).cell? ⟨w1.heap.size, 0, none⟩ = some (.int .i64 m) := by simp
  have c1 : (w1.alloc (.cells #[.int .i64 m, .int .i64 x] 37)).cell? ⟨w1.heap.size, 1, none⟩ = some (.int .i64 x) := by simp
  have HB := hidden (hb1.alloc hb1.size (.cells #[.int .i64 m, .int .i64 x] 37))
  clear hb1
  go_upto_region 2 with fail
  generalize w1.alloc (.cells #[.int .i64 m, .int .i64 x] 37) = w5 at *
  go_wp2_with (go_at_call 19; refine (H.out _).mono ?_; rintro r w9 ⟨rfl, hb⟩; have HB := hidden (HB.out.trans (hb.mono HB.out.size)); clear hb)
  go_ret2
  exact ⟨rfl, HB.out⟩
theorem rreck_no (wide : Bool) (m x op a b : Int) (w : World) (h : op < 1 ∨ 9 < op)
    (HF : Hid (∀ w, Calls Tryz.prog 11 #[.bool wide] w fun r w' => r = .returned (.agg #[.int .i64 m, .int .i64 x]) ∧ Below w.heap.size w w'))
    : Calls Tryz.prog 6 #[.bool wide, .int .i64 op, .int .u64 a, .int .u64 b] w fun r w' => r = .returned (.tuple #[.int .u64 0, .int .i64 1]) ∧ Below w.heap.size w w' := by
  have h1 : (op == 1) = false := by simp; omega
  have h2 : (op == 2) = false := by simp; omega
  have h3 : (op == 3) = false := by simp; omega
  have h4 : (op == 4) = false := by simp; omega
  have h5 : (op == 5) = false := by simp; omega
  have h6 : (op == 6) = false := by simp; omega
  have h7 : (op == 7) = false := by simp; omega
  have h8 : (op == 8) = false := by simp; omega
  have h9 : (op == 9) = false := by simp; omega
  clear h
  go_enter Tryz.func6, Tryz.ntmps6
  go_wp2_with fail
  refine (HF.out _).mono ?_
  rintro r w1 ⟨rfl, hb1⟩
  have c0 : (w1.alloc (.cells #[.int .i64 m, .int .i64 x] 37)).cell? ⟨w1.heap.size, 0, none⟩ = some (.int .i64 m) := by simp
  have c1 : (w1.alloc (.cells #[.int .i64 m, .int .i64 x] 37)).cell? ⟨w1.heap.size, 1, none⟩ = some (.int .i64 x) := by simp
  have HB := hidden (hb1.alloc hb1.size (.cells #[.int .i64 m, .int .i64 x] 37))
  clear hb1
  go_upto_region 2 with fail
  generalize w1.alloc (.cells #[.int .i64 m, .int .i64 x] 37) = w5 at *
  go_wp2
  go_ret2
  exact ⟨rfl, HB.out⟩
end Go.Proofs.YtbfbdemknggpkaaGreatDoor
namespace Go.Proofs.YtbfbdemknggpkaaGreatDoor
open Go.RowKit
set_option maxRecDepth 100000
set_option maxHeartbeats 400000
set_option linter.unusedVariables false

/-- what both answer of two patterns: the pattern R -/
abbrev B2 (m x : Nat) (F G : Nat) (a b R : Int) : Prop := (0 ≤ R ∧ R < p2 (m + x + 1)) ∧ Hid (∀ w, Calls Tryz.prog F #[.agg #[.int .i64 (m : Int), .int .i64 (x : Int)], .int .u64 a, .int .u64 b] w fun r w' => r = .returned (.tuple #[.int .u64 R, .int .i64 0]) ∧ Below w.heap.size w w') ∧ Hid (∀ w, Calls Tryz.prog G #[.agg #[.int .i64 (m : Int), .int .i64 (x : Int)], .int .u64 a, .int .u64 b] w fun r w' => r = .returned (.tuple #[.int .u64 R, .int .i64 0]) ∧ Below w.heap.size w w')
abbrev B1 (m x : Nat) (F G : Nat) (a R : Int) : Prop := (0 ≤ R ∧ R < p2 (m + x + 1)) ∧ Hid (∀ w, Calls Tryz.prog F #[.agg #[.int .i64 (m : Int), .int .i64 (x : Int)], .int .u64 a] w fun r w' => r = .returned (.tuple #[.int .u64 R, .int .i64 0]) ∧ Below w.heap.size w w') ∧ Hid (∀ w, Calls Tryz.prog G #[.agg #[.int .i64 (m : Int), .int .i64 (x : Int)], .int .u64 a] w fun r w' => r = .returned (.tuple #[.int .u64 R, .int .i64 0]) ∧ Below w.heap.size w w')
theorem fm_bd (m x : Nat) (hok : okF m x) : 1 ≤ m ∧ 2 ≤ x ∧ p2 (m + x + 1) ≤ 18446744073709551616 := by
  have h := hok.1
  have h2 := hok.2.1
  have h3 := hok.2.2.1
  have h4 := hok.2.2.2
  refine ⟨by omega, by omega, ?_⟩
  rw [← p2_64]
  exact p2_mono (by omega)
theorem s_root (m x : Nat) (a : Int) (hok : okF m x) (a0 : 0 ≤ a) (a1 : a < p2 (m + x + 1)) : ∃ R, B1 m x 30 17 a R := by
  obtain ⟨hm, hx, hp⟩ := fm_bd m x hok
  have ha := bl_of_lt m x a a0 a1
  have g := patK m x a hok a0 ha
  have HO := popen1 m x a hok a0 (by omega) ha
  have HR := ropen_one m x a hok a0 (by omega) ha
  by_cases h2 : kindI m x a = 2
  · obtain ⟨f, -⟩ := g.fin h2
    obtain ⟨r1, r2, r3, r4⟩ := f.rng hok
    have hS : 0 ≤ rootS (expI m x a) (manI m x a) * 18446744073709551616 := Int.mul_nonneg (Int.mul_nonneg (by omega) (Int.le_of_lt (p2_pos _))) (by decide)
    obtain ⟨R, hR⟩ := root_ex_i _ hS
    exact ⟨_, sqrtK_bd m x a _ _ _ R _ hm hx a0 a1 hR.1, hidden fun w => psqrt_k m x a _ _ _ R _ w hok g.kind (fun h => (g.fin h).1) (fun _ => hR) HO, hidden fun w => rsqrt_k m x a _ _ _ R _ w hok g (fun _ => hR) HR⟩
  · exact ⟨_, sqrtK_bd m x a _ _ _ 0 _ hm hx a0 a1 (by omega), hidden fun w => psqrt_k m x a _ _ _ 0 _ w hok g.kind (fun h => (g.fin h).1) (fun h => absurd h h2) HO, hidden fun w => rsqrt_k m x a _ _ _ 0 _ w hok g (fun h => absurd h h2) HR⟩
theorem s_ceil (m x : Nat) (a : Int) (hok : okF m x) (a0 : 0 ≤ a) (a1 : a < p2 (m + x + 1)) : ∃ R, B1 m x 31 18 a R := by
  obtain ⟨hm, hx, hp⟩ := fm_bd m x hok
  have ha := bl_of_lt m x a a0 a1
  have g := patK m x a hok a0 ha
  exact ⟨_, besideK_bd m x a _ _ _ _ false hm hx a0 a1 (man_nn m x a), hidden fun w => pceil m x a _ 0 w (hidden fun w => pwb_k m x a _ _ _ _ false w hok g.kind (fun h => (g.fin h).1) (popen1 m x a hok a0 (by omega) ha)), hidden fun w => rceil m x a _ 0 w (hidden fun w => rstep_k m x a _ _ _ _ true w hok g (ropen_one m x a hok a0 (by omega) ha))⟩
theorem s_floor (m x : Nat) (a : Int) (hok : okF m x) (a0 : 0 ≤ a) (a1 : a < p2 (m + x + 1)) : ∃ R, B1 m x 32 19 a R := by
  obtain ⟨hm, hx, hp⟩ := fm_bd m x hok
  have ha := bl_of_lt m x a a0 a1
  have g := patK m x a hok a0 ha
  exact ⟨_, besideK_bd m x a _ _ _ _ true hm hx a0 a1 (man_nn m x a), hidden fun w => pfloor m x a _ 0 w (hidden fun w => pwb_k m x a _ _ _ _ true w hok g.kind (fun h => (g.fin h).1) (popen1 m x a hok a0 (by omega) ha)), hidden fun w => rfloor m x a _ 0 w (hidden fun w => rstep_k m x a _ _ _ _ false w hok g (ropen_one m x a hok a0 (by omega) ha))⟩
theorem s_open (m x : Nat) (a b : Int) (hok : okF m x) (a0 : 0 ≤ a) (a1 : a < p2 (m + x + 1)) (b0 : 0 ≤ b) (b1 : b < p2 (m + x + 1)) : bl a ≤ 1 + x + m ∧ bl b ≤ 1 + x + m ∧ a ≤ 18446744073709551615 ∧ b ≤ 18446744073709551615 ∧ ROpen2 m x a b (kindI m x a) (negI m x a) (expI m x a) (manI m x a) (kindI m x b) (negI m x b) (expI m x b) (manI m x b) := by
  obtain ⟨hm, hx, hp⟩ := fm_bd m x hok
  have ha := bl_of_lt m x a a0 a1
  have hb := bl_of_lt m x b b0 b1
  exact ⟨ha, hb, by omega, by omega, hidden fun w => open2_any m x a b _ _ _ _ _ _ _ _ w (ropen_one m x a hok a0 (by omega) ha) (ropen_one m x b hok b0 (by omega) hb)⟩
theorem s_add (m x : Nat) (a b : Int) (hok : okF m x) (a0 : 0 ≤ a) (a1 : a < p2 (m + x + 1)) (b0 : 0 ≤ b) (b1 : b < p2 (m + x + 1)) : ∃ R, B2 m x 25 12 a b R := by
  obtain ⟨hm, hx, hp⟩ := fm_bd m x hok
  obtain ⟨ha, hb, a2, b2, HR⟩ := s_open m x a b hok a0 a1 b0 b1
  have g1 := patK m x a hok a0 ha
  have g2 := patK m x b hok b0 hb
  exact ⟨_, add_bd m x a b _ _ _ _ _ _ _ _ hm hx a0 a1 b0 b1, hidden fun w => padd_k m x a b _ _ _ _ _ _ _ _ w hok g1.kind g2.kind (fun h => (g1.fin h).1) (fun h => (g2.fin h).1) (popen2 m x a b hok a0 a2 ha b0 b2 hb), hidden fun w => radd_k m x a b _ _ _ _ _ _ _ _ w hok g1 g2 HR⟩
theorem s_mul (m x : Nat) (a b : Int) (hok : okF m x) (a0 : 0 ≤ a) (a1 : a < p2 (m + x + 1)) (b0 : 0 ≤ b) (b1 : b < p2 (m + x + 1)) : ∃ R, B2 m x 27 14 a b R := by
  obtain ⟨hm, hx, hp⟩ := fm_bd m x hok
  obtain ⟨ha, hb, a2, b2, HR⟩ := s_open m x a b hok a0 a1 b0 b1
  have g1 := patK m x a hok a0 ha
  have g2 := patK m x b hok b0 hb
  exact ⟨_, mulK_bd m x _ _ _ _ _ _ _ _ hm hx (man_nn m x a) (man_nn m x b), hidden fun w => pmul_k m x a b _ _ _ _ _ _ _ _ w hok g1.kind g2.kind (fun h => (g1.fin h).1) (fun h => (g2.fin h).1) (popen2 m x a b hok a0 a2 ha b0 b2 hb), hidden fun w => rmul_k m x a b _ _ _ _ _ _ _ _ w hok g1 g2 HR⟩
theorem s_div (m x : Nat) (a b : Int) (hok : okF m x) (a0 : 0 ≤ a) (a1 : a < p2 (m + x + 1)) (b0 : 0 ≤ b) (b1 : b < p2 (m + x + 1)) : ∃ R, B2 m x 28 15 a b R := by
  obtain ⟨hm, hx, hp⟩ := fm_bd m x hok
  obtain ⟨ha, hb, a2, b2, HR⟩ := s_open m x a b hok a0 a1 b0 b1
  have g1 := patK m x a hok a0 ha
  have g2 := patK m x b hok b0 hb
  exact ⟨_, divK_bd m x _ _ _ _ _ _ _ _ hm hx (man_nn m x a) (man_nn m x b), hidden fun w => pdiv_k m x a b _ _ _ _ _ _ _ _ w hok g1.kind g2.kind (fun h => (g1.fin h).1) (fun h => (g2.fin h).1) (popen2 m x a b hok a0 a2 ha b0 b2 hb), hidden fun w => rdiv_k m x a b _ _ _ _ _ _ _ _ w hok g1 g2 HR⟩
theorem s_sub (m x : Nat) (a b : Int) (hok : okF m x) (a0 : 0 ≤ a) (a1 : a < p2 (m + x + 1)) (b0 : 0 ≤ b) (b1 : b < p2 (m + x + 1)) : ∃ R, B2 m x 26 13 a b R := by
  obtain ⟨hm, hx, hp⟩ := fm_bd m x hok
  obtain ⟨t0, t1⟩ := turn_bd (m + x) b b0 b1
  obtain ⟨ha, ht, a2, t2, HR⟩ := s_open m x a (turnI (m + x) b) hok a0 a1 t0 t1
  have hb := bl_of_lt m x b b0 b1
  have g1 := patK m x a hok a0 ha
  have g2 := patK m x _ hok t0 ht
  exact ⟨_, add_bd m x a (turnI (m + x) b) _ _ _ _ _ _ _ _ hm hx a0 a1 t0 t1, hidden fun w => psub_k m x a b _ _ _ _ _ _ _ _ w hok b0 b1 g1.kind g2.kind (fun h => (g1.fin h).1) (fun h => (g2.fin h).1) (popen2 m x a _ hok a0 a2 ha t0 t2 ht), hidden fun w => rsub_walk m x a b _ _ 0 _ _ _ _ w (ropen_one m x b hok b0 (by omega) hb) (hidden fun w => turn_any m x b w hok b0 b1) (hidden fun w => radd_k m x a _ _ _ _ _ _ _ _ _ w hok g1 g2 HR)⟩
theorem s_mod (m x : Nat) (a b : Int) (hok : okF m x) (a0 : 0 ≤ a) (a1 : a < p2 (m + x + 1)) (b0 : 0 ≤ b) (b1 : b < p2 (m + x + 1)) : ∃ R Q, ((0 ≤ R ∧ R < p2 (m + x + 1)) ∧ (0 ≤ Q ∧ Q < p2 (m + x + 1))) ∧ Hid (∀ w, Calls Tryz.prog 29 #[.agg #[.int .i64 (m : Int), .int .i64 (x : Int)], .int .u64 a, .int .u64 b] w fun r w' => r = .returned (.tuple #[.int .u64 R, .int .u64 Q, .int .i64 0]) ∧ Below w.heap.size w w') ∧ Hid (∀ w, Calls Tryz.prog 16 #[.agg #[.int .i64 (m : Int), .int .i64 (x : Int)], .int .u64 a, .int .u64 b] w fun r w' => r = .returned (.tuple #[.int .u64 R, .int .u64 Q, .int .i64 0]) ∧ Below w.heap.size w w') := by
  obtain ⟨hm, hx, hp⟩ := fm_bd m x hok
  obtain ⟨ha, hb, a2, b2, HR⟩ := s_open m x a b hok a0 a1 b0 b1
  have g1 := patK m x a hok a0 ha
  have g2 := patK m x b hok b0 hb
  exact ⟨_, _, ⟨restK_bd m x a _ _ _ _ _ _ _ _ hm hx a0 a1 (man_nn m x a) (man_nn m x b), quoK_bd m x _ _ _ _ _ _ _ _ hm hx (man_nn m x a) (man_nn m x b)⟩, hidden fun w => pmod_k m x a b _ _ _ _ _ _ _ _ w hok g1.kind g2.kind (fun h => (g1.fin h).1) (fun h => (g2.fin h).1) (popen2 m x a b hok a0 a2 ha b0 b2 hb), hidden fun w => rmod_k m x a b _ _ _ _ _ _ _ _ w hok g1 g2 HR⟩
theorem reck_same32 (op a b : Int) (a0 : 0 ≤ a) (a1 : a ≤ 4294967295) (b0 : 0 ≤ b) (b1 : b ≤ 4294967295) :
    ∃ R g, (0 ≤ R ∧ R < 4294967296) ∧ (g = 0 ∨ g = 1) ∧ Hid (∀ w, Calls Tryz.prog 10 #[.agg #[.int .i64 23, .int .i64 8], .int .i64 op, .int .u32 a, .int .u32 b] w fun r w' => r = .returned (.tuple #[.int .u32 R, .int .i64 g]) ∧ Below w.heap.size w w') ∧ Hid (∀ w, Calls Tryz.prog 6 #[.bool false, .int .i64 op, .int .u64 a, .int .u64 b] w fun r w' => r = .returned (.tuple #[.int .u64 R, .int .i64 g]) ∧ Below w.heap.size w w') := by
  have hp : p2 (23 + 8 + 1) = 4294967296 := by decide +kernel
  have a2 : a < p2 (23 + 8 + 1) := by omega
  have b2 : b < p2 (23 + 8 + 1) := by omega
  have HF : Hid (∀ w, Calls Tryz.prog 11 #[.bool false] w fun r w' => r = .returned (.agg #[.int .i64 23, .int .i64 8]) ∧ Below w.heap.size w w') := hidden fm_f
  by_cases ho : op < 1 ∨ 9 < op
  · exact ⟨0, 1, ⟨by decide, by decide⟩, .inr rfl, hidden fun w => reck32_no 23 8 op a b w a0 (by omega) b0 (by omega) ho, hidden fun w => rreck_no false 23 8 op a b w ho HF⟩
  · have hc : op = 1 ∨ op = 2 ∨ op = 3 ∨ op = 4 ∨ op = 5 ∨ op = 6 ∨ op = 7 ∨ op = 8 ∨ op = 9 := by omega
    rcases hc with rfl | rfl | rfl | rfl | rfl | rfl | rfl | rfl | rfl
    · obtain ⟨R, hR, H1, H2⟩ := s_add 23 8 a b ok23 a0 a2 b0 b2
      exact ⟨R, 0, ⟨hR.1, by omega⟩, .inl rfl, hidden fun w => reck32_1 23 8 a b R 0 0 w a0 (by omega) b0 (by omega) hR.1 (by omega) H1, hidden fun w => rreck_1 false 23 8 a b R 0 0 w HF H2⟩
    · obtain ⟨R, hR, H1, H2⟩ := s_sub 23 8 a b ok23 a0 a2 b0 b2
      exact ⟨R, 0, ⟨hR.1, by omega⟩, .inl rfl, hidden fun w => reck32_2 23 8 a b R 0 0 w a0 (by omega) b0 (by omega) hR.1 (by omega) H1, hidden fun w => rreck_2 false 23 8 a b R 0 0 w HF H2⟩
    · obtain ⟨R, hR, H1, H2⟩ := s_mul 23 8 a b ok23 a0 a2 b0 b2
      exact ⟨R, 0, ⟨hR.1, by omega⟩, .inl rfl, hidden fun w => reck32_3 23 8 a b R 0 0 w a0 (by omega) b0 (by omega) hR.1 (by omega) H1, hidden fun w => rreck_3 false 23 8 a b R 0 0 w HF H2⟩
    · obtain ⟨R, hR, H1, H2⟩ := s_div 23 8 a b ok23 a0 a2 b0 b2
      exact ⟨R, 0, ⟨hR.1, by omega⟩, .inl rfl, hidden fun w => reck32_4 23 8 a b R 0 0 w a0 (by omega) b0 (by omega) hR.1 (by omega) H1, hidden fun w => rreck_4 false 23 8 a b R 0 0 w HF H2⟩
    · obtain ⟨R, Q, hR, H1, H2⟩ := s_mod 23 8 a b ok23 a0 a2 b0 b2
      exact ⟨R, 0, ⟨hR.1.1, by omega⟩, .inl rfl, hidden fun w => reck32_5 23 8 a b R Q 0 w a0 (by omega) b0 (by omega) hR.1.1 (by omega) H1, hidden fun w => rreck_5 false 23 8 a b R Q 0 w HF H2⟩
    · obtain ⟨R, Q, hR, H1, H2⟩ := s_mod 23 8 a b ok23 a0 a2 b0 b2
      exact ⟨Q, 0, ⟨hR.2.1, by omega⟩, .inl rfl, hidden fun w => reck32_6 23 8 a b Q R 0 w a0 (by omega) b0 (by omega) hR.2.1 (by omega) H1, hidden fun w => rreck_6 false 23 8 a b Q R 0 w HF H2⟩
    · obtain ⟨R, hR, H1, H2⟩ := s_root 23 8 a ok23 a0 a2
      exact ⟨R, 0, ⟨hR.1, by omega⟩, .inl rfl, hidden fun w => reck32_7 23 8 a b R 0 0 w a0 (by omega) b0 (by omega) hR.1 (by omega) H1, hidden fun w => rreck_7 false 23 8 a b R 0 0 w HF H2⟩
    · obtain ⟨R, hR, H1, H2⟩ := s_ceil 23 8 a ok23 a0 a2
      exact ⟨R, 0, ⟨hR.1, by omega⟩, .inl rfl, hidden fun w => reck32_8 23 8 a b R 0 0 w a0 (by omega) b0 (by omega) hR.1 (by omega) H1, hidden fun w => rreck_8 false 23 8 a b R 0 0 w HF H2⟩
    · obtain ⟨R, hR, H1, H2⟩ := s_floor 23 8 a ok23 a0 a2
      exact ⟨R, 0, ⟨hR.1, by omega⟩, .inl rfl, hidden fun w => reck32_9 23 8 a b R 0 0 w a0 (by omega) b0 (by omega) hR.1 (by omega) H1, hidden fun w => rreck_9 false 23 8 a b R 0 0 w HF H2⟩
theorem realsSingles_walk (op a b : Int) (w : World) (w0 : (Lit.int .i64 op).wf = true) (w1 : (Lit.int .u32 a).wf = true) (w2 : (Lit.int .u32 b).wf = true) (hl : Laid w) :
    Calls Tryz.prog 3 #[.int .i64 op, .int .u32 a, .int .u32 b] w fun r w' => r = .returned (.bool true) ∧ Below w.heap.size w w' := by
  have ba := bounds_u32 w1
  have bb := bounds_u32 w2
  obtain ⟨R, g, hR, hg, h1, h2⟩ := reck_same32 op a b ba.1 ba.2 bb.1 bb.2
  have H1 : Hid (∀ w, Laid w → Calls Tryz.prog 5 #[.int .i64 op, .int .u32 a, .int .u32 b] w fun r w' => r = .returned (.tuple #[.int .u32 R, .int .i64 g]) ∧ Below w.heap.size w w') := hidden fun w h => pSingle op a b R g w h h1
  have HM : Hid (∀ w, Calls Tryz.prog 7 #[.int .i64 g] w fun r w' => r = .returned (.int .i64 g) ∧ w' = w) := hidden fun w => num4_any g w (by omega) (by omega)
  have HV := hidden live4_any
  have HL := hidden hl
  have HB := hidden (Below.refl w.heap.size w)
  clear hl w0 w1 w2 h1 hg
  go_enter Tryz.func3, Tryz.ntmps3
  go_wp2_with (first | (go_at_call 5; refine (H1.out _ HL.out).mono ?_; rintro r w9 ⟨rfl, hb⟩; have HL := hidden (HL.out.later hb); have HB := hidden (HB.out.trans (hb.mono HB.out.size)); clear hb) | (go_at_call 6; refine (h2.out _).mono ?_; rintro r w9 ⟨rfl, hb⟩; have HL := hidden (HL.out.later hb); have HB := hidden (HB.out.trans (hb.mono HB.out.size)); clear hb) | (go_at_call 7; refine (HM.out _).mono ?_; rintro r w9 ⟨rfl, hw⟩; obtain rfl := hw.symm) | (go_at_call 8; refine (HV.out _ HL.out).mono ?_; rintro r w9 ⟨rfl, hb⟩; have HB := hidden (HB.out.trans (hb.mono HB.out.size)); clear hb))
  go_ret
  exact ⟨rfl, HB.out⟩
theorem reck_same64 (op a b : Int) (a0 : 0 ≤ a) (a1 : a ≤ 18446744073709551615) (b0 : 0 ≤ b) (b1 : b ≤ 18446744073709551615) :
    ∃ R g, (0 ≤ R ∧ R < 18446744073709551616) ∧ (g = 0 ∨ g = 1) ∧ Hid (∀ w, Calls Tryz.prog 24 #[.agg #[.int .i64 52, .int .i64 11], .int .i64 op, .int .u64 a, .int .u64 b] w fun r w' => r = .returned (.tuple #[.int .u64 R, .int .i64 g]) ∧ Below w.heap.size w w') ∧ Hid (∀ w, Calls Tryz.prog 6 #[.bool true, .int .i64 op, .int .u64 a, .int .u64 b] w fun r w' => r = .returned (.tuple #[.int .u64 R, .int .i64 g]) ∧ Below w.heap.size w w') := by
  have hp : p2 (52 + 11 + 1) = 18446744073709551616 := by decide +kernel
  have a2 : a < p2 (52 + 11 + 1) := by omega
  have b2 : b < p2 (52 + 11 + 1) := by omega
  have HF : Hid (∀ w, Calls Tryz.prog 11 #[.bool true] w fun r w' => r = .returned (.agg #[.int .i64 52, .int .i64 11]) ∧ Below w.heap.size w w') := hidden fm_t
  by_cases ho : op < 1 ∨ 9 < op
  · exact ⟨0, 1, ⟨by decide, by decide⟩, .inr rfl, hidden fun w => reck64_no 52 11 op a b w a0 (by omega) b0 (by omega) ho, hidden fun w => rreck_no true 52 11 op a b w ho HF⟩
  · have hc : op = 1 ∨ op = 2 ∨ op = 3 ∨ op = 4 ∨ op = 5 ∨ op = 6 ∨ op = 7 ∨ op = 8 ∨ op = 9 := by omega
    rcases hc with rfl | rfl | rfl | rfl | rfl | rfl | rfl | rfl | rfl
    · obtain ⟨R, hR, H1, H2⟩ := s_add 52 11 a b ok52 a0 a2 b0 b2
      exact ⟨R, 0, ⟨hR.1, by omega⟩, .inl rfl, hidden fun w => reck64_1 52 11 a b R 0 0 w a0 (by omega) b0 (by omega) hR.1 (by omega) H1, hidden fun w => rreck_1 true 52 11 a b R 0 0 w HF H2⟩
    · obtain ⟨R, hR, H1, H2⟩ := s_sub 52 11 a b ok52 a0 a2 b0 b2
      exact ⟨R, 0, ⟨hR.1, by omega⟩, .inl rfl, hidden fun w => reck64_2 52 11 a b R 0 0 w a0 (by omega) b0 (by omega) hR.1 (by omega) H1, hidden fun w => rreck_2 true 52 11 a b R 0 0 w HF H2⟩
    · obtain ⟨R, hR, H1, H2⟩ := s_mul 52 11 a b ok52 a0 a2 b0 b2
      exact ⟨R, 0, ⟨hR.1, by omega⟩, .inl rfl, hidden fun w => reck64_3 52 11 a b R 0 0 w a0 (by omega) b0 (by omega) hR.1 (by omega) H1, hidden fun w => rreck_3 true 52 11 a b R 0 0 w HF H2⟩
    · obtain ⟨R, hR, H1, H2⟩ := s_div 52 11 a b ok52 a0 a2 b0 b2
      exact ⟨R, 0, ⟨hR.1, by omega⟩, .inl rfl, hidden fun w => reck64_4 52 11 a b R 0 0 w a0 (by omega) b0 (by omega) hR.1 (by omega) H1, hidden fun w => rreck_4 true 52 11 a b R 0 0 w HF H2⟩
    · obtain ⟨R, Q, hR, H1, H2⟩ := s_mod 52 11 a b ok52 a0 a2 b0 b2
      exact ⟨R, 0, ⟨hR.1.1, by omega⟩, .inl rfl, hidden fun w => reck64_5 52 11 a b R Q 0 w a0 (by omega) b0 (by omega) hR.1.1 (by omega) H1, hidden fun w => rreck_5 true 52 11 a b R Q 0 w HF H2⟩
    · obtain ⟨R, Q, hR, H1, H2⟩ := s_mod 52 11 a b ok52 a0 a2 b0 b2
      exact ⟨Q, 0, ⟨hR.2.1, by omega⟩, .inl rfl, hidden fun w => reck64_6 52 11 a b Q R 0 w a0 (by omega) b0 (by omega) hR.2.1 (by omega) H1, hidden fun w => rreck_6 true 52 11 a b Q R 0 w HF H2⟩
    · obtain ⟨R, hR, H1, H2⟩ := s_root 52 11 a ok52 a0 a2
      exact ⟨R, 0, ⟨hR.1, by omega⟩, .inl rfl, hidden fun w => reck64_7 52 11 a b R 0 0 w a0 (by omega) b0 (by omega) hR.1 (by omega) H1, hidden fun w => rreck_7 true 52 11 a b R 0 0 w HF H2⟩
    · obtain ⟨R, hR, H1, H2⟩ := s_ceil 52 11 a ok52 a0 a2
      exact ⟨R, 0, ⟨hR.1, by omega⟩, .inl rfl, hidden fun w => reck64_8 52 11 a b R 0 0 w a0 (by omega) b0 (by omega) hR.1 (by omega) H1, hidden fun w => rreck_8 true 52 11 a b R 0 0 w HF H2⟩
    · obtain ⟨R, hR, H1, H2⟩ := s_floor 52 11 a ok52 a0 a2
      exact ⟨R, 0, ⟨hR.1, by omega⟩, .inl rfl, hidden fun w => reck64_9 52 11 a b R 0 0 w a0 (by omega) b0 (by omega) hR.1 (by omega) H1, hidden fun w => rreck_9 true 52 11 a b R 0 0 w HF H2⟩
theorem realsDoubles_walk (op a b : Int) (w : World) (w0 : (Lit.int .i64 op).wf = true) (w1 : (Lit.int .u64 a).wf = true) (w2 : (Lit.int .u64 b).wf = true) (hl : Laid w) :
    Calls Tryz.prog 4 #[.int .i64 op, .int .u64 a, .int .u64 b] w fun r w' => r = .returned (.bool true) ∧ Below w.heap.size w w' := by
  have ba := bounds_u64 w1
  have bb := bounds_u64 w2
  obtain ⟨R, g, hR, hg, h1, h2⟩ := reck_same64 op a b ba.1 ba.2 bb.1 bb.2
  have H1 : Hid (∀ w, Laid w → Calls Tryz.prog 9 #[.int .i64 op, .int .u64 a, .int .u64 b] w fun r w' => r = .returned (.tuple #[.int .u64 R, .int .i64 g]) ∧ Below w.heap.size w w') := hidden fun w h => pDouble op a b R g w h h1
  have HM : Hid (∀ w, Calls Tryz.prog 7 #[.int .i64 g] w fun r w' => r = .returned (.int .i64 g) ∧ w' = w) := hidden fun w => num4_any g w (by omega) (by omega)
  have HV := hidden live4_any
  have HL := hidden hl
  have HB := hidden (Below.refl w.heap.size w)
  clear hl w0 w1 w2 h1 hg
  go_enter Tryz.func4, Tryz.ntmps4
  go_wp2_with (first | (go_at_call 9; refine (H1.out _ HL.out).mono ?_; rintro r w9 ⟨rfl, hb⟩; have HL := hidden (HL.out.later hb); have HB := hidden (HB.out.trans (hb.mono HB.out.size)); clear hb) | (go_at_call 6; refine (h2.out _).mono ?_; rintro r w9 ⟨rfl, hb⟩; have HL := hidden (HL.out.later hb); have HB := hidden (HB.out.trans (hb.mono HB.out.size)); clear hb) | (go_at_call 7; refine (HM.out _).mono ?_; rintro r w9 ⟨rfl, hw⟩; obtain rfl := hw.symm) | (go_at_call 8; refine (HV.out _ HL.out).mono ?_; rintro r w9 ⟨rfl, hb⟩; have HB := hidden (HB.out.trans (hb.mono HB.out.size)); clear hb))
  go_ret
  exact ⟨rfl, HB.out⟩
end Go.Proofs.YtbfbdemknggpkaaGreatDoor
