/- The document's Convert (package grottoref03), leaf by leaf. -/
import Derived.Test.YtfjpiahgnojlhaaS3e
import Derived.Test.YtfjpiahgnojlhaaS3c
namespace Go.Proofs.Ytfjpiahgnojlhaa
open Go.RowKit
set_option maxRecDepth 100000
set_option maxHeartbeats 400000
set_option linter.unusedVariables false

/-- a slice of digits that is a number (as in the text on Div, which this seat may lack) -/
theorem has_of5 {w : World} {a : Option Addr} {l c : Nat} {ds : List Int} {N : Int} (rt : RdD w a l c ds) (kt : OkD ds) (vt : nv ds = N) (tt : l = 0 ∨ ds.getD (l - 1) 0 ≠ 0) : HasNat w a l c ds N := ⟨rt, kt, vt, tt⟩
theorem one_has3 (w : World) : Calls Try.prog 31 #[] w fun r w' => ∃ a2 l2 c2 d2, r = .returned (.slice a2 l2 c2) ∧ HasNat w' a2 l2 c2 d2 1 ∧ l2 ≤ 1 ∧ Below w.heap.size w w' := by
  refine (one_any w).mono ?_
  rintro r w' ⟨rfl, rfl⟩
  exact ⟨_, _, _, [1], rfl, ⟨rd_one w, fun d hd => by simp at hd; omega, by simp [nv], .inr (by decide)⟩, Nat.le_refl _, (Below.refl _ _).alloc (Nat.le_refl _) _⟩
theorem ropen_box2 (m x m2 x2 K E M : Int) (n : Bool) (w w1 : World) (hb : Below ((w.alloc (.cells #[.int .i64 m, .int .i64 x] 23)).alloc (.cells #[.int .i64 m2, .int .i64 x2] 23)).heap.size ((w.alloc (.cells #[.int .i64 m, .int .i64 x] 23)).alloc (.cells #[.int .i64 m2, .int .i64 x2] 23)) w1) :
    ∃ w5, w5 = w1.alloc (.cells #[.int .i64 K, .bool n, .int .i64 E, .int .u64 M] 43) ∧ Below w.heap.size w w5 ∧ w5.cell? ⟨w.heap.size + 1, 0, none⟩ = some (.int .i64 m2) ∧ w5.cell? ⟨w.heap.size + 1, 1, none⟩ = some (.int .i64 x2) ∧
      w5.cell? ⟨w1.heap.size, 0, none⟩ = some (.int .i64 K) ∧ w5.cell? ⟨w1.heap.size, 1, none⟩ = some (.bool n) ∧ w5.cell? ⟨w1.heap.size, 2, none⟩ = some (.int .i64 E) ∧ w5.cell? ⟨w1.heap.size, 3, none⟩ = some (.int .u64 M) := by
  have hW : Below w.heap.size w ((w.alloc (.cells #[.int .i64 m, .int .i64 x] 23)).alloc (.cells #[.int .i64 m2, .int .i64 x2] 23)) := ((Below.refl _ _).alloc (Nat.le_refl _) _).alloc (by simp) _
  have hB := hW.trans (hb.mono hW.size)
  have d0 : w1.cell? ⟨w.heap.size + 1, 0, none⟩ = some (.int .i64 m2) := cellLater hb (by simp)
  have d1 : w1.cell? ⟨w.heap.size + 1, 1, none⟩ = some (.int .i64 x2) := cellLater hb (by simp)
  have hZ : Below w1.heap.size w1 (w1.alloc (.cells #[.int .i64 K, .bool n, .int .i64 E, .int .u64 M] 43)) := (Below.refl _ _).alloc (Nat.le_refl _) _
  obtain ⟨p0, p1, p2, p3, -⟩ := ps_fresh w1 K E M n
  exact ⟨_, rfl, hB.trans (hZ.mono hB.size), cellLater hZ d0, cellLater hZ d1, p0, p1, p2, p3⟩
theorem rconv_err (m x m2 x2 a : Int) (w : World)
    (HO : Hid (∀ w, Calls Try.prog 41 #[.agg #[.int .i64 m, .int .i64 x], .int .u64 a] w fun r w' => r = .returned (.tuple #[partsV 0 false 0 0, .int .i64 1]) ∧ Below w.heap.size w w')) :
    Calls Try.prog 15 #[.agg #[.int .i64 m, .int .i64 x], .agg #[.int .i64 m2, .int .i64 x2], .int .u64 a] w fun r w' => r = .returned (.tuple #[.int .u64 0, .int .i64 1]) ∧ Below w.heap.size w w' := by
  go_enter Try.func15, Try.ntmps15
  go_wp2_with fail
  refine (HO.out _).mono ?_
  rintro r w1 ⟨rfl, hb1⟩
  have hW : Below w.heap.size w ((w.alloc (.cells #[.int .i64 m, .int .i64 x] 23)).alloc (.cells #[.int .i64 m2, .int .i64 x2] 23)) := ((Below.refl _ _).alloc (Nat.le_refl _) _).alloc (by simp) _
  have HB1 := hidden (hW.trans (hb1.mono hW.size))
  clear hb1 hW
  go_wp2
  go_ret2
  exact ⟨rfl, HB1.out.alloc HB1.out.size _⟩
theorem rconv_no (m x m2 x2 a K E M : Int) (n : Bool) (w : World)
    (HO : Hid (∀ w, Calls Try.prog 41 #[.agg #[.int .i64 m, .int .i64 x], .int .u64 a] w fun r w' => r = .returned (.tuple #[partsV K n E M, .int .i64 0]) ∧ Below w.heap.size w w'))
    (HC : Hid (∀ w, Calls Try.prog 47 #[.agg #[.int .i64 m2, .int .i64 x2]] w fun r w' => r = .returned (.int .i64 1) ∧ Below w.heap.size w w'))
    : Calls Try.prog 15 #[.agg #[.int .i64 m, .int .i64 x], .agg #[.int .i64 m2, .int .i64 x2], .int .u64 a] w fun r w' => r = .returned (.tuple #[.int .u64 0, .int .i64 1]) ∧ Below w.heap.size w w' := by
  go_enter Try.func15, Try.ntmps15
  go_wp2_with fail
  refine (HO.out _).mono ?_
  rintro r w1 ⟨rfl, hb1⟩
  obtain ⟨w5, hw5, hx, c0, c1, p0, p1, p2', p3⟩ := ropen_box2 m x m2 x2 K E M n w w1 hb1
  have HB := hidden hx
  clear hx hb1
  go_upto_region 2 with fail
  change Code.wp _ _ _ _ (w1.alloc (.cells #[.int .i64 K, .bool n, .int .i64 E, .int .u64 M] 43))
  rw [← hw5]
  clear hw5
  go_wp2_with (first | (go_at_call 47; refine (HC.out _).mono ?_; rintro r w9 ⟨rfl, hb⟩; have zz := six_later hb ⟨c0, c1, p0, p1, p2', p3⟩; clear c0 c1 p0 p1 p2' p3; obtain ⟨c0, c1, p0, p1, p2', p3⟩ := zz; have HB := hidden (HB.out.trans (hb.mono HB.out.size)); clear hb))
  go_ret2
  exact ⟨rfl, HB.out⟩
theorem rconv_nan (m x m2 x2 a K E M R : Int) (n : Bool) (w : World)
    (HO : Hid (∀ w, Calls Try.prog 41 #[.agg #[.int .i64 m, .int .i64 x], .int .u64 a] w fun r w' => r = .returned (.tuple #[partsV K n E M, .int .i64 0]) ∧ Below w.heap.size w w'))
    (HC : Hid (∀ w, Calls Try.prog 47 #[.agg #[.int .i64 m2, .int .i64 x2]] w fun r w' => r = .returned (.int .i64 0) ∧ Below w.heap.size w w'))
    (HN : Hid (∀ w, Calls Try.prog 26 #[.agg #[.int .i64 m2, .int .i64 x2]] w fun r w' => r = .returned (.int .u64 R) ∧ Below w.heap.size w w'))
    (k4 : (K == 4) = true)
    : Calls Try.prog 15 #[.agg #[.int .i64 m, .int .i64 x], .agg #[.int .i64 m2, .int .i64 x2], .int .u64 a] w fun r w' => r = .returned (.tuple #[.int .u64 R, .int .i64 0]) ∧ Below w.heap.size w w' := by
  go_enter Try.func15, Try.ntmps15
  go_wp2_with fail
  refine (HO.out _).mono ?_
  rintro r w1 ⟨rfl, hb1⟩
  obtain ⟨w5, hw5, hx, c0, c1, p0, p1, p2', p3⟩ := ropen_box2 m x m2 x2 K E M n w w1 hb1
  have HB := hidden hx
  clear hx hb1
  go_upto_region 2 with fail
  change Code.wp _ _ _ _ (w1.alloc (.cells #[.int .i64 K, .bool n, .int .i64 E, .int .u64 M] 43))
  rw [← hw5]
  clear hw5
  go_wp2_with (first | (go_at_call 47; refine (HC.out _).mono ?_; rintro r w9 ⟨rfl, hb⟩; have zz := six_later hb ⟨c0, c1, p0, p1, p2', p3⟩; clear c0 c1 p0 p1 p2' p3; obtain ⟨c0, c1, p0, p1, p2', p3⟩ := zz; have HB := hidden (HB.out.trans (hb.mono HB.out.size)); clear hb) | (go_at_call 26; refine (HN.out _).mono ?_; rintro r w9 ⟨rfl, hb⟩; have zz := six_later hb ⟨c0, c1, p0, p1, p2', p3⟩; clear c0 c1 p0 p1 p2' p3; obtain ⟨c0, c1, p0, p1, p2', p3⟩ := zz; have HB := hidden (HB.out.trans (hb.mono HB.out.size)); clear hb))
  go_ret2
  exact ⟨rfl, HB.out⟩
theorem rconv_inf (m x m2 x2 a K E M R : Int) (n : Bool) (w : World)
    (HO : Hid (∀ w, Calls Try.prog 41 #[.agg #[.int .i64 m, .int .i64 x], .int .u64 a] w fun r w' => r = .returned (.tuple #[partsV K n E M, .int .i64 0]) ∧ Below w.heap.size w w'))
    (HC : Hid (∀ w, Calls Try.prog 47 #[.agg #[.int .i64 m2, .int .i64 x2]] w fun r w' => r = .returned (.int .i64 0) ∧ Below w.heap.size w w'))
    (HI : Hid (∀ w, Calls Try.prog 27 #[.agg #[.int .i64 m2, .int .i64 x2], .bool n] w fun r w' => r = .returned (.int .u64 R) ∧ Below w.heap.size w w'))
    (k4 : (K == 4) = false)
    (k3 : (K == 3) = true)
    : Calls Try.prog 15 #[.agg #[.int .i64 m, .int .i64 x], .agg #[.int .i64 m2, .int .i64 x2], .int .u64 a] w fun r w' => r = .returned (.tuple #[.int .u64 R, .int .i64 0]) ∧ Below w.heap.size w w' := by
  go_enter Try.func15, Try.ntmps15
  go_wp2_with fail
  refine (HO.out _).mono ?_
  rintro r w1 ⟨rfl, hb1⟩
  obtain ⟨w5, hw5, hx, c0, c1, p0, p1, p2', p3⟩ := ropen_box2 m x m2 x2 K E M n w w1 hb1
  have HB := hidden hx
  clear hx hb1
  go_upto_region 2 with fail
  change Code.wp _ _ _ _ (w1.alloc (.cells #[.int .i64 K, .bool n, .int .i64 E, .int .u64 M] 43))
  rw [← hw5]
  clear hw5
  go_wp2_with (first | (go_at_call 47; refine (HC.out _).mono ?_; rintro r w9 ⟨rfl, hb⟩; have zz := six_later hb ⟨c0, c1, p0, p1, p2', p3⟩; clear c0 c1 p0 p1 p2' p3; obtain ⟨c0, c1, p0, p1, p2', p3⟩ := zz; have HB := hidden (HB.out.trans (hb.mono HB.out.size)); clear hb) | (go_at_call 27; refine (HI.out _).mono ?_; rintro r w9 ⟨rfl, hb⟩; have zz := six_later hb ⟨c0, c1, p0, p1, p2', p3⟩; clear c0 c1 p0 p1 p2' p3; obtain ⟨c0, c1, p0, p1, p2', p3⟩ := zz; have HB := hidden (HB.out.trans (hb.mono HB.out.size)); clear hb))
  go_ret2
  exact ⟨rfl, HB.out⟩
theorem rconv_num (m x : Int) (m2 x2 : Nat) (a K E M : Int) (n : Bool) (w : World) (hok : okF m2 x2) (a0 : 0 ≤ M) (a1 : M ≤ 18446744073709551615) (e0 : -2000 ≤ E ∧ E ≤ 2000)
    (HO : Hid (∀ w, Calls Try.prog 41 #[.agg #[.int .i64 m, .int .i64 x], .int .u64 a] w fun r w' => r = .returned (.tuple #[partsV K n E M, .int .i64 0]) ∧ Below w.heap.size w w'))
    (HC : Hid (∀ w, Calls Try.prog 47 #[.agg #[.int .i64 (m2 : Int), .int .i64 (x2 : Int)]] w fun r w' => r = .returned (.int .i64 0) ∧ Below w.heap.size w w'))
    (k4 : (K == 4) = false)
    (k3 : (K == 3) = false)
    : Calls Try.prog 15 #[.agg #[.int .i64 m, .int .i64 x], .agg #[.int .i64 (m2 : Int), .int .i64 (x2 : Int)], .int .u64 a] w fun r w' => ∃ P, r = .returned (.tuple #[.int .u64 (P + sgnW n (m2 + x2)), .int .i64 0]) ∧ ((M = 0 ∧ P = 0) ∨ (0 < M ∧ IsNear m2 x2 M 1 E P)) ∧ Below w.heap.size w w' := by
  go_enter Try.func15, Try.ntmps15
  go_wp2_with fail
  refine (HO.out _).mono ?_
  rintro r w1 ⟨rfl, hb1⟩
  obtain ⟨w5, hw5, hx, c0, c1, p0, p1, p2', p3⟩ := ropen_box2 m x m2 x2 K E M n w w1 hb1
  have HB := hidden hx
  clear hx hb1
  go_upto_region 2 with fail
  change Code.wp _ _ _ _ (w1.alloc (.cells #[.int .i64 K, .bool n, .int .i64 E, .int .u64 M] 43))
  rw [← hw5]
  clear hw5
  go_wp2_with (first | (go_at_call 47; refine (HC.out _).mono ?_; rintro r w4 ⟨rfl, hb⟩; have zz := six_later hb ⟨c0, c1, p0, p1, p2', p3⟩; clear c0 c1 p0 p1 p2' p3; obtain ⟨c0, c1, p0, p1, p2', p3⟩ := zz; have HB := hidden (HB.out.trans (hb.mono HB.out.size)); clear hb))
  go_region_held3 (fun w' => w'.cell? ⟨w.heap.size + 1, 0, none⟩ = some (.int .i64 (m2 : Int)) ∧ w'.cell? ⟨w.heap.size + 1, 1, none⟩ = some (.int .i64 (x2 : Int)) ∧ w'.cell? ⟨w1.heap.size, 1, none⟩ = some (.bool n) ∧ w'.cell? ⟨w1.heap.size, 2, none⟩ = some (.int .i64 E) ∧ w'.cell? ⟨w1.heap.size, 3, none⟩ = some (.int .u64 M)) (go_keep) (first | (go_at_call 30; refine (natOf_any M _ a0 a1).mono ?_; rintro r w6 ⟨ah, lh, ch, dh, rfl, rh, kh, vh, lbh, th, hb6, -⟩; have c0 : w6.cell? ⟨w.heap.size + 1, 0, none⟩ = some (.int .i64 (m2 : Int)) := cellLater hb6 (by go_keep); have c1 : w6.cell? ⟨w.heap.size + 1, 1, none⟩ = some (.int .i64 (x2 : Int)) := cellLater hb6 (by go_keep); have p1 : w6.cell? ⟨w1.heap.size, 1, none⟩ = some (.bool n) := cellLater hb6 (by go_keep); have p2' : w6.cell? ⟨w1.heap.size, 2, none⟩ = some (.int .i64 E) := cellLater hb6 (by go_keep); have p3 : w6.cell? ⟨w1.heap.size, 3, none⟩ = some (.int .u64 M) := cellLater hb6 (by go_keep); have HT := hidden (has_of5 rh kh vh th)) | (go_at_call 31; refine (one_has3 _).mono ?_; rintro r w9 ⟨ao, lo, co, do', rfl, ho, hlo, hb9⟩; have c0 : w9.cell? ⟨w.heap.size + 1, 0, none⟩ = some (.int .i64 (m2 : Int)) := cellLater hb9 (by go_keep); have c1 : w9.cell? ⟨w.heap.size + 1, 1, none⟩ = some (.int .i64 (x2 : Int)) := cellLater hb9 (by go_keep); have p1 : w9.cell? ⟨w1.heap.size, 1, none⟩ = some (.bool n) := cellLater hb9 (by go_keep); have p2' : w9.cell? ⟨w1.heap.size, 2, none⟩ = some (.int .i64 E) := cellLater hb9 (by go_keep); have p3 : w9.cell? ⟨w1.heap.size, 3, none⟩ = some (.int .u64 M) := cellLater hb9 (by go_keep); have HT := hidden (HT.out.later hb9); have HO1 := hidden ho) | (go_at_call 28; refine (near_any m2 x2 n _ _ _ _ _ _ _ _ M 1 E _ hok HT.out HO1.out (by omega) (by omega) (by omega) (by omega) (by omega)).mono ?_; rintro r w10 ⟨P, rfl, hP, hb10⟩; have c0 : w10.cell? ⟨w.heap.size + 1, 0, none⟩ = some (.int .i64 (m2 : Int)) := cellLater hb10 (by go_keep); have c1 : w10.cell? ⟨w.heap.size + 1, 1, none⟩ = some (.int .i64 (x2 : Int)) := cellLater hb10 (by go_keep); have p1 : w10.cell? ⟨w1.heap.size, 1, none⟩ = some (.bool n) := cellLater hb10 (by go_keep); have p2' : w10.cell? ⟨w1.heap.size, 2, none⟩ = some (.int .i64 E) := cellLater hb10 (by go_keep); have p3 : w10.cell? ⟨w1.heap.size, 3, none⟩ = some (.int .u64 M) := cellLater hb10 (by go_keep)))
  all_goals
    have h0 := HB.out.drew
    have h1 := h0.trans (hb6.mono h0.size)
    have h4 := h1.trans (hb9.mono h1.size)
    have h5 := h4.trans (hb10.mono h4.size)
    have HF := hidden h5
    have HPP := hidden hP
    clear h0 h1 h4 h5 hb6 hb9 hb10 hP
    go_wp2
    go_ret2
    exact ⟨P, rfl, HPP.out, HF.out⟩
end Go.Proofs.Ytfjpiahgnojlhaa
