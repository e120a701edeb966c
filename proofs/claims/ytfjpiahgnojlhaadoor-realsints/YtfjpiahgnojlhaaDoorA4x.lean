/- A number that is near by the page is packed. The document's step and Whole answer what package soft's answer, for every pattern of a format. The document's Convert answers what package soft's answers, for every pattern of a format. The document's small functions for layer 4 (package grottoref04): Format, Of, Int. -/
import Derived.Test.YtfjpiahgnojlhaaDoorN5m
import Derived.Test.YtfjpiahgnojlhaaDoorS3x
import Derived.Test.YtfjpiahgnojlhaaDoorR4x
import Derived.Test.YtfjpiahgnojlhaaDoorN3a
import Derived.Test.YtfjpiahgnojlhaaDoorL2d
namespace Go.Proofs.YtfjpiahgnojlhaaDoor
open Go.RowKit
set_option maxHeartbeats 400000
set_option linter.unusedVariables false

theorem near_one (m x : Nat) (A e P : Int) (hA : 0 < A) (hx : 2 ≤ x) (h : IsNear m x A 1 e P) : P = packP m x A e false := by
  refine near_pack_gen m x A 1 e P A e false hA (by decide) hx (fun h => by cases h) h ?_ ?_ ?_
  · rw [show (e - e).toNat = 0 by omega, show p2 0 = 1 from rfl]; omega
  · rw [show (e - e).toNat = 0 by omega, show p2 0 = 1 from rfl]; omega
  · rw [show (e - e).toNat = 0 by omega, show p2 0 = 1 from rfl]; simp
end Go.Proofs.YtfjpiahgnojlhaaDoor
namespace Go.Proofs.YtfjpiahgnojlhaaDoor
open Go.RowKit
set_option maxRecDepth 100000
set_option maxHeartbeats 1000000
set_option linter.unusedVariables false

theorem stepret {w : World} {m x : Nat} {n : Bool} {N : Int} {r : Ending} {w' : World} (hx : 2 ≤ x) (h : StepRet w m x n N r w') : r = .returned (.tuple #[.int .u64 (packP m x N 0 false + sgnW n (m + x)), .int .i64 0]) ∧ Below w.heap.size w w' := by
  obtain ⟨P, rfl, hP, hb⟩ := h
  refine ⟨?_, hb⟩
  have e : P = packP m x N 0 false := by
    rcases hP with ⟨rfl, rfl⟩ | ⟨h0, h1⟩
    · simp [packP]
    · exact near_one m x N 0 P h0 hx h1
  rw [e]
abbrev One1C (F : Nat) (m x a R g : Int) : Prop := Hid (∀ w, Calls Tryd.prog F #[.agg #[.int .i64 m, .int .i64 x], .int .u64 a] w fun r w' => r = .returned (.tuple #[.int .u64 R, .int .i64 g]) ∧ Below w.heap.size w w')
abbrev WhC (F : Nat) (m x a : Int) (near : Bool) (R : Int) (s : Bool) (g : Int) : Prop := Hid (∀ w, Calls Tryd.prog F #[.agg #[.int .i64 m, .int .i64 x], .int .u64 a, .bool near] w fun r w' => r = .returned (.tuple #[.int .u64 R, .bool s, .int .i64 g]) ∧ Below w.heap.size w w')
abbrev ROpen1 (m x : Nat) (a K : Int) (n : Bool) (E M : Int) : Prop := Hid (∀ w, Calls Tryd.prog 45 #[.agg #[.int .i64 (m : Int), .int .i64 (x : Int)], .int .u64 a] w fun r w' => r = .returned (.tuple #[partsV K n E M, .int .i64 0]) ∧ Below w.heap.size w w')
theorem half_bit2 (M : Int) (k : Nat) (hk : 0 < k) : M % p2 k = p2 (k - 1) * (M / p2 (k - 1) % 2) + M % p2 (k - 1) := by
  have h1 := Int.mul_ediv_add_emod M (p2 (k - 1))
  have h2 := Int.mul_ediv_add_emod M (p2 k)
  have h3 := half_step M (k - 1)
  rw [show k - 1 + 1 = k by omega] at h3
  have e : p2 k = 2 * p2 (k - 1) := by rw [← p2_succ]; congr 1; omega
  rw [← h3, e] at h2
  rw [e]
  generalize M / p2 (k - 1) = D at *
  have h4 : p2 (k - 1) * D = 2 * (p2 (k - 1) * (D / 2)) + p2 (k - 1) * (D % 2) := by
    have h5 : D = 2 * (D / 2) + D % 2 := by omega
    rw [show p2 (k - 1) * D = p2 (k - 1) * (2 * (D / 2) + D % 2) by rw [← h5], Int.mul_add, Int.mul_left_comm]
  rw [Int.mul_assoc] at h2
  generalize p2 (k - 1) * (D / 2) = U at *
  generalize p2 (k - 1) * (D % 2) = V at *
  omega
theorem wholes_k (m x : Nat) (a K E M : Int) (n near : Bool) (hok : okF m x) (g : PatK m x a K n E M) (HO : Open1C m x a K n E M) (HR : ROpen1 m x a K n E M) :
    ∃ R, (0 ≤ R ∧ R ≤ 1099511627776) ∧ WhC 44 m x a near R n 0 ∧ WhC 23 m x a near R n 0 := by
  rcases g.kind with rfl | rfl | rfl | rfl
  · obtain ⟨rfl, rfl, -⟩ := g.zero rfl
    refine ⟨0, by decide, hidden fun w => pwhole_zero m x a 1 0 0 n near w HO rfl, hidden fun w => rwhole_few m x a 1 0 0 0 n near false 5 w (by omega) (by omega) HR (hidden fun w => ?_) rfl rfl (by omega)⟩
    have h := whole_up 1 0 n near 0 w (by omega) (by omega) (by omega)
    rw [Int.zero_mul] at h
    exact h
  · obtain ⟨f, hf⟩ := g.fin rfl
    obtain ⟨r1, r2, r3, r4⟩ := f.rng hok
    have key : ∀ (N : Int) (beh : Bool) (L : Nat), 0 ≤ N → L ≤ 5000 → Hid (∀ w, Calls Tryd.prog 47 #[partsV 2 n E M, .bool near] w fun r w' => WholeRet w N beh L r w') → Hid (∀ w, Calls Tryd.prog 66 #[partsV 2 n E M, .bool near] w fun r w' => r = .returned (.int .u64 (min N 1099511627776)) ∧ Below w.heap.size w w') → ∃ R, (0 ≤ R ∧ R ≤ 1099511627776) ∧ WhC 44 m x a near R n 0 ∧ WhC 23 m x a near R n 0 := by
      intro N beh L h0 hL HW HP
      refine ⟨min N 1099511627776, by omega, hidden fun w => pwhole_fin m x a 2 E M _ n near w HO HP rfl rfl, ?_⟩
      by_cases h : N ≤ 1099511627776
      · rw [Int.min_eq_left h]
        exact hidden fun w => rwhole_few m x a 2 E M N n near beh L w hL h0 HR HW rfl rfl h
      · rw [Int.min_eq_right (by omega)]
        exact hidden fun w => rwhole_many m x a 2 E M N n near beh L w hL h0 HR HW rfl rfl (by omega)
    by_cases he : 0 ≤ E
    · obtain ⟨k, rfl⟩ := Int.eq_ofNat_of_zero_le he
      have hN : 0 ≤ M * p2 k := Int.mul_nonneg (by omega) (Int.le_of_lt (p2_pos k))
      refine key (M * p2 k) false (k / 16 + 5) hN (by omega) (hidden fun w => whole_up 2 M n near k w (by omega) (by omega) (by omega)) (hidden fun w => ?_)
      by_cases hb : (bl M : Int) + k ≤ 64
      · exact pwpart_up 2 k M n near k w rfl (by omega) r3 r4 hb
      · have hbig : 1099511627776 < M * p2 k := by
          obtain ⟨b0, b1, b2⟩ := bl_bd M r3
          have h1 : p2 (bl M - 1) * p2 k ≤ M * p2 k := Int.mul_le_mul_of_nonneg_right b1 (Int.le_of_lt (p2_pos k))
          rw [← p2_add] at h1
          have h2 : p2 63 ≤ p2 (bl M - 1 + k) := p2_mono (by omega)
          rw [p2_63] at h2
          omega
        rw [Int.min_eq_right (by omega)]
        exact pwpart_big 2 k M n near w (by omega) (by omega) (by omega) r4 (by omega)
    · obtain ⟨k, hk⟩ : ∃ k : Nat, -E = k := ⟨(-E).toNat, by omega⟩
      have q0 : 0 ≤ M / p2 k := Int.ediv_nonneg (by omega) (Int.le_of_lt (p2_pos k))
      cases near
      · exact key (M / p2 k) _ 4 q0 (by omega) (hidden fun w => whole_cut 2 E M n k w hk (by omega) (by omega) (by omega) (by omega)) (hidden fun w => pwpart_cut 2 E M n k w hk (by omega) (by omega) (by omega) r4)
      · have hh := half_bit2 M k (by omega)
        have e : p2 k = 2 * p2 (k - 1) := by rw [← p2_succ]; congr 1; omega
        have hp := p2_pos (k - 1)
        have l0 := Int.emod_nonneg M (show p2 (k - 1) ≠ 0 by omega)
        have l1 := Int.emod_lt_of_pos M hp
        rcases (show M / p2 (k - 1) % 2 = 0 ∨ M / p2 (k - 1) % 2 = 1 by omega) with hb | hb
        · rw [hb, Int.mul_zero] at hh
          exact key (M / p2 k) _ 4 q0 (by omega) (hidden fun w => whole_near0 2 E M n k w hk (by omega) (by omega) (by omega) (by omega) (by omega)) (hidden fun w => pwpart_near0 2 E M n k w hk (by omega) (by omega) (by omega) r4 hb)
        · rw [hb, Int.mul_one] at hh
          exact key (M / p2 k + 1) _ 5 (by omega) (by omega) (hidden fun w => whole_near1 2 E M n k w hk (by omega) (by omega) (by omega) (by omega) (by omega)) (hidden fun w => pwpart_near1 2 E M n k w hk (by omega) (by omega) (by omega) r4 hb)
  · exact ⟨1099511627776, by decide, hidden fun w => pwhole_inf m x a 3 E M n near w HO rfl rfl, hidden fun w => rwhole_inf m x a 3 E M n near w HR rfl rfl⟩
  · exact ⟨1099511627776, by decide, hidden fun w => pwhole_inf m x a 4 E M n near w HO rfl rfl, hidden fun w => rwhole_nan m x a 4 E M n near w HR rfl⟩
end Go.Proofs.YtfjpiahgnojlhaaDoor
namespace Go.Proofs.YtfjpiahgnojlhaaDoor
open Go.RowKit
set_option maxRecDepth 100000
set_option maxHeartbeats 400000
set_option linter.unusedVariables false

abbrev ROpenV (m x : Nat) (a K : Int) (n : Bool) (E M : Int) : Prop := Hid (∀ w, Calls Tryd.prog 45 #[.agg #[.int .i64 (m : Int), .int .i64 (x : Int)], .int .u64 a] w fun r w' => r = .returned (.tuple #[partsV K n E M, .int .i64 0]) ∧ Below w.heap.size w w')
theorem rconv_k (m x m2 x2 : Nat) (a K E M : Int) (n : Bool) (w : World) (hok : okF m x) (hok2 : okF m2 x2) (g : PatK m x a K n E M) (HO : ROpenV m x a K n E M) :
    Calls Tryd.prog 30 #[.agg #[.int .i64 (m : Int), .int .i64 (x : Int)], .agg #[.int .i64 (m2 : Int), .int .i64 (x2 : Int)], .int .u64 a] w fun r w' => r = .returned (.tuple #[.int .u64 (convK m2 x2 K n E M), .int .i64 0]) ∧ Below w.heap.size w w' := by
  have hx : 2 ≤ x2 := by have := hok2.2.2.1; omega
  have hm : m2 ≤ 52 := by have := hok2.2.1; omega
  have hm1 : 1 ≤ m2 := by have := hok2.1; omega
  have hx11 : x2 ≤ 11 := by have := hok2.2.2.2; omega
  have HC : Hid (∀ w, Calls Tryd.prog 52 #[.agg #[.int .i64 (m2 : Int), .int .i64 (x2 : Int)]] w fun r w' => r = .returned (.int .i64 0) ∧ Below w.heap.size w w') := hidden fun w => by
    refine (check_ok m2 x2 w hok2).mono ?_
    rintro r w' ⟨rfl, rfl⟩
    exact ⟨rfl, (Below.refl _ _).alloc (Nat.le_refl _) _⟩
  rcases g.kind with rfl | rfl | rfl | rfl
  · obtain ⟨rfl, rfl, -⟩ := g.zero rfl
    refine (rconv_num m x m2 x2 a 1 0 0 n w hok2 (by omega) (by omega) (by omega) HO HC rfl rfl).mono ?_
    rintro r w' ⟨P, rfl, hP, hb⟩
    have h0 : P = 0 := by rcases hP with h | h <;> omega
    refine ⟨?_, hb⟩
    rw [h0]
    simp [convK]
  · obtain ⟨f, -⟩ := g.fin rfl
    obtain ⟨r1, r2, r3, r4⟩ := f.rng hok
    refine (rconv_num m x m2 x2 a 2 E M n w hok2 (by omega) (by omega) (by omega) HO HC rfl rfl).mono ?_
    rintro r w' ⟨P, rfl, hP, hb⟩
    rcases hP with h | h
    · omega
    · refine ⟨?_, hb⟩
      rw [near_one m2 x2 M E P h.1 hx h.2]
      simp [convK]
  · exact rconv_inf m x m2 x2 a 3 E M _ n w HO HC (hidden fun w => inf_any m2 x2 n w hm hx11) rfl rfl
  · exact rconv_nan m x m2 x2 a 4 E M _ n w HO HC (hidden fun w => nan_any m2 x2 w hm hm1 hx11) rfl
end Go.Proofs.YtfjpiahgnojlhaaDoor
namespace Go.Proofs.YtfjpiahgnojlhaaDoor
open Go.RowKit
set_option maxRecDepth 100000
set_option maxHeartbeats 400000
set_option linter.unusedVariables false

theorem has_of4 {w : World} {a : Option Addr} {l c : Nat} {ds : List Int} {N : Int} (rt : RdD w a l c ds) (kt : OkD ds) (vt : nv ds = N) (tt : l = 0 ∨ ds.getD (l - 1) 0 ≠ 0) : HasNat w a l c ds N := ⟨rt, kt, vt, tt⟩
theorem rd_one4 (w : World) : RdD (w.alloc (.cells #[.int .i64 1] 3)) (some ⟨w.heap.size, 0, none⟩) 1 1 [1] := by
  refine ⟨rfl, Nat.le_refl _, .inr ⟨w.heap.size, 0, rfl, fun i hi => ?_⟩⟩
  obtain rfl : i = 0 := by omega
  simp
def fmV (wide : Bool) : Value := .agg #[.int .i64 (if wide then 52 else 23), .int .i64 (if wide then 11 else 8)]
theorem fm_t (w : World) : Calls Tryd.prog 19 #[.bool true] w fun r w' => r = .returned (.agg #[.int .i64 52, .int .i64 11]) ∧ Below w.heap.size w w' := by
  go_enter Tryd.func19, Tryd.ntmps19
  go_wp2
  refine bodyPost_ret (v := .agg #[.int .i64 52, .int .i64 11]) (by simp [results, Tryd.results19, go_sem]) rfl ⟨rfl, ?_⟩
  exact (Below.refl _ _).alloc (Nat.le_refl _) _
theorem fm_f (w : World) : Calls Tryd.prog 19 #[.bool false] w fun r w' => r = .returned (.agg #[.int .i64 23, .int .i64 8]) ∧ Below w.heap.size w w' := by
  go_enter Tryd.func19, Tryd.ntmps19
  go_wp2
  refine bodyPost_ret (v := .agg #[.int .i64 23, .int .i64 8]) (by simp [results, Tryd.results19, go_sem]) rfl ⟨rfl, ?_⟩
  exact (Below.refl _ _).alloc (Nat.le_refl _) _
theorem rof_any (wide : Bool) (m x : Nat) (n : Int) (w : World) (hok : okF m x) (n0 : 0 ≤ n) (n1 : n ≤ 4294967295)
    (HF : Hid (∀ w, Calls Tryd.prog 19 #[.bool wide] w fun r w' => r = .returned (.agg #[.int .i64 (m : Int), .int .i64 (x : Int)]) ∧ Below w.heap.size w w')) :
    Calls Tryd.prog 6 #[.bool wide, .int .u32 n] w fun r w' => ∃ P, r = .returned (.int .u64 (P + sgnW (decide (2147483648 ≤ n)) (m + x))) ∧ (((if 2147483648 ≤ n then 4294967296 - n else n) = 0 ∧ P = 0) ∨ (0 < (if 2147483648 ≤ n then 4294967296 - n else n) ∧ IsNear m x (if 2147483648 ≤ n then 4294967296 - n else n) 1 0 P)) ∧ Below w.heap.size w w' := by
  by_cases h : 2147483648 ≤ n
  · rw [if_pos h, decide_eq_true h]
    have s0 : 0 ≤ 4294967296 - n := by omega
    have s1 : 4294967296 - n ≤ 2147483648 := by omega
    go_enter Tryd.func6, Tryd.ntmps6
    go_wp2_with fail
    refine (HF.out _).mono ?_
    rintro r w1 ⟨rfl, hb1⟩
    go_wp2_with fail
    refine (natOf_any (4294967296 - n) _ (by omega) (by omega)).mono ?_
    rintro r w6 ⟨ah, lh, ch, dh, rfl, rh, kh, vh, lbh, th, hb6, -⟩
    have hb16 := hb1.trans (hb6.mono hb1.size)
    have HA := hidden ((has_of4 rh kh vh th).later ((Below.refl _ _).alloc (Nat.le_refl _) (.cells #[.int .i64 1] 3) : Below w6.heap.size w6 _))
    have HB := hidden (hb16.alloc hb16.size (.cells #[.int .i64 1] 3))
    have H1 : Hid (HasNat (w6.alloc (.cells #[.int .i64 1] 3)) (some ⟨w6.heap.size, 0, none⟩) 1 1 [1] 1) := hidden ⟨rd_one4 w6, fun d hd => by simp at hd; omega, by simp [nv], .inr (by decide)⟩
    clear hb1 hb6 hb16 rh kh vh th
    go_wp2_with fail
    refine (near_any m x true _ _ _ _ _ _ _ _ (4294967296 - n) 1 0 _ hok HA.out H1.out (by omega) (by omega) (by omega) (by omega) (by omega)).mono ?_
    rintro r w8 ⟨P, rfl, hP, hb8⟩
    have HP := hidden hP
    have HB8 := hidden (HB.out.trans (hb8.mono HB.out.size))
    clear hP hb8
    go_wp2
    go_ret
    exact ⟨P, rfl, HP.out, HB8.out⟩
  · rw [if_neg h, decide_eq_false h]
    go_enter Tryd.func6, Tryd.ntmps6
    go_wp2_with fail
    refine (HF.out _).mono ?_
    rintro r w1 ⟨rfl, hb1⟩
    go_wp2_with fail
    refine (natOf_any n _ (by omega) (by omega)).mono ?_
    rintro r w6 ⟨ah, lh, ch, dh, rfl, rh, kh, vh, lbh, th, hb6, -⟩
    have hb16 := hb1.trans (hb6.mono hb1.size)
    have HA := hidden ((has_of4 rh kh vh th).later ((Below.refl _ _).alloc (Nat.le_refl _) (.cells #[.int .i64 1] 3) : Below w6.heap.size w6 _))
    have HB := hidden (hb16.alloc hb16.size (.cells #[.int .i64 1] 3))
    have H1 : Hid (HasNat (w6.alloc (.cells #[.int .i64 1] 3)) (some ⟨w6.heap.size, 0, none⟩) 1 1 [1] 1) := hidden ⟨rd_one4 w6, fun d hd => by simp at hd; omega, by simp [nv], .inr (by decide)⟩
    clear hb1 hb6 hb16 rh kh vh th
    go_wp2_with fail
    refine (near_any m x false _ _ _ _ _ _ _ _ n 1 0 _ hok HA.out H1.out (by omega) (by omega) (by omega) (by omega) (by omega)).mono ?_
    rintro r w8 ⟨P, rfl, hP, hb8⟩
    have HP := hidden hP
    have HB8 := hidden (HB.out.trans (hb8.mono HB.out.size))
    clear hP hb8
    go_wp2
    go_ret
    exact ⟨P, rfl, HP.out, HB8.out⟩
end Go.Proofs.YtfjpiahgnojlhaaDoor
