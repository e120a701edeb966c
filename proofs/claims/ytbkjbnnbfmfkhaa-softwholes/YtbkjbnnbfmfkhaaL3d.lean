/- The walk of SoftWholes: the whole numbers about any pattern, and what it is as one, are the page's. -/
import Derived.Test.YtbkjbnnbfmfkhaaS3nq
import Derived.Test.YtbkjbnnbfmfkhaaP3st
import Derived.Test.YtbkjbnnbfmfkhaaA3p
import Derived.Test.YtbkjbnnbfmfkhaaL3a
namespace Go.Proofs.Ytbkjbnnbfmfkhaa
open Go.RowKit
set_option maxRecDepth 100000
set_option maxHeartbeats 1000000
set_option linter.unusedVariables false

theorem near_one (m x : Nat) (A e P : Int) (hA : 0 < A) (hx : 2 ≤ x) (h : IsNear m x A 1 e P) : P = packP m x A e false := by
  refine near_pack_gen m x A 1 e P A e false hA (by decide) hx (fun h => by cases h) h ?_ ?_ ?_
  · rw [show (e - e).toNat = 0 by omega, p2_0]; omega
  · rw [show (e - e).toNat = 0 by omega, p2_0]; omega
  · rw [show (e - e).toNat = 0 by omega, p2_0]; simp
theorem stepret {w : World} {m x : Nat} {n : Bool} {N : Int} {r : Ending} {w' : World} (hx : 2 ≤ x) (h : StepRet w m x n N r w') : r = .returned (.tuple #[.int .u64 (packP m x N 0 false + sgnW n (m + x)), .int .i64 0]) ∧ Below w.heap.size w w' := by
  obtain ⟨P, rfl, hP, hb⟩ := h
  refine ⟨?_, hb⟩
  have e : P = packP m x N 0 false := by
    rcases hP with ⟨rfl, rfl⟩ | ⟨h0, h1⟩
    · simp [packP]
    · exact near_one m x N 0 P h0 hx h1
  rw [e]
abbrev One1C (F : Nat) (m x a R g : Int) : Prop := Hid (∀ w, Calls Try.prog F #[.agg #[.int .i64 m, .int .i64 x], .int .u64 a] w fun r w' => r = .returned (.tuple #[.int .u64 R, .int .i64 g]) ∧ Below w.heap.size w w')
abbrev WhC (F : Nat) (m x a : Int) (near : Bool) (R : Int) (s : Bool) (g : Int) : Prop := Hid (∀ w, Calls Try.prog F #[.agg #[.int .i64 m, .int .i64 x], .int .u64 a, .bool near] w fun r w' => r = .returned (.tuple #[.int .u64 R, .bool s, .int .i64 g]) ∧ Below w.heap.size w w')
abbrev ROpen1 (m x : Nat) (a K : Int) (n : Bool) (E M : Int) : Prop := Hid (∀ w, Calls Try.prog 49 #[.agg #[.int .i64 (m : Int), .int .i64 (x : Int)], .int .u64 a] w fun r w' => r = .returned (.tuple #[partsV K n E M, .int .i64 0]) ∧ Below w.heap.size w w')
theorem rstep_k (m x : Nat) (a K E M : Int) (n up : Bool) (w : World) (hok : okF m x) (g : PatK m x a K n E M) (HO : ROpen1 m x a K n E M) :
    Calls Try.prog 69 #[.agg #[.int .i64 (m : Int), .int .i64 (x : Int)], .int .u64 a, .bool up] w fun r w' => r = .returned (.tuple #[.int .u64 (besideK m x a K n E M (!up)), .int .i64 0]) ∧ Below w.heap.size w w' := by
  have hx : 2 ≤ x := by have := hok.2.2.1; omega
  have hm : m ≤ 52 := by have := hok.2.1; omega
  have hm1 : 1 ≤ m := by have := hok.1; omega
  have hx11 : x ≤ 11 := by have := hok.2.2.2; omega
  rcases g.kind with rfl | rfl | rfl | rfl
  · rw [show besideK m x a 1 n E M (!up) = a by simp [besideK]]
    exact rstep_self m x a 1 E M n up w HO rfl rfl
  · obtain ⟨f, hf⟩ := g.fin rfl
    obtain ⟨r1, r2, r3, r4⟩ := f.rng hok
    by_cases he : 0 ≤ E
    · obtain ⟨k, rfl⟩ := Int.eq_ofNat_of_zero_le he
      rw [show besideK m x a 2 n k M (!up) = a by simp [besideK]]
      have hN : 0 ≤ M * p2 k := Int.mul_nonneg (by omega) (Int.le_of_lt (p2_pos k))
      refine (rstep_plain m x a k M (M * p2 k) n up (k / 16 + 5) w hok (by omega) hN HO (hidden fun w => whole_up 2 M n false k w (by omega) (by omega) (by omega))).mono ?_
      intro r w' h
      obtain ⟨h1, h2⟩ := stepret hx h
      refine ⟨?_, h2⟩
      have e := pack_scale m x M k k (by omega)
      rw [Int.sub_self] at e
      rw [h1, e, hf]
    · obtain ⟨k, hk⟩ : ∃ k : Nat, -E = k := ⟨(-E).toNat, by omega⟩
      have hkn : (-E).toNat = k := by omega
      have hbe : besideK m x a 2 n E M (!up) = packP m x (M / p2 k + (if M % p2 k ≠ 0 ∧ n = !up then 1 else 0)) 0 false + sgnW n (m + x) := by
        unfold besideK
        rw [if_neg (by decide), if_neg (by decide), if_neg he, hkn]
      rw [hbe]
      have q0 : 0 ≤ M / p2 k := Int.ediv_nonneg (by omega) (Int.le_of_lt (p2_pos k))
      have HW := hidden (fun w => whole_cut 2 E M n k w hk (by omega) (by omega) (by omega) (by omega))
      by_cases hm0 : M % p2 k = 0
      · rw [decide_eq_false (fun h => h hm0)] at HW
        rw [if_neg (fun h => h.1 hm0), Int.add_zero]
        exact (rstep_plain m x a E M (M / p2 k) n up 4 w hok (by omega) q0 HO HW).mono fun r w' h => stepret hx h
      · rw [decide_eq_true hm0] at HW
        by_cases hn : n = !up
        · rw [if_pos ⟨hm0, hn⟩]
          exact (rstep_more m x a E M (M / p2 k) n up 4 w hok (by omega) q0 HO HW (by subst hn; cases up <;> rfl)).mono fun r w' h => stepret hx h
        · rw [if_neg (fun h => hn h.2), Int.add_zero]
          exact (rstep_same m x a E M (M / p2 k) n up 4 w hok (by omega) q0 HO HW (by cases n <;> cases up <;> simp_all)).mono fun r w' h => stepret hx h
  · rw [show besideK m x a 3 n E M (!up) = a by simp [besideK]]
    exact rstep_self m x a 3 E M n up w HO rfl rfl
  · rw [show besideK m x a 4 n E M (!up) = nanI m x by simp [besideK]]
    exact rstep_nan m x a 4 E M _ n up w HO (hidden fun w => nan_any m x w hm hm1 hx11) rfl
theorem half_bit2 (M : Int) (k : Nat) (hk : 0 < k) : M % p2 k = p2 (k - 1) * (M / p2 (k - 1) % 2) + M % p2 (k - 1) := by
  have h1 := Int.mul_ediv_add_emod M (p2 (k - 1))
  have h2 := Int.mul_ediv_add_emod M (p2 k)
  have h3 := half_step M (k - 1)
  rw [show k - 1 + 1 = k by omega] at h3
  have e : p2 k = 2 * p2 (k - 1) := by rw [← p2_succ]; congr 1; omega
  rw [← h3, e] at h2
  rw [e]
  generalize M / p2 (k - 1) = D at *
  have h4 : p2 (k - 1) * D = 2 * (p2 (k - 1) * (D / 2)) + p2 (k - 1) * (D % 2) := by
    have h5 : D = 2 * (D / 2) + D % 2 := by omega
    rw [show p2 (k - 1) * D = p2 (k - 1) * (2 * (D / 2) + D % 2) by rw [← h5], Int.mul_add, Int.mul_left_comm]
  rw [Int.mul_assoc] at h2
  generalize p2 (k - 1) * (D / 2) = U at *
  generalize p2 (k - 1) * (D % 2) = V at *
  omega
theorem wholes_k (m x : Nat) (a K E M : Int) (n near : Bool) (hok : okF m x) (g : PatK m x a K n E M) (HO : Open1C m x a K n E M) (HR : ROpen1 m x a K n E M) :
    ∃ R, WhC 29 m x a near R n 0 ∧ WhC 30 m x a near R n 0 := by
  rcases g.kind with rfl | rfl | rfl | rfl
  · obtain ⟨rfl, rfl, -⟩ := g.zero rfl
    refine ⟨0, hidden fun w => pwhole_zero m x a 1 0 0 n near w HO rfl, hidden fun w => rwhole_few m x a 1 0 0 0 n near false 5 w (by omega) (by omega) HR (hidden fun w => ?_) rfl rfl (by omega)⟩
    have h := whole_up 1 0 n near 0 w (by omega) (by omega) (by omega)
    rw [Int.zero_mul] at h
    exact h
  · obtain ⟨f, hf⟩ := g.fin rfl
    obtain ⟨r1, r2, r3, r4⟩ := f.rng hok
    have key : ∀ (N : Int) (beh : Bool) (L : Nat), 0 ≤ N → L ≤ 5000 → Hid (∀ w, Calls Try.prog 72 #[partsV 2 n E M, .bool near] w fun r w' => WholeRet w N beh L r w') → Hid (∀ w, Calls Try.prog 70 #[partsV 2 n E M, .bool near] w fun r w' => r = .returned (.int .u64 (min N 1099511627776)) ∧ Below w.heap.size w w') → ∃ R, WhC 29 m x a near R n 0 ∧ WhC 30 m x a near R n 0 := by
      intro N beh L h0 hL HW HP
      refine ⟨min N 1099511627776, hidden fun w => pwhole_fin m x a 2 E M _ n near w HO HP rfl rfl, ?_⟩
      by_cases h : N ≤ 1099511627776
      · rw [Int.min_eq_left h]
        exact hidden fun w => rwhole_few m x a 2 E M N n near beh L w hL h0 HR HW rfl rfl h
      · rw [Int.min_eq_right (by omega)]
        exact hidden fun w => rwhole_many m x a 2 E M N n near beh L w hL h0 HR HW rfl rfl (by omega)
    by_cases he : 0 ≤ E
    · obtain ⟨k, rfl⟩ := Int.eq_ofNat_of_zero_le he
      have hN : 0 ≤ M * p2 k := Int.mul_nonneg (by omega) (Int.le_of_lt (p2_pos k))
      refine key (M * p2 k) false (k / 16 + 5) hN (by omega) (hidden fun w => whole_up 2 M n near k w (by omega) (by omega) (by omega)) (hidden fun w => ?_)
      by_cases hb : (bl M : Int) + k ≤ 64
      · exact pwpart_up 2 k M n near k w rfl (by omega) r3 r4 hb
      · have hbig : 1099511627776 < M * p2 k := by
          obtain ⟨b0, b1, b2⟩ := bl_bd M r3
          have h1 : p2 (bl M - 1) * p2 k ≤ M * p2 k := Int.mul_le_mul_of_nonneg_right b1 (Int.le_of_lt (p2_pos k))
          rw [← p2_add] at h1
          have h2 : p2 63 ≤ p2 (bl M - 1 + k) := p2_mono (by omega)
          rw [p2_63] at h2
          omega
        rw [Int.min_eq_right (by omega)]
        exact pwpart_big 2 k M n near w (by omega) (by omega) (by omega) r4 (by omega)
    · obtain ⟨k, hk⟩ : ∃ k : Nat, -E = k := ⟨(-E).toNat, by omega⟩
      have q0 : 0 ≤ M / p2 k := Int.ediv_nonneg (by omega) (Int.le_of_lt (p2_pos k))
      cases near
      · exact key (M / p2 k) _ 4 q0 (by omega) (hidden fun w => whole_cut 2 E M n k w hk (by omega) (by omega) (by omega) (by omega)) (hidden fun w => pwpart_cut 2 E M n k w hk (by omega) (by omega) (by omega) r4)
      · have hh := half_bit2 M k (by omega)
        have e : p2 k = 2 * p2 (k - 1) := by rw [← p2_succ]; congr 1; omega
        have hp := p2_pos (k - 1)
        have l0 := Int.emod_nonneg M (show p2 (k - 1) ≠ 0 by omega)
        have l1 := Int.emod_lt_of_pos M hp
        rcases (show M / p2 (k - 1) % 2 = 0 ∨ M / p2 (k - 1) % 2 = 1 by omega) with hb | hb
        · rw [hb, Int.mul_zero] at hh
          exact key (M / p2 k) _ 4 q0 (by omega) (hidden fun w => whole_near0 2 E M n k w hk (by omega) (by omega) (by omega) (by omega) (by omega)) (hidden fun w => pwpart_near0 2 E M n k w hk (by omega) (by omega) (by omega) r4 hb)
        · rw [hb, Int.mul_one] at hh
          exact key (M / p2 k + 1) _ 5 (by omega) (by omega) (hidden fun w => whole_near1 2 E M n k w hk (by omega) (by omega) (by omega) (by omega) (by omega)) (hidden fun w => pwpart_near1 2 E M n k w hk (by omega) (by omega) (by omega) r4 hb)
  · exact ⟨1099511627776, hidden fun w => pwhole_inf m x a 3 E M n near w HO rfl rfl, hidden fun w => rwhole_inf m x a 3 E M n near w HR rfl rfl⟩
  · exact ⟨1099511627776, hidden fun w => pwhole_inf m x a 4 E M n near w HO rfl rfl, hidden fun w => rwhole_nan m x a 4 E M n near w HR rfl⟩
/-- all three: both answers are one -/
theorem wholes_same (m x a : Int) (near : Bool) (a0 : 0 ≤ a) (a1 : a ≤ 18446744073709551615) :
    ∃ C D R s g, (g = 0 ∨ g = 1) ∧ One1C 25 m x a C g ∧ One1C 26 m x a C g ∧ One1C 27 m x a D g ∧ One1C 28 m x a D g ∧ WhC 29 m x a near R s g ∧ WhC 30 m x a near R s g := by
  have bad : Hid (∀ w, Calls Try.prog 58 #[.agg #[.int .i64 m, .int .i64 x], .int .u64 a] w fun r w' => r = .returned (.tuple #[partsV 0 false 0 0, .int .i64 1]) ∧ Below w.heap.size w w') → Hid (∀ w, Calls Try.prog 49 #[.agg #[.int .i64 m, .int .i64 x], .int .u64 a] w fun r w' => r = .returned (.tuple #[partsV 0 false 0 0, .int .i64 1]) ∧ Below w.heap.size w w') → ∃ C D R s g, (g = 0 ∨ g = 1) ∧ One1C 25 m x a C g ∧ One1C 26 m x a C g ∧ One1C 27 m x a D g ∧ One1C 28 m x a D g ∧ WhC 29 m x a near R s g ∧ WhC 30 m x a near R s g := by
    intro P Q
    exact ⟨0, 0, 0, false, 1, .inr rfl, hidden fun w => pceil m x a 0 1 w (hidden fun w => pwb_err m x a false w P), hidden fun w => rceil m x a 0 1 w (hidden fun w => rstep_err m x a true w Q), hidden fun w => pfloor m x a 0 1 w (hidden fun w => pwb_err m x a true w P), hidden fun w => rfloor m x a 0 1 w (hidden fun w => rstep_err m x a false w Q), hidden fun w => pwhole_err m x a near w P, hidden fun w => rwhole_err m x a near w Q⟩
  by_cases hok : okF m x
  · obtain ⟨m, rfl⟩ := Int.eq_ofNat_of_zero_le (show 0 ≤ m by have := hok.1; omega)
    obtain ⟨x, rfl⟩ := Int.eq_ofNat_of_zero_le (show 0 ≤ x by have := hok.2.2.1; omega)
    by_cases ha : bl a ≤ 1 + x + m
    · have g := patK m x a hok a0 ha
      have HO := popen1 m x a hok a0 a1 ha
      have HR : ROpen1 m x a _ _ _ _ := hidden fun w => ropen_any m x a w hok a0 a1 ha
      obtain ⟨R, h1, h2⟩ := wholes_k m x a _ _ _ _ near hok g HO HR
      exact ⟨_, _, R, _, 0, .inl rfl, hidden fun w => pceil m x a _ 0 w (hidden fun w => pwb_k m x a _ _ _ _ false w hok g.kind (fun h => (g.fin h).1) HO), hidden fun w => rceil m x a _ 0 w (hidden fun w => rstep_k m x a _ _ _ _ true w hok g HR), hidden fun w => pfloor m x a _ 0 w (hidden fun w => pwb_k m x a _ _ _ _ true w hok g.kind (fun h => (g.fin h).1) HO), hidden fun w => rfloor m x a _ 0 w (hidden fun w => rstep_k m x a _ _ _ _ false w hok g HR), h1, h2⟩
    · exact bad (hidden fun w => popen_big m x a w hok a0 a1 (by omega)) (hidden fun w => ropen_big m x a _ _ w hok a0 a1 rfl rfl (top_big m x a a0 (by omega)))
  · exact bad (hidden fun w => popen_no m x a w hok) (hidden fun w => ropen_no m x a w hok)
theorem softWholes_one (m x a C D R g : Int) (near s : Bool) (w : World) (hg : g = 0 ∨ g = 1) (H1 : One1C 25 m x a C g) (H2 : One1C 26 m x a C g) (H3 : One1C 27 m x a D g) (H4 : One1C 28 m x a D g) (H5 : WhC 29 m x a near R s g) (H6 : WhC 30 m x a near R s g) :
    Calls Try.prog 7 #[.agg #[.int .i64 m, .int .i64 x], .int .u64 a, .bool near] w fun r w' => r = .returned (.bool true) ∧ Below w.heap.size w w' := by
  have HL := hidden live_any
  have HM1 : Hid (∀ w, Calls Try.prog 13 #[.int .i64 g] w fun r w' => r = .returned (.int .i64 g) ∧ w' = w) := hidden (fun w => num_any g w (by omega) (by omega))
  clear hg
  have c0 : (w.alloc (.cells #[.int .i64 m, .int .i64 x] 23)).cell? ⟨w.heap.size, 0, none⟩ = some (.int .i64 m) := by simp
  have c1 : (w.alloc (.cells #[.int .i64 m, .int .i64 x] 23)).cell? ⟨w.heap.size, 1, none⟩ = some (.int .i64 x) := by simp
  have HB := hidden ((Below.refl w.heap.size w).alloc (Nat.le_refl _) (.cells #[.int .i64 m, .int .i64 x] 23))
  go_enter Try.func7, Try.ntmps7
  go_upto_region 1 with fail
  generalize w.alloc (.cells #[.int .i64 m, .int .i64 x] 23) = w5 at *
  go_wp2_with (first | (go_at_call 25; refine (H1.out _).mono ?_; rintro r w9 ⟨rfl, hb⟩; have c0 := cellLater hb c0; have c1 := cellLater hb c1; have HB := hidden (HB.out.trans (hb.mono HB.out.size)); clear hb) | (go_at_call 26; refine (H2.out _).mono ?_; rintro r w9 ⟨rfl, hb⟩; have c0 := cellLater hb c0; have c1 := cellLater hb c1; have HB := hidden (HB.out.trans (hb.mono HB.out.size)); clear hb) | (go_at_call 27; refine (H3.out _).mono ?_; rintro r w9 ⟨rfl, hb⟩; have c0 := cellLater hb c0; have c1 := cellLater hb c1; have HB := hidden (HB.out.trans (hb.mono HB.out.size)); clear hb) | (go_at_call 28; refine (H4.out _).mono ?_; rintro r w9 ⟨rfl, hb⟩; have c0 := cellLater hb c0; have c1 := cellLater hb c1; have HB := hidden (HB.out.trans (hb.mono HB.out.size)); clear hb) | (go_at_call 29; refine (H5.out _).mono ?_; rintro r w9 ⟨rfl, hb⟩; have c0 := cellLater hb c0; have c1 := cellLater hb c1; have HB := hidden (HB.out.trans (hb.mono HB.out.size)); clear hb) | (go_at_call 30; refine (H6.out _).mono ?_; rintro r w9 ⟨rfl, hb⟩; have c0 := cellLater hb c0; have c1 := cellLater hb c1; have HB := hidden (HB.out.trans (hb.mono HB.out.size)); clear hb) | (go_at_call 13; refine (HM1.out _).mono ?_; rintro r w9 ⟨rfl, hw⟩; obtain rfl := hw.symm) | (go_at_call 14; refine (HL.out _).mono ?_; rintro r w9 ⟨rfl, hb⟩; have HB := hidden (HB.out.trans (hb.mono HB.out.size)); clear hb))
  go_ret
  exact ⟨rfl, HB.out⟩
theorem softWholes_walk (a0 b0 a1 : Int) (a2 : Bool) (w : World) (w0 : (Lit.int .i64 a0).wf = true) (x0 : (Lit.int .i64 b0).wf = true) (w1 : (Lit.int .u64 a1).wf = true) :
    Calls Try.prog 7 #[.agg #[.int .i64 a0, .int .i64 b0], .int .u64 a1, .bool a2] w fun r w' => r = .returned (.bool true) ∧ Below w.heap.size w w' := by
  have c1 := bounds_u64 w1
  obtain ⟨C, D, R, s, g, hg, H1, H2, H3, H4, H5, H6⟩ := wholes_same a0 b0 a1 a2 c1.1 c1.2
  exact softWholes_one a0 b0 a1 C D R g a2 s w hg H1 H2 H3 H4 H5 H6
end Go.Proofs.Ytbkjbnnbfmfkhaa
