/- The walk of RealsCounts: each integer is told by its double, and by its single if it is small; integers' doubles add up as they do. -/
import Derived.Test.YtlhknchmgckgiaaDoorK9
import Derived.Test.YtlhknchmgckgiaaDoorL4a
namespace Go.Proofs.YtlhknchmgckgiaaDoor
open Go.RowKit
set_option maxRecDepth 100000
set_option maxHeartbeats 400000
set_option linter.unusedVariables false

theorem whole_int (m x : Nat) (A : Int) (k : Nat) (near : Bool) (hok : okF m x) (hk0 : 0 < k) (hk1 : (k : Int) ≤ 60) (h : FinP m x (-(k : Int)) (absI A * p2 k)) (hA : absI A ≤ 4294967296) :
    Hid (∀ w, Calls Tryd.prog 42 #[.agg #[.int .i64 (m : Int), .int .i64 (x : Int)], .int .u64 (intP m x A), .bool near] w fun r w' => r = .returned (.tuple #[.int .u64 (absI A), .bool (decide (A < 0)), .int .i64 0]) ∧ Below w.heap.size w w') := hidden fun w => by
  have hx : 2 ≤ x := by have := hok.2.2.1; omega
  have hp := p2_mono (show m + x + 1 ≤ 64 by have := hok.2.1; have := hok.2.2.2; omega)
  rw [p2_64] at hp
  have hbd := pack_lt m x (absI A) 0 false (decide (A < 0)) (abs_nn A) hx
  have HO := popen1 m x (intP m x A) hok hbd.1 (by have := hbd.2; unfold intP; omega) (bl_of_lt m x _ hbd.1 hbd.2)
  obtain ⟨p1, p2', p3, p4⟩ := int_parts m x A k hx h (abs_nn A)
  rw [p1, p2', p3, p4] at HO
  obtain ⟨r1, r2, r3, r4⟩ := h.rng hok
  have hdiv : absI A * p2 k / p2 k = absI A := Int.mul_ediv_cancel _ (by have := p2_pos k; omega)
  refine pwhole_fin m x (intP m x A) 2 _ _ (absI A) (decide (A < 0)) near w HO (hidden fun w => ?_) rfl rfl
  cases near
  · have h9 := pwpart_cut 2 (-(k : Int)) (absI A * p2 k) (decide (A < 0)) k w (by omega) hk0 (by omega) (by omega) r4
    rw [hdiv, Int.min_eq_left (by omega)] at h9
    exact h9
  · have hbit : absI A * p2 k / p2 (k - 1) % 2 = 0 := by
      have e : p2 k = 2 * p2 (k - 1) := by rw [← p2_succ]; congr 1; omega
      rw [e, ← Int.mul_assoc, Int.mul_ediv_cancel _ (by have := p2_pos (k - 1); omega)]
      omega
    have h9 := pwpart_near0 2 (-(k : Int)) (absI A * p2 k) (decide (A < 0)) k w (by omega) hk0 (by omega) (by omega) r4 hbit
    rw [hdiv, Int.min_eq_left (by omega)] at h9
    exact h9
theorem whole_zero (m x : Nat) (near : Bool) (hok : okF m x) : Hid (∀ w, Calls Tryd.prog 42 #[.agg #[.int .i64 (m : Int), .int .i64 (x : Int)], .int .u64 (intP m x 0), .bool near] w fun r w' => r = .returned (.tuple #[.int .u64 (absI 0), .bool (decide ((0 : Int) < 0)), .int .i64 0]) ∧ Below w.heap.size w w') := hidden fun w => by
  have hx : 2 ≤ x := by have := hok.2.2.1; omega
  have z := open_zero m x false hx
  rw [show sgnW false (m + x) = 0 from rfl] at z
  have HO := popen1 m x 0 hok (by omega) (by omega) (by rw [bl_zero]; omega)
  rw [z.1, z.2] at HO
  rw [int_zero]
  exact pwhole_zero m x 0 1 _ _ false near w HO rfl
theorem whole_dbl (A : Int) (near : Bool) (hA : absI A ≤ 4294967296) : Hid (∀ w, Calls Tryd.prog 42 #[.agg #[.int .i64 52, .int .i64 11], .int .u64 (intP 52 11 A), .bool near] w fun r w' => r = .returned (.tuple #[.int .u64 (absI A), .bool (decide (A < 0)), .int .i64 0]) ∧ Below w.heap.size w w') := by
  by_cases h : A = 0
  · subst h
    exact whole_zero 52 11 near ok52
  · have hb := bl53 (absI A) (abs_pos A h) (by omega)
    exact whole_int 52 11 A _ near ok52 (by omega) (by omega) (dbl_fin (absI A) (abs_pos A h) (by omega)) hA
theorem whole_sgl (A : Int) (near : Bool) (hA : absI A ≤ 16777216) : Hid (∀ w, Calls Tryd.prog 42 #[.agg #[.int .i64 23, .int .i64 8], .int .u64 (intP 23 8 A), .bool near] w fun r w' => r = .returned (.tuple #[.int .u64 (absI A), .bool (decide (A < 0)), .int .i64 0]) ∧ Below w.heap.size w w') := by
  by_cases h : A = 0
  · subst h
    exact whole_zero 23 8 near ok23
  have hpos := abs_pos A h
  have l1 : least ((23 : Nat) : Int) ((8 : Nat) : Int) = -149 := by decide +kernel
  have c1 : bias ((8 : Nat) : Int) = 127 := by decide +kernel
  have big : ∀ (A E M : Int) (k : Nat), E = k → 0 ≤ E → E ≤ 1 → 0 < M → M < 16777216 → kindI 23 8 (intP 23 8 A) = 2 → negI 23 8 (intP 23 8 A) = decide (A < 0) → expI 23 8 (intP 23 8 A) = E → manI 23 8 (intP 23 8 A) = M → M * p2 k = absI A → absI A ≤ 16777216 → Hid (∀ w, Calls Tryd.prog 42 #[.agg #[.int .i64 23, .int .i64 8], .int .u64 (intP 23 8 A), .bool near] w fun r w' => r = .returned (.tuple #[.int .u64 (absI A), .bool (decide (A < 0)), .int .i64 0]) ∧ Below w.heap.size w w') := by
    intro A E M k hE e0 e1 m0 m1 p1 p2' p3 p4 hM hA
    refine hidden fun w => ?_
    have hbd := pack_lt 23 8 (absI A) 0 false (decide (A < 0)) (abs_nn A) (by decide)
    have hp : p2 (23 + 8 + 1) = 4294967296 := by decide +kernel
    have HO := popen1 23 8 (intP 23 8 A) ok23 hbd.1 (by have := hbd.2; unfold intP; omega) (bl_of_lt 23 8 _ hbd.1 hbd.2)
    rw [p1, p2', p3, p4] at HO
    refine pwhole_fin 23 8 (intP 23 8 A) 2 _ _ (absI A) (decide (A < 0)) near w HO (hidden fun w => ?_) rfl rfl
    have hblM := bl_le (Int.le_of_lt m0) (show M < p2 24 by rw [show p2 24 = 16777216 by decide +kernel]; exact m1)
    have h9 := pwpart_up 2 E M (decide (A < 0)) near k w hE (by omega) m0 (by omega) (by omega)
    rw [hM, Int.min_eq_left (by omega)] at h9
    exact h9
  by_cases h24 : absI A = 16777216
  · have hc : A = 16777216 ∨ A = -16777216 := by unfold absI at h24; split at h24 <;> omega
    rcases hc with rfl | rfl
    · exact big 16777216 1 8388608 1 rfl (by decide) (by decide) (by decide) (by decide) (by decide +kernel) (by decide +kernel) (by decide +kernel) (by decide +kernel) (by decide +kernel) (by decide +kernel)
    · exact big (-16777216) 1 8388608 1 rfl (by decide) (by decide) (by decide) (by decide) (by decide +kernel) (by decide +kernel) (by decide +kernel) (by decide +kernel) (by decide +kernel) (by decide +kernel)
  · have hb := bl_le (Int.le_of_lt hpos) (show absI A < p2 24 by rw [show p2 24 = 16777216 by decide +kernel]; omega)
    have hb0 := (bl_bd (absI A) hpos).1
    have hf := int_fin 23 8 (absI A) (by decide) hpos (by omega) (by rw [l1]; omega) (by rw [c1]; omega)
    by_cases hk : bl (absI A) = 24
    · obtain ⟨p1, p2', p3, p4⟩ := int_parts 23 8 A _ (by decide) hf (abs_nn A)
      rw [show 23 + 1 - bl (absI A) = 0 by omega] at p3 p4
      exact big A 0 (absI A) 0 rfl (by decide) (by decide) hpos (by omega) p1 p2' (by rw [p3]; rfl) (by rw [p4, show p2 0 = 1 from rfl, Int.mul_one]) (by rw [show p2 0 = 1 from rfl, Int.mul_one]) hA
    · exact whole_int 23 8 A _ near ok23 (by omega) (by omega) hf (by omega)
theorem narrow_dbl (A : Int) (hA : absI A ≤ 4294967296) : convK 23 8 (kindI 52 11 (intP 52 11 A)) (negI 52 11 (intP 52 11 A)) (expI 52 11 (intP 52 11 A)) (manI 52 11 (intP 52 11 A)) = intP 23 8 A := by
  by_cases h : A = 0
  · subst h
    have z := open_zero 52 11 false (by decide)
    rw [show sgnW false (52 + 11) = 0 from rfl] at z
    rw [int_zero, int_zero, z.1, z.2]
    rfl
  · obtain ⟨p1, p2', p3, p4⟩ := int_parts 52 11 A _ (by decide) (dbl_fin (absI A) (abs_pos A h) (by omega)) (abs_nn A)
    rw [p1, p2', p3, p4]
    have h1 := pack_scale 23 8 (absI A) 0 (52 + 1 - bl (absI A)) (abs_nn A)
    rw [Int.zero_sub] at h1
    show packP 23 8 _ _ false + _ = _
    rw [h1]
    rfl
theorem pholds64_ord (m x cond a b t : Int) (ord : Bool) (w : World) (a0 : 0 ≤ a) (a1 : a < 18446744073709551616) (b0 : 0 ≤ b) (b1 : b < 18446744073709551616) (h1 : (cond == 1) = false) (h2 : (cond == 2) = false) (h7 : (cond == 7) = false) (h8 : (cond == 8) = false)
    (HI : Hid (∀ w, Calls Tryd.prog 32 #[.agg #[.int .i64 m, .int .i64 x], .int .i64 cond, .int .u64 a, .int .u64 b] w fun r w' => r = .returned (.bool ord) ∧ Below w.heap.size w w'))
    : Calls Tryd.prog 28 #[.agg #[.int .i64 m, .int .i64 x], .int .i64 cond, .int .u64 a, .int .u64 b, .int .u64 t] w fun r w' => r = .returned (.bool ord) ∧ Below w.heap.size w w' := by
  go_enter Tryd.func28, Tryd.ntmps28
  go_wp2_with (go_at_call 32; refine (HI.out _).mono ?_; rintro r w1 ⟨rfl, hb⟩)
  go_ret
  exact ⟨rfl, box_below _ hb⟩
theorem counts_one (n m' A B W : Int) (near lt : Bool) (w : World) (x y s sn : Int) (n0 : 0 ≤ n) (n1 : n ≤ 4294967295) (m0 : 0 ≤ m') (m1 : m' ≤ 4294967295) (hA : IntKind.i32.wrap n = A) (hB : IntKind.i32.wrap m' = B) (bA : -2147483648 ≤ A ∧ A ≤ 2147483647) (bB : -2147483648 ≤ B ∧ B ≤ 2147483647)
    (hW : max (min (A + B) 2147483647) (-2147483648) % 4294967296 = W) (hlt : decide (A < B) = lt)
    (H1 : Hid (∀ w, Laid w → Calls Tryd.prog 14 #[.int .u32 n] w fun r w' => r = .returned (.int .u64 x) ∧ Below w.heap.size w w'))
    (H2 : Hid (∀ w, Laid w → Calls Tryd.prog 14 #[.int .u32 m'] w fun r w' => r = .returned (.int .u64 y) ∧ Below w.heap.size w w'))
    (H3 : Hid (∀ w, Laid w → Calls Tryd.prog 15 #[.int .u64 x, .bool near] w fun r w' => r = .returned (.int .u32 n) ∧ Below w.heap.size w w'))
    (H4 : Hid (∀ w, Laid w → Calls Tryd.prog 16 #[.int .u32 n] w fun r w' => r = .returned (.int .u32 sn) ∧ Below w.heap.size w w'))
    (H5 : Hid (∀ w, Laid w → Calls Tryd.prog 7 #[.int .u64 x] w fun r w' => r = .returned (.int .u32 sn) ∧ Below w.heap.size w w'))
    (H6 : (n + 16777216) % 4294967296 ≤ 33554432 → Hid (∀ w, Laid w → Calls Tryd.prog 17 #[.int .u32 sn, .bool near] w fun r w' => r = .returned (.int .u32 n) ∧ Below w.heap.size w w'))
    (H7 : Hid (∀ w, Laid w → Calls Tryd.prog 12 #[.int .i64 1, .int .u64 x, .int .u64 y] w fun r w' => r = .returned (.tuple #[.int .u64 s, .int .i64 0]) ∧ Below w.heap.size w w'))
    (H8 : Hid (∀ w, Laid w → Calls Tryd.prog 15 #[.int .u64 s, .bool near] w fun r w' => r = .returned (.int .u32 W) ∧ Below w.heap.size w w'))
    (H9 : Hid (∀ w, Laid w → Calls Tryd.prog 18 #[.int .i64 3, .int .u64 x, .int .u64 y, .int .u64 0] w fun r w' => r = .returned (.bool lt) ∧ Below w.heap.size w w')) (hl : Laid w) :
    Calls Tryd.prog 5 #[.int .u32 n, .int .u32 m', .bool near] w fun r w' => r = .returned (.bool true) ∧ Below w.heap.size w w' := by
  have HV := hidden live4_any
  have HM := hidden (fun w => num4_any 0 w (by decide) (by decide))
  have HL := hidden hl
  have HB := hidden (Below.refl w.heap.size w)
  clear hl
  by_cases hsm : (n + 16777216) % 4294967296 ≤ 33554432
  · have h6 := H6 hsm
    clear H6
    go_enter Tryd.func5, Tryd.ntmps5
    go_wp2_with (first | (go_at_call 14; (with_reducible refine (H1.out _ HL.out).mono ?_); rintro r w9 ⟨rfl, hb⟩; have HL := hidden (HL.out.later hb); have HB := hidden (HB.out.trans (hb.mono HB.out.size)); clear hb) | (go_at_call 14; (with_reducible refine (H2.out _ HL.out).mono ?_); rintro r w9 ⟨rfl, hb⟩; have HL := hidden (HL.out.later hb); have HB := hidden (HB.out.trans (hb.mono HB.out.size)); clear hb) | (go_at_call 15; (with_reducible refine (H3.out _ HL.out).mono ?_); rintro r w9 ⟨rfl, hb⟩; have HL := hidden (HL.out.later hb); have HB := hidden (HB.out.trans (hb.mono HB.out.size)); clear hb) | (go_at_call 16; (with_reducible refine (H4.out _ HL.out).mono ?_); rintro r w9 ⟨rfl, hb⟩; have HL := hidden (HL.out.later hb); have HB := hidden (HB.out.trans (hb.mono HB.out.size)); clear hb) | (go_at_call 7; (with_reducible refine (H5.out _ HL.out).mono ?_); rintro r w9 ⟨rfl, hb⟩; have HL := hidden (HL.out.later hb); have HB := hidden (HB.out.trans (hb.mono HB.out.size)); clear hb) | (go_at_call 12; (with_reducible refine (H7.out _ HL.out).mono ?_); rintro r w9 ⟨rfl, hb⟩; have HL := hidden (HL.out.later hb); have HB := hidden (HB.out.trans (hb.mono HB.out.size)); clear hb) | (go_at_call 15; (with_reducible refine (H8.out _ HL.out).mono ?_); rintro r w9 ⟨rfl, hb⟩; have HL := hidden (HL.out.later hb); have HB := hidden (HB.out.trans (hb.mono HB.out.size)); clear hb) | (go_at_call 18; (with_reducible refine (H9.out _ HL.out).mono ?_); rintro r w9 ⟨rfl, hb⟩; have HL := hidden (HL.out.later hb); have HB := hidden (HB.out.trans (hb.mono HB.out.size)); clear hb) | (go_at_call 13; refine (HM.out _).mono ?_; rintro r w9 ⟨rfl, hw⟩; obtain rfl := hw.symm) | (go_at_call 10; refine (HV.out _ HL.out).mono ?_; rintro r w9 ⟨rfl, hb⟩; have HB := hidden (HB.out.trans (hb.mono HB.out.size)); clear hb) | (go_at_call 17; (with_reducible refine (h6.out _ HL.out).mono ?_); rintro r w9 ⟨rfl, hb⟩; have HL := hidden (HL.out.later hb); have HB := hidden (HB.out.trans (hb.mono HB.out.size)); clear hb))
    go_ret
    exact ⟨rfl, HB.out⟩
  · clear H6
    go_enter Tryd.func5, Tryd.ntmps5
    go_wp2_with (first | (go_at_call 14; (with_reducible refine (H1.out _ HL.out).mono ?_); rintro r w9 ⟨rfl, hb⟩; have HL := hidden (HL.out.later hb); have HB := hidden (HB.out.trans (hb.mono HB.out.size)); clear hb) | (go_at_call 14; (with_reducible refine (H2.out _ HL.out).mono ?_); rintro r w9 ⟨rfl, hb⟩; have HL := hidden (HL.out.later hb); have HB := hidden (HB.out.trans (hb.mono HB.out.size)); clear hb) | (go_at_call 15; (with_reducible refine (H3.out _ HL.out).mono ?_); rintro r w9 ⟨rfl, hb⟩; have HL := hidden (HL.out.later hb); have HB := hidden (HB.out.trans (hb.mono HB.out.size)); clear hb) | (go_at_call 16; (with_reducible refine (H4.out _ HL.out).mono ?_); rintro r w9 ⟨rfl, hb⟩; have HL := hidden (HL.out.later hb); have HB := hidden (HB.out.trans (hb.mono HB.out.size)); clear hb) | (go_at_call 7; (with_reducible refine (H5.out _ HL.out).mono ?_); rintro r w9 ⟨rfl, hb⟩; have HL := hidden (HL.out.later hb); have HB := hidden (HB.out.trans (hb.mono HB.out.size)); clear hb) | (go_at_call 12; (with_reducible refine (H7.out _ HL.out).mono ?_); rintro r w9 ⟨rfl, hb⟩; have HL := hidden (HL.out.later hb); have HB := hidden (HB.out.trans (hb.mono HB.out.size)); clear hb) | (go_at_call 15; (with_reducible refine (H8.out _ HL.out).mono ?_); rintro r w9 ⟨rfl, hb⟩; have HL := hidden (HL.out.later hb); have HB := hidden (HB.out.trans (hb.mono HB.out.size)); clear hb) | (go_at_call 18; (with_reducible refine (H9.out _ HL.out).mono ?_); rintro r w9 ⟨rfl, hb⟩; have HL := hidden (HL.out.later hb); have HB := hidden (HB.out.trans (hb.mono HB.out.size)); clear hb) | (go_at_call 13; refine (HM.out _).mono ?_; rintro r w9 ⟨rfl, hw⟩; obtain rfl := hw.symm) | (go_at_call 10; refine (HV.out _ HL.out).mono ?_; rintro r w9 ⟨rfl, hb⟩; have HB := hidden (HB.out.trans (hb.mono HB.out.size)); clear hb))
    go_ret
    exact ⟨rfl, HB.out⟩
theorem val_bd (n : Int) (n0 : 0 ≤ n) (n1 : n ≤ 4294967295) : -2147483648 ≤ valI n ∧ valI n ≤ 2147483647 ∧ IntKind.i32.wrap n = valI n ∧ toI (absI (valI n)) (decide (valI n < 0)) = n := by
  have e : valI n = if 2147483648 ≤ n then n - 4294967296 else n := rfl
  have hw : IntKind.i32.wrap n = valI n := by
    rw [IntKind.wrap_i32, e]
    split <;> omega
  by_cases h : 2147483648 ≤ n
  · rw [if_pos h] at e
    refine ⟨by omega, by omega, hw, ?_⟩
    rw [e]
    unfold toI absI
    rw [decide_eq_true (show n - 4294967296 < 0 by omega), if_pos (show n - 4294967296 < 0 by omega)]
    simp
    omega
  · rw [if_neg h] at e
    refine ⟨by omega, by omega, hw, ?_⟩
    rw [e]
    unfold toI absI
    rw [decide_eq_false (show ¬ n < 0 by omega), if_neg (show ¬ n < 0 by omega)]
    simp
    omega
theorem sum_int (S : Int) (h0 : -4294967296 ≤ S) (h1 : S ≤ 4294967296) : max (min S 2147483647) (-2147483648) % 4294967296 = toI (absI S) (decide (S < 0)) := by
  unfold toI absI
  by_cases h : S < 0
  · rw [decide_eq_true h, if_pos h]
    simp
    omega
  · rw [decide_eq_false h, if_neg h]
    simp
    omega
theorem realsCounts_walk (n m' : Int) (near : Bool) (w : World) (w0 : (Lit.int .u32 n).wf = true) (w1 : (Lit.int .u32 m').wf = true) (hl : Laid w) :
    Calls Tryd.prog 5 #[.int .u32 n, .int .u32 m', .bool near] w fun r w' => r = .returned (.bool true) ∧ Below w.heap.size w w' := by
  have bn := bounds_u32 w0
  have bm := bounds_u32 w1
  obtain ⟨a0, a1, a2, a3⟩ := val_bd n bn.1 bn.2
  obtain ⟨b0, b1, b2, b3⟩ := val_bd m' bm.1 bm.2
  have oA := of_int 52 11 n bn.1 bn.2
  have oB := of_int 52 11 m' bm.1 bm.2
  have oS := of_int 23 8 n bn.1 bn.2
  have d1 := fun w h => doubleOf_c n w h bn.1 bn.2
  have d2 := fun w h => doubleOf_c m' w h bm.1 bm.2
  have d3 := fun w h => singleOf_c n w h bn.1 bn.2
  rw [oA] at d1
  rw [oB] at d2
  rw [oS] at d3
  have hm24 : (n + 16777216) % 4294967296 ≤ 33554432 → absI (valI n) ≤ 16777216 := by
    intro h
    unfold absI valI
    split <;> split <;> omega
  generalize valI n = A at *
  generalize valI m' = B at *
  have nA : absI A ≤ 2147483648 := by unfold absI; split <;> omega
  have nB : absI B ≤ 2147483648 := by unfold absI; split <;> omega
  have nS : absI (A + B) ≤ 4294967296 := by unfold absI; split <;> omega
  have p64 : p2 (52 + 11 + 1) = 18446744073709551616 := by decide +kernel
  have p32 : p2 (23 + 8 + 1) = 4294967296 := by decide +kernel
  have bA := pack_lt 52 11 (absI A) 0 false (decide (A < 0)) (abs_nn A) (by decide)
  have bB := pack_lt 52 11 (absI B) 0 false (decide (B < 0)) (abs_nn B) (by decide)
  have bS := pack_lt 52 11 (absI (A + B)) 0 false (decide (A + B < 0)) (abs_nn _) (by decide)
  have bN := pack_lt 23 8 (absI A) 0 false (decide (A < 0)) (abs_nn A) (by decide)
  change 0 ≤ intP 52 11 A ∧ intP 52 11 A < _ at bA
  change 0 ≤ intP 52 11 B ∧ intP 52 11 B < _ at bB
  change 0 ≤ intP 52 11 (A + B) ∧ intP 52 11 (A + B) < _ at bS
  change 0 ≤ intP 23 8 A ∧ intP 23 8 A < _ at bN
  have lA := bl_of_lt 52 11 _ bA.1 bA.2
  have lB := bl_of_lt 52 11 _ bB.1 bB.2
  have gA := patK 52 11 _ ok52 bA.1 lA
  have gB := patK 52 11 _ ok52 bB.1 lB
  have OAB := popen2 52 11 (intP 52 11 A) (intP 52 11 B) ok52 bA.1 (by omega) lA bB.1 (by omega) lB
  have k4A : kindI 52 11 (intP 52 11 A) ≠ 4 := by
    by_cases h : A = 0
    · subst h; rw [int_zero]; decide +kernel
    · rw [(int_parts 52 11 A _ (by decide) (dbl_fin (absI A) (abs_pos A h) (by omega)) (abs_nn A)).1]; decide
  have k4B : kindI 52 11 (intP 52 11 B) ≠ 4 := by
    by_cases h : B = 0
    · subst h; rw [int_zero]; decide +kernel
    · rw [(int_parts 52 11 B _ (by decide) (dbl_fin (absI B) (abs_pos B h) (by omega)) (abs_nn B)).1]; decide
  refine counts_one n m' A B _ near _ w (intP 52 11 A) (intP 52 11 B) (intP 52 11 (A + B)) (intP 23 8 A) bn.1 bn.2 bm.1 bm.2 a2 b2 ⟨a0, a1⟩ ⟨b0, b1⟩ (sum_int (A + B) (by omega) (by omega)) rfl (hidden d1) (hidden d2) (hidden fun w h => ?_) (hidden d3) (hidden fun w h => ?_) (fun hs => hidden fun w h => ?_) (hidden fun w h => ?_) (hidden fun w h => ?_) (hidden fun w h => ?_) hl
  · have h9 := doubleInt_c (intP 52 11 A) _ near w h (hidden fun w => toint64 52 11 (intP 52 11 A) (absI A) 0 near (decide (A < 0)) w bA.1 (by omega) (abs_nn A) (by omega) (whole_dbl A near (by omega)))
    rw [a3] at h9
    exact h9
  · refine narrow_c (intP 52 11 A) (intP 23 8 A) w h (hidden fun w => conv_u32 52 11 23 8 (intP 52 11 A) (intP 23 8 A) 0 w bA.1 (by omega) bN.1 (by omega) (hidden fun w => ?_))
    have h9 := pconv_k 52 11 23 8 (intP 52 11 A) _ _ _ _ w ok52 ok23 gA (popen1 52 11 _ ok52 bA.1 (by omega) lA)
    rw [narrow_dbl A (by omega)] at h9
    exact h9
  · have h9 := singleInt_c (intP 23 8 A) _ near w h (hidden fun w => toint32 23 8 (intP 23 8 A) (absI A) 0 near (decide (A < 0)) w bN.1 (by omega) (abs_nn A) (by omega) (whole_sgl A near (hm24 hs)))
    rw [a3] at h9
    exact h9
  · refine pDouble 1 (intP 52 11 A) (intP 52 11 B) (intP 52 11 (A + B)) 0 w h (hidden fun w => reck64_1 52 11 _ _ _ 0 0 w bA.1 (by omega) bB.1 (by omega) bS.1 (by omega) (hidden fun w => ?_))
    have h9 := padd_k 52 11 (intP 52 11 A) (intP 52 11 B) _ _ _ _ _ _ _ _ w ok52 gA.kind gB.kind (fun h => (gA.fin h).1) (fun h => (gB.fin h).1) OAB
    rw [dbl_add A B (by omega) (by omega)] at h9
    exact h9
  · exact doubleInt_c (intP 52 11 (A + B)) _ near w h (hidden fun w => toint64 52 11 (intP 52 11 (A + B)) (absI (A + B)) 0 near (decide (A + B < 0)) w bS.1 (by omega) (abs_nn _) (by omega) (whole_dbl (A + B) near (by omega)))
  · have hO : ordB 3 (cmpR 52 11 (intP 52 11 A) (intP 52 11 B) (kindI 52 11 (intP 52 11 A)) (kindI 52 11 (intP 52 11 B))) (cmpOk (kindI 52 11 (intP 52 11 A)) (kindI 52 11 (intP 52 11 B))) = decide (A < B) := by
      rw [show cmpOk (kindI 52 11 (intP 52 11 A)) (kindI 52 11 (intP 52 11 B)) = true by simp [cmpOk, k4A, k4B]]
      have hr : cmpR 52 11 (intP 52 11 A) (intP 52 11 B) (kindI 52 11 (intP 52 11 A)) (kindI 52 11 (intP 52 11 B)) = cmpZ (rankI (52 + 11) (intP 52 11 A)) (rankI (52 + 11) (intP 52 11 B)) := by
        unfold cmpR
        rw [if_neg (fun h => h.elim k4A k4B)]
      rw [hr]
      have h9 := dbl_cmp A B (by omega) (by omega)
      unfold ordB
      rw [Bool.true_and, if_pos rfl]
      exact decide_eq_decide.2 h9
    refine pDoubleHolds 3 (intP 52 11 A) (intP 52 11 B) 0 _ w h (hidden fun w => ?_)
    have h9 := pholds64_ord 52 11 3 (intP 52 11 A) (intP 52 11 B) 0 _ w bA.1 (by omega) bB.1 (by omega) (by decide) (by decide) (by decide) (by decide) (hidden fun w => pinorder 52 11 3 (intP 52 11 A) (intP 52 11 B) _ 0 _ w (hidden fun w => pcmp_k 52 11 _ _ _ _ _ _ _ _ _ _ w ok52 bA.1 bA.2 bB.1 bB.2 OAB))
    rw [hO] at h9
    exact h9
end Go.Proofs.YtlhknchmgckgiaaDoor
