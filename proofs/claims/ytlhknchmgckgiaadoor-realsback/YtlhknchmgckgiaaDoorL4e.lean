/- The walk of RealsBack: a single that is made a double is the single again. -/
import Derived.Test.YtlhknchmgckgiaaDoorK5
import Derived.Test.YtlhknchmgckgiaaDoorC3m
import Derived.Test.YtlhknchmgckgiaaDoorL4a
namespace Go.Proofs.YtlhknchmgckgiaaDoor
open Go.RowKit
set_option maxRecDepth 100000
set_option maxHeartbeats 400000
set_option linter.unusedVariables false

theorem bl32e (a : Int) (a0 : 0 ≤ a) (a1 : a ≤ 4294967295) : bl a ≤ 1 + 8 + 23 := bl_le a0 (by rw [show p2 (1 + 8 + 23) = 4294967296 by decide +kernel]; omega)
/-- a finite single's parts in the doubles' format -/
theorem widen_fin (E M : Int) (h : FinP 23 8 E M) : ∃ k : Nat, FinP 52 11 (E - k) (M * p2 k) := by
  obtain ⟨h0, h1, h2, h3, h4⟩ := h
  obtain ⟨b0, b1, b2⟩ := bl_bd M h0
  have hb : bl M ≤ 24 := bl_le (by omega) (by simpa using h1)
  have l1 : least ((23 : Nat) : Int) ((8 : Nat) : Int) = -149 := by decide +kernel
  have l2 : least ((52 : Nat) : Int) ((11 : Nat) : Int) = -1074 := by decide +kernel
  have c1 : bias ((8 : Nat) : Int) = 127 := by decide +kernel
  have c2 : bias ((11 : Nat) : Int) = 1023 := by decide +kernel
  rw [l1] at h2
  rw [c1] at h3
  refine ⟨53 - bl M, Int.mul_pos h0 (p2_pos _), ?_, by rw [l2]; omega, by rw [c2]; omega, .inl ?_⟩
  · have := Int.mul_lt_mul_of_pos_right b2 (p2_pos (53 - bl M))
    rw [← p2_add, show bl M + (53 - bl M) = 52 + 1 by omega] at this
    exact this
  · have := Int.mul_le_mul_of_nonneg_right b1 (Int.le_of_lt (p2_pos (53 - bl M)))
    rw [← p2_add, show bl M - 1 + (53 - bl M) = 52 by omega] at this
    exact this
/-- a single's double says what the single says -/
theorem widen_parts (a K E M : Int) (n : Bool) (g : PatK 23 8 a K n E M) : ∃ D, D = convK 52 11 K n E M ∧ kindI 52 11 D = K ∧ (K ≠ 4 → negI 52 11 D = n) ∧ (K = 2 → ∃ k : Nat, FinP 52 11 (E - k) (M * p2 k) ∧ expI 52 11 D = E - k ∧ manI 52 11 D = M * p2 k) := by
  refine ⟨_, rfl, ?_⟩
  rcases g.kind with rfl | rfl | rfl | rfl
  · have h := open_zero 52 11 n (by decide)
    exact ⟨h.1, fun _ => h.2, fun h => by cases h⟩
  · obtain ⟨f, -⟩ := g.fin rfl
    obtain ⟨k, hk⟩ := widen_fin E M f
    have e : convK 52 11 2 n E M = (E - k - least ((52 : Nat) : Int) ((11 : Nat) : Int)) * p2 52 + M * p2 k + sgnW n (52 + 11) := by
      show packP 52 11 M E false + sgnW n (52 + 11) = _
      rw [← pack_scale 52 11 M E k (by have := f.1; omega), pack_self 52 11 _ _ (by decide) hk]
    obtain ⟨o1, o2, o3, o4⟩ := open_fin 52 11 (E - k) (M * p2 k) n (by decide) hk
    rw [← e] at o1 o2 o3 o4
    exact ⟨o1, fun _ => o2, fun _ => ⟨k, hk, o3, o4⟩⟩
  · have h := open_inf 52 11 n (by decide)
    exact ⟨h.1, fun _ => h.2, fun h => by cases h⟩
  · exact ⟨(nan_kind 52 11 ok52).2.2.1, fun h => absurd rfl h, fun h => by cases h⟩
theorem back_is (a K E M : Int) (n : Bool) (g : PatK 23 8 a K n E M) (D : Int) (hD : D = convK 52 11 K n E M) : convK 23 8 (kindI 52 11 D) (negI 52 11 D) (expI 52 11 D) (manI 52 11 D) = if K = 4 then 2143289344 else a := by
  obtain ⟨D', hD', h1, h2, h3⟩ := widen_parts a K E M n g
  obtain rfl : D' = D := hD'.trans hD.symm
  rw [h1]
  rcases g.kind with rfl | rfl | rfl | rfl
  · rw [h2 (by decide), if_neg (by decide), (g.zero rfl).2.2]
    rfl
  · obtain ⟨k, hk, e1, e2⟩ := h3 rfl
    obtain ⟨f, hf⟩ := g.fin rfl
    rw [h2 (by decide), e1, e2, if_neg (by decide)]
    show packP 23 8 (M * p2 k) (E - k) false + sgnW n (23 + 8) = a
    rw [pack_scale 23 8 M E k (by have := f.1; omega)]
    exact hf
  · rw [h2 (by decide), if_neg (by decide), g.inf rfl]
    rfl
  · rw [if_pos rfl]
    show nanI 23 8 = _
    decide +kernel
theorem realsBack_walk (x : Int) (w : World) (w0 : (Lit.int .u32 x).wf = true) (hl : Laid w) :
    Calls Tryd.prog 3 #[.int .u32 x] w fun r w' => r = .returned (.bool true) ∧ Below w.heap.size w w' := by
  have bx := bounds_u32 w0
  have p32 : p2 (23 + 8 + 1) = 4294967296 := by decide +kernel
  have p64 : p2 (52 + 11 + 1) = 18446744073709551616 := by decide +kernel
  have p31 : p2 (23 + 8) = 2147483648 := by decide +kernel
  have hbl := bl32e x bx.1 bx.2
  have g := patK 23 8 x ok23 bx.1 hbl
  have bR := conv_bd 23 8 52 11 x _ _ _ _ ok52 g
  have hS := back_is x _ _ _ _ g _ rfl
  have H1 : Hid (∀ w, Laid w → Calls Tryd.prog 8 #[.int .u32 x] w fun r w' => r = .returned (.int .u64 (convK 52 11 (kindI 23 8 x) (negI 23 8 x) (expI 23 8 x) (manI 23 8 x))) ∧ Below w.heap.size w w') := hidden fun w h => widen_c x _ w h (hidden fun w => conv_u64 23 8 52 11 x _ 0 w bx.1 (by omega) bR.1 (by omega) (hidden fun w => pconv_k 23 8 52 11 x _ _ _ _ w ok23 ok52 g (popen1 23 8 x ok23 bx.1 (by omega) hbl)))
  generalize convK 52 11 (kindI 23 8 x) (negI 23 8 x) (expI 23 8 x) (manI 23 8 x) = R at *
  have hblR : bl R ≤ 1 + 11 + 52 := bl_of_lt 52 11 R bR.1 bR.2
  have gR := patK 52 11 R ok52 bR.1 hblR
  have bS := conv_bd 52 11 23 8 R _ _ _ _ ok23 gR
  have H2 : Hid (∀ w, Laid w → Calls Tryd.prog 7 #[.int .u64 R] w fun r w' => r = .returned (.int .u32 (convK 23 8 (kindI 52 11 R) (negI 52 11 R) (expI 52 11 R) (manI 52 11 R))) ∧ Below w.heap.size w w') := hidden fun w h => narrow_c R _ w h (hidden fun w => conv_u32 52 11 23 8 R _ 0 w bR.1 (by omega) bS.1 (by omega) (hidden fun w => pconv_k 52 11 23 8 R _ _ _ _ w ok52 ok23 gR (popen1 52 11 R ok52 bR.1 (by omega) hblR)))
  rw [hS] at H2
  have h4 := kind4_iff 23 8 x
  rw [p31, show (p2 8 - 1) * p2 23 = 2139095040 by decide +kernel] at h4
  have hsh : IntKind.u32.wrap (x * 2) = 2 * (x % 2147483648) := by rw [IntKind.wrap_u32]; omega
  have HV := hidden live4_any
  have HL := hidden hl
  have HB := hidden (Below.refl w.heap.size w)
  by_cases hk : kindI 23 8 x = 4
  · rw [if_pos hk] at H2
    have hgt := h4.1 hk
    have H3 : Hid (∀ w, Laid w → Calls Tryd.prog 9 #[.int .i64 7, .int .u32 x, .int .u32 0, .int .u32 0] w fun r w' => r = .returned (.bool true) ∧ Below w.heap.size w w') := hidden fun w h => pSingleHolds 7 x 0 0 true w h (hidden fun w => pholds32_7 23 8 x 0 0 true w bx.1 (by omega) (hidden fun w => by
      have h := pkind 23 8 x _ _ _ 4 0 _ w (popen1 23 8 x ok23 bx.1 (by omega) hbl)
      rw [show (kindI 23 8 x == 4) = true by simpa using hk] at h
      exact h))
    clear hl hS h4 hk g gR bS hblR hbl p32 p64 p31 w0
    go_enter Tryd.func3, Tryd.ntmps3
    go_wp2_with (first | (go_at_call 8; refine (H1.out _ HL.out).mono ?_; rintro r w9 ⟨rfl, hb⟩; have HL := hidden (HL.out.later hb); have HB := hidden (HB.out.trans (hb.mono HB.out.size)); clear hb) | (go_at_call 7; refine (H2.out _ HL.out).mono ?_; rintro r w9 ⟨rfl, hb⟩; have HL := hidden (HL.out.later hb); have HB := hidden (HB.out.trans (hb.mono HB.out.size)); clear hb) | (go_at_call 9; refine (H3.out _ HL.out).mono ?_; rintro r w9 ⟨rfl, hb⟩; have HL := hidden (HL.out.later hb); have HB := hidden (HB.out.trans (hb.mono HB.out.size)); clear hb) | (go_at_call 10; refine (HV.out _ HL.out).mono ?_; rintro r w9 ⟨rfl, hb⟩; have HB := hidden (HB.out.trans (hb.mono HB.out.size)); clear hb))
    go_ret
    exact ⟨rfl, HB.out⟩
  · rw [if_neg hk] at H2
    have hle : ¬ 2139095040 < x % 2147483648 := fun h => hk (h4.2 h)
    have H3 : Hid (∀ w, Laid w → Calls Tryd.prog 9 #[.int .i64 7, .int .u32 x, .int .u32 0, .int .u32 0] w fun r w' => r = .returned (.bool false) ∧ Below w.heap.size w w') := hidden fun w h => pSingleHolds 7 x 0 0 false w h (hidden fun w => pholds32_7 23 8 x 0 0 false w bx.1 (by omega) (hidden fun w => by
      have h := pkind 23 8 x _ _ _ 4 0 _ w (popen1 23 8 x ok23 bx.1 (by omega) hbl)
      rw [show (kindI 23 8 x == 4) = false by simpa using hk] at h
      exact h))
    clear hl hS h4 hk g gR bS hblR hbl p32 p64 p31 w0
    go_enter Tryd.func3, Tryd.ntmps3
    go_wp2_with (first | (go_at_call 8; refine (H1.out _ HL.out).mono ?_; rintro r w9 ⟨rfl, hb⟩; have HL := hidden (HL.out.later hb); have HB := hidden (HB.out.trans (hb.mono HB.out.size)); clear hb) | (go_at_call 7; refine (H2.out _ HL.out).mono ?_; rintro r w9 ⟨rfl, hb⟩; have HL := hidden (HL.out.later hb); have HB := hidden (HB.out.trans (hb.mono HB.out.size)); clear hb) | (go_at_call 9; refine (H3.out _ HL.out).mono ?_; rintro r w9 ⟨rfl, hb⟩; have HL := hidden (HL.out.later hb); have HB := hidden (HB.out.trans (hb.mono HB.out.size)); clear hb) | (go_at_call 10; refine (HV.out _ HL.out).mono ?_; rintro r w9 ⟨rfl, hb⟩; have HB := hidden (HB.out.trans (hb.mono HB.out.size)); clear hb))
    go_ret
    exact ⟨rfl, HB.out⟩
end Go.Proofs.YtlhknchmgckgiaaDoor
