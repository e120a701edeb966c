/- The walk of RealsChanges: each single as a double, each double as a single, and as two words, are the page's. -/
import Derived.Test.YtfjpiahgnojlhaaDoorA4x
import Derived.Test.YtfjpiahgnojlhaaDoorR4x
namespace Go.Proofs.YtfjpiahgnojlhaaDoor
open Go.RowKit
set_option maxRecDepth 100000
set_option maxHeartbeats 1000000
set_option linter.unusedVariables false

theorem rchange_t (a R g : Int) (w : World)
    (HC : Hid (∀ w, Calls Tryd.prog 30 #[.agg #[.int .i64 23, .int .i64 8], .agg #[.int .i64 52, .int .i64 11], .int .u64 a] w fun r w' => r = .returned (.tuple #[.int .u64 R, .int .i64 g]) ∧ Below w.heap.size w w')) :
    Calls Tryd.prog 14 #[.bool true, .int .u64 a] w fun r w' => r = .returned (.int .u64 R) ∧ Below w.heap.size w w' := by
  have HT := hidden fm_t
  have HF := hidden fm_f
  go_enter Tryd.func14, Tryd.ntmps14
  go_wp2_with (first | (go_at_call_of 19 (Value.bool false); refine (HF.out _).mono ?_; rintro r w1 ⟨rfl, hb1⟩) | (go_at_call_of 19 (Value.bool true); refine (HT.out _).mono ?_; rintro r w2 ⟨rfl, hb2⟩) | (go_at_call 30; refine (HC.out _).mono ?_; rintro r w3 ⟨rfl, hb3⟩))
  go_ret
  have h := hb1.trans (hb2.mono hb1.size)
  exact ⟨rfl, h.trans (hb3.mono h.size)⟩
theorem rchange_f (a R g : Int) (w : World)
    (HC : Hid (∀ w, Calls Tryd.prog 30 #[.agg #[.int .i64 52, .int .i64 11], .agg #[.int .i64 23, .int .i64 8], .int .u64 a] w fun r w' => r = .returned (.tuple #[.int .u64 R, .int .i64 g]) ∧ Below w.heap.size w w')) :
    Calls Tryd.prog 14 #[.bool false, .int .u64 a] w fun r w' => r = .returned (.int .u64 R) ∧ Below w.heap.size w w' := by
  have HT := hidden fm_t
  have HF := hidden fm_f
  go_enter Tryd.func14, Tryd.ntmps14
  go_wp2_with (first | (go_at_call_of 19 (Value.bool true); refine (HT.out _).mono ?_; rintro r w1 ⟨rfl, hb1⟩) | (go_at_call_of 19 (Value.bool false); refine (HF.out _).mono ?_; rintro r w2 ⟨rfl, hb2⟩) | (go_at_call 30; refine (HC.out _).mono ?_; rintro r w3 ⟨rfl, hb3⟩))
  go_ret
  have h := hb1.trans (hb2.mono hb1.size)
  exact ⟨rfl, h.trans (hb3.mono h.size)⟩
theorem split_any (y : Int) (w : World) (y0 : 0 ≤ y) (y1 : y ≤ 18446744073709551615) :
    Calls Tryd.prog 12 #[.int .u64 y] w fun r w' => r = .returned (.tuple #[.int .u32 (y / 4294967296), .int .u32 (y % 4294967296)]) ∧ w' = w := by
  go_enter Tryd.func12, Tryd.ntmps12
  go_wp2
  go_ret2
  exact ⟨rfl, rfl⟩
theorem join_any (h l : Int) (w : World) (h0 : 0 ≤ h) (h1 : h ≤ 4294967295) (l0 : 0 ≤ l) (l1 : l ≤ 4294967295) :
    Calls Tryd.prog 16 #[.int .u32 h, .int .u32 l] w fun r w' => r = .returned (.int .u64 (h * 4294967296 + l)) ∧ w' = w := by
  have HO : Hid (bits .or .u64 (h * 4294967296) l = h * 4294967296 + l) := hidden (or_join 32 _ _ (by omega) (by omega) (by rw [p2_32]; omega) l0 (by rw [p2_32]; omega) (by omega))
  go_enter Tryd.func16, Tryd.ntmps16
  go_wp2
  go_ret
  exact ⟨ret_int HO.out, rfl⟩
theorem bl32c (a : Int) (a0 : 0 ≤ a) (a1 : a ≤ 4294967295) : bl a ≤ 1 + 8 + 23 := bl_le a0 (by rw [show p2 (1 + 8 + 23) = 4294967296 by decide +kernel]; omega)
theorem bl64c (a : Int) (a0 : 0 ≤ a) (a1 : a ≤ 18446744073709551615) : bl a ≤ 1 + 11 + 52 := bl_le a0 (by rw [show p2 (1 + 11 + 52) = 18446744073709551616 by decide +kernel]; omega)
theorem change_same (m x m2 x2 : Nat) (a : Int) (hok : okF m x) (hok2 : okF m2 x2) (a0 : 0 ≤ a) (a1 : a ≤ 18446744073709551615) (ha : bl a ≤ 1 + x + m) :
    ∃ R, (0 ≤ R ∧ R < p2 (m2 + x2 + 1)) ∧ Hid (∀ w, Calls Tryd.prog 51 #[.agg #[.int .i64 (m : Int), .int .i64 (x : Int)], .agg #[.int .i64 (m2 : Int), .int .i64 (x2 : Int)], .int .u64 a] w fun r w' => r = .returned (.tuple #[.int .u64 R, .int .i64 0]) ∧ Below w.heap.size w w') ∧
      Hid (∀ w, Calls Tryd.prog 30 #[.agg #[.int .i64 (m : Int), .int .i64 (x : Int)], .agg #[.int .i64 (m2 : Int), .int .i64 (x2 : Int)], .int .u64 a] w fun r w' => r = .returned (.tuple #[.int .u64 R, .int .i64 0]) ∧ Below w.heap.size w w') := by
  have g := patK m x a hok a0 ha
  exact ⟨_, conv_bd m x m2 x2 a _ _ _ _ hok2 g, hidden fun w => pconv_k m x m2 x2 a _ _ _ _ w hok hok2 g (popen1 m x a hok a0 a1 ha), hidden fun w => rconv_k m x m2 x2 a _ _ _ _ w hok hok2 g (hidden fun w => ropen_any m x a w hok a0 a1 ha)⟩
theorem realsChanges_walk (x y : Int) (w : World) (w0 : (Lit.int .u32 x).wf = true) (w1 : (Lit.int .u64 y).wf = true) (hl : Laid w) :
    Calls Tryd.prog 4 #[.int .u32 x, .int .u64 y] w fun r w' => r = .returned (.bool true) ∧ Below w.heap.size w w' := by
  have bx := bounds_u32 w0
  have by' := bounds_u64 w1
  obtain ⟨R, hR, p1, p2'⟩ := change_same 23 8 52 11 x ok23 ok52 bx.1 (by omega) (bl32c x bx.1 bx.2)
  obtain ⟨S, hS, q1, q2⟩ := change_same 52 11 23 8 y ok52 ok23 by'.1 by'.2 (bl64c y by'.1 by'.2)
  rw [show p2 (52 + 11 + 1) = 18446744073709551616 by decide +kernel] at hR
  rw [show p2 (23 + 8 + 1) = 4294967296 by decide +kernel] at hS
  have H1 : Hid (∀ w, Laid w → Calls Tryd.prog 13 #[.int .u32 x] w fun r w' => r = .returned (.int .u64 R) ∧ Below w.heap.size w w') := hidden fun w h => widen_c x R w h (hidden fun w => conv_u64 23 8 52 11 x R 0 w bx.1 (by omega) hR.1 hR.2 p1)
  have H2 : Hid (∀ w, Calls Tryd.prog 14 #[.bool true, .int .u64 x] w fun r w' => r = .returned (.int .u64 R) ∧ Below w.heap.size w w') := hidden fun w => rchange_t x R 0 w p2'
  have H3 : Hid (∀ w, Laid w → Calls Tryd.prog 15 #[.int .u64 y] w fun r w' => r = .returned (.int .u32 S) ∧ Below w.heap.size w w') := hidden fun w h => narrow_c y S w h (hidden fun w => conv_u32 52 11 23 8 y S 0 w by'.1 (by omega) hS.1 hS.2 q1)
  have H4 : Hid (∀ w, Calls Tryd.prog 14 #[.bool false, .int .u64 y] w fun r w' => r = .returned (.int .u64 S) ∧ Below w.heap.size w w') := hidden fun w => rchange_f y S 0 w q2
  have H5 := hidden (fun w => split_any y w by'.1 by'.2)
  have hh : 0 ≤ y / 4294967296 ∧ y / 4294967296 ≤ 4294967295 := by omega
  have hl2 : 0 ≤ y % 4294967296 ∧ y % 4294967296 ≤ 4294967295 := by omega
  have H6 : Hid (∀ w, Calls Tryd.prog 16 #[.int .u32 (y / 4294967296), .int .u32 (y % 4294967296)] w fun r w' => r = .returned (.int .u64 y) ∧ w' = w) := hidden fun w => by
    have h := join_any (y / 4294967296) (y % 4294967296) w hh.1 hh.2 hl2.1 hl2.2
    rw [show y / 4294967296 * 4294967296 + y % 4294967296 = y by omega] at h
    exact h
  have HV := hidden live4_any
  have HL := hidden hl
  have HB := hidden (Below.refl w.heap.size w)
  clear hl p1 p2' q1 q2 w0 w1
  go_enter Tryd.func4, Tryd.ntmps4
  go_wp2_with (first | (go_at_call 13; refine (H1.out _ HL.out).mono ?_; rintro r w9 ⟨rfl, hb⟩; have HL := hidden (HL.out.later hb); have HB := hidden (HB.out.trans (hb.mono HB.out.size)); clear hb) | (go_at_call_of 14 (Value.bool true); refine (H2.out _).mono ?_; rintro r w9 ⟨rfl, hb⟩; have HL := hidden (HL.out.later hb); have HB := hidden (HB.out.trans (hb.mono HB.out.size)); clear hb) | (go_at_call 15; refine (H3.out _ HL.out).mono ?_; rintro r w9 ⟨rfl, hb⟩; have HL := hidden (HL.out.later hb); have HB := hidden (HB.out.trans (hb.mono HB.out.size)); clear hb) | (go_at_call_of 14 (Value.bool false); refine (H4.out _).mono ?_; rintro r w9 ⟨rfl, hb⟩; have HL := hidden (HL.out.later hb); have HB := hidden (HB.out.trans (hb.mono HB.out.size)); clear hb) | (go_at_call 12; refine (H5.out _).mono ?_; rintro r w9 ⟨rfl, hw⟩; obtain rfl := hw.symm) | (go_at_call 16; refine (H6.out _).mono ?_; rintro r w9 ⟨rfl, hw⟩; obtain rfl := hw.symm) | (go_at_call 11; refine (HV.out _ HL.out).mono ?_; rintro r w9 ⟨rfl, hb⟩; have HB := hidden (HB.out.trans (hb.mono HB.out.size)); clear hb))
  go_ret
  exact ⟨rfl, HB.out⟩
end Go.Proofs.YtfjpiahgnojlhaaDoor
