/- The walk of RealsInts: each integer as a single and a double, and any of these as an integer, are the page's. -/
import Derived.Test.YtfjpiahgnojlhaaDoorA4x
import Derived.Test.YtfjpiahgnojlhaaDoorR4x
namespace Go.Proofs.YtfjpiahgnojlhaaDoor
open Go.RowKit
set_option maxRecDepth 100000
set_option maxHeartbeats 1000000
set_option linter.unusedVariables false

theorem rof_same (wide : Bool) (m x : Nat) (n : Int) (w : World) (hok : okF m x) (n0 : 0 ≤ n) (n1 : n ≤ 4294967295)
    (HF : Hid (∀ w, Calls Tryd.prog 19 #[.bool wide] w fun r w' => r = .returned (.agg #[.int .i64 (m : Int), .int .i64 (x : Int)]) ∧ Below w.heap.size w w')) :
    Calls Tryd.prog 6 #[.bool wide, .int .u32 n] w fun r w' => r = .returned (.int .u64 (ofI m x n)) ∧ Below w.heap.size w w' := by
  have hx : 2 ≤ x := by have := hok.2.2.1; omega
  refine (rof_any wide m x n w hok n0 n1 HF).mono ?_
  rintro r w' ⟨P, rfl, hP, hb⟩
  refine ⟨?_, hb⟩
  have e : P = packP m x (sizeI n) 0 false := by
    rcases hP with ⟨h1, h2⟩ | ⟨h1, h2⟩
    · rw [h2]; unfold sizeI; rw [h1]; simp [packP]
    · exact near_one m x _ 0 P h1 hx h2
  rw [e]
  rfl
theorem rint_any (wide : Bool) (m x a R g : Int) (near s : Bool) (w : World) (r0 : 0 ≤ R) (r1 : R ≤ 1099511627776)
    (HF : Hid (∀ w, Calls Tryd.prog 19 #[.bool wide] w fun r w' => r = .returned (.agg #[.int .i64 m, .int .i64 x]) ∧ Below w.heap.size w w'))
    (HW : Hid (∀ w, Calls Tryd.prog 23 #[.agg #[.int .i64 m, .int .i64 x], .int .u64 a, .bool near] w fun r w' => r = .returned (.tuple #[.int .u64 R, .bool s, .int .i64 g]) ∧ Below w.heap.size w w')) :
    Calls Tryd.prog 9 #[.bool wide, .int .u64 a, .bool near] w fun r w' => r = .returned (.int .u32 (toI R s)) ∧ Below w.heap.size w w' := by
  have HE : Hid (∃ T, T = toI R s ∧ (s = true → 2147483648 ≤ R → T = 2147483648) ∧ (s = true → ¬ 2147483648 ≤ R → 0 < R → T = 4294967296 - R) ∧ (s = true → R = 0 → T = 0) ∧ (s = false → 2147483648 ≤ R → T = 2147483647) ∧ (s = false → ¬ 2147483648 ≤ R → T = R)) := hidden ⟨_, rfl, by unfold toI; cases s <;> simp <;> omega⟩
  obtain ⟨T, hT, t1, t2, t3, t4, t5⟩ := HE.out
  rw [← hT]
  clear hT HE
  cases s
  · clear t1 t2 t3
    by_cases h : 2147483648 ≤ R
    · have HT := hidden (t4 rfl h)
      clear t4 t5
      go_enter Tryd.func9, Tryd.ntmps9
      go_wp2_with (first | (go_at_call 19; refine (HF.out _).mono ?_; rintro r w1 ⟨rfl, hb1⟩) | (go_at_call 23; refine (HW.out _).mono ?_; rintro r w2 ⟨rfl, hb2⟩))
      go_ret
      exact ⟨ret_int HT.out.symm, hb1.trans (hb2.mono hb1.size)⟩
    · have HT := hidden (t5 rfl h)
      clear t4 t5
      go_enter Tryd.func9, Tryd.ntmps9
      go_wp2_with (first | (go_at_call 19; refine (HF.out _).mono ?_; rintro r w1 ⟨rfl, hb1⟩) | (go_at_call 23; refine (HW.out _).mono ?_; rintro r w2 ⟨rfl, hb2⟩))
      go_ret
      exact ⟨ret_int HT.out.symm, hb1.trans (hb2.mono hb1.size)⟩
  · clear t4 t5
    by_cases h : 2147483648 ≤ R
    · have HT := hidden (t1 rfl h)
      clear t1 t2 t3
      go_enter Tryd.func9, Tryd.ntmps9
      go_wp2_with (first | (go_at_call 19; refine (HF.out _).mono ?_; rintro r w1 ⟨rfl, hb1⟩) | (go_at_call 23; refine (HW.out _).mono ?_; rintro r w2 ⟨rfl, hb2⟩))
      go_ret
      exact ⟨ret_int HT.out.symm, hb1.trans (hb2.mono hb1.size)⟩
    · by_cases h2 : 0 < R
      · have HT := hidden (t2 rfl h h2)
        clear t1 t2 t3
        go_enter Tryd.func9, Tryd.ntmps9
        go_wp2_with (first | (go_at_call 19; refine (HF.out _).mono ?_; rintro r w1 ⟨rfl, hb1⟩) | (go_at_call 23; refine (HW.out _).mono ?_; rintro r w2 ⟨rfl, hb2⟩))
        go_ret
        exact ⟨ret_int HT.out.symm, hb1.trans (hb2.mono hb1.size)⟩
      · have hR : R = 0 := by omega
        have HT := hidden (t3 rfl hR)
        clear t1 t2 t3 h h2
        subst hR
        go_enter Tryd.func9, Tryd.ntmps9
        go_wp2_with (first | (go_at_call 19; refine (HF.out _).mono ?_; rintro r w1 ⟨rfl, hb1⟩) | (go_at_call 23; refine (HW.out _).mono ?_; rintro r w2 ⟨rfl, hb2⟩))
        go_ret
        exact ⟨ret_int HT.out.symm, hb1.trans (hb2.mono hb1.size)⟩
theorem whole_same (m x : Nat) (a : Int) (near : Bool) (hok : okF m x) (a0 : 0 ≤ a) (a1 : a ≤ 18446744073709551615) (ha : bl a ≤ 1 + x + m) :
    ∃ R s, (0 ≤ R ∧ R ≤ 1099511627776) ∧ WhC 44 m x a near R s 0 ∧ WhC 23 m x a near R s 0 := by
  obtain ⟨R, h⟩ := wholes_k m x a _ _ _ _ near hok (patK m x a hok a0 ha) (popen1 m x a hok a0 a1 ha) (hidden fun w => ropen_any m x a w hok a0 a1 ha)
  exact ⟨R, _, h⟩
theorem bl32 (a : Int) (a0 : 0 ≤ a) (a1 : a ≤ 4294967295) : bl a ≤ 1 + 8 + 23 := bl_le a0 (by rw [show p2 (1 + 8 + 23) = 4294967296 by decide +kernel]; omega)
theorem bl64 (a : Int) (a0 : 0 ≤ a) (a1 : a ≤ 18446744073709551615) : bl a ≤ 1 + 11 + 52 := bl_le a0 (by rw [show p2 (1 + 11 + 52) = 18446744073709551616 by decide +kernel]; omega)
theorem realsInts_walk (n x y : Int) (near : Bool) (w : World) (w0 : (Lit.int .u32 n).wf = true) (w1 : (Lit.int .u32 x).wf = true) (w2 : (Lit.int .u64 y).wf = true) (hl : Laid w) :
    Calls Tryd.prog 3 #[.int .u32 n, .int .u32 x, .int .u64 y, .bool near] w fun r w' => r = .returned (.bool true) ∧ Below w.heap.size w w' := by
  have bn := bounds_u32 w0
  have bx := bounds_u32 w1
  have by' := bounds_u64 w2
  have b1 := pat_bd 23 8 (sizeI n) 0 false (decide (2147483648 ≤ n)) 32 (by unfold sizeI; split <;> omega) (by decide) (by decide)
  have b2 := pat_bd 52 11 (sizeI n) 0 false (decide (2147483648 ≤ n)) 64 (by unfold sizeI; split <;> omega) (by decide) (by decide)
  rw [p2_32] at b1
  rw [p2_64] at b2
  change 0 ≤ ofI 23 8 n ∧ ofI 23 8 n < _ at b1
  change 0 ≤ ofI 52 11 n ∧ ofI 52 11 n < _ at b2
  have H1 : Hid (∀ w, Laid w → Calls Tryd.prog 5 #[.int .u32 n] w fun r w' => r = .returned (.int .u32 (ofI 23 8 n)) ∧ Below w.heap.size w w') := hidden fun w h => singleOf_c n w h bn.1 bn.2
  have H2 : Hid (∀ w, Calls Tryd.prog 6 #[.bool false, .int .u32 n] w fun r w' => r = .returned (.int .u64 (ofI 23 8 n)) ∧ Below w.heap.size w w') := hidden fun w => rof_same false 23 8 n w ok23 bn.1 bn.2 (hidden fm_f)
  have H3 : Hid (∀ w, Laid w → Calls Tryd.prog 7 #[.int .u32 n] w fun r w' => r = .returned (.int .u64 (ofI 52 11 n)) ∧ Below w.heap.size w w') := hidden fun w h => doubleOf_c n w h bn.1 bn.2
  have H4 : Hid (∀ w, Calls Tryd.prog 6 #[.bool true, .int .u32 n] w fun r w' => r = .returned (.int .u64 (ofI 52 11 n)) ∧ Below w.heap.size w w') := hidden fun w => rof_same true 52 11 n w ok52 bn.1 bn.2 (hidden fm_t)
  obtain ⟨R, s, hR, hP, hQ⟩ := whole_same 23 8 x near ok23 bx.1 (by omega) (bl32 x bx.1 bx.2)
  obtain ⟨S, t, hS, hU, hV⟩ := whole_same 52 11 y near ok52 by'.1 by'.2 (bl64 y by'.1 by'.2)
  have H5 : Hid (∀ w, Laid w → Calls Tryd.prog 8 #[.int .u32 x, .bool near] w fun r w' => r = .returned (.int .u32 (toI R s)) ∧ Below w.heap.size w w') := hidden fun w h => singleInt_c x (toI R s) near w h (hidden fun w => toint32 23 8 x R 0 near s w bx.1 (by omega) hR.1 hR.2 hP)
  have H6 : Hid (∀ w, Calls Tryd.prog 9 #[.bool false, .int .u64 x, .bool near] w fun r w' => r = .returned (.int .u32 (toI R s)) ∧ Below w.heap.size w w') := hidden fun w => rint_any false 23 8 x R 0 near s w hR.1 hR.2 (hidden fm_f) hQ
  have H7 : Hid (∀ w, Laid w → Calls Tryd.prog 10 #[.int .u64 y, .bool near] w fun r w' => r = .returned (.int .u32 (toI S t)) ∧ Below w.heap.size w w') := hidden fun w h => doubleInt_c y (toI S t) near w h (hidden fun w => toint64 52 11 y S 0 near t w by'.1 (by omega) hS.1 hS.2 hU)
  have H8 : Hid (∀ w, Calls Tryd.prog 9 #[.bool true, .int .u64 y, .bool near] w fun r w' => r = .returned (.int .u32 (toI S t)) ∧ Below w.heap.size w w') := hidden fun w => rint_any true 52 11 y S 0 near t w hS.1 hS.2 (hidden fm_t) hV
  have HV := hidden live4_any
  have HL := hidden hl
  have HB := hidden (Below.refl w.heap.size w)
  clear hl hP hQ hU hV hR hS w0 w1 w2
  generalize toI R s = A at *
  generalize toI S t = B at *
  generalize ofI 23 8 n = C at *
  generalize ofI 52 11 n = D at *
  go_enter Tryd.func3, Tryd.ntmps3
  go_wp2_with (first | (go_at_call 5; refine (H1.out _ HL.out).mono ?_; rintro r w9 ⟨rfl, hb⟩; have HL := hidden (HL.out.later hb); have HB := hidden (HB.out.trans (hb.mono HB.out.size)); clear hb) | (go_at_call_of 6 (Value.bool false); refine (H2.out _).mono ?_; rintro r w9 ⟨rfl, hb⟩; have HL := hidden (HL.out.later hb); have HB := hidden (HB.out.trans (hb.mono HB.out.size)); clear hb) | (go_at_call 7; refine (H3.out _ HL.out).mono ?_; rintro r w9 ⟨rfl, hb⟩; have HL := hidden (HL.out.later hb); have HB := hidden (HB.out.trans (hb.mono HB.out.size)); clear hb) | (go_at_call_of 6 (Value.bool true); refine (H4.out _).mono ?_; rintro r w9 ⟨rfl, hb⟩; have HL := hidden (HL.out.later hb); have HB := hidden (HB.out.trans (hb.mono HB.out.size)); clear hb) | (go_at_call 8; refine (H5.out _ HL.out).mono ?_; rintro r w9 ⟨rfl, hb⟩; have HL := hidden (HL.out.later hb); have HB := hidden (HB.out.trans (hb.mono HB.out.size)); clear hb) | (go_at_call_of 9 (Value.bool false); refine (H6.out _).mono ?_; rintro r w9 ⟨rfl, hb⟩; have HL := hidden (HL.out.later hb); have HB := hidden (HB.out.trans (hb.mono HB.out.size)); clear hb) | (go_at_call 10; refine (H7.out _ HL.out).mono ?_; rintro r w9 ⟨rfl, hb⟩; have HL := hidden (HL.out.later hb); have HB := hidden (HB.out.trans (hb.mono HB.out.size)); clear hb) | (go_at_call 9; refine (H8.out _).mono ?_; rintro r w9 ⟨rfl, hb⟩; have HL := hidden (HL.out.later hb); have HB := hidden (HB.out.trans (hb.mono HB.out.size)); clear hb) | (go_at_call 11; refine (HV.out _ HL.out).mono ?_; rintro r w9 ⟨rfl, hb⟩; have HB := hidden (HB.out.trans (hb.mono HB.out.size)); clear hb))
  go_ret
  exact ⟨rfl, HB.out⟩
end Go.Proofs.YtfjpiahgnojlhaaDoor
