/- The walk of RoundOrder: a greater number's pattern is not smaller; the sign alone tells neg. -/
import Derived.Test.YtkbeceedafkhcaaL2a
namespace Go.Proofs.Ytkbeceedafkhcaa
open Go.RowKit
set_option maxHeartbeats 2000000
set_option linter.unusedVariables false

theorem roundOrder_walk (a0 b0 a1 a2 a3 : Int) (w : World) (w0 : (Lit.int .i64 a0).wf = true) (x0 : (Lit.int .i64 b0).wf = true) (w1 : (Lit.int .u64 a1).wf = true) (w2 : (Lit.int .u64 a2).wf = true) (w3 : (Lit.int .i64 a3).wf = true) :
    Calls Try.prog 7 #[.agg #[.int .i64 a0, .int .i64 b0], .int .u64 a1, .int .u64 a2, .int .i64 a3] w fun r w' => r = .returned (.bool true) ∧ Below w.heap.size w w' := by
  have c0 := bounds_i64 w0
  have c1 := bounds_i64 x0
  have c2 := bounds_u64 w1
  have c3 := bounds_u64 w2
  have c4 := bounds_i64 w3
  clear w0 x0 w1 w2 w3
  have HL := hidden live_any
  have HM := hidden (fun w => num_any 0 w (by decide) (by decide))
  have HM1 := hidden (fun w => num_any 1 w (by decide) (by decide))
  have hmin : 0 ≤ min a1 a2 ∧ min a1 a2 ≤ 18446744073709551615 := by omega
  have hmax : 0 ≤ max a1 a2 ∧ max a1 a2 ≤ 18446744073709551615 := by omega
  by_cases hok : okF a0 b0 ∧ -4096 ≤ a3 ∧ a3 ≤ 4096
  · obtain ⟨hok, e0, e1⟩ := hok
    obtain ⟨m, rfl⟩ := Int.eq_ofNat_of_zero_le (show 0 ≤ a0 by have := hok.1; omega)
    obtain ⟨x, rfl⟩ := Int.eq_ofNat_of_zero_le (show 0 ≤ b0 by have := hok.2.2.1; omega)
    have P1 := hidden (fun w => ppack_any m x false false (min a1 a2) 0 (min a1 a2) a3 w hok e0 e1 (by omega) (by decide) (by decide) hmin.1 hmin.2 (fun h => by cases h))
    have P2 := hidden (fun w => ppack_any m x false false (max a1 a2) 0 (max a1 a2) a3 w hok e0 e1 (by omega) (by decide) (by decide) hmax.1 hmax.2 (fun h => by cases h))
    have P3 := hidden (fun w => ppack_any m x true false (min a1 a2) 0 (min a1 a2) a3 w hok e0 e1 (by omega) (by decide) (by decide) hmin.1 hmin.2 (fun h => by cases h))
    have hle := pack_mono m x (min a1 a2) (max a1 a2) a3 false hmin.1 (by omega) (by have := hok.2.2.1; omega)
    have hb := pack_bd m x (min a1 a2) a3 false hmin.1 (by have := hok.2.2.1; omega)
    have ht := top_bd m x hok
    have hmx : (m : Int) ≤ 52 ∧ (x : Int) ≤ 11 := ⟨hok.2.1, hok.2.2.2⟩
    have es : sgnW true (m + x) = p2 (m + x) := rfl
    have en : sgnW false (m + x) = 0 := rfl
    rw [en, Int.add_zero] at P1 P2
    rw [es] at P3
    have hsum : Hid (IntKind.u64.wrap (packP m x (min a1 a2) a3 false + IntKind.u64.wrap (2 ^ (m + x))) = packP m x (min a1 a2) a3 false + p2 (m + x)) := hidden (by
      show IntKind.u64.wrap (packP m x (min a1 a2) a3 false + IntKind.u64.wrap (p2 (m + x))) = _
      have := p2_pos (m + x)
      have h64 : (p2 x - 1) * p2 m + p2 (m + x) < 18446744073709551616 := by
        have h1 := p2_succ (m + x)
        have h2 := p2_le63 (show m + x ≤ 63 by omega)
        omega
      rw [IntKind.wrap_u64, IntKind.wrap_u64]
      omega)
    clear hok hb ht es en
    generalize packP m x (min a1 a2) a3 false = X at *
    generalize packP m x (max a1 a2) a3 false = Y at *
    have hsb : (X + p2 (m + x) == IntKind.u64.wrap (X + IntKind.u64.wrap (2 ^ (m + x)))) = true := by rw [hsum.out]; simp
    clear hsum
    go_enter Try.func7, Try.ntmps7
    go_wp2_with fail
    refine (P1.out _).mono ?_
    rintro r w1 ⟨rfl, hb1⟩
    have d0 : w1.cell? ⟨w.heap.size, 0, none⟩ = some (.int .i64 m) := cellLater hb1 (by simp)
    have d1 : w1.cell? ⟨w.heap.size, 1, none⟩ = some (.int .i64 x) := cellLater hb1 (by simp)
    have HB1 := hidden (box_below _ hb1)
    clear hb1
    go_wp2_with fail
    refine (P2.out _).mono ?_
    rintro r w2 ⟨rfl, hb2⟩
    replace d0 := cellLater hb2 d0
    replace d1 := cellLater hb2 d1
    replace HB1 := hidden (HB1.out.trans (hb2.mono HB1.out.size))
    clear hb2
    go_wp2_with fail
    refine (P3.out _).mono ?_
    rintro r w3 ⟨rfl, hb3⟩
    replace d0 := cellLater hb3 d0
    replace d1 := cellLater hb3 d1
    replace HB1 := hidden (HB1.out.trans (hb3.mono HB1.out.size))
    clear hb3
    go_wp2_with (first | (go_at_call 11; refine (HM.out _).mono ?_; rintro r w7 ⟨rfl, hw⟩; obtain rfl := hw.symm) | (go_at_call 20; refine (HL.out _).mono ?_; rintro r w4 ⟨rfl, hb4⟩))
    go_ret
    exact ⟨rfl, HB1.out.trans (hb4.mono HB1.out.size)⟩
  · have hP : Hid (∀ neg hi lo w, Calls Try.prog 21 #[.agg #[.int .i64 a0, .int .i64 b0], .bool neg, .int .u64 hi, .int .u64 lo, .int .i64 a3, .bool false] w fun r w' => r = .returned (.tuple #[.int .u64 0, .int .i64 1]) ∧ Below w.heap.size w w') := hidden fun neg hi lo w => by
      by_cases h : okF a0 b0
      · exact ppack_e a0 b0 neg false hi lo a3 w h (by have : ¬ (-4096 ≤ a3 ∧ a3 ≤ 4096) := fun h2 => hok ⟨h, h2⟩; omega)
      · exact ppack_fmt a0 b0 neg false hi lo a3 w h
    clear hok
    go_enter Try.func7, Try.ntmps7
    go_wp2_with fail
    refine (hP.out _ _ _ _).mono ?_
    rintro r w1 ⟨rfl, hb1⟩
    have d0 : w1.cell? ⟨w.heap.size, 0, none⟩ = some (.int .i64 a0) := cellLater hb1 (by simp)
    have d1 : w1.cell? ⟨w.heap.size, 1, none⟩ = some (.int .i64 b0) := cellLater hb1 (by simp)
    have HB1 := hidden (box_below _ hb1)
    clear hb1
    go_wp2_with fail
    refine (hP.out _ _ _ _).mono ?_
    rintro r w2 ⟨rfl, hb2⟩
    replace d0 := cellLater hb2 d0
    replace d1 := cellLater hb2 d1
    replace HB1 := hidden (HB1.out.trans (hb2.mono HB1.out.size))
    clear hb2
    go_wp2_with fail
    refine (hP.out _ _ _ _).mono ?_
    rintro r w3 ⟨rfl, hb3⟩
    replace HB1 := hidden (HB1.out.trans (hb3.mono HB1.out.size))
    clear hb3
    go_wp2_with (first | (go_at_call 11; refine (HM1.out _).mono ?_; rintro r w7 ⟨rfl, hw⟩; obtain rfl := hw.symm) | (go_at_call 20; refine (HL.out _).mono ?_; rintro r w4 ⟨rfl, hb4⟩))
    go_ret
    exact ⟨rfl, HB1.out.trans (hb4.mono HB1.out.size)⟩
end Go.Proofs.Ytkbeceedafkhcaa
