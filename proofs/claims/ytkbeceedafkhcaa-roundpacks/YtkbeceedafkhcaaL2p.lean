/- The walk of RoundPacks: of any number, in any format, the nearest pattern is the page's. -/
import Derived.Test.YtkbeceedafkhcaaN3b
import Derived.Test.YtkbeceedafkhcaaL2a
namespace Go.Proofs.Ytkbeceedafkhcaa
open Go.RowKit
set_option maxHeartbeats 2000000
set_option linter.unusedVariables false

theorem packs_same (a0 b0 a2 a3 a4 X g : Int) (neg more : Bool) (w : World) (hg : g = 0 ∨ g = 1)
    (hP : Hid (∀ w, Calls Try.prog 21 #[.agg #[.int .i64 a0, .int .i64 b0], .bool neg, .int .u64 a2, .int .u64 a3, .int .i64 a4, .bool more] w fun r w' => r = .returned (.tuple #[.int .u64 X, .int .i64 g]) ∧ Below w.heap.size w w'))
    (hR : Hid (∀ w, Calls Try.prog 22 #[.agg #[.int .i64 a0, .int .i64 b0], .bool neg, .int .u64 a2, .int .u64 a3, .int .i64 a4, .bool more] w fun r w' => r = .returned (.tuple #[.int .u64 X, .int .i64 g]) ∧ Below w.heap.size w w')) :
    Calls Try.prog 4 #[.agg #[.int .i64 a0, .int .i64 b0], .bool neg, .int .u64 a2, .int .u64 a3, .int .i64 a4, .bool more] w fun r w' => r = .returned (.bool true) ∧ Below w.heap.size w w' := by
  have HL := hidden live_any
  have HM : Hid (∀ w, Calls Try.prog 11 #[.int .i64 g] w fun r w' => r = .returned (.int .i64 g) ∧ w' = w) := hidden (fun w => num_any g w (by omega) (by omega))
  clear hg
  go_enter Try.func4, Try.ntmps4
  go_wp2_with fail
  refine (hP.out _).mono ?_
  rintro r w1 ⟨rfl, hb1⟩
  have d0 : w1.cell? ⟨w.heap.size, 0, none⟩ = some (.int .i64 a0) := cellLater hb1 (by simp)
  have d1 : w1.cell? ⟨w.heap.size, 1, none⟩ = some (.int .i64 b0) := cellLater hb1 (by simp)
  have HB1 := hidden (box_below _ hb1)
  clear hb1
  go_wp2_with fail
  refine (hR.out _).mono ?_
  rintro r w2 ⟨rfl, hb2⟩
  replace HB1 := hidden (HB1.out.trans (hb2.mono HB1.out.size))
  clear hb2
  go_wp2_with (first | (go_at_call 11; refine (HM.out _).mono ?_; rintro r w7 ⟨rfl, hw⟩; obtain rfl := hw.symm) | (go_at_call 20; refine (HL.out _).mono ?_; rintro r w4 ⟨rfl, hb4⟩))
  go_ret
  exact ⟨rfl, HB1.out.trans (hb4.mono HB1.out.size)⟩
theorem roundPacks_walk (a0 b0 : Int) (a1 : Bool) (a2 a3 a4 : Int) (a5 : Bool) (w : World) (w0 : (Lit.int .i64 a0).wf = true) (x0 : (Lit.int .i64 b0).wf = true) (w2 : (Lit.int .u64 a2).wf = true) (w3 : (Lit.int .u64 a3).wf = true) (w4 : (Lit.int .i64 a4).wf = true) :
    Calls Try.prog 4 #[.agg #[.int .i64 a0, .int .i64 b0], .bool a1, .int .u64 a2, .int .u64 a3, .int .i64 a4, .bool a5] w fun r w' => r = .returned (.bool true) ∧ Below w.heap.size w w' := by
  have c2 := bounds_u64 w2
  have c3 := bounds_u64 w3
  by_cases hok : okF a0 b0
  · by_cases he : -4096 ≤ a4 ∧ a4 ≤ 4096
    · obtain ⟨e0, e1⟩ := he
      obtain ⟨m, rfl⟩ := Int.eq_ofNat_of_zero_le (show 0 ≤ a0 by have := hok.1; omega)
      obtain ⟨x, rfl⟩ := Int.eq_ofNat_of_zero_le (show 0 ≤ b0 by have := hok.2.2.1; omega)
      by_cases hk : a5 = true ∧ (bl (a2 * 18446744073709551616 + a3) : Int) < (m : Int) + 3
      · obtain ⟨rfl, hk⟩ := hk
        exact packs_same m x a2 a3 a4 0 1 a1 true w (.inr rfl) (hidden fun w => ppack_few m x a1 _ a2 a3 a4 w hok e0 e1 rfl c2.1 c2.2 c3.1 c3.2 hk) (hidden fun w => rpack_few m x a1 _ a2 a3 a4 w hok e0 e1 rfl c2.1 c2.2 c3.1 c3.2 hk)
      · have hk' : a5 = true → (m : Int) + 3 ≤ bl (a2 * 18446744073709551616 + a3) := fun h => by
          rcases Int.lt_or_le (bl (a2 * 18446744073709551616 + a3) : Int) ((m : Int) + 3) with h2 | h2
          · exact absurd ⟨h, h2⟩ hk
          · exact h2
        exact packs_same m x a2 a3 a4 _ 0 a1 a5 w (.inl rfl) (hidden fun w => ppack_any m x a1 a5 _ a2 a3 a4 w hok e0 e1 rfl c2.1 c2.2 c3.1 c3.2 hk') (hidden fun w => rpack_any m x a1 a5 _ a2 a3 a4 w hok e0 e1 rfl c2.1 c2.2 c3.1 c3.2 hk')
    · exact packs_same a0 b0 a2 a3 a4 0 1 a1 a5 w (.inr rfl) (hidden fun w => ppack_e _ _ _ _ _ _ _ w hok (by omega)) (hidden fun w => rpack_e _ _ _ _ _ _ _ w hok (by omega))
  · exact packs_same a0 b0 a2 a3 a4 0 1 a1 a5 w (.inr rfl) (hidden fun w => ppack_fmt _ _ _ _ _ _ _ w hok) (hidden fun w => rpack_fmt _ _ _ _ _ _ _ w hok)
end Go.Proofs.Ytkbeceedafkhcaa
