/- The walk of SoftMuls: products and quotients of any patterns of any format are the page's. -/
import Derived.Test.YtfjpiahgnojlhaaA4m
import Derived.Test.YtfjpiahgnojlhaaL3a
namespace Go.Proofs.Ytfjpiahgnojlhaa
open Go.RowKit
set_option maxRecDepth 100000
set_option maxHeartbeats 1000000
set_option linter.unusedVariables false

abbrev TwoM (F : Nat) (m x a b R g : Int) : Prop := Hid (∀ w, Calls Try.prog F #[.agg #[.int .i64 m, .int .i64 x], .int .u64 a, .int .u64 b] w fun r w' => r = .returned (.tuple #[.int .u64 R, .int .i64 g]) ∧ Below w.heap.size w w')
theorem muls_same (m x a b : Int) (a0 : 0 ≤ a) (a1 : a ≤ 18446744073709551615) (b0 : 0 ≤ b) (b1 : b ≤ 18446744073709551615) :
    ∃ R S g, (g = 0 ∨ g = 1) ∧ TwoM 6 m x a b R g ∧ TwoM 7 m x a b R g ∧ TwoM 8 m x a b S g ∧ TwoM 9 m x a b S g := by
  rcases open_both m x a b a0 a1 b0 b1 with ⟨m, x, K1, E1, M1, K2, E2, M2, n1, n2, rfl, rfl, hok, ha, hb, g1, g2, HO, HR⟩ | ⟨HO, HR⟩
  · exact ⟨_, _, 0, .inl rfl, hidden fun w => pmul_k m x a b _ _ _ _ _ _ _ _ w hok g1.kind g2.kind (fun h => (g1.fin h).1) (fun h => (g2.fin h).1) HO, hidden fun w => rmul_k m x a b _ _ _ _ _ _ _ _ w hok g1 g2 HR, hidden fun w => pdiv_k m x a b _ _ _ _ _ _ _ _ w hok g1.kind g2.kind (fun h => (g1.fin h).1) (fun h => (g2.fin h).1) HO, hidden fun w => rdiv_k m x a b _ _ _ _ _ _ _ _ w hok g1 g2 HR⟩
  · exact ⟨0, 0, 1, .inr rfl, hidden fun w => pmul_err m x a b w HO, hidden fun w => rmul_err m x a b w HR, hidden fun w => pdiv_err m x a b w HO, hidden fun w => rdiv_err m x a b w HR⟩
theorem softMuls_one (m x a b R S g : Int) (w : World) (hg : g = 0 ∨ g = 1) (H1 : TwoM 6 m x a b R g) (H2 : TwoM 7 m x a b R g) (H3 : TwoM 8 m x a b S g) (H4 : TwoM 9 m x a b S g) :
    Calls Try.prog 3 #[.agg #[.int .i64 m, .int .i64 x], .int .u64 a, .int .u64 b] w fun r w' => r = .returned (.bool true) ∧ Below w.heap.size w w' := by
  have HL := hidden live_any
  have HM1 : Hid (∀ w, Calls Try.prog 10 #[.int .i64 g] w fun r w' => r = .returned (.int .i64 g) ∧ w' = w) := hidden (fun w => num_any g w (by omega) (by omega))
  clear hg
  have c0 : (w.alloc (.cells #[.int .i64 m, .int .i64 x] 23)).cell? ⟨w.heap.size, 0, none⟩ = some (.int .i64 m) := by simp
  have c1 : (w.alloc (.cells #[.int .i64 m, .int .i64 x] 23)).cell? ⟨w.heap.size, 1, none⟩ = some (.int .i64 x) := by simp
  have HB := hidden ((Below.refl w.heap.size w).alloc (Nat.le_refl _) (.cells #[.int .i64 m, .int .i64 x] 23))
  go_enter Try.func3, Try.ntmps3
  go_upto_region 1 with fail
  generalize w.alloc (.cells #[.int .i64 m, .int .i64 x] 23) = w5 at *
  go_wp2_with (first | (go_at_call 6; refine (H1.out _).mono ?_; rintro r w9 ⟨rfl, hb⟩; have c0 := cellLater hb c0; have c1 := cellLater hb c1; have HB := hidden (HB.out.trans (hb.mono HB.out.size)); clear hb) | (go_at_call 7; refine (H2.out _).mono ?_; rintro r w9 ⟨rfl, hb⟩; have c0 := cellLater hb c0; have c1 := cellLater hb c1; have HB := hidden (HB.out.trans (hb.mono HB.out.size)); clear hb) | (go_at_call 8; refine (H3.out _).mono ?_; rintro r w9 ⟨rfl, hb⟩; have c0 := cellLater hb c0; have c1 := cellLater hb c1; have HB := hidden (HB.out.trans (hb.mono HB.out.size)); clear hb) | (go_at_call 9; refine (H4.out _).mono ?_; rintro r w9 ⟨rfl, hb⟩; have c0 := cellLater hb c0; have c1 := cellLater hb c1; have HB := hidden (HB.out.trans (hb.mono HB.out.size)); clear hb) | (go_at_call 10; refine (HM1.out _).mono ?_; rintro r w9 ⟨rfl, hw⟩; obtain rfl := hw.symm) | (go_at_call 11; refine (HL.out _).mono ?_; rintro r w9 ⟨rfl, hb⟩; have HB := hidden (HB.out.trans (hb.mono HB.out.size)); clear hb))
  go_ret
  exact ⟨rfl, HB.out⟩
theorem softMuls_walk (a0 b0 a1 a2 : Int) (w : World) (w0 : (Lit.int .i64 a0).wf = true) (x0 : (Lit.int .i64 b0).wf = true) (w1 : (Lit.int .u64 a1).wf = true) (w2 : (Lit.int .u64 a2).wf = true) :
    Calls Try.prog 3 #[.agg #[.int .i64 a0, .int .i64 b0], .int .u64 a1, .int .u64 a2] w fun r w' => r = .returned (.bool true) ∧ Below w.heap.size w w' := by
  have c1 := bounds_u64 w1
  have c2 := bounds_u64 w2
  obtain ⟨R, S, g, hg, H1, H2, H3, H4⟩ := muls_same a0 b0 a1 a2 c1.1 c1.2 c2.1 c2.2
  exact softMuls_one a0 b0 a1 a2 R S g w hg H1 H2 H3 H4
end Go.Proofs.Ytfjpiahgnojlhaa
