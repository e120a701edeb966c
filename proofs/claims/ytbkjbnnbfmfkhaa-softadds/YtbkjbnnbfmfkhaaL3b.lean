/- The walk of SoftAdds: sums and differences of any patterns of any format are the page's. -/
import Derived.Test.YtbkjbnnbfmfkhaaA3ps
import Derived.Test.YtbkjbnnbfmfkhaaL3a
namespace Go.Proofs.Ytbkjbnnbfmfkhaa
open Go.RowKit
set_option maxRecDepth 100000
set_option maxHeartbeats 1000000
set_option linter.unusedVariables false

abbrev TwoC (F : Nat) (m x a b R g : Int) : Prop := Hid (∀ w, Calls Try.prog F #[.agg #[.int .i64 m, .int .i64 x], .int .u64 a, .int .u64 b] w fun r w' => r = .returned (.tuple #[.int .u64 R, .int .i64 g]) ∧ Below w.heap.size w w')
theorem ropen1 (m x : Nat) (a : Int) (hok : okF m x) (a0 : 0 ≤ a) (a1 : a ≤ 18446744073709551615) (ha : bl a ≤ 1 + x + m) : Hid (∀ w, Calls Try.prog 49 #[.agg #[.int .i64 (m : Int), .int .i64 (x : Int)], .int .u64 a] w fun r w' => r = .returned (.tuple #[partsV (kindI m x a) (negI m x a) (expI m x a) (manI m x a), .int .i64 0]) ∧ Below w.heap.size w w') := hidden fun w => ropen_any m x a w hok a0 a1 ha
theorem ropen1_big (m x : Nat) (a : Int) (hok : okF m x) (a0 : 0 ≤ a) (a1 : a ≤ 18446744073709551615) (ha : 1 + x + m < bl a) : Hid (∀ w, Calls Try.prog 49 #[.agg #[.int .i64 (m : Int), .int .i64 (x : Int)], .int .u64 a] w fun r w' => r = .returned (.tuple #[partsV 0 false 0 0, .int .i64 1]) ∧ Below w.heap.size w w') := hidden fun w => ropen_big m x a _ _ w hok a0 a1 rfl rfl (top_big m x a a0 ha)
/-- Add: both answers are one -/
theorem adds_same (m x a b : Int) (a0 : 0 ≤ a) (a1 : a ≤ 18446744073709551615) (b0 : 0 ≤ b) (b1 : b ≤ 18446744073709551615) :
    ∃ R g, (g = 0 ∨ g = 1) ∧ TwoC 9 m x a b R g ∧ TwoC 10 m x a b R g := by
  by_cases hok : okF m x
  · obtain ⟨m, rfl⟩ := Int.eq_ofNat_of_zero_le (show 0 ≤ m by have := hok.1; omega)
    obtain ⟨x, rfl⟩ := Int.eq_ofNat_of_zero_le (show 0 ≤ x by have := hok.2.2.1; omega)
    by_cases ha : bl a ≤ 1 + x + m
    · by_cases hb : bl b ≤ 1 + x + m
      · have g1 := patK m x a hok a0 ha
        have g2 := patK m x b hok b0 hb
        refine ⟨_, 0, .inl rfl, hidden fun w => padd_k m x a b _ _ _ _ _ _ _ _ w hok g1.kind g2.kind (fun h => (g1.fin h).1) (fun h => (g2.fin h).1) (popen2 m x a b hok a0 a1 ha b0 b1 hb), hidden fun w => radd_k m x a b _ _ _ _ _ _ _ _ w hok g1 g2 (hidden fun w => ?_)⟩
        exact open2_any m x a b _ _ _ _ _ _ _ _ w (ropen1 m x a hok a0 a1 ha) (ropen1 m x b hok b0 b1 hb)
      · refine ⟨0, 1, .inr rfl, hidden fun w => padd_err m x a b w (hidden fun w => ?_), hidden fun w => radd_err m x a b w (hidden fun w => ?_)⟩
        · exact pboth2_no2 m x a b _ _ _ _ w (popen1 m x a hok a0 a1 ha) (hidden fun w => popen_big m x b w hok b0 b1 (by omega))
        · exact open2_no m x a b _ _ _ 0 0 0 0 1 _ false w (.inr ⟨rfl, rfl⟩) (ropen1 m x a hok a0 a1 ha) (ropen1_big m x b hok b0 b1 (by omega))
    · refine ⟨0, 1, .inr rfl, hidden fun w => padd_err m x a b w (hidden fun w => pboth2_no1 m x a b w (hidden fun w => popen_big m x a w hok a0 a1 (by omega))), hidden fun w => radd_err m x a b w (hidden fun w => ?_)⟩
      by_cases hb : bl b ≤ 1 + x + m
      · exact open2_no m x a b 0 0 0 _ _ _ 1 0 false _ w (.inl ⟨rfl, .inl rfl⟩) (ropen1_big m x a hok a0 a1 (by omega)) (ropen1 m x b hok b0 b1 hb)
      · exact open2_no m x a b 0 0 0 0 0 0 1 1 false false w (.inl ⟨rfl, .inr rfl⟩) (ropen1_big m x a hok a0 a1 (by omega)) (ropen1_big m x b hok b0 b1 (by omega))
  · refine ⟨0, 1, .inr rfl, hidden fun w => padd_err m x a b w (hidden fun w => pboth2_no1 m x a b w (hidden fun w => popen_no m x a w hok)), hidden fun w => radd_err m x a b w (hidden fun w => ?_)⟩
    exact open2_no m x a b 0 0 0 0 0 0 1 1 false false w (.inl ⟨rfl, .inr rfl⟩) (hidden fun w => ropen_no m x a w hok) (hidden fun w => ropen_no m x b w hok)
theorem xor_bd (b P : Int) (b0 : 0 ≤ b) (b1 : b ≤ 18446744073709551615) (p0 : 0 ≤ P) (p1 : P < 18446744073709551616) : 0 ≤ bits .xor .u64 b P ∧ bits .xor .u64 b P ≤ 18446744073709551615 := by
  rw [u64_xor b P b0 (by omega) p0 p1]
  have h : b.toNat ^^^ P.toNat < 2 ^ 64 := Nat.xor_lt_two_pow (by omega) (by omega)
  omega
/-- Sub: both answers are one -/
theorem subs_same (m x a b : Int) (a0 : 0 ≤ a) (a1 : a ≤ 18446744073709551615) (b0 : 0 ≤ b) (b1 : b ≤ 18446744073709551615) :
    ∃ R g, (g = 0 ∨ g = 1) ∧ TwoC 11 m x a b R g ∧ TwoC 12 m x a b R g := by
  by_cases hok : okF m x
  · obtain ⟨m, rfl⟩ := Int.eq_ofNat_of_zero_le (show 0 ≤ m by have := hok.1; omega)
    obtain ⟨x, rfl⟩ := Int.eq_ofNat_of_zero_le (show 0 ≤ x by have := hok.2.2.1; omega)
    have hk : m + x ≤ 63 := by have := hok.2.1; have := hok.2.2.2; omega
    have hp0 := p2_pos (m + x)
    have hp1 := p2_lt64 hk
    obtain ⟨t0, t1⟩ := xor_bd b (p2 (m + x)) b0 b1 (by omega) hp1
    have HS := hidden (fun w => psignbit_any m x w hok)
    by_cases hb : bl b ≤ 1 + x + m
    · have hblt := pat_lt m x b b0 hb
      have ht := xor_top (m + x) b hk b0 hblt (by omega)
      rw [ht] at t0 t1
      obtain ⟨R, g, hg, hA, hB⟩ := adds_same m x a (turnI (m + x) b) a0 a1 t0 t1
      exact ⟨R, g, hg, hidden fun w => psub_walk m x a b _ _ R g w ht HS hA, hidden fun w => rsub_walk m x a b _ R g _ _ _ _ w (ropen1 m x b hok b0 b1 hb) (hidden fun w => turn_any m x b w hok b0 hblt) hB⟩
    · have hbig : p2 (m + x + 1) ≤ b := by
        rcases Int.lt_or_le b (p2 (m + x + 1)) with h | h
        · exact absurd (bl_of_lt m x b b0 h) hb
        · exact h
      have hx2 := xor_big (m + x) b hk b0 hbig (by omega)
      have hbl : 1 + x + m < bl (bits .xor .u64 b (p2 (m + x))) := by
        have := lt_bl hx2
        omega
      refine ⟨0, 1, .inr rfl, hidden fun w => psub_walk m x a b _ _ 0 1 w rfl HS (hidden fun w => padd_err m x a _ w (hidden fun w => ?_)), hidden fun w => rsub_err m x a b w (ropen1_big m x b hok b0 b1 (by omega))⟩
      by_cases ha : bl a ≤ 1 + x + m
      · exact pboth2_no2 m x a _ _ _ _ _ w (popen1 m x a hok a0 a1 ha) (hidden fun w => popen_big m x _ w hok t0 t1 (by omega))
      · exact pboth2_no1 m x a _ w (hidden fun w => popen_big m x a w hok a0 a1 (by omega))
  · refine ⟨0, 1, .inr rfl, hidden fun w => psub_walk m x a b 0 _ 0 1 w rfl (hidden fun w => psignbit_no m x w hok) (hidden fun w => padd_err m x a _ w (hidden fun w => pboth2_no1 m x a _ w (hidden fun w => popen_no m x a w hok))), hidden fun w => rsub_err m x a b w (hidden fun w => ropen_no m x b w hok)⟩
theorem softAdds_one (m x a b R g S h : Int) (w : World) (hg : g = 0 ∨ g = 1) (hh : h = 0 ∨ h = 1) (H1 : TwoC 9 m x a b R g) (H2 : TwoC 10 m x a b R g) (H3 : TwoC 11 m x a b S h) (H4 : TwoC 12 m x a b S h) :
    Calls Try.prog 3 #[.agg #[.int .i64 m, .int .i64 x], .int .u64 a, .int .u64 b] w fun r w' => r = .returned (.bool true) ∧ Below w.heap.size w w' := by
  have HL := hidden live_any
  have HM1 : Hid (∀ w, Calls Try.prog 13 #[.int .i64 g] w fun r w' => r = .returned (.int .i64 g) ∧ w' = w) := hidden (fun w => num_any g w (by omega) (by omega))
  have HM2 : Hid (∀ w, Calls Try.prog 13 #[.int .i64 h] w fun r w' => r = .returned (.int .i64 h) ∧ w' = w) := hidden (fun w => num_any h w (by omega) (by omega))
  clear hg hh
  have c0 : (w.alloc (.cells #[.int .i64 m, .int .i64 x] 23)).cell? ⟨w.heap.size, 0, none⟩ = some (.int .i64 m) := by simp
  have c1 : (w.alloc (.cells #[.int .i64 m, .int .i64 x] 23)).cell? ⟨w.heap.size, 1, none⟩ = some (.int .i64 x) := by simp
  have HB := hidden ((Below.refl w.heap.size w).alloc (Nat.le_refl _) (.cells #[.int .i64 m, .int .i64 x] 23))
  go_enter Try.func3, Try.ntmps3
  go_upto_region 1 with fail
  generalize w.alloc (.cells #[.int .i64 m, .int .i64 x] 23) = w5 at *
  go_wp2_with (first | (go_at_call 9; refine (H1.out _).mono ?_; rintro r w9 ⟨rfl, hb⟩; have c0 := cellLater hb c0; have c1 := cellLater hb c1; have HB := hidden (HB.out.trans (hb.mono HB.out.size)); clear hb) | (go_at_call 10; refine (H2.out _).mono ?_; rintro r w9 ⟨rfl, hb⟩; have c0 := cellLater hb c0; have c1 := cellLater hb c1; have HB := hidden (HB.out.trans (hb.mono HB.out.size)); clear hb) | (go_at_call 11; refine (H3.out _).mono ?_; rintro r w9 ⟨rfl, hb⟩; have c0 := cellLater hb c0; have c1 := cellLater hb c1; have HB := hidden (HB.out.trans (hb.mono HB.out.size)); clear hb) | (go_at_call 12; refine (H4.out _).mono ?_; rintro r w9 ⟨rfl, hb⟩; have c0 := cellLater hb c0; have c1 := cellLater hb c1; have HB := hidden (HB.out.trans (hb.mono HB.out.size)); clear hb) | (go_at_call_of 13 (Value.int IntKind.i64 g); refine (HM1.out _).mono ?_; rintro r w9 ⟨rfl, hw⟩; obtain rfl := hw.symm) | (go_at_call_of 13 (Value.int IntKind.i64 h); refine (HM2.out _).mono ?_; rintro r w9 ⟨rfl, hw⟩; obtain rfl := hw.symm) | (go_at_call 14; refine (HL.out _).mono ?_; rintro r w9 ⟨rfl, hb⟩; have HB := hidden (HB.out.trans (hb.mono HB.out.size)); clear hb))
  go_ret
  exact ⟨rfl, HB.out⟩
theorem softAdds_walk (a0 b0 a1 a2 : Int) (w : World) (w0 : (Lit.int .i64 a0).wf = true) (x0 : (Lit.int .i64 b0).wf = true) (w1 : (Lit.int .u64 a1).wf = true) (w2 : (Lit.int .u64 a2).wf = true) :
    Calls Try.prog 3 #[.agg #[.int .i64 a0, .int .i64 b0], .int .u64 a1, .int .u64 a2] w fun r w' => r = .returned (.bool true) ∧ Below w.heap.size w w' := by
  have c1 := bounds_u64 w1
  have c2 := bounds_u64 w2
  obtain ⟨R, g, hg, H1, H2⟩ := adds_same a0 b0 a1 a2 c1.1 c1.2 c2.1 c2.2
  obtain ⟨S, h, hh, H3, H4⟩ := subs_same a0 b0 a1 a2 c1.1 c1.2 c2.1 c2.2
  exact softAdds_one a0 b0 a1 a2 R g S h w hg hh H1 H2 H3 H4
end Go.Proofs.Ytbkjbnnbfmfkhaa
