/- Two patterns, held by the program and by the document: both say the same parts, or both refuse. -/
import Derived.Test.YtfjpiahgnojlhaaS3b
import Derived.Test.YtfjpiahgnojlhaaA3p
import Derived.Test.YtfjpiahgnojlhaaL2d
namespace Go.Proofs.Ytfjpiahgnojlhaa
open Go.RowKit
set_option maxRecDepth 100000
set_option maxHeartbeats 400000
set_option linter.unusedVariables false

abbrev ROpen2 (m x : Nat) (a b K1 : Int) (n1 : Bool) (E1 M1 K2 : Int) (n2 : Bool) (E2 M2 : Int) : Prop := Hid (∀ w, Calls Try.prog 25 #[.agg #[.int .i64 (m : Int), .int .i64 (x : Int)], .int .u64 a, .int .u64 b] w fun r w' => r = .returned (.tuple #[partsV K1 n1 E1 M1, partsV K2 n2 E2 M2, .int .i64 0]) ∧ Below w.heap.size w w')
abbrev BothErr (F : Nat) (m x a b : Int) : Prop := Hid (∀ w, Calls Try.prog F #[.agg #[.int .i64 m, .int .i64 x], .int .u64 a, .int .u64 b] w fun r w' => r = .returned (.tuple #[partsV 0 false 0 0, partsV 0 false 0 0, .int .i64 1]) ∧ Below w.heap.size w w')
abbrev ROpenC1 (m x : Nat) (a K : Int) (n : Bool) (E M : Int) : Prop := Hid (∀ w, Calls Try.prog 41 #[.agg #[.int .i64 (m : Int), .int .i64 (x : Int)], .int .u64 a] w fun r w' => r = .returned (.tuple #[partsV K n E M, .int .i64 0]) ∧ Below w.heap.size w w')
abbrev OpenErr (F : Nat) (m x a : Int) : Prop := Hid (∀ w, Calls Try.prog F #[.agg #[.int .i64 m, .int .i64 x], .int .u64 a] w fun r w' => r = .returned (.tuple #[partsV 0 false 0 0, .int .i64 1]) ∧ Below w.heap.size w w')
theorem ropen_one (m x : Nat) (a : Int) (hok : okF m x) (a0 : 0 ≤ a) (a1 : a ≤ 18446744073709551615) (ha : bl a ≤ 1 + x + m) : ROpenC1 m x a (kindI m x a) (negI m x a) (expI m x a) (manI m x a) := hidden fun w => ropen_any m x a w hok a0 a1 ha
theorem ropen_one_big (m x : Nat) (a : Int) (hok : okF m x) (a0 : 0 ≤ a) (a1 : a ≤ 18446744073709551615) (ha : 1 + x + m < bl a) : OpenErr 41 m x a := hidden fun w => ropen_big m x a _ _ w hok a0 a1 rfl rfl (top_big m x a a0 ha)
/-- one pattern -/
theorem open_one (m x a : Int) (a0 : 0 ≤ a) (a1 : a ≤ 18446744073709551615) :
    (∃ (m' x' : Nat) (K E M : Int) (n : Bool), m = m' ∧ x = x' ∧ okF m' x' ∧ bl a ≤ 1 + x' + m' ∧ PatK m' x' a K n E M ∧ Open1C m' x' a K n E M ∧ ROpenC1 m' x' a K n E M) ∨ (OpenErr 39 m x a ∧ OpenErr 41 m x a) := by
  by_cases hok : okF m x
  · obtain ⟨m, rfl⟩ := Int.eq_ofNat_of_zero_le (show 0 ≤ m by have := hok.1; omega)
    obtain ⟨x, rfl⟩ := Int.eq_ofNat_of_zero_le (show 0 ≤ x by have := hok.2.2.1; omega)
    by_cases ha : bl a ≤ 1 + x + m
    · exact .inl ⟨m, x, _, _, _, _, rfl, rfl, hok, ha, patK m x a hok a0 ha, popen1 m x a hok a0 a1 ha, ropen_one m x a hok a0 a1 ha⟩
    · exact .inr ⟨hidden fun w => popen_big m x a w hok a0 a1 (by omega), ropen_one_big m x a hok a0 a1 (by omega)⟩
  · exact .inr ⟨hidden fun w => popen_no m x a w hok, hidden fun w => ropen_no m x a w hok⟩
/-- two patterns -/
theorem open_both (m x a b : Int) (a0 : 0 ≤ a) (a1 : a ≤ 18446744073709551615) (b0 : 0 ≤ b) (b1 : b ≤ 18446744073709551615) :
    (∃ (m' x' : Nat) (K1 E1 M1 K2 E2 M2 : Int) (n1 n2 : Bool), m = m' ∧ x = x' ∧ okF m' x' ∧ bl a ≤ 1 + x' + m' ∧ bl b ≤ 1 + x' + m' ∧ PatK m' x' a K1 n1 E1 M1 ∧ PatK m' x' b K2 n2 E2 M2 ∧ OpenC m' x' a b K1 n1 E1 M1 K2 n2 E2 M2 ∧ ROpen2 m' x' a b K1 n1 E1 M1 K2 n2 E2 M2) ∨
    (BothErr 18 m x a b ∧ BothErr 25 m x a b) := by
  by_cases hok : okF m x
  · obtain ⟨m, rfl⟩ := Int.eq_ofNat_of_zero_le (show 0 ≤ m by have := hok.1; omega)
    obtain ⟨x, rfl⟩ := Int.eq_ofNat_of_zero_le (show 0 ≤ x by have := hok.2.2.1; omega)
    by_cases ha : bl a ≤ 1 + x + m
    · by_cases hb : bl b ≤ 1 + x + m
      · exact .inl ⟨m, x, _, _, _, _, _, _, _, _, rfl, rfl, hok, ha, hb, patK m x a hok a0 ha, patK m x b hok b0 hb, popen2 m x a b hok a0 a1 ha b0 b1 hb, hidden fun w => open2_any m x a b _ _ _ _ _ _ _ _ w (ropen_one m x a hok a0 a1 ha) (ropen_one m x b hok b0 b1 hb)⟩
      · exact .inr ⟨hidden fun w => pboth2_no2 m x a b _ _ _ _ w (popen1 m x a hok a0 a1 ha) (hidden fun w => popen_big m x b w hok b0 b1 (by omega)), hidden fun w => open2_no m x a b _ _ _ 0 0 0 0 1 _ false w (.inr ⟨rfl, rfl⟩) (ropen_one m x a hok a0 a1 ha) (ropen_one_big m x b hok b0 b1 (by omega))⟩
    · refine .inr ⟨hidden fun w => pboth2_no1 m x a b w (hidden fun w => popen_big m x a w hok a0 a1 (by omega)), hidden fun w => ?_⟩
      by_cases hb : bl b ≤ 1 + x + m
      · exact open2_no m x a b 0 0 0 _ _ _ 1 0 false _ w (.inl ⟨rfl, .inl rfl⟩) (ropen_one_big m x a hok a0 a1 (by omega)) (ropen_one m x b hok b0 b1 hb)
      · exact open2_no m x a b 0 0 0 0 0 0 1 1 false false w (.inl ⟨rfl, .inr rfl⟩) (ropen_one_big m x a hok a0 a1 (by omega)) (ropen_one_big m x b hok b0 b1 (by omega))
  · exact .inr ⟨hidden fun w => pboth2_no1 m x a b w (hidden fun w => popen_no m x a w hok), hidden fun w => open2_no m x a b 0 0 0 0 0 0 1 1 false false w (.inl ⟨rfl, .inr rfl⟩) (hidden fun w => ropen_no m x a w hok) (hidden fun w => ropen_no m x b w hok)⟩
end Go.Proofs.Ytfjpiahgnojlhaa
